/-
  The walks of the statements SpellLengths, SpellNames of layer 1: each returns true, whatever it is given; nothing that was there has turned.
-/
import Derived.Test.YtibnipmkjbojdaaDoorSpM
namespace Go.Proofs.YtibnipmkjbojdaaDoor
open Go.RowKit

theorem all_times (m : Bool) (c : UInt8) (k : Nat) (hk : 1 ≤ k) : allB m (timesL [c] k) = latB m c := by
  obtain ⟨k, rfl⟩ : ∃ j, k = j + 1 := ⟨k - 1, by omega⟩
  induction k with
  | zero => simp [timesL, allB]
  | succ k ih =>
    have e : timesL [c] (k + 1 + 1) = c :: timesL [c] (k + 1) := rfl
    rw [e, allB_cons, ih (by omega)]
    simp
theorem lead_times (b c : UInt8) (k : Nat) (hk : 1 ≤ k) (x r : ByteArray) (hr : r.data.toList = timesL [c] k) (hx : x = ⟨#[b]⟩ ++ r) (hw : ∀ v ∈ wordsL, v.data.toList.head? ≠ some b) :
    consB x = (decide (k + 1 ≤ 255) && (smaB b && latB false c)) ∧ prinB x = (decide (k + 1 ≤ 255) && (lowB b && latB false c)) ∧ variB x = (decide (k + 1 ≤ 255) && (uppB b && latB true c)) := by
  have hl : x.data.toList = b :: timesL [c] k := by rw [hx, ba_append, hr]; rfl
  have hres : resB x = false := by
    rw [Bool.eq_false_iff]
    intro h
    rw [resB_iff] at h
    exact hw x h (by rw [hl]; rfl)
  have hlen : (b :: timesL [c] k).length = k + 1 := by simp [timesL_len]
  have h1 : consB x = (nameB smaB false x.data.toList && !resB x) := rfl
  have h2 : prinB x = (nameB lowB false x.data.toList && !resB x) := rfl
  have h3 : variB x = nameB uppB true x.data.toList := rfl
  rw [h1, h2, h3, hres, hl]
  simp only [nameB, hlen, all_times _ _ _ hk, Bool.not_false, Bool.and_true, and_self]

theorem conv_one (c : UInt8) (w1 : World) : (convert 30 9 (.slice (some ⟨w1.heap.size, 0, none⟩) 1 1)).run Tryd.prog (w1.alloc (Obj.cells #[Value.int .u8 c.toNat] 5)) =
    .ok (.string ⟨#[c]⟩) (w1.alloc (Obj.cells #[Value.int .u8 c.toNat] 5)) := by
  have h := run_convert_bytes_arg (P := Tryd.prog) (w1.alloc (Obj.cells #[Value.int .u8 c.toNat] 5)) 30 5 Tryd.underlying30 Tryd.underlying5 w1.heap.size 0 1 1 [(c.toNat : Int)] rfl
    (fun i hi => by
      obtain rfl : i = 0 := by omega
      rw [cell_of_row _ _ _ _ _ _ (heap_alloc_new _ _)]; rfl) 9 Tryd.underlying9
  rw [h]
  congr 2
  simp [strOfNums]
theorem notz : ∀ v ∈ wordsL, v.data.toList.head? ≠ some 122 := by decide
theorem not7 : ∀ v ∈ wordsL, v.data.toList.head? ≠ some 55 := by decide
theorem notZ : ∀ v ∈ wordsL, v.data.toList.head? ≠ some 90 := by decide

def rowB (c : UInt8) (lo hi : Int) (x y z : Bool) : Bool := decide (lo ≤ (c.toNat : Int)) && (decide ((c.toNat : Int) ≤ hi) && ((latB false c == x) && ((latB true c == y) && (((c.toNat : Int) == 95) == z))))
theorem rowB_out {c : UInt8} {lo hi : Int} {x y z : Bool} (h : rowB c lo hi x y z = true) : lo ≤ (c.toNat : Int) ∧ (c.toNat : Int) ≤ hi ∧ latB false c = x ∧ latB true c = y ∧ ((c.toNat : Int) == 95) = z := by
  unfold rowB at h
  rw [Bool.and_eq_true, Bool.and_eq_true, Bool.and_eq_true, Bool.and_eq_true, decide_eq_true_eq, decide_eq_true_eq, beq_iff_eq, beq_iff_eq, beq_iff_eq] at h
  exact h
def c9B (c : UInt8) : Bool := rowB c 0 47 false false false || rowB c 48 57 true true false || rowB c 58 64 false false false || rowB c 65 90 false true false || rowB c 91 94 false false false || rowB c 95 95 true true true || rowB c 96 96 false false false || rowB c 97 122 true true false || rowB c 123 255 false false false
theorem c9n : ∀ n, n < 256 → c9B (UInt8.ofNat n) = true := by decide +kernel
theorem c9 (c : UInt8) : ((0 : Int) ≤ (c.toNat : Int) ∧ (c.toNat : Int) ≤ 47 ∧ latB false c = false ∧ latB true c = false ∧ ((c.toNat : Int) == 95) = false) ∨
    ((48 : Int) ≤ (c.toNat : Int) ∧ (c.toNat : Int) ≤ 57 ∧ latB false c = true ∧ latB true c = true ∧ ((c.toNat : Int) == 95) = false) ∨
    ((58 : Int) ≤ (c.toNat : Int) ∧ (c.toNat : Int) ≤ 64 ∧ latB false c = false ∧ latB true c = false ∧ ((c.toNat : Int) == 95) = false) ∨
    ((65 : Int) ≤ (c.toNat : Int) ∧ (c.toNat : Int) ≤ 90 ∧ latB false c = false ∧ latB true c = true ∧ ((c.toNat : Int) == 95) = false) ∨
    ((91 : Int) ≤ (c.toNat : Int) ∧ (c.toNat : Int) ≤ 94 ∧ latB false c = false ∧ latB true c = false ∧ ((c.toNat : Int) == 95) = false) ∨
    ((95 : Int) ≤ (c.toNat : Int) ∧ (c.toNat : Int) ≤ 95 ∧ latB false c = true ∧ latB true c = true ∧ ((c.toNat : Int) == 95) = true) ∨
    ((96 : Int) ≤ (c.toNat : Int) ∧ (c.toNat : Int) ≤ 96 ∧ latB false c = false ∧ latB true c = false ∧ ((c.toNat : Int) == 95) = false) ∨
    ((97 : Int) ≤ (c.toNat : Int) ∧ (c.toNat : Int) ≤ 122 ∧ latB false c = true ∧ latB true c = true ∧ ((c.toNat : Int) == 95) = false) ∨
    ((123 : Int) ≤ (c.toNat : Int) ∧ (c.toNat : Int) ≤ 255 ∧ latB false c = false ∧ latB true c = false ∧ ((c.toNat : Int) == 95) = false) := by
  have h := c9n c.toNat c.toNat_lt
  rw [UInt8.ofNat_toNat] at h
  simp only [c9B, Bool.or_eq_true] at h
  rcases h with (((((((h | h) | h) | h) | h) | h) | h) | h) | h
  · exact Or.inl (rowB_out h)
  · exact Or.inr (Or.inl (rowB_out h))
  · exact Or.inr (Or.inr (Or.inl (rowB_out h)))
  · exact Or.inr (Or.inr (Or.inr (Or.inl (rowB_out h))))
  · exact Or.inr (Or.inr (Or.inr (Or.inr (Or.inl (rowB_out h)))))
  · exact Or.inr (Or.inr (Or.inr (Or.inr (Or.inr (Or.inl (rowB_out h))))))
  · exact Or.inr (Or.inr (Or.inr (Or.inr (Or.inr (Or.inr (Or.inl (rowB_out h)))))))
  · exact Or.inr (Or.inr (Or.inr (Or.inr (Or.inr (Or.inr (Or.inr (Or.inl (rowB_out h))))))))
  · exact Or.inr (Or.inr (Or.inr (Or.inr (Or.inr (Or.inr (Or.inr (Or.inr (rowB_out h))))))))

set_option maxRecDepth 100000 in
set_option maxHeartbeats 8000000 in
theorem lawLengths (n : Int) (c : UInt8) (w : World) (h1 : -9223372036854775808 ≤ n) (h2 : n ≤ 9223372036854775807) (hm : MaxAt w) :
    Calls Tryd.prog 7 #[.int .i64 n, .int .u8 c.toNat] w fun e w' => e = .returned (.bool true) ∧ Bel w w' := by
  have hb : Bel w w := Below.refl _ _
  obtain ⟨hp1, hp2⟩ := pick_range n 300 (by omega)
  generalize hP : pickI n 300 = p at *
  have HP := Lib.hid hP
  clear hP
  obtain ⟨k, rfl⟩ := Int.eq_ofNat_of_zero_le hp1
  have hconv := conv_one c
  have hle := fun (b : UInt8) (r : ByteArray) (hr : r.data.toList = timesL [c] (k + 1)) (hw : ∀ v ∈ wordsL, v.data.toList.head? ≠ some b) => lead_times b c (k + 1) (by omega) _ r hr rfl hw
  have HLE := Lib.hid hle
  clear hle
  by_cases h8 : k + 1 + 1 ≤ 255
  all_goals
    have h8' := h8
    rcases c9 c with ⟨hc, hc', e0, e1, h95⟩ | ⟨hc, hc', e0, e1, h95⟩ | ⟨hc, hc', e0, e1, h95⟩ | ⟨hc, hc', e0, e1, h95⟩ | ⟨hc, hc', e0, e1, h95⟩ | ⟨hc, hc', e0, e1, h95⟩ | ⟨hc, hc', e0, e1, h95⟩ | ⟨hc, hc', e0, e1, h95⟩ | ⟨hc, hc', e0, e1, h95⟩
  all_goals
    have E0 := Lib.hid e0
    have E1 := Lib.hid e1
    clear e0 e1
    go_enter Tryd.func7, Tryd.ntmps7
    go_wp2_with (first
      | (go_at_call 8; refine (lives_any _ hm).mono ?_; rintro e w1 ⟨rfl, hg⟩; have hb := hb.trans' hg; clear hg)
      | (go_at_call 23; refine (pick_any n 300 _ (by omega) (by omega) h1 h2).mono ?_; rintro e w1 ⟨rfl, rfl⟩; rw [HP.out]))
    have hal : Bel w1 (w1.alloc (Obj.cells #[Value.int .u8 c.toNat] 5)) := Below.alloc (Below.refl _ _) (Nat.le_refl _) _
    generalize w1.alloc (Obj.cells #[Value.int .u8 c.toNat] 5) = w2 at hal ⊢
    have hb := hb.trans' hal
    rw [show (2 + (k : Int) - 1) = ((k + 1 : Nat) : Int) from by omega]
    refine (times_any ⟨#[c]⟩ (k + 1) _ (by show 1 ≤ 1000000; omega) (by omega)).mono ?_
    rintro e w3 ⟨⟨r, rfl, hr⟩, rfl⟩
    have hsz : r.size = k + 1 := by rw [← ba_len, hr, timesL_len]; simp
    have q1 := HLE.out 122 r hr notz
    have q2 := HLE.out 55 r hr not7
    have q3 := HLE.out 90 r hr notZ
    have u1 : smaB 55 = true := by decide
    have u2 : lowB 55 = false := by decide
    have u3 : lowB 122 = true := by decide
    have u4 : uppB 122 = false := by decide
    have u5 : uppB 90 = true := by decide
    simp only [h8, E0.out, E1.out, u1, u2, u3, u4, u5, decide_true, decide_false, Bool.true_and, Bool.false_and, Bool.and_true, Bool.and_false] at q1 q2 q3
    have p1 := q1.2.1
    have p2 := q1.2.2
    have p3 := q2.1
    have p4 := q2.2.1
    have p5 := q3.2.2
    have zz : ∀ b : UInt8, (ByteArray.mk #[b] ++ r).size ≤ maxLen := fun b => by rw [ByteArray.size_append, hsz]; unfold maxLen; show 1 + _ ≤ _; omega
    have ZZ := Lib.hid zz
    have hsz2 : r.size ≤ 300 := by omega
    have hm := hm.bel hb
    have hb0 := hb
    have hb : Bel w2 w2 := Below.refl _ _
    clear q1 q2 q3 u1 u2 u3 u4 u5 zz hr hsz HLE HP hconv hal h8
    go_wp2_with (first
      | (go_at_call 12; refine (constant_any _ _ (ZZ.out _) (hm.bel hb)).mono ?_; rintro e w4 ⟨rfl, hg⟩; have hb := hb.trans' hg; clear hg)
      | (go_at_call 10; refine (principal_any _ _ (ZZ.out _) (hm.bel hb)).mono ?_; rintro e w4 ⟨rfl, hg⟩; have hb := hb.trans' hg; clear hg)
      | (go_at_call 13; refine (variable_any _ _ (ZZ.out _)).mono ?_; rintro e w4 ⟨rfl, hg⟩; have hb := hb.trans' hg; clear hg))
    all_goals go_ret
    all_goals exact ⟨by first | rfl | (simp; omega), hb0.trans' hb⟩
end Go.Proofs.YtibnipmkjbojdaaDoor
