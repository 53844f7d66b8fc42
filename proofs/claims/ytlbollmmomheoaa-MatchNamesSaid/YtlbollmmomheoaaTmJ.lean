/-
  The names of an atom's terms. Conditions: as each says.
-/
import Derived.Test.YtlbollmmomheoaaTmF
import Derived.Test.YtlbollmmomheoaaKitS
import Derived.Test.YtlbollmmomheoaaShelf
namespace Go.Proofs.Ytlbollmmomheoaa
open Go.RowKit

def stepN (v : Bool) (out : List ByteArray) (t : TermD) : List ByteArray := if (t.v == v && !Lib.containsS out t.name) = true then out ++ [t.name] else out
def namesD (v : Bool) (l : List TermD) : List ByteArray := l.foldl (stepN v) []
theorem names_nil (v : Bool) : namesD v [] = [] := rfl
theorem names_snoc (v : Bool) (l : List TermD) (t : TermD) : namesD v (l ++ [t]) = stepN v (namesD v l) t := by unfold namesD; rw [List.foldl_append]; rfl
theorem names_succ (v : Bool) {l : List TermD} {k : Nat} {t : TermD} (h : l[k]? = some t) : namesD v (l.take (k + 1)) = stepN v (namesD v (l.take k)) t := by
  rw [List.take_add_one, h]; exact names_snoc v _ t
theorem step_len (v : Bool) (out : List ByteArray) (t : TermD) : (stepN v out t).length ≤ out.length + 1 := by unfold stepN; split <;> simp
theorem names_len (v : Bool) (l : List TermD) : (namesD v l).length ≤ l.length := by
  unfold namesD
  suffices h : ∀ (l : List TermD) (acc : List ByteArray), (l.foldl (stepN v) acc).length ≤ acc.length + l.length by simpa using h l []
  intro l
  induction l with
  | nil => intro acc; simp
  | cons t l ih =>
    intro acc
    have := ih (stepN v acc t)
    have := step_len v acc t
    simp only [List.foldl_cons, List.length_cons]
    omega
/-- a list of strings that the call made, in worlds from w on -/
structure StrO (w W : World) (v : Value) (l : List ByteArray) : Prop where
  row : W.ownsRow 0 9 1 v l.length (l.map Value.string)
  bel : Below w.heap.size w W
  new : ∀ g, v.ownBlock = some g → w.heap.size ≤ g
theorem StrO.nil (w : World) {W : World} (hb : Bel w W) : StrO w W (.slice none 0 0) [] := ⟨World.ownsRow_nil _ _ _ _, hb, by simp [Value.ownBlock]⟩
theorem StrO.bel' {w W W' : World} {v : Value} {l : List ByteArray} (h : StrO w W v l) (hg : Bel W W') : StrO w W' v l :=
  ⟨(Fr.of_below (F := []) hg).owns h.row (by simp), h.bel.trans (hg.mono h.bel.size), h.new⟩
theorem StrO.push {w W W' : World} {v v' : Value} {l : List ByteArray} {p : ByteArray} {x : Obj} (h : StrO w W v l) (ho : W'.ownsRow 0 9 1 v' (l.length + 1) (l.map Value.string ++ [.string p])) (hf : Fr v.ownBlock.toList (W.alloc x) W') (hn : ∀ g, v'.ownBlock = some g → v.ownBlock = some g ∨ (W.alloc x).heap.size ≤ g) : StrO w W' v' (l ++ [p]) := by
  have hs := h.bel.size
  refine ⟨by simpa using ho, (h.bel.alloc hs _).trans (hf.below (fun k hk => h.new k (by simpa using hk)) (by simp; omega)), fun g hg => ?_⟩
  rcases hn g hg with e | e
  · exact h.new g e
  · simp at e; omega
theorem StrO.cell {w W : World} {g n c : Nat} {l : List ByteArray} (h : StrO w W (.slice (some ⟨g, 0, none⟩) n c) l) : ∀ j, j < l.length → W.cell? ⟨g, 0 + j, none⟩ = some (.string (l.getD j ByteArray.empty)) := fun j hj => by
  have hj2 : (l.map Value.string)[j]? = some (.string l[j]) := by simp [hj]
  rw [Nat.zero_add, row_cell h.row rfl hj2, List.getD_eq_getElem?_getD, List.getElem?_eq_getElem hj]
  rfl
theorem StrO.list {w W : World} {A : Option Addr} {n c : Nat} {l : List ByteArray} (h : StrO w W (.slice A n c) l) : ListAt W A l.length (l.map Value.string) := by
  refine ⟨by simp, ?_⟩
  by_cases h0 : l.length = 0
  · exact .inl h0
  · obtain ⟨g, cap, e, ho, hlt, _, _⟩ := row_value h.row (by omega)
    injection e with e1 e2 e3
    subst e1
    exact .inr ⟨g, 0, rfl, hlt, fun j u hu => by rw [Nat.zero_add]; exact row_cell h.row ho hu⟩
theorem info_str : ∃ i, Try.prog.info? 9 = some i ∧ i.zero = some (.string ⟨#[]⟩) ∧ i.size = 1 ∧ i.bytes = 16 := by
  have h : (Try.prog.info? 9).map (fun i => (i.zero, i.size, i.bytes)) = some (some (.string ⟨#[]⟩), 1, 16) := by kernel_rfl
  cases hq : Try.prog.info? 9 with
  | none => rw [hq] at h; cases h
  | some i =>
    rw [hq] at h
    injection h with h
    injection h with h1 h2
    injection h2 with h2 h3
    exact ⟨i, rfl, h1, h2, h3⟩
theorem new_one' {W : World} {x : Value} {e : TypeId} {b : Nat} (hb : W.heap.size = b) : ∀ j u, ([x] : List Value)[j]? = some u → (W.alloc (.cells #[x] e)).cell? ((⟨b, 0, none⟩ : Addr).add j) = some u := by subst hb; exact new_one
theorem str_one {s : ByteArray} : ∀ u ∈ ([.string s] : List Value), u.oneCell' = true := by intro u hu; simp at hu; subst hu; rfl

/-- slices.Contains at a list that the call made -/
theorem contains_any {w W : World} {A : Option Addr} {n c : Nat} {l : List ByteArray} (h : StrO w W (.slice A n c) l) (hn : n = l.length) (hl : l.length ≤ 1000) (x : ByteArray) :
    Calls Try.prog 108 #[.slice A n c, .string x] W fun e w' => e = .returned (.bool (Lib.containsS l x)) ∧ w' = W := by
  subst hn
  by_cases h0 : l.length = 0
  · obtain rfl : l = [] := List.eq_nil_of_length_eq_zero h0
    exact Try.slices_Contains_string_empty A c x W
  · obtain ⟨g, cap, e, ho, hlt, _, _⟩ := row_value h.row (by omega)
    injection e with e1 e2 e3
    subst e1
    have := Try.slices_Contains_string g 0 l.length c l x W (Nat.le_refl _) (by omega) h.cell
    rwa [List.take_length] at this

set_option maxRecDepth 20000 in
set_option maxHeartbeats 1000000 in
theorem named_any (a : AtomD) (v : Bool) (w : World) (l : List TermD) (hl : l = (argsD a).take (cntI a.n)) :
    Calls Try.prog 97 #[.agg #[.string a.says, .string a.pred, .int .i64 a.n, .bool a.t0.v, .string a.t0.name, .bool a.t1.v, .string a.t1.name, .bool a.t2.v, .string a.t2.name, .bool a.t3.v, .string a.t3.name], .bool v] w fun e w' => (∃ A c, RowKit.Hid (ListAt w' A (namesD v l).length ((namesD v l).map Value.string)) ∧ e = .returned (.slice A (namesD v l).length c)) ∧ Bel w w' := by
  obtain ⟨i0, hi, hz0, hz1, hz2⟩ := info_str
  have hA := AtomAt.new w a
  have hb := bel_alloc w (.cells #[.string a.says, .string a.pred, .int .i64 a.n, .bool a.t0.v, .string a.t0.name, .bool a.t1.v, .string a.t1.name, .bool a.t2.v, .string a.t2.name, .bool a.t3.v, .string a.t3.name] 43)
  have hcl := cntI_le a.n
  have hll : l.length = cntI a.n := by rw [hl, List.length_take]; show min _ 4 = _; omega
  have hT := hA.terms.take (cntI a.n)
  rw [← hl] at hT
  obtain ⟨k0, hk0⟩ : ∃ k0, k0 = cntI a.n := ⟨_, rfl⟩
  have HK := Lib.hid hk0
  rw [← hk0] at hcl hll
  have hc0 : (0 : Int) ≤ k0 := by omega
  have hc1 : (k0 : Int) ≤ 4 := by omega
  clear hl hk0
  go_enter Try.func97, Try.ntmps97
  go_wp2_with (first | (go_at_call 84; refine (counted_any _ _ _ _ _ _ _ _ _ _ _ _).mono ?_; rw [← HK.out]; rintro e w1 ⟨rfl, hg⟩; have HT := Lib.hid (hT.bel hg); have hb := Lib.hid (hb.trans' hg); clear hg hT))
  go_loopw [5, 13] (fun a5 i wr => ∃ (k n : Nat) (q : Option Addr) (c : Nat), k ≤ k0 ∧ i = .int .i64 k ∧ a5 = .slice q n c ∧ RowKit.Hid (n = (namesD v (l.take k)).length ∧ n ≤ k ∧ StrO w1 wr (.slice q n c) (namesD v (l.take k)))) (fun _ i _ => k0 - (intOf i).toNat)
  case atStart => exact ⟨0, 0, none, 0, Nat.zero_le _, rfl, rfl, Lib.hid ⟨rfl, Nat.le_refl _, StrO.nil _ (Below.refl _ _)⟩⟩
  case round =>
    obtain ⟨k, n, q, c, hk, rfl, rfl, H⟩ := hrel
    by_cases hlt : k < k0
    · obtain ⟨b, o, e, hbb, hc⟩ := (HT.out.bel H.out.2.2.bel).get (by omega)
      injection e with e
      injection e with e1 e2
      subst e1 e2
      obtain ⟨c1, c2⟩ := hc k (by omega)
      have HN := Lib.hid (names_succ v (List.getElem?_eq_getElem (by omega : k < l.length)))
      clear hc hbb
      generalize l[k] = t at c1 c2 HN
      obtain ⟨tv, ts⟩ := t
      simp only at c1 c2
      have hq : (0 : Int) ≤ k := by omega
      have hq2 : (k : Int) < k0 := by omega
      have hnk := H.out.2.1
      have HN1 := Lib.hid H.out.1
      have HN2 := Lib.hid (show (namesD v (l.take k)).length ≤ 1000 by have := H.out.1; omega)
      have hS := Lib.hid (H.out.2.2.bel' (bel_alloc wr (.cells #[.bool tv, .string ts] 29)))
      have HX := H
      clear H
      rcases Decidable.em (tv = v) with rfl | hv
      · have hv : (tv == tv) = true := by simp
        rcases Bool.eq_false_or_eq_true (Lib.containsS (namesD tv (l.take k)) ts) with hx | hx
        · have HE : RowKit.Hid (namesD tv (l.take (k + 1)) = namesD tv (l.take k)) := Lib.hid (by rw [HN.out]; unfold stepN; simp [hv, hx])
          go_wp2_with (go_at_call 108; refine (contains_any hS.out HN1.out HN2.out _).mono ?_; rintro e w2 ⟨rfl, rfl⟩)
          go_roundw
          case rel => exact ⟨k + 1, n, q, c, by omega, by go_num, rfl, Lib.hid (by rw [HE.out]; exact ⟨HN1.out, by omega, hS.out⟩)⟩
          case measure => simp [intOf]; omega
        · have HE : RowKit.Hid (namesD tv (l.take (k + 1)) = namesD tv (l.take k) ++ [ts]) := Lib.hid (by rw [HN.out]; unfold stepN; simp [hv, hx])
          go_wp2_with (first | (go_at_call 108; refine (contains_any hS.out HN1.out HN2.out _).mono ?_; rintro e w2 ⟨rfl, rfl⟩) | (at_builtin; refine wpList_append_mine _ rfl (.tmp 28) (.tmp 31) 39 rfl 9 i0 (.string ⟨#[]⟩) 1 16 Try.underlying39 hi hz0 hz1 hz2 rfl (by decide) (.slice q n c) n ((namesD tv (l.take k)).map Value.string) rfl (by have := hS.out.row; rw [← HN1.out] at this; exact this.alloc _) _ 1 1 [.string ts] rfl rfl (new_one' (W := wr.alloc (.cells #[.bool tv, .string ts] 29)) (by simp)) str_one (by unfold maxLen; omega) (by omega) ?_; intro v2 w2 ho2 hf2 hn22; obtain ⟨g2, cap2, rfl, _, _, _, _⟩ := row_value ho2 (by omega); have HP := Lib.hid (StrO.push (p := ts) hS.out (by rw [← HN1.out]; exact ho2) hf2 hn22); clear ho2 hf2 hn22))
          go_roundw
          case rel => exact ⟨k + 1, n + 1, _, _, by omega, by go_num, rfl, Lib.hid (by rw [HE.out]; exact ⟨by rw [List.length_append, ← HN1.out]; rfl, by omega, HP.out⟩)⟩
          case measure => simp [intOf]; omega
      · have hv2 : (tv == v) = false := by simpa using hv
        clear hv
        have HE : RowKit.Hid (namesD v (l.take (k + 1)) = namesD v (l.take k)) := Lib.hid (by rw [HN.out]; unfold stepN; simp [hv2])
        go_wp2
        go_roundw
        case rel => exact ⟨k + 1, n, q, c, by omega, by go_num, rfl, Lib.hid (by rw [HE.out]; exact ⟨HN1.out, by omega, hS.out⟩)⟩
        case measure => simp [intOf]; omega
    · obtain rfl : k = k0 := by omega
      have HF : RowKit.Hid (namesD v (l.take k) = namesD v l) := Lib.hid (by rw [← hll, List.take_length])
      have HR : RowKit.Hid (n = (namesD v l).length ∧ StrO w1 wr (.slice q n c) (namesD v l)) := Lib.hid (by rw [← HF.out]; exact ⟨H.out.1, H.out.2.2⟩)
      clear H
      go_wp2
      go_ret
      exact ⟨⟨_, _, Lib.hid HR.out.2.list, ret_slice HR.out.1⟩, hb.out.trans' HR.out.2.bel⟩
end Go.Proofs.Ytlbollmmomheoaa
