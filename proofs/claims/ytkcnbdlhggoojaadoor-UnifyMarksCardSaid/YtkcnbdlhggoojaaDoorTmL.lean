/-
  The text of an atom: the project's and the reference's. Conditions: the strings of the atom have at most 1000 bytes.
-/
import Derived.Test.YtkcnbdlhggoojaaDoorTmJ
namespace Go.Proofs.YtkcnbdlhggoojaaDoor
open Go.RowKit

/-- the strings of an atom are short -/
structure AtomSm (a : AtomD) : Prop where
  says : a.says.size ≤ 1000
  pred : a.pred.size ≤ 1000
  t0 : a.t0.name.size ≤ 1000
  t1 : a.t1.name.size ≤ 1000
  t2 : a.t2.name.size ≤ 1000
  t3 : a.t3.name.size ≤ 1000
def nameL (l : List TermD) : List (List UInt8) := l.map (fun t => t.name.data.toList)
def argL (l : List TermD) : List UInt8 := if l.length = 0 then [] else 40 :: (Lib.join (nameL l) [44, 32] ++ [41])
def saidL (a : AtomD) : List UInt8 := a.pred.data.toList ++ argL ((argsD a).take (cntI a.n))
def textL (a : AtomD) : List UInt8 := a.says.data.toList ++ ([32, 115, 97, 121, 115, 32] ++ saidL a)
def saidD (a : AtomD) : ByteArray := ⟨(saidL a).toArray⟩
def textD (a : AtomD) : ByteArray := ⟨(textL a).toArray⟩
theorem ba_app (a b : ByteArray) : (a ++ b).data.toList = a.data.toList ++ b.data.toList := by simp [ByteArray.data_append]
theorem ba_extL {a b : ByteArray} (h : a.data.toList = b.data.toList) : a = b := by
  cases a; cases b
  congr 1
  exact Array.ext' h
theorem ret_str {a b : ByteArray} (h : a.data.toList = b.data.toList) : Ending.returned (.string a) = .returned (.string b) := by rw [ba_extL h]

theorem ba_lenL (a : ByteArray) : a.data.toList.length = a.size := Array.length_toList
theorem join_le (l : List TermD) (hl : l.length ≤ 4) (hs : ∀ t ∈ l, t.name.size ≤ 1000) : (Lib.join (nameL l) [44, 32]).length ≤ 4050 := by
  match l, hl, hs with
  | [], _, _ => simp [nameL, Lib.join, List.intercalate]
  | [x0], _, hs =>
    have h0 := hs x0 (by simp)
    rw [← ba_lenL] at h0
    simp [nameL, Lib.join, List.intercalate] at h0 ⊢
    omega
  | [x0, x1], _, hs =>
    have h0 := hs x0 (by simp)
    have h1 := hs x1 (by simp)
    rw [← ba_lenL] at h0 h1
    simp [nameL, Lib.join, List.intercalate, List.intersperse] at h0 h1 ⊢
    omega
  | [x0, x1, x2], _, hs =>
    have h0 := hs x0 (by simp)
    have h1 := hs x1 (by simp)
    have h2 := hs x2 (by simp)
    rw [← ba_lenL] at h0 h1 h2
    simp [nameL, Lib.join, List.intercalate, List.intersperse] at h0 h1 h2 ⊢
    omega
  | [x0, x1, x2, x3], _, hs =>
    have h0 := hs x0 (by simp)
    have h1 := hs x1 (by simp)
    have h2 := hs x2 (by simp)
    have h3 := hs x3 (by simp)
    rw [← ba_lenL] at h0 h1 h2 h3
    simp [nameL, Lib.join, List.intercalate, List.intersperse] at h0 h1 h2 h3 ⊢
    omega
  | _ :: _ :: _ :: _ :: _ :: _, h5, _ => simp at h5
theorem AtomSm.args {a : AtomD} (h : AtomSm a) : ∀ t ∈ argsD a, t.name.size ≤ 1000 := by
  intro t ht
  simp only [argsD, List.mem_cons, List.mem_nil_iff, or_false] at ht
  rcases ht with rfl | rfl | rfl | rfl
  · exact h.t0
  · exact h.t1
  · exact h.t2
  · exact h.t3
theorem first_len (a : AtomD) : ((argsD a).take (cntI a.n)).length = cntI a.n := by
  rw [List.length_take]; show min _ 4 = _; have := cntI_le a.n; omega
theorem said_le {a : AtomD} (h : AtomSm a) : (saidD a).size ≤ 5100 := by
  have h1 := join_le ((argsD a).take (cntI a.n)) (by rw [first_len]; exact cntI_le _) (fun t ht => h.args t (List.mem_of_mem_take ht))
  have h2 := h.pred
  have h2' := h2
  rw [← ba_lenL] at h2
  show (saidL a).toArray.size ≤ 5100
  rw [List.size_toArray]
  unfold saidL argL
  rw [List.length_append]
  split
  · simp; omega
  · simp only [List.length_cons, List.length_append, List.length_nil]; omega

set_option maxRecDepth 20000 in
set_option maxHeartbeats 8000000 in
theorem rsaid_any (a : AtomD) (w : World) (h : AtomSm a) :
    Calls Tryd.prog 35 #[.agg #[.string a.says, .string a.pred, .int .i64 a.n, .bool a.t0.v, .string a.t0.name, .bool a.t1.v, .string a.t1.name, .bool a.t2.v, .string a.t2.name, .bool a.t3.v, .string a.t3.name]] w fun e w' => e = .returned (.string (saidD a)) ∧ Bel w w' := by
  have hA := AtomAt.new w a
  have hb := bel_alloc w (.cells #[.string a.says, .string a.pred, .int .i64 a.n, .bool a.t0.v, .string a.t0.name, .bool a.t1.v, .string a.t1.name, .bool a.t2.v, .string a.t2.name, .bool a.t3.v, .string a.t3.name] 30)
  obtain ⟨h1, h2, h3, h4, h5, h6⟩ := h
  obtain ⟨k, hk, hk4⟩ : ∃ k, cntI a.n = k ∧ k ≤ 4 := ⟨_, rfl, cntI_le _⟩
  have HK := Lib.hid hk
  have HS : RowKit.Hid ((saidD a).data.toList = a.pred.data.toList ++ argL ((argsD a).take k)) := Lib.hid (by rw [← hk]; rfl)
  clear hk
  obtain rfl | rfl | rfl | rfl | rfl : k = 0 ∨ k = 1 ∨ k = 2 ∨ k = 3 ∨ k = 4 := by omega
  all_goals
    go_enter Tryd.func35, Tryd.ntmps35
    go_wp2
    refine wp_loop_rounds 5 ?_
    repeat any_goals (rw [rounds_succ]; go_wp2_with (go_at_call 37; refine (rCount_any _ _ _ _ _ _ _ _ _ _ _ _).mono ?_; rw [HK.out]; rintro e w1 ⟨rfl, hg⟩; have hA := hA.bel hg; obtain ⟨c0, c1, c2, c3, c4, c5, c6, c7, c8, c9, c10⟩ := hA.cells; have hb := hb.trans' hg; clear hg))
    all_goals go_ret
    all_goals
      refine ⟨ret_str ?_, hb⟩
      rw [HS.out]
      simp [argL, argsD, nameL, Lib.join, List.intercalate, List.intersperse, ba_app]
set_option maxHeartbeats 1000000 in
theorem rtext_any (a : AtomD) (w : World) (h : AtomSm a) :
    Calls Tryd.prog 18 #[.agg #[.string a.says, .string a.pred, .int .i64 a.n, .bool a.t0.v, .string a.t0.name, .bool a.t1.v, .string a.t1.name, .bool a.t2.v, .string a.t2.name, .bool a.t3.v, .string a.t3.name]] w fun e w' => e = .returned (.string (textD a)) ∧ Bel w w' := by
  have hA := AtomAt.new w a
  have hb := bel_alloc w (.cells #[.string a.says, .string a.pred, .int .i64 a.n, .bool a.t0.v, .string a.t0.name, .bool a.t1.v, .string a.t1.name, .bool a.t2.v, .string a.t2.name, .bool a.t3.v, .string a.t3.name] 30)
  have h1 := h.says
  have hsz := said_le h
  obtain ⟨q, hq⟩ : ∃ q, q = saidD a := ⟨_, rfl⟩
  have HQ := Lib.hid hq
  rw [← hq] at hsz
  clear hq
  have hA := hA.drew
  have hb := bel_drew' hb
  go_enter Tryd.func18, Tryd.ntmps18
  go_wp2
  go_region_held (fun w' => w'.cell? ⟨w.heap.size, 0, none⟩ = some (.string a.says) ∧ w'.cell? ⟨w.heap.size, 1, none⟩ = some (.string a.pred) ∧ w'.cell? ⟨w.heap.size, 2, none⟩ = some (.int .i64 a.n) ∧ w'.cell? ⟨w.heap.size, 3, none⟩ = some (.bool a.t0.v) ∧ w'.cell? ⟨w.heap.size, 4, none⟩ = some (.string a.t0.name) ∧ w'.cell? ⟨w.heap.size, 5, none⟩ = some (.bool a.t1.v) ∧ w'.cell? ⟨w.heap.size, 6, none⟩ = some (.string a.t1.name) ∧ w'.cell? ⟨w.heap.size, 7, none⟩ = some (.bool a.t2.v) ∧ w'.cell? ⟨w.heap.size, 8, none⟩ = some (.string a.t2.name) ∧ w'.cell? ⟨w.heap.size, 9, none⟩ = some (.bool a.t3.v) ∧ w'.cell? ⟨w.heap.size, 10, none⟩ = some (.string a.t3.name)) (exact hA.cells) ((go_at_call 35; refine (rsaid_any a _ h).mono ?_; rw [← HQ.out]; rintro e w2 ⟨rfl, hg⟩; have hA := hA.bel hg; have hb := hb.trans' hg; clear hg))
  all_goals go_wp2
  all_goals go_ret
  all_goals
    refine ⟨ret_str ?_, hb⟩
    rw [ba_app, ba_app, HQ.out]
    simp [textD, textL, saidD]

theorem map_succ {l : List TermD} {k : Nat} {t : TermD} (h : l[k]? = some t) : (l.take (k + 1)).map (·.name) = (l.take k).map (·.name) ++ [t.name] := by
  rw [List.take_add_one, h, List.map_append]; rfl

end Go.Proofs.YtkcnbdlhggoojaaDoor
