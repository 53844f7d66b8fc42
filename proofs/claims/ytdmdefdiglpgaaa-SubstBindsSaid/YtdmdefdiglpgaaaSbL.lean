/-
  A list with one more binding. Conditions: as each says.
-/
import Derived.Test.YtdmdefdiglpgaaaSbK
namespace Go.Proofs.Ytdmdefdiglpgaaa
open Go.RowKit

theorem OB.bel {w W : World} {q : Option Addr} {c : Nat} {l : List BindD} (h : OB w W q c l) : Below w.heap.size w W := OwnL.bel h
theorem OwnL.base {α : Type} {enc : α → List Value} {k e : Nat} {w w0 W : World} {v : Value} {l : List α} (h : OwnL enc k e w0 W v l) (hg : Bel w w0) : OwnL enc k e w W v l :=
  ⟨h.row, hg.trans (h.bel.mono hg.size), fun g hv => Nat.le_trans hg.size (h.new g hv)⟩
theorem slice_cases {w : World} {A : Option Addr} {ca : Nat} {l : List BindD} (h : BL w A ca l) (i : Nat) (hi : i ≤ l.length) :
    (ca = 0 ∧ l = [] ∧ i = 0) ∨ (∃ b o, A = some ⟨b, o, none⟩ ∧ ca = i ∧ i ≤ l.length) ∨ (∃ b o, A = some ⟨b, o, none⟩ ∧ i < ca) := by
  cases A with
  | none =>
    have h0 := h.nil rfl
    have h1 := h.le
    exact .inl ⟨h0, List.eq_nil_of_length_eq_zero (by omega), by omega⟩
  | some a =>
    have h1 := h.le
    by_cases hc : ca = 0
    · exact .inl ⟨hc, List.eq_nil_of_length_eq_zero (by omega), by omega⟩
    obtain ⟨b, o, rfl⟩ := h.lt a rfl (by omega)
    by_cases e : ca = i
    · exact .inr (.inl ⟨b, o, rfl, e, by omega⟩)
    · exact .inr (.inr ⟨b, o, rfl, by omega⟩)

set_option maxRecDepth 20000 in
set_option maxHeartbeats 8000000 in
theorem with_any (A : Option Addr) (l : List BindD) (ca : Nat) (x : BindD) (w : World) (hL : BL w A ca l) (hl : l.length ≤ 1000000) (hA : Asc l) :
    Calls Try.prog 45 #[.slice A l.length ca, .agg #[.string x.v, .bool x.t.v, .string x.t.name]] w fun e w' => (∃ q c out, RowKit.Hid (out = withB l x) ∧ RowKit.Hid (OB w w' q c out) ∧ e = .returned (.slice q out.length c)) ∧ Bel w w' := by
  have hb := bel_alloc w (.cells #[.string x.v, .bool x.t.v, .string x.t.name] 32)
  have hX := BindAt.new w x
  have hP := Lib.hid (place_any A l l.length ca rfl x.v _ (hL.bel hb) hl hA)
  have hi := placeN_le l x.v
  have HW : RowKit.Hid (withB l x = (l.take (placeN l x.v) ++ [x]) ++ l.drop (placeN l x.v)) := Lib.hid (by unfold withB; simp)
  generalize placeN l x.v = i at hP hi HW
  have hle := hL.le
  have HT : RowKit.Hid ((l.take i).length = i) := Lib.hid (by rw [List.length_take]; omega)
  have HTD : RowKit.Hid ((l.drop i).length = l.length - i) := Lib.hid (by rw [List.length_drop])
  have hi1 : (0 : Int) ≤ i := by omega
  have hi2 : (i : Int) ≤ l.length := by omega
  have hi3 : (i : Int) ≤ ca := by omega
  have HC := Lib.hid (hL.takeCap i hi)
  have hcase := slice_cases hL i hi
  have HL := Lib.hid hL
  clear hL hA
  obtain ⟨xv, tv, ts⟩ := x
  simp only at hX hb hP
  rcases hcase with ⟨rfl, rfl, rfl⟩ | ⟨b, o, rfl, rfl, hll⟩ | ⟨b, o, rfl, hlt⟩
  case' inl =>
    have HTD : RowKit.Hid ((([] : List BindD).drop 0).length = 0) := Lib.hid rfl
    have HD : RowKit.Hid (SliceAt encB 3 w A 0 (([] : List BindD).drop 0)) := Lib.hid (SliceAt.zero w A)
  case' inr.inl =>
    have HTD : RowKit.Hid ((l.drop ca).length = 0) := Lib.hid (by rw [List.length_drop]; omega)
    have HD : RowKit.Hid (BL w (some ⟨b, o, none⟩) 0 (l.drop ca)) := Lib.hid (by rw [List.drop_of_length_le (by omega)]; exact HL.out.empty)
  case' inr.inr =>
    have HD := Lib.hid (HL.out.dropCap i)
    have hne : ¬ ca = i := by omega
  all_goals
    go_enter Try.func45, Try.ntmps45
    go_wp2_with (go_at_call 62; refine hP.out.mono ?_; rintro e w1 ⟨rfl, hg⟩; have hX := hX.bel hg; have hb := hb.trans' hg; clear hg)
    have HBA := Lib.hid (bel_drew' (hb.trans' (bel_alloc w1 (.cells #[.string xv, .bool tv, .string ts] 32))))
    have HB2 := Lib.hid (bel_drew' (bel_alloc w1 (.cells #[.string xv, .bool tv, .string ts] 32)))
    have HNW : RowKit.Hid (∀ j u, (encB ⟨xv, tv, ts⟩)[j]? = some u → (w1.alloc (.cells #[.string xv, .bool tv, .string ts] 32)).drew.cell? ((⟨w1.heap.size, 0, none⟩ : Addr).add j) = some u) := Lib.hid (news_one w1 ⟨xv, tv, ts⟩)
    obtain ⟨x1, x2, x3⟩ := hX.cells
    simp only at x1 x2 x3
    go_region_held3 (fun w' => w'.cell? ⟨w.heap.size, 0, none⟩ = some (.string xv) ∧ w'.cell? ⟨w.heap.size, 1, none⟩ = some (.bool tv) ∧ w'.cell? ⟨w.heap.size, 2, none⟩ = some (.string ts)) (first | go_keep | trivial)
      (first | ((refine step_fresh (by rfl) (.tmp 13) (.tmp 15) 62 Try.underlying62 (by rfl) ⟨xv, tv, ts⟩ (by rfl) (by rfl) (HC.out.bel HBA.out) HT.out (by omega) HNW.out ?_; intro q1 c1 w2 out1 HX1 HO1; have hX2 := (hX.bel HB2.out).bel HO1.out.bel; have z1 : w2.cell? ⟨w.heap.size, 0, none⟩ = some (.string xv) := hX2.cells.1; have z2 : w2.cell? ⟨w.heap.size, 1, none⟩ = some (.bool tv) := hX2.cells.2.1; have z3 : w2.cell? ⟨w.heap.size, 2, none⟩ = some (.string ts) := hX2.cells.2.2; have hol := Nat.le_of_eq (show out1.length = _ + 1 from (by rw [HX1.out, List.length_append, HT.out, List.length_singleton])))) | ((refine step_pushes (by rfl) (.tmp 16) (.tmp 19) 62 Try.underlying62 (by rfl) (by rfl) (by rfl) HO1.out (HD.out.bel (HBA.out.trans' HO1.out.bel)) HTD.out (by omega) ?_; intro q2 c2 w3 out2 HX2 HO2 _ _; have hX3 := (hX.bel HB2.out).bel HO2.out.bel; have u1 : w3.cell? ⟨w.heap.size, 0, none⟩ = some (.string xv) := hX3.cells.1; have u2 : w3.cell? ⟨w.heap.size, 1, none⟩ = some (.bool tv) := hX3.cells.2.1; have u3 : w3.cell? ⟨w.heap.size, 2, none⟩ = some (.string ts) := hX3.cells.2.2)))
    all_goals go_wp2
    all_goals go_ret
    all_goals exact ⟨⟨_, _, _, Lib.hid (by rw [HX2.out, HX1.out, HW.out]), Lib.hid (HO2.out.base HBA.out), rfl⟩, HBA.out.trans' HO2.out.bel⟩
end Go.Proofs.Ytdmdefdiglpgaaa
