/-
  Under: the walk. An array of terms by value at an index. Conditions: as each says.
-/
import Derived.Test.YtkcnbdlhggoojaaMaB
import Derived.Test.YtkcnbdlhggoojaaMaC
import Derived.Deep.DeepCutAuto
import Derived.WalkMore
namespace Go.Proofs.Ytkcnbdlhggoojaa
open Go.RowKit

theorem run_index_terms (t0 t1 t2 t3 : TermD) (k : Nat) (t : TermD) (ht : [t0, t1, t2, t3][k]? = some t) (w : World) :
    (Instr.index 24 (.agg #[.bool t0.v, .string t0.name, .bool t1.v, .string t1.name, .bool t2.v, .string t2.name, .bool t3.v, .string t3.name]) (.int .i64 k)).run Try.prog w = .ok (.agg #[.bool t.v, .string t.name]) w := by
  have h0 : ∀ (c0 c1 c2 c3 c4 c5 c6 c7 : Value) (w : World), (Instr.index 24 (.agg #[c0, c1, c2, c3, c4, c5, c6, c7]) (.int .i64 0)).run Try.prog w = .ok (.agg #[c0, c1]) w := fun _ _ _ _ _ _ _ _ _ => by kernel_rfl
  have h1 : ∀ (c0 c1 c2 c3 c4 c5 c6 c7 : Value) (w : World), (Instr.index 24 (.agg #[c0, c1, c2, c3, c4, c5, c6, c7]) (.int .i64 1)).run Try.prog w = .ok (.agg #[c2, c3]) w := fun _ _ _ _ _ _ _ _ _ => by kernel_rfl
  have h2 : ∀ (c0 c1 c2 c3 c4 c5 c6 c7 : Value) (w : World), (Instr.index 24 (.agg #[c0, c1, c2, c3, c4, c5, c6, c7]) (.int .i64 2)).run Try.prog w = .ok (.agg #[c4, c5]) w := fun _ _ _ _ _ _ _ _ _ => by kernel_rfl
  have h3 : ∀ (c0 c1 c2 c3 c4 c5 c6 c7 : Value) (w : World), (Instr.index 24 (.agg #[c0, c1, c2, c3, c4, c5, c6, c7]) (.int .i64 3)).run Try.prog w = .ok (.agg #[c6, c7]) w := fun _ _ _ _ _ _ _ _ _ => by kernel_rfl
  match k, ht with
  | 0, ht => simp at ht; subst ht; exact h0 _ _ _ _ _ _ _ _ w
  | 1, ht => simp at ht; subst ht; exact h1 _ _ _ _ _ _ _ _ w
  | 2, ht => simp at ht; subst ht; exact h2 _ _ _ _ _ _ _ _ w
  | 3, ht => simp at ht; subst ht; exact h3 _ _ _ _ _ _ _ _ w
  | k + 4, ht => simp at ht
theorem under_no {a p : AtomD} (h : alikeD a p = false) : underD a p = false := by unfold underD; rw [h]; rfl
theorem under_yes {a p : AtomD} (h : alikeD a p = true) (k : (List.range (cntI a.n)).all (fitB p a) = true) : underD a p = true := by unfold underD; rw [h, k]; rfl
theorem under_not {a p : AtomD} {i : Nat} (hi : i < cntI a.n) (h : fitB p a i = false) : underD a p = false := by
  unfold underD
  rw [Bool.and_eq_false_iff]
  refine .inr ?_
  rw [List.all_eq_false]
  exact ⟨i, List.mem_range.2 hi, by rw [h]; decide⟩
theorem range_succ {f : Nat → Bool} {k : Nat} (h : (List.range k).all f = true) (h2 : f k = true) : (List.range (k + 1)).all f = true := by
  rw [List.range_succ, List.all_append, h]; simp [h2]
theorem fit_const {p a : AtomD} {k : Nat} {t u : TermD} (ht : (argsD p)[k]? = some t) (hu : (argsD a)[k]? = some u) (hv : t.v = false) : fitB p a k = eqT t u := by
  unfold fitB wantN
  simp only [List.getD_eq_getElem?_getD, ht, hu, Option.getD_some]
  rw [hv]; rfl
theorem fit_var {p a : AtomD} {k : Nat} {t u x : TermD} (ht : (argsD p)[k]? = some t) (hu : (argsD a)[k]? = some u) (hx : (argsD a)[idxT (argsD p) t]? = some x) (hv : t.v = true) : fitB p a k = eqT x u := by
  unfold fitB wantN
  simp only [List.getD_eq_getElem?_getD, ht, hu, Option.getD_some]
  rw [hv, if_pos rfl, hx]
  rfl
theorem args_get (a : AtomD) (k : Nat) (hk : k < 4) : ∃ t, (argsD a)[k]? = some t := ⟨(argsD a)[k]'hk, List.getElem?_eq_getElem (h := hk)⟩
theorem TermAt.frozen {w : World} {b : Nat} {t : TermD} (h : TermAt w b t) (i : Nat) : w.frozen? ⟨b, i, none⟩ = false := by
  unfold TermAt at h
  simp [World.frozen?, h]
theorem set_term {w w' : World} {b : Nat} {t0 : TermD} (h : TermAt w b t0) (x : TermD) (hw : w' = (w.setCell ⟨b, 0, none⟩ (.bool x.v)).setCell ⟨b, 1, none⟩ (.string x.name)) : TermAt w' b x ∧ Below b w w' ∧ ∀ k, k ≠ b → w'.heap[k]? = w.heap[k]? := by
  subst hw
  have ho : ∀ k, k ≠ b → ((w.setCell ⟨b, 0, none⟩ (.bool x.v)).setCell ⟨b, 1, none⟩ (.string x.name)).heap[k]? = w.heap[k]? := fun k hk => by
    simp [World.setCell, Array.getElem?_modify, Ne.symm hk]
  refine ⟨?_, ⟨rfl, rfl, rfl, by simp, fun k hk => ho k (by omega)⟩, ho⟩
  unfold TermAt at h ⊢
  simp [World.setCell, Array.getElem?_modify, h]
theorem terms_at {w : World} {b : Nat} {a : AtomD} (h : AtomAt w b a) {k : Nat} {t : TermD} (hk : (argsD a)[k]? = some t) : w.cell? ⟨b, 3 + k * 2, none⟩ = some (.bool t.v) ∧ w.cell? ⟨b, 3 + k * 2 + 1, none⟩ = some (.string t.name) := by
  obtain ⟨hq, rfl⟩ := List.getElem?_eq_some_iff.1 hk
  obtain ⟨b', o', e, _, c1, c2⟩ := h.terms k hq
  injection e with e
  injection e with e1 e2
  subst e1 e2
  exact ⟨c1, c2⟩

end Go.Proofs.Ytkcnbdlhggoojaa
