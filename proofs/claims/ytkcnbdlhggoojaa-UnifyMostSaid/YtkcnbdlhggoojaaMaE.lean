/-
  Extend and Match: the walks. Conditions: as each says.
-/
import Derived.Test.YtkcnbdlhggoojaaMaD
namespace Go.Proofs.Ytkcnbdlhggoojaa
open Go.RowKit

theorem extR_no {l : List BindD} {p g : AtomD} (h : preD l p g = false) : extR l p g = ([], false) := by
  have : extD l p g = none := by unfold extD; rw [if_neg (by rw [h]; decide)]
  unfold extR
  rw [this]; rfl
theorem extR_none {l : List BindD} {p g : AtomD} (hp : preD l p g = true) (h : extL l (argsN p) (argsN g) = none) : extR l p g = ([], false) := by
  have : extD l p g = none := by unfold extD; rw [if_pos hp]; exact h
  unfold extR
  rw [this]; rfl
theorem extR_some {l m : List BindD} {p g : AtomD} (hp : preD l p g = true) (h : extL l (argsN p) (argsN g) = some m) : extR l p g = (m, true) := by
  have : extD l p g = some m := by unfold extD; rw [if_pos hp]; exact h
  unfold extR
  rw [this]; rfl
theorem pre_no1 {l : List BindD} {p g : AtomD} (h : alikeD p g = false) : preD l p g = false := by unfold preD; rw [h]; rfl
theorem pre_no2 {l : List BindD} {p g : AtomD} (h : groundD g = false) : preD l p g = false := by unfold preD; rw [h]; simp
theorem pre_no3 {l : List BindD} {p g : AtomD} (h : checkB l = false) : preD l p g = false := by unfold preD; rw [h]; simp
theorem pre_no4 {l : List BindD} {p g : AtomD} (h : bindableD l p = false) : preD l p g = false := by unfold preD; rw [h]; simp
theorem drop_at {a : AtomD} {k : Nat} {t : TermD} (hk : k < cntI a.n) (ht : (argsD a)[k]? = some t) : (argsN a).drop k = t :: (argsN a).drop (k + 1) := by
  obtain ⟨h1, h2, h3⟩ := argsN_at hk
  rw [List.drop_eq_getElem_cons h1, h3]
  rw [List.getElem?_eq_getElem h2] at ht
  injection ht with ht
  rw [ht]
theorem extL_eq {m : List BindD} {t v : TermD} {ts us : List TermD} (h : eqT (subT m t) v = true) : extL m (t :: ts) (v :: us) = extL m ts us := by
  conv => lhs; unfold extL
  rw [if_pos h]
theorem extL_stop {m : List BindD} {t v : TermD} {ts us : List TermD} (h : eqT (subT m t) v = false) (k : (subT m t).v = false) : extL m (t :: ts) (v :: us) = none := by
  unfold extL
  rw [if_neg (by rw [h]; decide), if_pos k]
theorem extL_bind {m o : List BindD} {t v : TermD} {ts us : List TermD} (h : eqT (subT m t) v = false) (k : (subT m t).v = true) (hb : bindD m (subT m t).name v = (o, 0)) : extL m (t :: ts) (v :: us) = extL o ts us := by
  conv => lhs; unfold extL
  rw [if_neg (by rw [h]; decide), if_neg (by rw [k]; decide), if_pos (by rw [hb]), hb]
theorem extL_fail {m o : List BindD} {n : Int} {t v : TermD} {ts us : List TermD} (h : eqT (subT m t) v = false) (k : (subT m t).v = true) (hb : bindD m (subT m t).name v = (o, n)) (hn : n ≠ 0) : extL m (t :: ts) (v :: us) = none := by
  unfold extL
  rw [if_neg (by rw [h]; decide), if_neg (by rw [k]; decide), if_neg (by rw [hb]; exact hn)]
theorem extL_end {m : List BindD} {p g : AtomD} {k : Nat} (hk : cntI p.n ≤ k) : extL m ((argsN p).drop k) ((argsN g).drop k) = some m := by
  have : (argsN p).drop k = [] := List.drop_of_length_le (by rw [argsN_len]; exact hk)
  rw [this]; simp [extL]

theorem two_new {wB w6 : World} (h : Bel wB w6) (x y : TermD) : TermAt ((w6.alloc (.cells #[.bool x.v, .string x.name] 23)).alloc (.cells #[.bool y.v, .string y.name] 23)) w6.heap.size x ∧ TermAt ((w6.alloc (.cells #[.bool x.v, .string x.name] 23)).alloc (.cells #[.bool y.v, .string y.name] 23)) (w6.heap.size + 1) y ∧ Bel wB ((w6.alloc (.cells #[.bool x.v, .string x.name] 23)).alloc (.cells #[.bool y.v, .string y.name] 23)) := by
  have := TermAt.new (w6.alloc (.cells #[.bool x.v, .string x.name] 23)) y
  rw [show (w6.alloc (.cells #[.bool x.v, .string x.name] 23)).heap.size = w6.heap.size + 1 by simp] at this
  exact ⟨(TermAt.new w6 x).bel (bel_alloc _ _), this, (h.trans' (bel_alloc _ _)).trans' (bel_alloc _ _)⟩
theorem set_new {wB w6 : World} (h : Bel wB w6) {b : Nat} {z : TermD} (hz : TermAt w6 b z) (hb : wB.heap.size ≤ b) (x y : TermD) : TermAt (((w6.setCell ⟨b, 0, none⟩ (.bool x.v)).setCell ⟨b, 1, none⟩ (.string x.name)).alloc (.cells #[.bool y.v, .string y.name] 23)) b x ∧ TermAt (((w6.setCell ⟨b, 0, none⟩ (.bool x.v)).setCell ⟨b, 1, none⟩ (.string x.name)).alloc (.cells #[.bool y.v, .string y.name] 23)) w6.heap.size y ∧ Bel wB (((w6.setCell ⟨b, 0, none⟩ (.bool x.v)).setCell ⟨b, 1, none⟩ (.string x.name)).alloc (.cells #[.bool y.v, .string y.name] 23)) := by
  obtain ⟨h1, h2, _⟩ := set_term hz x rfl
  have := TermAt.new ((w6.setCell ⟨b, 0, none⟩ (.bool x.v)).setCell ⟨b, 1, none⟩ (.string x.name)) y
  rw [show ((w6.setCell ⟨b, 0, none⟩ (.bool x.v)).setCell ⟨b, 1, none⟩ (.string x.name)).heap.size = w6.heap.size by simp] at this
  exact ⟨h1.bel (bel_alloc _ _), this, Below.trans (Below.trans h (h2.mono hb)) ((bel_alloc _ _).mono (by have := h.size; simp; omega))⟩
theorem set_set {wB w6 : World} (h : Bel wB w6) {b d : Nat} {z y0 : TermD} (hz : TermAt w6 b z) (hy : TermAt w6 d y0) (hb : wB.heap.size ≤ b) (hd : wB.heap.size ≤ d) (hne : d ≠ b) (x y : TermD) : TermAt ((((w6.setCell ⟨b, 0, none⟩ (.bool x.v)).setCell ⟨b, 1, none⟩ (.string x.name)).setCell ⟨d, 0, none⟩ (.bool y.v)).setCell ⟨d, 1, none⟩ (.string y.name)) b x ∧ TermAt ((((w6.setCell ⟨b, 0, none⟩ (.bool x.v)).setCell ⟨b, 1, none⟩ (.string x.name)).setCell ⟨d, 0, none⟩ (.bool y.v)).setCell ⟨d, 1, none⟩ (.string y.name)) d y ∧ Bel wB ((((w6.setCell ⟨b, 0, none⟩ (.bool x.v)).setCell ⟨b, 1, none⟩ (.string x.name)).setCell ⟨d, 0, none⟩ (.bool y.v)).setCell ⟨d, 1, none⟩ (.string y.name)) := by
  obtain ⟨h1, h2, h3⟩ := set_term hz x rfl
  obtain ⟨k1, k2, k3⟩ := set_term (w := (w6.setCell ⟨b, 0, none⟩ (.bool x.v)).setCell ⟨b, 1, none⟩ (.string x.name)) ((h3 d hne).trans hy) y rfl
  exact ⟨(k3 b hne.symm).trans h1, k1, Below.trans (Below.trans h (h2.mono hb)) (k2.mono hd)⟩
end Go.Proofs.Ytkcnbdlhggoojaa
