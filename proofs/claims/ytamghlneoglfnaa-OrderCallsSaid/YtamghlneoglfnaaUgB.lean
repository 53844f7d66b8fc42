/-
  The bytes that a name may have. No condition.
-/
import Derived.Test.YtamghlneoglfnaaTgA
namespace Go.Proofs.Ytamghlneoglfnaa
open Go.RowKit

/-- the bytes that a name may have -/
def okb (c : UInt8) : Bool := latB true c
theorem okb_lat {m : Bool} {c : UInt8} (h : latB m c = true) : okb c = true := by
  unfold okb
  unfold latB at h ⊢
  cases m
  · simp only [Bool.or_eq_true, Bool.false_and, Bool.false_eq_true, or_false, Bool.true_and] at h ⊢
    exact .inl h
  · exact h
theorem okb_32 : okb 32 = false := by decide +kernel
theorem okb_40 : okb 40 = false := by decide +kernel
theorem okb_41 : okb 41 = false := by decide +kernel
theorem okb_44 : okb 44 = false := by decide +kernel
theorem name_ok {f : UInt8 → Bool} {m : Bool} (hf : ∀ c, f c = true → okb c = true) {l : List UInt8} (h : nameB f m l = true) : ∀ b ∈ l, okb b = true := by
  cases l with
  | nil => intro b hb; simp at hb
  | cons c r =>
    simp only [nameB, Bool.and_eq_true] at h
    obtain ⟨_, h1, h2⟩ := h
    intro b hb
    rcases List.mem_cons.1 hb with rfl | hb
    · exact hf _ h1
    · exact okb_lat (List.all_eq_true.1 h2 b hb)
theorem okb_low (c : UInt8) (h : lowB c = true) : okb c = true := by unfold okb latB smaB; simp [h]
theorem okb_sma (c : UInt8) (h : smaB c = true) : okb c = true := by unfold okb latB; simp [h]
theorem okb_upp (c : UInt8) (h : uppB c = true) : okb c = true := by unfold okb latB; simp [h]
theorem prin_ok {s : ByteArray} (h : prinB s = true) : ∀ b ∈ s.data.toList, okb b = true := by
  unfold prinB wordB at h
  rw [Bool.and_eq_true] at h
  exact name_ok okb_low h.1
theorem term_ok {t : TermD} (h : termB t = true) : ∀ b ∈ t.name.data.toList, okb b = true := by
  unfold termB at h
  split at h
  · exact name_ok okb_upp h
  · unfold consB at h
    rw [Bool.and_eq_true] at h
    exact name_ok okb_sma h.1
theorem cut : ∀ (x x' u u' : List UInt8) (c c' : UInt8), (∀ b ∈ x, okb b = true) → (∀ b ∈ x', okb b = true) → okb c = false → okb c' = false → x ++ c :: u = x' ++ c' :: u' → x = x' ∧ c = c' ∧ u = u'
  | [], [], u, u', c, c', _, _, _, _, h => by
    simp only [List.nil_append, List.cons.injEq] at h
    exact ⟨rfl, h.1, h.2⟩
  | [], y :: x', u, u', c, c', _, h2, h3, _, h => by
    simp only [List.nil_append, List.cons_append, List.cons.injEq] at h
    have := h2 y (by simp)
    rw [← h.1, h3] at this
    cases this
  | y :: x, [], u, u', c, c', h1, _, _, h4, h => by
    simp only [List.nil_append, List.cons_append, List.cons.injEq] at h
    have := h1 y (by simp)
    rw [h.1, h4] at this
    cases this
  | y :: x, y' :: x', u, u', c, c', h1, h2, h3, h4, h => by
    simp only [List.cons_append, List.cons.injEq] at h
    obtain ⟨e1, e2, e3⟩ := cut x x' u u' c c' (fun b hb => h1 b (by simp [hb])) (fun b hb => h2 b (by simp [hb])) h3 h4 h.2
    exact ⟨by rw [h.1, e1], e2, e3⟩
end Go.Proofs.Ytamghlneoglfnaa
