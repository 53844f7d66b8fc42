/-
  The names of an atom's terms. Conditions: as each says. The reference's names of an atom's terms. Conditions: as each says. Lists of terms that a call writes out; a term's block; constants, variables and the names of an atom. Condition: the library's variable holds some int, where one says so.
-/
import Derived.Test.YtamghlneoglfnaaTgB
import Derived.Test.YtamghlneoglfnaaKitS
import Derived.Test.YtamghlneoglfnaaShelf
namespace Go.Proofs.Ytamghlneoglfnaa
open Go.RowKit

def stepN (v : Bool) (out : List ByteArray) (t : TermD) : List ByteArray := if (t.v == v && !Lib.containsS out t.name) = true then out ++ [t.name] else out
def namesD (v : Bool) (l : List TermD) : List ByteArray := l.foldl (stepN v) []
theorem names_nil (v : Bool) : namesD v [] = [] := rfl
theorem names_snoc (v : Bool) (l : List TermD) (t : TermD) : namesD v (l ++ [t]) = stepN v (namesD v l) t := by unfold namesD; rw [List.foldl_append]; rfl
theorem names_succ (v : Bool) {l : List TermD} {k : Nat} {t : TermD} (h : l[k]? = some t) : namesD v (l.take (k + 1)) = stepN v (namesD v (l.take k)) t := by
  rw [List.take_add_one, h]; exact names_snoc v _ t
theorem step_len (v : Bool) (out : List ByteArray) (t : TermD) : (stepN v out t).length ≤ out.length + 1 := by unfold stepN; split <;> simp
theorem names_len (v : Bool) (l : List TermD) : (namesD v l).length ≤ l.length := by
  unfold namesD
  suffices h : ∀ (l : List TermD) (acc : List ByteArray), (l.foldl (stepN v) acc).length ≤ acc.length + l.length by simpa using h l []
  intro l
  induction l with
  | nil => intro acc; simp
  | cons t l ih =>
    intro acc
    have := ih (stepN v acc t)
    have := step_len v acc t
    simp only [List.foldl_cons, List.length_cons]
    omega
/-- a list of strings that the call made, in worlds from w on -/
structure StrO (w W : World) (v : Value) (l : List ByteArray) : Prop where
  row : W.ownsRow 0 9 1 v l.length (l.map Value.string)
  bel : Below w.heap.size w W
  new : ∀ g, v.ownBlock = some g → w.heap.size ≤ g
theorem StrO.nil (w : World) {W : World} (hb : Bel w W) : StrO w W (.slice none 0 0) [] := ⟨World.ownsRow_nil _ _ _ _, hb, by simp [Value.ownBlock]⟩
theorem StrO.bel' {w W W' : World} {v : Value} {l : List ByteArray} (h : StrO w W v l) (hg : Bel W W') : StrO w W' v l :=
  ⟨(Fr.of_below (F := []) hg).owns h.row (by simp), h.bel.trans (hg.mono h.bel.size), h.new⟩
theorem StrO.push {w W W' : World} {v v' : Value} {l : List ByteArray} {p : ByteArray} {x : Obj} (h : StrO w W v l) (ho : W'.ownsRow 0 9 1 v' (l.length + 1) (l.map Value.string ++ [.string p])) (hf : Fr v.ownBlock.toList (W.alloc x) W') (hn : ∀ g, v'.ownBlock = some g → v.ownBlock = some g ∨ (W.alloc x).heap.size ≤ g) : StrO w W' v' (l ++ [p]) := by
  have hs := h.bel.size
  refine ⟨by simpa using ho, (h.bel.alloc hs _).trans (hf.below (fun k hk => h.new k (by simpa using hk)) (by simp; omega)), fun g hg => ?_⟩
  rcases hn g hg with e | e
  · exact h.new g e
  · simp at e; omega
theorem StrO.cell {w W : World} {g n c : Nat} {l : List ByteArray} (h : StrO w W (.slice (some ⟨g, 0, none⟩) n c) l) : ∀ j, j < l.length → W.cell? ⟨g, 0 + j, none⟩ = some (.string (l.getD j ByteArray.empty)) := fun j hj => by
  have hj2 : (l.map Value.string)[j]? = some (.string l[j]) := by simp [hj]
  rw [Nat.zero_add, row_cell h.row rfl hj2, List.getD_eq_getElem?_getD, List.getElem?_eq_getElem hj]
  rfl
theorem StrO.list {w W : World} {A : Option Addr} {n c : Nat} {l : List ByteArray} (h : StrO w W (.slice A n c) l) : ListAt W A l.length (l.map Value.string) := by
  refine ⟨by simp, ?_⟩
  by_cases h0 : l.length = 0
  · exact .inl h0
  · obtain ⟨g, cap, e, ho, hlt, _, _⟩ := row_value h.row (by omega)
    injection e with e1 e2 e3
    subst e1
    exact .inr ⟨g, 0, rfl, hlt, fun j u hu => by rw [Nat.zero_add]; exact row_cell h.row ho hu⟩
theorem info_str : ∃ i, Try.prog.info? 9 = some i ∧ i.zero = some (.string ⟨#[]⟩) ∧ i.size = 1 ∧ i.bytes = 16 := by
  have h : (Try.prog.info? 9).map (fun i => (i.zero, i.size, i.bytes)) = some (some (.string ⟨#[]⟩), 1, 16) := by kernel_rfl
  cases hq : Try.prog.info? 9 with
  | none => rw [hq] at h; cases h
  | some i =>
    rw [hq] at h
    injection h with h
    injection h with h1 h2
    injection h2 with h2 h3
    exact ⟨i, rfl, h1, h2, h3⟩
theorem new_one' {W : World} {x : Value} {e : TypeId} {b : Nat} (hb : W.heap.size = b) : ∀ j u, ([x] : List Value)[j]? = some u → (W.alloc (.cells #[x] e)).cell? ((⟨b, 0, none⟩ : Addr).add j) = some u := by subst hb; exact new_one
theorem str_one {s : ByteArray} : ∀ u ∈ ([.string s] : List Value), u.oneCell' = true := by intro u hu; simp at hu; subst hu; rfl

end Go.Proofs.Ytamghlneoglfnaa
namespace Go.Proofs.Ytamghlneoglfnaa
open Go.RowKit

theorem step_mem (v : Bool) (out : List ByteArray) (t : TermD) (s : ByteArray) : s ∈ stepN v out t ↔ s ∈ out ∨ (t.v = v ∧ t.name = s) := by
  unfold stepN
  by_cases h : (t.v == v && !Lib.containsS out t.name) = true
  · rw [if_pos h]
    simp only [Bool.and_eq_true, beq_iff_eq] at h
    simp only [List.mem_append, List.mem_singleton]
    constructor
    · rintro (h1 | h1)
      · exact .inl h1
      · exact .inr ⟨h.1, h1.symm⟩
    · rintro (h1 | ⟨_, h1⟩)
      · exact .inl h1
      · exact .inr h1.symm
  · rw [if_neg h]
    constructor
    · exact .inl
    · rintro (h1 | ⟨h1, rfl⟩)
      · exact h1
      · simp only [h1, beq_self_eq_true, Bool.true_and, Bool.not_eq_true', Bool.not_eq_false] at h
        exact (Lib.containsS_iff _ _).1 h
theorem names_mem (v : Bool) (l : List TermD) (s : ByteArray) : s ∈ namesD v l ↔ ∃ t ∈ l, t.v = v ∧ t.name = s := by
  unfold namesD
  suffices h : ∀ (l : List TermD) (acc : List ByteArray), s ∈ l.foldl (stepN v) acc ↔ s ∈ acc ∨ ∃ t ∈ l, t.v = v ∧ t.name = s by simpa using h l []
  intro l
  induction l with
  | nil => intro acc; simp
  | cons t l ih =>
    intro acc
    rw [List.foldl_cons, ih, step_mem]
    simp only [List.mem_cons, exists_eq_or_imp]
    rw [or_assoc]
theorem contains_names (v : Bool) (l : List TermD) (s : ByteArray) : Lib.containsS (namesD v l) s = l.any (fun t => eqT t ⟨v, s⟩) := by
  rw [Bool.eq_iff_iff, Lib.containsS_iff, names_mem, List.any_eq_true]
  constructor
  · rintro ⟨t, h1, h2, h3⟩
    exact ⟨t, h1, (eqT_iff _ _).2 (TermD.ext' h2 h3)⟩
  · rintro ⟨t, h1, h2⟩
    have := (eqT_iff _ _).1 h2
    subst this
    exact ⟨_, h1, rfl, rfl⟩

end Go.Proofs.Ytamghlneoglfnaa
namespace Go.Proofs.Ytamghlneoglfnaa
open Go.RowKit

theorem TermsAt.lit (W : World) (l : List TermD) (hl : l.length ≤ 1000) : TermsAt (W.alloc (.cells (termCells l).toArray 24)) (some ⟨W.heap.size, 0, none⟩) l :=
  TermsAt.of_row (base := 0) (ca := l.length) (World.ownsRow_lit W (termCells l).toArray l.length (Nat.zero_le _) (by unfold maxLen; omega) (by simp [termCells_len]))
/-- block b is the term t -/
def TermAt (w : World) (b : Nat) (t : TermD) : Prop := w.heap[b]? = some (.cells #[.bool t.v, .string t.name] 24)
theorem TermAt.new (w : World) (t : TermD) : TermAt (w.alloc (.cells #[.bool t.v, .string t.name] 24)) w.heap.size t := heap_alloc_new _ _
theorem TermAt.bel {w w' : World} {b : Nat} {t : TermD} (h : TermAt w b t) (hg : Bel w w') : TermAt w' b t := (hg.block b (Array.getElem?_eq_some_iff.1 h).1).trans h
theorem TermAt.cells {w : World} {b : Nat} {t : TermD} (h : TermAt w b t) : w.cell? ⟨b, 0, none⟩ = some (.bool t.v) ∧ w.cell? ⟨b, 1, none⟩ = some (.string t.name) := by
  unfold TermAt at h
  refine ⟨?_, ?_⟩ <;> simp [World.cell?, h]
theorem str_same {a b : ByteArray} (h : a = b) : (a.toList == b.toList) = true := by rw [h]; simp
theorem str_is {a b : ByteArray} (l : List UInt8) (h : a = b) (hl : b = ⟨l.toArray⟩) : (a.toList == l) = true := by
  subst hl; subst h
  rw [ByteArray.toList_eq]; simp
set_option maxHeartbeats 400000 in
theorem c_any (s : ByteArray) (w : World) : Calls Try.prog 31 #[.string s] w fun e w' => e = .returned (.agg #[.bool false, .string s]) ∧ Bel w w' := by
  go_enter Try.func31, Try.ntmps31
  go_wp2
  try simp only [Exit.inBlock, Exit.then]
  refine bodyPost_ret (results_cell_row rfl _ _ w.heap.size 24 #[.bool false, .string s] (0, 0) _ rfl (heap_alloc_new _ _) Try.underlying24 rfl (by kernel_rfl)) rfl ?_
  exact ⟨rfl, bel_alloc _ _⟩
end Go.Proofs.Ytamghlneoglfnaa
