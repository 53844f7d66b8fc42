/-
  The names of an atom's terms. Conditions: as each says.
-/
import Derived.Test.YtkcnbdlhggoojaaDoorTmF
import Derived.Test.YtkcnbdlhggoojaaDoorKitS
import Derived.Test.YtkcnbdlhggoojaaDoorShelf
namespace Go.Proofs.YtkcnbdlhggoojaaDoor
open Go.RowKit

def stepN (v : Bool) (out : List ByteArray) (t : TermD) : List ByteArray := if (t.v == v && !Lib.containsS out t.name) = true then out ++ [t.name] else out
def namesD (v : Bool) (l : List TermD) : List ByteArray := l.foldl (stepN v) []
theorem names_nil (v : Bool) : namesD v [] = [] := rfl
theorem names_snoc (v : Bool) (l : List TermD) (t : TermD) : namesD v (l ++ [t]) = stepN v (namesD v l) t := by unfold namesD; rw [List.foldl_append]; rfl
theorem names_succ (v : Bool) {l : List TermD} {k : Nat} {t : TermD} (h : l[k]? = some t) : namesD v (l.take (k + 1)) = stepN v (namesD v (l.take k)) t := by
  rw [List.take_add_one, h]; exact names_snoc v _ t
theorem step_len (v : Bool) (out : List ByteArray) (t : TermD) : (stepN v out t).length ≤ out.length + 1 := by unfold stepN; split <;> simp
theorem names_len (v : Bool) (l : List TermD) : (namesD v l).length ≤ l.length := by
  unfold namesD
  suffices h : ∀ (l : List TermD) (acc : List ByteArray), (l.foldl (stepN v) acc).length ≤ acc.length + l.length by simpa using h l []
  intro l
  induction l with
  | nil => intro acc; simp
  | cons t l ih =>
    intro acc
    have := ih (stepN v acc t)
    have := step_len v acc t
    simp only [List.foldl_cons, List.length_cons]
    omega
/-- a list of strings that the call made, in worlds from w on -/
structure StrO (w W : World) (v : Value) (l : List ByteArray) : Prop where
  row : W.ownsRow 0 9 1 v l.length (l.map Value.string)
  bel : Below w.heap.size w W
  new : ∀ g, v.ownBlock = some g → w.heap.size ≤ g
theorem StrO.nil (w : World) {W : World} (hb : Bel w W) : StrO w W (.slice none 0 0) [] := ⟨World.ownsRow_nil _ _ _ _, hb, by simp [Value.ownBlock]⟩
theorem StrO.bel' {w W W' : World} {v : Value} {l : List ByteArray} (h : StrO w W v l) (hg : Bel W W') : StrO w W' v l :=
  ⟨(Fr.of_below (F := []) hg).owns h.row (by simp), h.bel.trans (hg.mono h.bel.size), h.new⟩
theorem StrO.push {w W W' : World} {v v' : Value} {l : List ByteArray} {p : ByteArray} {x : Obj} (h : StrO w W v l) (ho : W'.ownsRow 0 9 1 v' (l.length + 1) (l.map Value.string ++ [.string p])) (hf : Fr v.ownBlock.toList (W.alloc x) W') (hn : ∀ g, v'.ownBlock = some g → v.ownBlock = some g ∨ (W.alloc x).heap.size ≤ g) : StrO w W' v' (l ++ [p]) := by
  have hs := h.bel.size
  refine ⟨by simpa using ho, (h.bel.alloc hs _).trans (hf.below (fun k hk => h.new k (by simpa using hk)) (by simp; omega)), fun g hg => ?_⟩
  rcases hn g hg with e | e
  · exact h.new g e
  · simp at e; omega
theorem StrO.cell {w W : World} {g n c : Nat} {l : List ByteArray} (h : StrO w W (.slice (some ⟨g, 0, none⟩) n c) l) : ∀ j, j < l.length → W.cell? ⟨g, 0 + j, none⟩ = some (.string (l.getD j ByteArray.empty)) := fun j hj => by
  have hj2 : (l.map Value.string)[j]? = some (.string l[j]) := by simp [hj]
  rw [Nat.zero_add, row_cell h.row rfl hj2, List.getD_eq_getElem?_getD, List.getElem?_eq_getElem hj]
  rfl
theorem StrO.list {w W : World} {A : Option Addr} {n c : Nat} {l : List ByteArray} (h : StrO w W (.slice A n c) l) : ListAt W A l.length (l.map Value.string) := by
  refine ⟨by simp, ?_⟩
  by_cases h0 : l.length = 0
  · exact .inl h0
  · obtain ⟨g, cap, e, ho, hlt, _, _⟩ := row_value h.row (by omega)
    injection e with e1 e2 e3
    subst e1
    exact .inr ⟨g, 0, rfl, hlt, fun j u hu => by rw [Nat.zero_add]; exact row_cell h.row ho hu⟩
theorem info_str : ∃ i, Tryd.prog.info? 9 = some i ∧ i.zero = some (.string ⟨#[]⟩) ∧ i.size = 1 ∧ i.bytes = 16 := by
  have h : (Tryd.prog.info? 9).map (fun i => (i.zero, i.size, i.bytes)) = some (some (.string ⟨#[]⟩), 1, 16) := by kernel_rfl
  cases hq : Tryd.prog.info? 9 with
  | none => rw [hq] at h; cases h
  | some i =>
    rw [hq] at h
    injection h with h
    injection h with h1 h2
    injection h2 with h2 h3
    exact ⟨i, rfl, h1, h2, h3⟩
theorem new_one' {W : World} {x : Value} {e : TypeId} {b : Nat} (hb : W.heap.size = b) : ∀ j u, ([x] : List Value)[j]? = some u → (W.alloc (.cells #[x] e)).cell? ((⟨b, 0, none⟩ : Addr).add j) = some u := by subst hb; exact new_one
theorem str_one {s : ByteArray} : ∀ u ∈ ([.string s] : List Value), u.oneCell' = true := by intro u hu; simp at hu; subst hu; rfl

end Go.Proofs.YtkcnbdlhggoojaaDoor
