/-
  Lists of items of several cells each in memory: what a slice value lists; lists that a call made. No condition.
-/
import Derived.Test.YtamghlneoglfnaaSpG
import Derived.Test.YtamghlneoglfnaaOwA
namespace Go.Proofs.Ytamghlneoglfnaa
open Go.RowKit

theorem addr_at (b o j : Nat) : (⟨b, o, none⟩ : Addr).add j = ⟨b, o + j, none⟩ := by unfold Addr.add; split <;> simp_all
theorem cell_bel {w w' : World} {b o : Nat} {v : Value} (h : w.cell? ⟨b, o, none⟩ = some v) (hg : Bel w w') : w'.cell? ⟨b, o, none⟩ = some v :=
  (hg.cell (p := ⟨b, o, none⟩) (World.block_lt_of_cell? w (⟨b, o, none⟩ : Addr) h)).trans h
theorem cell_of_block {W : World} {b j : Nat} {cs : Array Value} {e : TypeId} {v : Value} (h : W.heap[b]? = some (.cells cs e)) (hj : cs[j]? = some v) : W.cell? ⟨b, j, none⟩ = some v := by
  simp [World.cell?, h, hj]
/-- how an item is laid in k cells -/
structure EncK {α : Type} (enc : α → List Value) (k : Nat) : Prop where
  len : ∀ x, (enc x).length = k
  one : ∀ x, ∀ u ∈ enc x, u.oneCell' = true
  pos : 0 < k
section
variable {α : Type} {enc : α → List Value} {k : Nat}
def flatL (enc : α → List Value) (l : List α) : List Value := l.flatMap enc
theorem flat_nil : flatL enc [] = [] := rfl
theorem flat_cons (x : α) (l : List α) : flatL enc (x :: l) = enc x ++ flatL enc l := by simp [flatL]
theorem flat_append (l m : List α) : flatL enc (l ++ m) = flatL enc l ++ flatL enc m := by simp [flatL]
theorem flat_one (x : α) : flatL enc [x] = enc x := by simp [flatL]
theorem flat_len (E : EncK enc k) : ∀ l, (flatL enc l).length = l.length * k
  | [] => by simp [flatL]
  | x :: l => by rw [flat_cons, List.length_append, E.len, flat_len E l, List.length_cons, Nat.add_mul, Nat.one_mul, Nat.add_comm]
theorem flat_cells (E : EncK enc k) : ∀ (l : List α), ∀ u ∈ flatL enc l, u.oneCell' = true
  | [], u, h => by simp [flatL] at h
  | x :: l, u, h => by
    rw [flat_cons, List.mem_append] at h
    rcases h with h | h
    · exact E.one x u h
    · exact flat_cells E l u h
theorem flat_get (E : EncK enc k) : ∀ (l : List α) (q i : Nat) (h : q < l.length), i < k → (flatL enc l)[q * k + i]? = (enc l[q])[i]?
  | [], q, i, h, _ => by simp at h
  | x :: l, 0, i, _, hi => by
    rw [flat_cons, Nat.zero_mul, Nat.zero_add, List.getElem?_append_left (by rw [E.len]; exact hi)]
    rfl
  | x :: l, q + 1, i, h, hi => by
    rw [flat_cons, List.getElem?_append_right (by rw [E.len, Nat.add_mul, Nat.one_mul]; omega), E.len, show (q + 1) * k + i - k = q * k + i by rw [Nat.add_mul, Nat.one_mul]; omega]
    exact flat_get E l q i (by simpa using h) hi
theorem flat_at (E : EncK enc k) : ∀ (l : List α) (j : Nat) (u : Value), (flatL enc l)[j]? = some u → ∃ (q i : Nat) (h : q < l.length), i < k ∧ j = q * k + i ∧ (enc l[q])[i]? = some u
  | [], j, u, h => by simp [flatL] at h
  | x :: l, j, u, h => by
    rw [flat_cons] at h
    by_cases hj : j < k
    · rw [List.getElem?_append_left (by rw [E.len]; exact hj)] at h
      exact ⟨0, j, by simp, hj, by omega, h⟩
    · rw [List.getElem?_append_right (by rw [E.len]; omega), E.len] at h
      obtain ⟨q, i, hq, hi, e, h'⟩ := flat_at E l _ u h
      exact ⟨q + 1, i, by simpa using hq, hi, by rw [Nat.add_mul, Nat.one_mul]; omega, h'⟩
theorem flat_take (E : EncK enc k) : ∀ (l : List α) (m : Nat), flatL enc (l.take m) = (flatL enc l).take (m * k)
  | [], m => by simp [flatL]
  | x :: l, 0 => by simp [flatL]
  | x :: l, m + 1 => by
    have h1 : (enc x).take ((m + 1) * k) = enc x := List.take_of_length_le (by rw [E.len, Nat.add_mul, Nat.one_mul]; omega)
    have h2 : (m + 1) * k - k = m * k := by rw [Nat.add_mul, Nat.one_mul]; omega
    rw [List.take_succ_cons, flat_cons, flat_cons, flat_take E l m, List.take_append, E.len, h1, h2]

/-- the slice value's items, k cells each -/
def ItemsAt (enc : α → List Value) (k : Nat) (w : World) (A : Option Addr) (l : List α) : Prop :=
  ∀ j (h : j < l.length), ∃ b o, A = some ⟨b, o, none⟩ ∧ b < w.heap.size ∧ ∀ i u, (enc l[j])[i]? = some u → w.cell? ⟨b, o + j * k + i, none⟩ = some u
theorem ItemsAt.nil (w : World) (A : Option Addr) : ItemsAt enc k w A [] := fun j hj => by simp at hj
theorem ItemsAt.get {w : World} {A : Option Addr} {l : List α} (h : ItemsAt enc k w A l) (h0 : 0 < l.length) :
    ∃ b o, A = some ⟨b, o, none⟩ ∧ b < w.heap.size ∧ ∀ j (h : j < l.length) i u, (enc l[j])[i]? = some u → w.cell? ⟨b, o + j * k + i, none⟩ = some u := by
  obtain ⟨b, o, rfl, hb, _⟩ := h 0 h0
  refine ⟨b, o, rfl, hb, fun j hj i u hu => ?_⟩
  obtain ⟨b', o', e, _, hc⟩ := h j hj
  injection e with e
  injection e with e1 e2
  subst e1 e2
  exact hc i u hu
theorem ItemsAt.bel {w w' : World} {A : Option Addr} {l : List α} (h : ItemsAt enc k w A l) (hg : Bel w w') : ItemsAt enc k w' A l := fun j hj => by
  obtain ⟨b, o, e, hb, h1⟩ := h j hj
  exact ⟨b, o, e, Nat.lt_of_lt_of_le hb hg.size, fun i u hu => cell_bel (h1 i u hu) hg⟩
theorem ItemsAt.take {w : World} {A : Option Addr} {l : List α} (h : ItemsAt enc k w A l) (m : Nat) : ItemsAt enc k w A (l.take m) := fun j hj => by
  have hj' : j < l.length := by rw [List.length_take] at hj; omega
  obtain ⟨b, o, e, hb, h1⟩ := h j hj'
  exact ⟨b, o, e, hb, fun i u hu => h1 i u (by rw [List.getElem_take] at hu; exact hu)⟩
theorem ItemsAt.drop {w : World} {b o : Nat} {l : List α} (h : ItemsAt enc k w (some ⟨b, o, none⟩) l) (m : Nat) : ItemsAt enc k w (some ⟨b, o + m * k, none⟩) (l.drop m) := fun j hj => by
  rw [List.length_drop] at hj
  obtain ⟨b', o', e, hb, h1⟩ := h (m + j) (by omega)
  injection e with e
  injection e with e1 e2
  subst e1 e2
  refine ⟨_, _, rfl, hb, fun i u hu => ?_⟩
  rw [List.getElem_drop] at hu
  have := h1 i u hu
  rwa [Nat.add_mul, ← Nat.add_assoc] at this
theorem ItemsAt.load (E : EncK enc k) {w : World} {b o : Nat} {l : List α} (h : ItemsAt enc k w (some ⟨b, o, none⟩) l) : ∀ j v, (flatL enc l)[j]? = some v → w.cell? ((⟨b, o, none⟩ : Addr).add j) = some v := by
  intro j v hj
  obtain ⟨q, i, hq, hi, rfl, hu⟩ := flat_at E l j v hj
  obtain ⟨b', o', e, _, h1⟩ := h q hq
  injection e with e
  injection e with e1 e2
  subst e1 e2
  rw [addr_at, ← Nat.add_assoc]
  exact h1 i v hu
theorem ItemsAt.of_load (E : EncK enc k) {w : World} {b o : Nat} {l : List α} (hb : b < w.heap.size) (h : ∀ j v, (flatL enc l)[j]? = some v → w.cell? ⟨b, o + j, none⟩ = some v) : ItemsAt enc k w (some ⟨b, o, none⟩) l := fun j hj =>
  ⟨b, o, rfl, hb, fun i u hu => by
    have hi : i < k := by have := (List.getElem?_eq_some_iff.1 hu).1; rwa [E.len] at this
    have := h (j * k + i) u (by rw [flat_get E l j i hj hi]; exact hu)
    rwa [← Nat.add_assoc] at this⟩
theorem ItemsAt.of_row (E : EncK enc k) {w : World} {base e n ca : Nat} {A : Option Addr} {l : List α} (h : w.ownsRow base e k (.slice A n ca) n (flatL enc l)) : ItemsAt enc k w A l := fun j hj => by
  have hn : n = l.length := by have := h.1; rw [flat_len E] at this; exact (Nat.eq_of_mul_eq_mul_right E.pos this).symm
  obtain ⟨g, cap, e, ho, hlt, _, _⟩ := row_value h (by omega)
  injection e with e1 e2 e3
  subst e1
  refine ⟨g, 0, rfl, hlt, fun i u hu => ?_⟩
  have hi : i < k := by have := (List.getElem?_eq_some_iff.1 hu).1; rwa [E.len] at this
  rw [Nat.zero_add]
  exact row_cell h ho (by rw [flat_get E l j i hj hi]; exact hu)

/-- a slice value: its items, that it has room for them, and no place only where there is none -/
structure SliceAt (enc : α → List Value) (k : Nat) (w : World) (A : Option Addr) (ca : Nat) (l : List α) : Prop where
  items : ItemsAt enc k w A l
  le : l.length ≤ ca
  nil : A = none → ca = 0
  lt : ∀ a, A = some a → 0 < ca → ∃ b o, a = ⟨b, o, none⟩
theorem SliceAt.bel {w w' : World} {A : Option Addr} {ca : Nat} {l : List α} (h : SliceAt enc k w A ca l) (hg : Bel w w') : SliceAt enc k w' A ca l := ⟨h.items.bel hg, h.le, h.nil, h.lt⟩
theorem SliceAt.mkNil (w : World) : SliceAt enc k w Option.none 0 [] := ⟨ItemsAt.nil _ _, by simp, fun _ => rfl, fun a h => by cases h⟩
theorem SliceAt.zero (w : World) (A : Option Addr) : SliceAt enc k w A 0 [] := ⟨ItemsAt.nil _ _, by simp, fun _ => rfl, fun a _ h => by omega⟩
theorem SliceAt.take {w : World} {A : Option Addr} {ca : Nat} {l : List α} (h : SliceAt enc k w A ca l) (m : Nat) : SliceAt enc k w A ca (l.take m) := ⟨h.items.take m, by have := h.le; rw [List.length_take]; omega, h.nil, h.lt⟩
theorem SliceAt.takeCap {w : World} {A : Option Addr} {ca : Nat} {l : List α} (h : SliceAt enc k w A ca l) (m : Nat) (hm : m ≤ l.length) : SliceAt enc k w A m (l.take m) :=
  ⟨h.items.take m, by rw [List.length_take]; omega, fun e => by have := h.nil e; have := h.le; omega, fun a e h0 => h.lt a e (by have := h.le; omega)⟩
theorem SliceAt.pos {w : World} {A : Option Addr} {ca : Nat} {l : List α} (h : SliceAt enc k w A ca l) (h0 : 0 < l.length) : ∃ b o, A = some ⟨b, o, Option.none⟩ := by
  obtain ⟨b, o, e, _⟩ := h.items.get h0
  exact ⟨b, o, e⟩

/-- a list that the call made, in worlds from w on -/
structure OwnL (enc : α → List Value) (k e : Nat) (w W : World) (v : Value) (l : List α) : Prop where
  row : W.ownsRow 0 e k v l.length (flatL enc l)
  bel : Below w.heap.size w W
  new : ∀ g, v.ownBlock = some g → w.heap.size ≤ g
theorem OwnL.nil {e : Nat} (w : World) {W : World} (hb : Below w.heap.size w W) : OwnL enc k e w W (.slice Option.none 0 0) ([] : List α) := ⟨by simpa [flatL] using World.ownsRow_nil _ _ _ _, hb, by simp [Value.ownBlock]⟩
theorem OwnL.bel' {e : Nat} {w W W' : World} {v : Value} {l : List α} (h : OwnL enc k e w W v l) (hg : Bel W W') : OwnL enc k e w W' v l :=
  ⟨(Fr.of_below (F := []) hg).owns h.row (by simp), h.bel.trans (hg.mono h.bel.size), h.new⟩
theorem OwnL.grow {e : Nat} {w W W0 W' : World} {v v' : Value} {l m : List α} (h : OwnL enc k e w W v l) (hg : Bel W W0) (ho : W'.ownsRow 0 e k v' (l.length + m.length) (flatL enc l ++ flatL enc m)) (hf : Fr v.ownBlock.toList W0 W') (hn : ∀ g, v'.ownBlock = some g → v.ownBlock = some g ∨ W0.heap.size ≤ g) : OwnL enc k e w W' v' (l ++ m) := by
  have h0 := h.bel' hg
  have hs := h0.bel.size
  refine ⟨by rw [flat_append, List.length_append]; exact ho, h0.bel.trans (hf.below (fun k hk => h.new k (by simpa using hk)) hs), fun g hg => ?_⟩
  rcases hn g hg with e | e
  · exact h.new g e
  · omega
theorem OwnL.push {e : Nat} {w W W0 W' : World} {v v' : Value} {l : List α} {x : α} (h : OwnL enc k e w W v l) (hg : Bel W W0) (ho : W'.ownsRow 0 e k v' (l.length + 1) (flatL enc l ++ enc x)) (hf : Fr v.ownBlock.toList W0 W') (hn : ∀ g, v'.ownBlock = some g → v.ownBlock = some g ∨ W0.heap.size ≤ g) : OwnL enc k e w W' v' (l ++ [x]) :=
  h.grow (m := [x]) hg (by rw [flat_one]; exact ho) hf hn
theorem OwnL.value {e : Nat} {w W : World} {v : Value} {l : List α} (h : OwnL enc k e w W v l) : ∃ A ca, v = .slice A l.length ca := by
  obtain ⟨p, cap, e, _, _⟩ := row_any h.row
  exact ⟨p, cap, e⟩
theorem OwnL.slice (E : EncK enc k) {e : Nat} {w W : World} {A : Option Addr} {n ca : Nat} {l : List α} (h : OwnL enc k e w W (.slice A n ca) l) : SliceAt enc k W A ca l := by
  have hr := h.row
  obtain ⟨p, cap, e1, hc, _⟩ := row_any hr
  injection e1 with e1 e2 e3
  subst e1 e2 e3
  refine ⟨ItemsAt.of_row E hr, hc, fun e => ?_, fun a e _ => ?_⟩
  · rcases hr.2 with ⟨e1, _⟩ | ⟨g, cap, cur, e1, _⟩
    · injection e1
    · injection e1 with e1; rw [e] at e1; cases e1
  · rcases hr.2 with ⟨e1, _⟩ | ⟨g, cap, cur, e1, _⟩
    · injection e1 with e1; rw [e] at e1; cases e1
    · injection e1 with e1; rw [e] at e1; injection e1 with e1; exact ⟨_, _, e1⟩
theorem OwnL.len {e : Nat} {w W : World} {A : Option Addr} {n ca : Nat} {l : List α} (h : OwnL enc k e w W (.slice A n ca) l) : n = l.length := by
  obtain ⟨p, cap, e1, hc, _⟩ := row_any h.row
  injection e1
theorem OwnL.apart {e : Nat} {w W : World} {v : Value} {l : List α} (h : OwnL enc k e w W v l) {b : Nat} (hb : b < w.heap.size) : b ∉ v.ownBlock.toList := fun hm => by
  have := h.new b (by simpa using hm); omega
/-- a literal of items -/
theorem SliceAt.lit (E : EncK enc k) (w : World) (e : TypeId) (l : List α) (cs : Array Value) (hcs : cs.toList = flatL enc l) : SliceAt enc k (w.alloc (.cells cs e)) (some ⟨w.heap.size, 0, Option.none⟩) l.length l := by
  refine ⟨ItemsAt.of_load E (by simp) (fun j v hj => ?_), Nat.le_refl _, (fun h => by cases h), fun a h _ => ⟨_, _, (by injection h with h; exact h.symm)⟩⟩
  rw [Nat.zero_add]
  rw [← hcs] at hj
  have hj' : cs[j]? = some v := by simpa using hj
  exact cell_of_block (heap_alloc_new w (.cells cs e)) hj'
end
end Go.Proofs.Ytamghlneoglfnaa
