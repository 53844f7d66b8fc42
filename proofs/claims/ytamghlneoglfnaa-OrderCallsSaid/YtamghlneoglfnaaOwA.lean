/-
  Words on memory that a call owns: which blocks were turned; a map with string keys as a function and a count. No condition.
-/
import Derived.WalkKit
import Derived.Below
import Derived.Maps.OwnSet
import Derived.Lib.Hide
import Derived.Laws.AppendOwn
import Derived.Deep.Draws
import Derived.WideKeyMaps
import Derived.ChangeKeysEq
namespace Go.Proofs.Ytamghlneoglfnaa
open Go.RowKit Go.ChangeMaps

/-- of what was there only the blocks F may have been turned -/
structure Fr (F : List Nat) (w w' : World) : Prop where
  os : w'.os = w.os
  tape : w'.tape = w.tape
  output : w'.output = w.output
  size : w.heap.size ≤ w'.heap.size
  block : ∀ k, k < w.heap.size → k ∉ F → w'.heap[k]? = w.heap[k]?

theorem Fr.refl (F : List Nat) (w : World) : Fr F w w := ⟨rfl, rfl, rfl, Nat.le_refl _, fun _ _ _ => rfl⟩
theorem Fr.trans {F : List Nat} {a b c : World} (h : Fr F a b) (k : Fr F b c) : Fr F a c :=
  ⟨k.os.trans h.os, k.tape.trans h.tape, k.output.trans h.output, Nat.le_trans h.size k.size, fun i hi hn => (k.block i (Nat.lt_of_lt_of_le hi h.size) hn).trans (h.block i hi hn)⟩
theorem Fr.wider {F G : List Nat} {a b : World} (h : Fr F a b) (hs : ∀ k ∈ F, k ∈ G ∨ a.heap.size ≤ k) : Fr G a b :=
  ⟨h.os, h.tape, h.output, h.size, fun i hi hn => h.block i hi (fun hm => by rcases hs i hm with g | g; exact hn g; omega)⟩
/-- a step that turns blocks F behind steps that turn G: F are among G or new since the start -/
theorem Fr.step {F G : List Nat} {a b c : World} (h : Fr G a b) (k : Fr F b c) (hs : ∀ j ∈ F, j ∈ G ∨ a.heap.size ≤ j) : Fr G a c :=
  ⟨k.os.trans h.os, k.tape.trans h.tape, k.output.trans h.output, Nat.le_trans h.size k.size, fun i hi hn =>
    (k.block i (Nat.lt_of_lt_of_le hi h.size) (fun hm => by rcases hs i hm with g | g; exact hn g; omega)).trans (h.block i hi hn)⟩
theorem Fr.below {F : List Nat} {B : Nat} {a b : World} (h : Fr F a b) (hF : ∀ k ∈ F, B ≤ k) (hB : B ≤ a.heap.size) : Below B a b :=
  ⟨h.os, h.tape, h.output, h.size, fun k hk => h.block k (by omega) (fun hm => by have := hF k hm; omega)⟩
theorem Fr.of_below {F : List Nat} {a b : World} (h : Below a.heap.size a b) : Fr F a b :=
  ⟨h.os, h.tape, h.output, h.size, fun k hk _ => h.block k hk⟩
theorem Fr.of_grown {F : List Nat} {a b : World} {row : Option Nat} (h : a.grownBy b row) (hr : ∀ k, row = some k → k ∈ F) : Fr F a b :=
  ⟨h.os, h.tape, h.output, h.size, fun k hk hn => h.block k hk (fun e => hn (hr k e.symm))⟩
theorem Fr.alloc (F : List Nat) (w : World) (o : Obj) : Fr F w (w.alloc o) := Fr.of_grown (World.grownBy_alloc w o none) (fun _ h => by cases h)
theorem Fr.drew (F : List Nat) (w : World) : Fr F w w.drew := ⟨rfl, rfl, rfl, Nat.le_refl _, fun _ _ _ => rfl⟩
theorem Fr.drewN (F : List Nat) (w : World) (n : Nat) : Fr F w (w.drewN n) := by
  induction n with
  | zero => exact Fr.refl _ _
  | succ n ih => exact ih.trans (Fr.drew _ _)
/-- draws set aside -/
theorem Fr.like {F : List Nat} {a b b' : World} (h : Fr F a b) (hh : b'.heap = b.heap ∧ b'.tape = b.tape ∧ b'.os = b.os ∧ b'.output = b.output) : Fr F a b' := by
  obtain ⟨h1, h2, h3, h4⟩ := hh
  exact ⟨h3.trans h.os, h2.trans h.tape, h4.trans h.output, by rw [h1]; exact h.size, fun k hk hn => by rw [h1]; exact h.block k hk hn⟩
theorem Fr.like_left {F : List Nat} {a a' b : World} (h : Fr F a b) (hh : a'.heap = a.heap ∧ a'.tape = a.tape ∧ a'.os = a.os ∧ a'.output = a.output) : Fr F a' b := by
  obtain ⟨h1, h2, h3, h4⟩ := hh
  exact ⟨h.os.trans h3.symm, h.tape.trans h2.symm, h.output.trans h4.symm, by rw [h1]; exact h.size, fun k hk hn => by rw [h1] at hk ⊢; exact h.block k hk hn⟩
theorem Fr.setCell {F : List Nat} (w : World) {p : Addr} (h : p.block ∈ F) (u : Value) : Fr F w (w.setCell p u) :=
  ⟨rfl, rfl, rfl, by simp [World.setCell], fun k _ hn => Below.heap_setCell _ _ _ _ (fun e => hn (e ▸ h))⟩
theorem Fr.setBlock {F : List Nat} (w : World) {b : Nat} (h : b ∈ F) (o : Obj) : Fr F w (setBlock w b o) :=
  ⟨rfl, rfl, rfl, by simp [ChangeMaps.setBlock], fun k _ hn => heap_setBlock_other' w b o k (fun e => hn (e ▸ h))⟩
  where
    heap_setBlock_other' (w : World) (b : Nat) (o : Obj) (k : Nat) (h : k ≠ b) : (ChangeMaps.setBlock w b o).heap[k]? = w.heap[k]? := by
      simp [ChangeMaps.setBlock, Ne.symm h]
theorem Fr.at {F : List Nat} {w w' : World} (h : Fr F w w') {k : Nat} (hn : k ∉ F) {o : Obj} (ho : w.heap[k]? = some o) : w'.heap[k]? = some o :=
  (h.block k (Array.getElem?_eq_some_iff.1 ho).1 hn).trans ho
theorem Fr.owns {F : List Nat} {w w' : World} (h : Fr F w w') {base e size n : Nat} {v : Value} {xs : List Value} (ho : w.ownsRow base e size v n xs) (hn : ∀ k, v.ownBlock = some k → k ∉ F) : w'.ownsRow base e size v n xs := by
  obtain ⟨h1, h2⟩ := ho
  refine ⟨h1, ?_⟩
  rcases h2 with h2 | ⟨g, cap, cur, rfl, hg, hh, r⟩
  · exact .inl h2
  · exact .inr ⟨g, cap, cur, rfl, hg, h.at (hn g rfl) hh, r⟩
/-- a block that lies -/
theorem lt_of_at {w : World} {k : Nat} {o : Obj} (h : w.heap[k]? = some o) : k < w.heap.size := (Array.getElem?_eq_some_iff.1 h).1

/-- block b is a map whose keys are strings: f says what each holds, n how many there are -/
def SMap (w : World) (b : Nat) (f : ByteArray → Option Value) (n : Nat) : Prop :=
  ∃ (es : Array MapEntry) (clock : Nat), w.heap[b]? = some (.map es clock) ∧ (∀ e ∈ es.toList, ∃ s : ByteArray, e.key = .string s ∧ s.size ≤ maxLen) ∧
    es.toList.Pairwise (fun x y => x.key ≠ y.key) ∧ n = es.size ∧ ∀ s v, f s = some v ↔ ∃ e ∈ es.toList, e.key = .string s ∧ e.val = v

theorem SMap.fr {F : List Nat} {w w' : World} {b n : Nat} {f : ByteArray → Option Value} (h : SMap w b f n) (hf : Fr F w w') (hn : b ∉ F) : SMap w' b f n := by
  obtain ⟨es, clock, hb, r⟩ := h
  exact ⟨es, clock, hf.at hn hb, r⟩
theorem SMap.lt {w : World} {b n : Nat} {f : ByteArray → Option Value} (h : SMap w b f n) : b < w.heap.size := by
  obtain ⟨es, clock, hb, r⟩ := h
  exact lt_of_at hb
theorem SMap.made (w : World) : SMap (w.alloc (.map #[] 0)) w.heap.size (fun _ => none) 0 :=
  ⟨#[], 0, (MapKept.heap_alloc w _).1, by simp, by simp, rfl, by simp⟩

section
variable {P : Program} {w : World} {b n : Nat} {f : ByteArray → Option Value} {t k e : TypeId}

theorem SMap.find (h : SMap w b f n) (hk : P.underlying k = some .string) {s : ByteArray} (hs : s.size ≤ maxLen) : ∃ (es : Array MapEntry) (clock : Nat), w.heap[b]? = some (.map es clock) ∧ n = es.size ∧
    (∀ em, (Instr.checkKey em 10000 k (.string s)).run P w = .ok () w) ∧ (Instr.keyThatStays (.string s) (.string s)).run P w = .ok (.string s) w ∧
    (((Instr.findKey k (.string s) es.toList).run P w = .ok none w ∧ f s = none) ∨ ∃ j e0, (Instr.findKey k (.string s) es.toList).run P w = .ok (some (j, e0.val)) w ∧ es.toList[j]? = some e0 ∧ e0.key = .string s ∧ f s = some e0.val) := by
  obtain ⟨es, clock, hb, hkeys, hpw, hn, hf⟩ := h
  have K := Maps.string_keyed (P := P) hk
  have hkey := WideMaps.keyOf_string_mk hk hs
  refine ⟨es, clock, hb, hn, fun em => K.check w em hkey, K.stays w hkey, ?_⟩
  rcases K.find w hkey es.toList (fun e he => by obtain ⟨s', h1, h2⟩ := hkeys e he; exact ⟨_, by rw [h1]; exact WideMaps.keyOf_string_mk hk h2⟩) with ⟨h1, h2⟩ | ⟨j, e0, h1, h2, h3⟩
  · refine .inl ⟨h1, ?_⟩
    cases hfs : f s with
    | none => rfl
    | some v =>
      obtain ⟨e1, he1, hk1, _⟩ := (hf s v).1 hfs
      exact absurd hk1 (h2 e1 he1)
  · exact .inr ⟨j, e0, h1, h2, h3, (hf s e0.val).2 ⟨e0, List.mem_of_getElem? h2, h3, rfl⟩⟩

/-- 'v, ok := m[s]' -/
theorem SMap.look_ok (h : SMap w b f n) (ht : P.underlying t = some (.map k e)) (hk : P.underlying k = some .string) {z : Value} (hz : (zeroValue e).run P w = .ok z w) {s : ByteArray} (hs : s.size ≤ maxLen) :
    (Instr.lookup t (.map (some b)) (.string s) true).run P w = .ok (.tuple #[(f s).getD z, .bool (f s).isSome]) w := by
  obtain ⟨es, clock, hb, _, hc, _, ⟨h1, h2⟩ | ⟨j, e0, h1, _, _, h2⟩⟩ := h.find hk hs
  · simp [Instr.lookup, run_underlying ht, MapKept.run_getObj_map hb, hc, h1, hz, h2, Result.andThen]
  · simp [Instr.lookup, run_underlying ht, MapKept.run_getObj_map hb, hc, h1, h2, Result.andThen]
/-- 'm[s]' -/
theorem SMap.look (h : SMap w b f n) (ht : P.underlying t = some (.map k e)) (hk : P.underlying k = some .string) {z : Value} (hz : (zeroValue e).run P w = .ok z w) {s : ByteArray} (hs : s.size ≤ maxLen) :
    (Instr.lookup t (.map (some b)) (.string s) false).run P w = .ok ((f s).getD z) w := by
  obtain ⟨es, clock, hb, _, hc, _, ⟨h1, h2⟩ | ⟨j, e0, h1, _, _, h2⟩⟩ := h.find hk hs
  · simp [Instr.lookup, run_underlying ht, MapKept.run_getObj_map hb, hc, h1, hz, h2, Result.andThen]
  · simp [Instr.lookup, run_underlying ht, MapKept.run_getObj_map hb, hc, h1, h2, Result.andThen]
/-- 'len(m)' -/
theorem SMap.len (h : SMap w b f n) (ht : P.underlying t = some (.map k e)) (ty : TypeId) : (Builtin.len_ #[t] ty #[.map (some b)]).run P w = .ok (.int .i64 n) w := by
  obtain ⟨es, clock, hb, _, _, hn, _⟩ := h
  subst hn
  simp [Builtin.len_, run_underlying ht, MapKept.run_getObj_map hb, goInt, Result.andThen]

def putM (f : ByteArray → Option Value) (s : ByteArray) (v : Value) : ByteArray → Option Value := fun x => if x = s then some v else f x
def delM (f : ByteArray → Option Value) (s : ByteArray) : ByteArray → Option Value := fun x => if x = s then none else f x

/-- 'm[s] = v' -/
theorem SMap.store (h : SMap w b f n) (ht : P.underlying t = some (.map k e)) (hk : P.underlying k = some .string) {s : ByteArray} (hs : s.size ≤ maxLen) (v : Value) :
    ∃ o, (Instr.mapUpdate t (.map (some b)) (.string s) v).run P w = .ok () (setBlock w b o) ∧ SMap (setBlock w b o) b (putM f s v) (if (f s).isSome then n else n + 1) := by
  have h0 := h
  obtain ⟨es, clock, hb, hn, hc, hst, hfind⟩ := h.find (P := P) hk hs
  obtain ⟨es', clock', hb', hkeys, hpw, _, hf⟩ := h0
  obtain ⟨rfl, rfl⟩ : es' = es ∧ clock' = clock := by rw [hb] at hb'; injection hb' with h; injection h with h1 h2; exact ⟨h1.symm, h2.symm⟩
  rcases hfind with ⟨h1, h2⟩ | ⟨j, e0, h1, h3, h4, h2⟩
  · refine ⟨.map (es'.push ⟨.string s, v, clock'⟩) (clock' + 1), ?_, es'.push ⟨.string s, v, clock'⟩, clock' + 1, ?_, ?_, ?_, ?_, ?_⟩
    · simp [Instr.mapUpdate, run_underlying ht, MapKept.run_getObj_map hb, hc, h1, MapKept.run_setObj_map _ hb, Result.andThen, ChangeMaps.setBlock]
    · exact heap_setBlock_same hb _
    · intro x hx
      simp only [Array.toList_push, List.mem_append, List.mem_singleton] at hx
      rcases hx with hx | rfl
      · exact hkeys x hx
      · exact ⟨s, rfl, hs⟩
    · rw [Array.toList_push, List.pairwise_append]
      refine ⟨hpw, by simp, fun x hx y hy => ?_⟩
      simp only [List.mem_singleton] at hy
      subst hy
      intro hxs
      have := (hf s x.val).2 ⟨x, hx, hxs, rfl⟩
      rw [h2] at this; cases this
    · rw [h2]; simp [hn]
    · intro s' v'
      simp only [Array.toList_push, List.mem_append, List.mem_singleton, putM]
      by_cases hss : s' = s
      · subst hss
        rw [if_pos rfl]
        constructor
        · intro hv; cases hv; exact ⟨_, .inr rfl, rfl, rfl⟩
        · rintro ⟨x, hx | rfl, hxk, hxv⟩
          · have := (hf s' v').2 ⟨x, hx, hxk, hxv⟩
            rw [h2] at this; cases this
          · rw [← hxv]
      · rw [if_neg hss, hf]
        constructor
        · rintro ⟨x, hx, hr⟩; exact ⟨x, .inl hx, hr⟩
        · rintro ⟨x, hx | rfl, hxk, hxv⟩
          · exact ⟨x, hx, hxk, hxv⟩
          · simp at hxk; exact absurd hxk.symm hss
  · have hjl : j < es'.size := by have := (List.getElem?_eq_some_iff.1 h3).1; simpa using this
    have hj : es'[j]? = some e0 := by simpa using h3
    have hlist : (es'.modify j fun e' => { e' with key := .string s, val := v }).toList = es'.toList.set j ⟨.string s, v, e0.born⟩ := by
      rw [Array.toList_modify]
      apply List.ext_getElem?
      intro i
      rw [List.getElem?_modify, List.getElem?_set]
      by_cases hij : j = i
      · subst hij; rw [h3]; simp [hjl]
      · simp [hij]
    have hkeq : ∀ i x y, es'.toList[i]? = some x → (es'.toList.set j ⟨.string s, v, e0.born⟩)[i]? = some y → y.key = x.key ∧ (i ≠ j → y = x) := by
      intro i x y hx hy
      rw [List.getElem?_set] at hy
      by_cases hij : j = i
      · subst hij
        rw [h3] at hx; cases hx
        rw [if_pos rfl, if_pos (by simpa using hjl)] at hy
        cases hy
        exact ⟨h4.symm, fun h => absurd rfl h⟩
      · rw [if_neg hij, hx] at hy
        cases hy
        exact ⟨rfl, fun _ => rfl⟩
    refine ⟨.map (es'.modify j fun e' => { e' with key := .string s, val := v }) clock', ?_, _, clock', heap_setBlock_same hb _, ?_, ?_, ?_, ?_⟩
    · have hkk : ((es'[j]?).map (·.key)).getD (.string s) = .string s := by rw [hj]; exact h4
      simp [Instr.mapUpdate, run_underlying ht, MapKept.run_getObj_map hb, hc, h1, MapKept.run_setObj_map _ hb, Result.andThen, ChangeMaps.setBlock, hj, h4, hst]
    · intro x hx
      rw [hlist] at hx
      rcases List.mem_or_eq_of_mem_set hx with hx | rfl
      · exact hkeys x hx
      · exact ⟨s, rfl, hs⟩
    · rw [hlist]
      have hmap : (es'.toList.set j ⟨.string s, v, e0.born⟩).map (·.key) = es'.toList.map (·.key) := by
        rw [List.map_set]
        have : (es'.toList.map (·.key)).set j (Value.string s) = es'.toList.map (·.key) := by
          apply List.ext_getElem?
          intro i
          rw [List.getElem?_set]
          split
          · rename_i hij; subst hij
            rw [if_pos (by simpa using hjl), List.getElem?_map, h3]; simp [h4]
          · rfl
        exact this
      have h5 := List.pairwise_map.2 hpw
      rw [← hmap] at h5
      exact List.pairwise_map.1 h5
    · rw [h2]; simp [hn]
    · intro s' v'
      rw [hlist]
      simp only [putM]
      by_cases hss : s' = s
      · subst hss
        rw [if_pos rfl]
        constructor
        · intro hv; cases hv
          exact ⟨⟨.string s', v, e0.born⟩, List.mem_iff_getElem?.2 ⟨j, by rw [List.getElem?_set]; simp [hjl]⟩, rfl, rfl⟩
        · rintro ⟨x, hx, hxk, hxv⟩
          obtain ⟨i, hi⟩ := List.mem_iff_getElem?.1 hx
          by_cases hij : i = j
          · subst hij
            rw [List.getElem?_set_self (by simpa using hjl)] at hi
            cases hi; rw [← hxv]
          · rw [List.getElem?_set_ne (Ne.symm hij)] at hi
            exfalso
            have hil := (List.getElem?_eq_some_iff.1 hi).1
            have hd := List.pairwise_iff_getElem.1 hpw
            have hjl' : j < es'.toList.length := by simpa using hjl
            have g1 : es'.toList[i] = x := (List.getElem?_eq_some_iff.1 hi).2
            have g2 : es'.toList[j] = e0 := (List.getElem?_eq_some_iff.1 h3).2
            rcases Nat.lt_or_gt_of_ne hij with hlt | hlt
            · exact hd i j hil hjl' hlt (by rw [g1, g2, hxk, h4])
            · exact hd j i hjl' hil hlt (by rw [g1, g2, hxk, h4])
      · rw [if_neg hss, hf]
        constructor
        · rintro ⟨x, hx, hxk, hxv⟩
          obtain ⟨i, hi⟩ := List.mem_iff_getElem?.1 hx
          have hij : i ≠ j := by
            rintro rfl
            rw [h3] at hi; cases hi
            rw [h4] at hxk; injection hxk with hxk; exact hss hxk.symm
          exact ⟨x, List.mem_iff_getElem?.2 ⟨i, by rw [List.getElem?_set_ne (Ne.symm hij)]; exact hi⟩, hxk, hxv⟩
        · rintro ⟨x, hx, hxk, hxv⟩
          rcases List.mem_or_eq_of_mem_set hx with hx | rfl
          · exact ⟨x, hx, hxk, hxv⟩
          · simp at hxk; exact absurd hxk.symm hss

/-- 'delete(m, s)' -/
theorem SMap.drop (h : SMap w b f n) (ht : P.underlying t = some (.map k e)) (hk : P.underlying k = some .string) {s : ByteArray} (hs : s.size ≤ maxLen) (ty : TypeId) :
    ∃ o, (Builtin.delete_ #[t, k] ty #[.map (some b), .string s]).run P w = .ok (.tuple #[]) (setBlock w b o) ∧ SMap (setBlock w b o) b (delM f s) (if (f s).isSome then n - 1 else n) := by
  have h0 := h
  obtain ⟨es, clock, hb, hn, hc, hst, hfind⟩ := h.find (P := P) hk hs
  obtain ⟨es', clock', hb', hkeys, hpw, _, hf⟩ := h0
  obtain ⟨rfl, rfl⟩ : es' = es ∧ clock' = clock := by rw [hb] at hb'; injection hb' with h; injection h with h1 h2; exact ⟨h1.symm, h2.symm⟩
  rcases hfind with ⟨h1, h2⟩ | ⟨j, e0, h1, h3, h4, h2⟩
  · refine ⟨.map es' clock', ?_, es', clock', heap_setBlock_same hb _, hkeys, hpw, by rw [h2]; simp [hn], ?_⟩
    · simp [Builtin.delete_, run_underlying ht, MapKept.run_getObj_map hb, hc, h1, MapKept.run_setObj_map _ hb, Result.andThen, ChangeMaps.setBlock]
    · intro s' v'
      simp only [delM]
      by_cases hss : s' = s
      · subst hss
        rw [if_pos rfl, ← hf, h2]
      · rw [if_neg hss, hf]
  · have hjl : j < es'.toList.length := (List.getElem?_eq_some_iff.1 h3).1
    have hjs : j < es'.size := by simpa using hjl
    have hsub : (es'.eraseIdxIfInBounds j).toList = es'.toList.eraseIdx j := by
      unfold Array.eraseIdxIfInBounds
      rw [dif_pos hjs]
      simp
    refine ⟨.map (es'.eraseIdxIfInBounds j) clock', ?_, _, clock', heap_setBlock_same hb _, ?_, ?_, ?_, ?_⟩
    · simp [Builtin.delete_, run_underlying ht, MapKept.run_getObj_map hb, hc, h1, MapKept.run_setObj_map _ hb, Result.andThen, ChangeMaps.setBlock]
    · intro x hx
      rw [hsub] at hx
      exact hkeys x ((List.eraseIdx_sublist _ _).subset hx)
    · rw [hsub]; exact hpw.sublist (List.eraseIdx_sublist _ _)
    · have : (es'.eraseIdxIfInBounds j).size = es'.size - 1 := by
        rw [← Array.length_toList, hsub, List.length_eraseIdx, if_pos hjl, Array.length_toList]
      rw [this, h2]; simp [hn]
    · intro s' v'
      rw [hsub]
      simp only [delM]
      have hd := List.pairwise_iff_getElem.1 hpw
      have g2 : es'.toList[j] = e0 := (List.getElem?_eq_some_iff.1 h3).2
      by_cases hss : s' = s
      · subst hss
        rw [if_pos rfl]
        constructor
        · intro hv; cases hv
        · rintro ⟨x, hx, hxk, hxv⟩
          exfalso
          obtain ⟨i, hi, hij, g1⟩ : ∃ (i : Nat) (hi : i < es'.toList.length), i ≠ j ∧ es'.toList[i] = x := by
            obtain ⟨i, hi⟩ := List.mem_iff_getElem?.1 hx
            rw [List.getElem?_eraseIdx] at hi
            split at hi
            · rename_i hlt
              exact ⟨i, (List.getElem?_eq_some_iff.1 hi).1, by omega, (List.getElem?_eq_some_iff.1 hi).2⟩
            · rename_i hge
              exact ⟨i + 1, (List.getElem?_eq_some_iff.1 hi).1, by omega, (List.getElem?_eq_some_iff.1 hi).2⟩
          rcases Nat.lt_or_gt_of_ne hij with hlt | hlt
          · exact hd i j hi hjl hlt (by rw [g1, g2, hxk, h4])
          · exact hd j i hjl hi hlt (by rw [g1, g2, hxk, h4])
      · rw [if_neg hss, hf]
        constructor
        · rintro ⟨x, hx, hxk, hxv⟩
          refine ⟨x, ?_, hxk, hxv⟩
          obtain ⟨i, hi⟩ := List.mem_iff_getElem?.1 hx
          have hij : i ≠ j := by
            rintro rfl
            rw [h3] at hi; cases hi
            rw [h4] at hxk; injection hxk with hxk; exact hss hxk.symm
          apply List.mem_iff_getElem?.2
          rcases Nat.lt_or_gt_of_ne hij with hlt | hlt
          · exact ⟨i, by rw [List.getElem?_eraseIdx_of_lt hlt]; exact hi⟩
          · exact ⟨i - 1, by rw [List.getElem?_eraseIdx_of_ge (by omega)]; rw [show i - 1 + 1 = i by omega]; exact hi⟩
        · rintro ⟨x, hx, hr⟩
          exact ⟨x, (List.eraseIdx_sublist _ _).subset hx, hr⟩
end

section
variable {P : Program} (w : World) {ops : Array Oper} {rest : List Oper} {o : Oper} {a : Act} {Q : Exit → Act → World → Prop}

theorem wpList_store_mine (hg : o.guard = none) (m x v : Operand) (t : TypeId) (hop : o.op = Op.mapUpdate t m x v) (k e : TypeId) (ht : P.underlying t = some (.map k e)) (hk : P.underlying k = some .string)
    (b n : Nat) (f : ByteArray → Option Value) (hm : a.eval m = .map (some b)) (hown : SMap w b f n) (s : ByteArray) (val : Value) (hx : a.eval x = .string s) (hv : a.eval v = val) (hs : s.size ≤ maxLen)
    (hK : ∀ w', SMap w' b (putM f s val) (if (f s).isSome then n else n + 1) → Fr [b] w w' → wpList P ops Q rest (a.put o.dst undef) w') :
    wpList P ops Q (o :: rest) a w := by
  refine wpList_plain hg fun K' hK' => ?_
  obtain ⟨ob, hrun, r1⟩ := hown.store (P := P) ht hk hs val
  unfold Oper.wp
  simp [execOp, hop, hm, hx, hv, hrun, Result.andThen]
  exact hK' _ _ (hK _ r1 (Fr.setBlock w (List.mem_singleton.2 rfl) _))
theorem wpList_drop_mine (hg : o.guard = none) (m x : Operand) (t k : TypeId) (hop : o.op = Op.call { callee := Callee.builtin Builtin.delete, args := #[m, x], argTypes := #[t, k] }) (e : TypeId) (ht : P.underlying t = some (.map k e)) (hk : P.underlying k = some .string)
    (b n : Nat) (f : ByteArray → Option Value) (hm : a.eval m = .map (some b)) (hown : SMap w b f n) (s : ByteArray) (hx : a.eval x = .string s) (hs : s.size ≤ maxLen)
    (hK : ∀ w', SMap w' b (delM f s) (if (f s).isSome then n - 1 else n) → Fr [b] w w' → wpList P ops Q rest (a.put o.dst (.tuple #[])) w') :
    wpList P ops Q (o :: rest) a w := by
  refine wpList_plain hg fun K' hK' => ?_
  obtain ⟨ob, hrun, r1⟩ := hown.drop (P := P) ht hk hs o.type
  unfold Oper.wp
  simp [execOp, hop, resolve, invoke, builtin, hm, hx, hrun, Result.andThen]
  exact hK' _ _ (hK _ r1 (Fr.setBlock w (List.mem_singleton.2 rfl) _))
end

section
variable {P : Program} (w : World)
/-- append to a slice that is nil or the call's own: the same, and where the new value lies -/
theorem run_append_mine (t ty e : TypeId) (i : TypeInfo) (z : Value) (size bytes : Nat) (ht : P.underlying t = some (.slice e)) (hi : P.info? e = some i) (hz : i.zero = some z)
    (hsize : i.size = size) (hby : i.bytes = bytes) (hzs : z.cells.size = size) (hsz : 0 < size)
    (v : Value) (n : Nat) (xs : List Value) (hown : w.ownsRow 0 e size v n xs)
    (a : Addr) (m c : Nat) (news : List Value) (hl : news.length = m * size) (hnews : ∀ j u, news[j]? = some u → w.cell? (a.add j) = some u) (h1 : ∀ u ∈ news, u.oneCell' = true)
    (h63 : n + m ≤ maxLen) (hbytes : (n + m) * bytes ≤ 140737488355328) :
    ∃ v' w', (Builtin.append_ #[t, t] ty #[v, .slice (some a) m c]).run P w = .ok v' w' ∧ w'.ownsRow 0 e size v' (n + m) (xs ++ news) ∧ Fr v.ownBlock.toList w w' ∧
      (∀ g, v'.ownBlock = some g → v.ownBlock = some g ∨ w.heap.size ≤ g) ∧ (v' = .slice none 0 0 ↔ v = .slice none 0 0 ∧ m = 0) := by
  obtain ⟨v', w', hr, h2, h3, h4⟩ := run_append_own (P := P) w 0 t ty e i z size bytes ht hi hz hsize hby hzs hsz v n xs hown a m c news hl hnews h1 h63 hbytes (Nat.zero_le _)
  refine ⟨v', w', hr, h2, Fr.of_grown h3 (fun k hk => by simp [hk]), ?_, h4⟩
  intro g hg
  rcases hown.2 with ⟨rfl, rfl⟩ | ⟨g0, cap, cur, rfl, hb, hgg, hnc, hcm, hcs, htake⟩
  · obtain rfl : xs = [] := List.eq_nil_of_length_eq_zero (by simpa using hown.1)
    obtain ⟨v2, w2, hr2, h22, _, _⟩ := run_append_own (P := P) w w.heap.size t ty e i z size bytes ht hi hz hsize hby hzs hsz (.slice none 0 0) 0 [] (World.ownsRow_nil _ _ _ _) a m c news hl hnews h1 h63 hbytes (Nat.le_refl _)
    rw [hr] at hr2
    injection hr2 with e1 e2
    subst e1
    exact .inr (h22.lt g hg).1
  · by_cases hroom : n + m ≤ cap
    · subst hsize
      have hfit : n * i.size + news.length ≤ cur.size := by rw [hl, hcs, ← Nat.add_mul]; exact Nat.mul_le_mul_right _ hroom
      have hr2 := run_append_room (P := P) w t ty e i ht hi g0 n cap cur hgg a m c news hl hnews h1 hroom hfit
      rw [hr] at hr2
      injection hr2 with e1 e2
      subst e1
      left
      simpa [Value.ownBlock] using hg
    · subst hsize
      subst hby
      have holds : ∀ j u, xs[j]? = some u → w.cell? ((⟨g0, 0, none⟩ : Addr).add j) = some u := hown.cells (g := g0) rfl
      have hr2 := run_append_grow (P := P) w t ty e i z ht hi hz ⟨g0, 0, none⟩ n cap xs hown.1 holds a m c news hl hnews (by omega) (by unfold maxLen at h63; omega) (growslice_fits (by omega) hbytes)
      rw [hr] at hr2
      injection hr2 with e1 e2
      subst e1
      right
      simp [Value.ownBlock] at hg
      omega

variable {ops : Array Oper} {rest : List Oper} {o : Oper} {a : Act} {Q : Exit → Act → World → Prop}
theorem wp_append_mine {K : Act → World → Prop} (s x : Operand) (t : TypeId) (ho : o.op = .call { callee := .builtin .append, args := #[s, x], argTypes := #[t, t] })
    (e : TypeId) (i : TypeInfo) (z : Value) (size bytes : Nat) (ht : P.underlying t = some (.slice e)) (hi : P.info? e = some i) (hz : i.zero = some z)
    (hsize : i.size = size) (hby : i.bytes = bytes) (hzs : z.cells.size = size) (hsz : 0 < size)
    (v : Value) (n : Nat) (xs : List Value) (hs : a.eval s = v) (hown : w.ownsRow 0 e size v n xs)
    (ad : Addr) (m c : Nat) (news : List Value) (hx : a.eval x = .slice (some ad) m c) (hl : news.length = m * size) (hnews : ∀ j u, news[j]? = some u → w.cell? (ad.add j) = some u) (h1 : ∀ u ∈ news, u.oneCell' = true)
    (h63 : n + m ≤ maxLen) (hbytes : (n + m) * bytes ≤ 140737488355328)
    (h : ∀ v' w', w'.ownsRow 0 e size v' (n + m) (xs ++ news) → Fr v.ownBlock.toList w w' → (∀ g, v'.ownBlock = some g → v.ownBlock = some g ∨ w.heap.size ≤ g) → K (a.put o.dst v') w') : o.wp P a w K Q := by
  obtain ⟨v', w', hr, h2, h3, h4, _⟩ := run_append_mine (P := P) w t o.type e i z size bytes ht hi hz hsize hby hzs hsz v n xs hown ad m c news hl hnews h1 h63 hbytes
  unfold Oper.wp execOp
  simp only [ho, resolve, invoke, builtin, Sem.run_bind, Sem.run_pure, Result.andThen_ok, List.map_toArray, List.map_cons, List.map_nil, hs, hx, hr]
  exact h v' w' h2 h3 h4
theorem wpList_append_mine (hgd : o.guard = none) (s x : Operand) (t : TypeId) (ho : o.op = .call { callee := .builtin .append, args := #[s, x], argTypes := #[t, t] })
    (e : TypeId) (i : TypeInfo) (z : Value) (size bytes : Nat) (ht : P.underlying t = some (.slice e)) (hi : P.info? e = some i) (hz : i.zero = some z)
    (hsize : i.size = size) (hby : i.bytes = bytes) (hzs : z.cells.size = size) (hsz : 0 < size)
    (v : Value) (n : Nat) (xs : List Value) (hs : a.eval s = v) (hown : w.ownsRow 0 e size v n xs)
    (ad : Addr) (m c : Nat) (news : List Value) (hx : a.eval x = .slice (some ad) m c) (hl : news.length = m * size) (hnews : ∀ j u, news[j]? = some u → w.cell? (ad.add j) = some u) (h1 : ∀ u ∈ news, u.oneCell' = true)
    (h63 : n + m ≤ maxLen) (hbytes : (n + m) * bytes ≤ 140737488355328)
    (h : ∀ v' w', w'.ownsRow 0 e size v' (n + m) (xs ++ news) → Fr v.ownBlock.toList w w' → (∀ g, v'.ownBlock = some g → v.ownBlock = some g ∨ w.heap.size ≤ g) → wpList P ops Q rest (a.put o.dst v') w') : wpList P ops Q (o :: rest) a w :=
  wpList_plain hgd fun _ hK => wp_append_mine w s x t ho e i z size bytes ht hi hz hsize hby hzs hsz v n xs hs hown ad m c news hx hl hnews h1 h63 hbytes fun v' w' h2 h3 h4 => hK _ _ (h v' w' h2 h3 h4)
theorem step_append_mine {K : Act → World → Prop} {E : Prop} (hg : o.guard = none) (s x : Operand) (t : TypeId) (ho : o.op = .call { callee := .builtin .append, args := #[s, x], argTypes := #[t, t] })
    (e : TypeId) (i : TypeInfo) (z : Value) (size bytes : Nat) (ht : P.underlying t = some (.slice e)) (hi : P.info? e = some i) (hz : i.zero = some z)
    (hsize : i.size = size) (hby : i.bytes = bytes) (hzs : z.cells.size = size) (hsz : 0 < size)
    (v : Value) (n : Nat) (xs : List Value) (hs : a.eval s = v) (hown : w.ownsRow 0 e size v n xs)
    (ad : Addr) (m c : Nat) (news : List Value) (hx : a.eval x = .slice (some ad) m c) (hl : news.length = m * size) (hnews : ∀ j u, news[j]? = some u → w.cell? (ad.add j) = some u) (h1 : ∀ u ∈ news, u.oneCell' = true)
    (h63 : n + m ≤ maxLen) (hbytes : (n + m) * bytes ≤ 140737488355328)
    (h : ∀ v' w', w'.ownsRow 0 e size v' (n + m) (xs ++ news) → Fr v.ownBlock.toList w w' → (∀ g, v'.ownBlock = some g → v.ownBlock = some g ∨ w.heap.size ≤ g) → K (a.put o.dst v') w') :
    if Region.wanted o (yielded ops a.tmps) = true then Oper.wp P o a w K Q else E := by
  have hw : Region.wanted o (yielded ops a.tmps) = true := by simp [Region.wanted, hg]
  rw [if_pos hw]
  exact wp_append_mine w s x t ho e i z size bytes ht hi hz hsize hby hzs hsz v n xs hs hown ad m c news hx hl hnews h1 h63 hbytes h
end
/-- what is at the end of one new cell -/
theorem new_one {w : World} {x : Value} {e : TypeId} : ∀ j u, ([x] : List Value)[j]? = some u → (w.alloc (.cells #[x] e)).cell? ((⟨w.heap.size, 0, none⟩ : Addr).add j) = some u := by
  intro j u hj
  match j, hj with
  | 0, hj => simp at hj; subst hj; simp [Addr.add]
theorem new_two {w : World} {x y : Value} {e : TypeId} : ∀ j u, ([x, y] : List Value)[j]? = some u → (w.alloc (.cells #[x, y] e)).cell? ((⟨w.heap.size, 0, none⟩ : Addr).add j) = some u := by
  intro j u hj
  match j, hj with
  | 0, hj => simp at hj; subst hj; simp [Addr.add]
  | 1, hj => simp at hj; subst hj; simp [Addr.add]
theorem one_one {k : IntKind} {x : Int} : ∀ u ∈ ([.int k x] : List Value), u.oneCell' = true := by intro u hu; simp at hu; subst hu; rfl
theorem blk_alloc {w : World} {t : Nat} {o : Obj} (hb : w.heap[t]? = some o) (x : Obj) : (w.alloc x).heap[t]? = some o := (heap_alloc_old w x (lt_of_at hb)).trans hb
theorem blk_set {w : World} {t e o : Nat} {c : Array Value} {fr : Nat × Nat} (h : w.heap[t]? = some (.cells c e fr)) (u : Value) : (w.setCell ⟨t, o, none⟩ u).heap[t]? = some (.cells (c.setIfInBounds o u) e fr) := by
  simp [World.setCell, Array.getElem?_modify, h]
theorem blk_frozen {w : World} {t e : Nat} {c : Array Value} (h : w.heap[t]? = some (.cells c e (0, 0))) (o : Nat) : w.frozen? ⟨t, o, none⟩ = false := by simp [World.frozen?, h]
/-- the five cells of a block -/
theorem blk5 {w : World} {t e : Nat} {c0 c1 c2 c3 c4 : Value} {fr : Nat × Nat} (h : w.heap[t]? = some (.cells #[c0, c1, c2, c3, c4] e fr)) :
    w.cell? ⟨t, 0, none⟩ = some c0 ∧ w.cell? ⟨t, 1, none⟩ = some c1 ∧ w.cell? ⟨t, 2, none⟩ = some c2 ∧ w.cell? ⟨t, 3, none⟩ = some c3 ∧ w.cell? ⟨t, 4, none⟩ = some c4 ∧ t < w.heap.size := by
  refine ⟨?_, ?_, ?_, ?_, ?_, lt_of_at h⟩ <;> simp [World.cell?, h]
/-- the cells of an owned row -/
theorem row_cell {w : World} {base e size n : Nat} {v : Value} {xs : List Value} (h : w.ownsRow base e size v n xs) {g : Nat} (hg : v.ownBlock = some g) {k : Nat} {u : Value} (hu : xs[k]? = some u) : w.cell? ⟨g, k, none⟩ = some u := by
  have := h.cells hg k u hu
  have e : (⟨g, 0, none⟩ : Addr).add k = ⟨g, k, none⟩ := by unfold Addr.add; split <;> simp_all
  rw [e] at this
  exact this
theorem row_frozen {w : World} {base e size n : Nat} {v : Value} {xs : List Value} (h : w.ownsRow base e size v n xs) {g : Nat} (hg : v.ownBlock = some g) (k : Nat) : w.frozen? ⟨g, k, none⟩ = false := by
  rcases h.2 with ⟨rfl, _⟩ | ⟨g', cap, cur, rfl, _, hgg, _⟩
  · simp [Value.ownBlock] at hg
  · simp [Value.ownBlock] at hg
    subst hg
    simp [World.frozen?, hgg]
theorem row_value {w : World} {base e size n : Nat} {v : Value} {xs : List Value} (h : w.ownsRow base e size v n xs) (hn : 0 < n) : ∃ g cap, v = .slice (some ⟨g, 0, none⟩) n cap ∧ v.ownBlock = some g ∧ g < w.heap.size ∧ n ≤ cap ∧ cap ≤ maxLen := by
  rcases h.2 with ⟨rfl, rfl⟩ | ⟨g, cap, cur, rfl, _, hg, h1, h2, _⟩
  · omega
  · exact ⟨g, cap, rfl, rfl, lt_of_at hg, h1, h2⟩
theorem row_any {w : World} {base e size n : Nat} {v : Value} {xs : List Value} (h : w.ownsRow base e size v n xs) : ∃ p cap, v = .slice p n cap ∧ n ≤ cap ∧ cap ≤ maxLen := by
  rcases h.2 with ⟨rfl, rfl⟩ | ⟨g, cap, cur, rfl, _, hg, h1, h2, _⟩
  · exact ⟨none, 0, rfl, Nat.le_refl _, by simp [maxLen]⟩
  · exact ⟨_, cap, rfl, h1, h2⟩
theorem row_lt {w : World} {base e size n : Nat} {v : Value} {xs : List Value} (h : w.ownsRow base e size v n xs) {g : Nat} (hg : v.ownBlock = some g) : g < w.heap.size := (h.lt g hg).2
theorem row_alloc {w : World} {base e size n : Nat} {v : Value} {xs : List Value} (h : w.ownsRow base e size v n xs) (o : Obj) : (w.alloc o).ownsRow base e size v n xs := h.alloc o
theorem row_set_other {w : World} {base e size n : Nat} {v : Value} {xs : List Value} (h : w.ownsRow base e size v n xs) {p : Addr} (hp : v.ownBlock ≠ some p.block) (u : Value) : (w.setCell p u).ownsRow base e size v n xs :=
  (Fr.setCell (F := [p.block]) w (by simp) u).owns h (fun k hk hm => hp (by simp at hm; rw [hk, hm]))
theorem row_shorter {w : World} {base e size n m g cap : Nat} {xs : List Value} (h : w.ownsRow base e size (.slice (some ⟨g, 0, none⟩) n cap) n xs) (hm : m ≤ n) : w.ownsRow base e size (.slice (some ⟨g, 0, none⟩) m cap) m (xs.take (m * size)) := by
  have hl : m * size ≤ n * size := Nat.mul_le_mul_right _ hm
  rcases h.2 with ⟨h', _⟩ | ⟨g', cap', cur, h', hb, hg, hnc, hcm, hcs, htake⟩
  · simp at h'
  · simp only [Value.slice.injEq, Option.some.injEq, Addr.mk.injEq, and_true, true_and] at h'
    obtain ⟨rfl, rfl⟩ := h'
    refine ⟨by rw [List.length_take, h.1]; omega, .inr ⟨g, cap, cur, rfl, hb, hg, by omega, hcm, hcs, ?_⟩⟩
    rw [← htake, List.take_take, Nat.min_eq_left hl]

/-- a method called on an interface value whose dynamic type is known -/
theorem run_method {P : Program} {w : World} {n : Nat} {T xt : TypeId} {nm : String} {x v : Value} {pl : Place} {path : List FieldStep} {fn : FuncId} {ptr : Bool}
    (hi : ((P.info? T).bind (fun i => i.methods.find? (fun m => m.name == nm))).map (fun m => (m.path.toList, m.func)) = some (path, some (fn, ptr))) (hne : path ≠ [])
    (hf : (follow path T (.val x)).run P w = .ok (xt, pl) w) (hr : (receiverAt xt pl ptr none).run P w = .ok v w) : (method (n + 1) T x nm).run P w = .ok (fn, v) w := by
  obtain ⟨m, hm, he⟩ := Option.map_eq_some_iff.1 hi
  obtain ⟨i, hi0, hm0⟩ := Option.bind_eq_some_iff.1 hm
  injection he with he1 he2
  subst he1
  have hne2 : m.path ≠ #[] := fun e => hne (by rw [e])
  simp [method, Go.run_typeInfo w hi0, hm0, hf, he2, hr, Result.andThen, hne2]
/-- a value that lies in the old block or in a new one -/
theorem new_not {v v' : Value} {t B : Nat} (h : ∀ g, v'.ownBlock = some g → v.ownBlock = some g ∨ B ≤ g) (hn : t ∉ v.ownBlock.toList) (hlt : t < B) : t ∉ v'.ownBlock.toList := by
  intro hm
  have hg : v'.ownBlock = some t := by simpa using hm
  rcases h t hg with h | h
  · exact hn (by simp [h])
  · omega
end Go.Proofs.Ytamghlneoglfnaa
