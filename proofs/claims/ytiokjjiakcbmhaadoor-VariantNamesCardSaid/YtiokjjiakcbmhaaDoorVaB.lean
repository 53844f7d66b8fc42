/-
  A map as a function and a count: keys that are texts, or whole atoms; the number of a name. Conditions: as each says.
-/
import Derived.Test.YtiokjjiakcbmhaaDoorVaA
import Derived.Test.YtiokjjiakcbmhaaDoorAtA
import Derived.Test.YtiokjjiakcbmhaaDoorShelf
import Derived.DeepKeys4
namespace Go.Proofs.YtiokjjiakcbmhaaDoor
open Go.RowKit Go.ChangeMaps

/-- block b is a map: f says what each key holds, n how many there are -/
def KMap (P : Program) (k : TypeId) (w : World) (b : Nat) (f : Value → Option Value) (n : Nat) : Prop :=
  ∃ (es : Array MapEntry) (clock : Nat), w.heap[b]? = some (.map es clock) ∧ (∀ e ∈ es.toList, ∃ l, keyOf P k e.key = some l) ∧
    es.toList.Pairwise (fun x y => x.key ≠ y.key) ∧ n = es.size ∧ ∀ s v, f s = some v ↔ ∃ e ∈ es.toList, e.key = s ∧ e.val = v
theorem KMap.fr {F : List Nat} {P : Program} {k : TypeId} {w w' : World} {b n : Nat} {f : Value → Option Value} (h : KMap P k w b f n) (hf : Fr F w w') (hn : b ∉ F) : KMap P k w' b f n := by
  obtain ⟨es, clock, hb, r⟩ := h
  exact ⟨es, clock, hf.at hn hb, r⟩
theorem KMap.lt {P : Program} {k : TypeId} {w : World} {b n : Nat} {f : Value → Option Value} (h : KMap P k w b f n) : b < w.heap.size := by
  obtain ⟨es, clock, hb, r⟩ := h
  exact lt_of_at hb
theorem KMap.made (P : Program) (k : TypeId) (w : World) : KMap P k (w.alloc (.map #[] 0)) w.heap.size (fun _ => none) 0 :=
  ⟨#[], 0, (MapKept.heap_alloc w _).1, by simp, by simp, rfl, by simp⟩
theorem KMap.bel {P : Program} {k : TypeId} {w w' : World} {b n : Nat} {f : Value → Option Value} (h : KMap P k w b f n) (hg : Bel w w') : KMap P k w' b f n := by
  obtain ⟨es, clock, hb, r⟩ := h
  exact ⟨es, clock, (hg.block b (lt_of_at hb)).trans hb, r⟩
section
variable {P : Program} {w : World} {b n : Nat} {f : Value → Option Value} {t k e : TypeId}
theorem KMap.find (h : KMap P k w b f n) (K : WideMaps.KeyLaw P k) {s : Value} {l : Lit} (hs : keyOf P k s = some l) : ∃ (es : Array MapEntry) (clock : Nat), w.heap[b]? = some (.map es clock) ∧ n = es.size ∧
    (∀ em, (Instr.checkKey em 10000 k s).run P w = .ok () w) ∧ (Instr.keyThatStays s s).run P w = .ok s w ∧
    (((Instr.findKey k s es.toList).run P w = .ok none w ∧ f s = none) ∨ ∃ j e0, (Instr.findKey k s es.toList).run P w = .ok (some (j, e0.val)) w ∧ es.toList[j]? = some e0 ∧ e0.key = s ∧ f s = some e0.val) := by
  obtain ⟨es, clock, hb, hkeys, hpw, hn, hf⟩ := h
  refine ⟨es, clock, hb, hn, fun em => K.check w em hs, K.stays w hs, ?_⟩
  rcases K.find w hs es.toList hkeys with ⟨h1, h2⟩ | ⟨j, e0, h1, h2, h3⟩
  · refine .inl ⟨h1, ?_⟩
    cases hfs : f s with
    | none => rfl
    | some v =>
      obtain ⟨e1, he1, hk1, _⟩ := (hf s v).1 hfs
      exact absurd hk1 (h2 e1 he1)
  · exact .inr ⟨j, e0, h1, h2, h3, (hf s e0.val).2 ⟨e0, List.mem_of_getElem? h2, h3, rfl⟩⟩
/-- 'v, ok := m[s]' -/
theorem KMap.look_ok (h : KMap P k w b f n) (K : WideMaps.KeyLaw P k) (ht : P.underlying t = some (.map k e)) {z : Value} (hz : (zeroValue e).run P w = .ok z w) {s : Value} {l : Lit} (hs : keyOf P k s = some l) :
    (Instr.lookup t (.map (some b)) s true).run P w = .ok (.tuple #[(f s).getD z, .bool (f s).isSome]) w := by
  obtain ⟨es, clock, hb, _, hc, _, ⟨h1, h2⟩ | ⟨j, e0, h1, _, _, h2⟩⟩ := h.find K hs
  · simp [Instr.lookup, run_underlying ht, MapKept.run_getObj_map hb, hc, h1, hz, h2, Result.andThen]
  · simp [Instr.lookup, run_underlying ht, MapKept.run_getObj_map hb, hc, h1, h2, Result.andThen]
def putK (f : Value → Option Value) (s v : Value) (g : Value → Option Value) : Prop := g s = some v ∧ ∀ x, x ≠ s → g x = f x
/-- 'm[s] = v' -/
theorem KMap.store (h : KMap P k w b f n) (K : WideMaps.KeyLaw P k) (ht : P.underlying t = some (.map k e)) {s : Value} {l : Lit} (hs : keyOf P k s = some l) (v : Value) :
    ∃ o g, (Instr.mapUpdate t (.map (some b)) s v).run P w = .ok () (setBlock w b o) ∧ KMap P k (setBlock w b o) b g (if (f s).isSome then n else n + 1) ∧ putK f s v g := by
  have h0 := h
  obtain ⟨es, clock, hb, hn, hc, hst, hfind⟩ := h.find K hs
  obtain ⟨es', clock', hb', hkeys, hpw, _, hf⟩ := h0
  obtain ⟨rfl, rfl⟩ : es' = es ∧ clock' = clock := by rw [hb] at hb'; injection hb' with h; injection h with h1 h2; exact ⟨h1.symm, h2.symm⟩
  classical
  rcases hfind with ⟨h1, h2⟩ | ⟨j, e0, h1, h3, h4, h2⟩
  · refine ⟨.map (es'.push ⟨s, v, clock'⟩) (clock' + 1), fun x => if x = s then some v else f x, ?_, ⟨es'.push ⟨s, v, clock'⟩, clock' + 1, ?_, ?_, ?_, ?_, ?_⟩, if_pos rfl, fun x hx => if_neg hx⟩
    · simp [Instr.mapUpdate, run_underlying ht, MapKept.run_getObj_map hb, hc, h1, MapKept.run_setObj_map _ hb, Result.andThen, ChangeMaps.setBlock]
    · exact heap_setBlock_same hb _
    · intro x hx
      simp only [Array.toList_push, List.mem_append, List.mem_singleton] at hx
      rcases hx with hx | rfl
      · exact hkeys x hx
      · exact ⟨l, hs⟩
    · rw [Array.toList_push, List.pairwise_append]
      refine ⟨hpw, by simp, fun x hx y hy => ?_⟩
      simp only [List.mem_singleton] at hy
      subst hy
      intro hxs
      have := (hf s x.val).2 ⟨x, hx, hxs, rfl⟩
      rw [h2] at this; cases this
    · rw [h2]; simp [hn]
    · intro s' v'
      simp only [Array.toList_push, List.mem_append, List.mem_singleton]
      by_cases hss : s' = s
      · subst hss
        rw [if_pos rfl]
        constructor
        · intro hv; cases hv; exact ⟨_, .inr rfl, rfl, rfl⟩
        · rintro ⟨x, hx | rfl, hxk, hxv⟩
          · have := (hf s' v').2 ⟨x, hx, hxk, hxv⟩
            rw [h2] at this; cases this
          · rw [← hxv]
      · rw [if_neg hss, hf]
        constructor
        · rintro ⟨x, hx, hr⟩; exact ⟨x, .inl hx, hr⟩
        · rintro ⟨x, hx | rfl, hxk, hxv⟩
          · exact ⟨x, hx, hxk, hxv⟩
          · exact absurd hxk.symm hss
  · have hjl : j < es'.size := by have := (List.getElem?_eq_some_iff.1 h3).1; simpa using this
    have hj : es'[j]? = some e0 := by simpa using h3
    have hlist : (es'.modify j fun e' => { e' with key := s, val := v }).toList = es'.toList.set j ⟨s, v, e0.born⟩ := by
      rw [Array.toList_modify]
      apply List.ext_getElem?
      intro i
      rw [List.getElem?_modify, List.getElem?_set]
      by_cases hij : j = i
      · subst hij; rw [h3]; simp [hjl]
      · simp [hij]
    refine ⟨.map (es'.modify j fun e' => { e' with key := s, val := v }) clock', fun x => if x = s then some v else f x, ?_, ⟨_, clock', heap_setBlock_same hb _, ?_, ?_, ?_, ?_⟩, if_pos rfl, fun x hx => if_neg hx⟩
    · have hkk : ((es'[j]?).map (·.key)).getD s = s := by rw [hj]; exact h4
      simp [Instr.mapUpdate, run_underlying ht, MapKept.run_getObj_map hb, hc, h1, MapKept.run_setObj_map _ hb, Result.andThen, ChangeMaps.setBlock, hj, h4, hst]
    · intro x hx
      rw [hlist] at hx
      rcases List.mem_or_eq_of_mem_set hx with hx | rfl
      · exact hkeys x hx
      · exact ⟨l, hs⟩
    · rw [hlist]
      have hmap : (es'.toList.set j ⟨s, v, e0.born⟩).map (·.key) = es'.toList.map (·.key) := by
        rw [List.map_set]
        apply List.ext_getElem?
        intro i
        rw [List.getElem?_set]
        split
        · rename_i hij; subst hij
          rw [if_pos (by simpa using hjl), List.getElem?_map, h3]; simp [h4]
        · rfl
      have h5 := List.pairwise_map.2 hpw
      rw [← hmap] at h5
      exact List.pairwise_map.1 h5
    · rw [h2]; simp [hn]
    · intro s' v'
      rw [hlist]
      show (if s' = s then some v else f s') = some v' ↔ _
      by_cases hss : s' = s
      · subst hss
        rw [if_pos rfl]
        constructor
        · intro hv; cases hv
          exact ⟨⟨s', v, e0.born⟩, List.mem_iff_getElem?.2 ⟨j, by rw [List.getElem?_set]; simp [hjl]⟩, rfl, rfl⟩
        · rintro ⟨x, hx, hxk, hxv⟩
          obtain ⟨i, hi⟩ := List.mem_iff_getElem?.1 hx
          by_cases hij : i = j
          · subst hij
            rw [List.getElem?_set_self (by simpa using hjl)] at hi
            cases hi; rw [← hxv]
          · rw [List.getElem?_set_ne (Ne.symm hij)] at hi
            exfalso
            have hil := (List.getElem?_eq_some_iff.1 hi).1
            have hd := List.pairwise_iff_getElem.1 hpw
            have hjl' : j < es'.toList.length := by simpa using hjl
            have g1 : es'.toList[i] = x := (List.getElem?_eq_some_iff.1 hi).2
            have g2 : es'.toList[j] = e0 := (List.getElem?_eq_some_iff.1 h3).2
            rcases Nat.lt_or_gt_of_ne hij with hlt | hlt
            · exact hd i j hil hjl' hlt (by rw [g1, g2, hxk, h4])
            · exact hd j i hjl' hil hlt (by rw [g1, g2, hxk, h4])
      · rw [if_neg hss, hf]
        constructor
        · rintro ⟨x, hx, hxk, hxv⟩
          obtain ⟨i, hi⟩ := List.mem_iff_getElem?.1 hx
          have hij : i ≠ j := by
            rintro rfl
            rw [h3] at hi; cases hi
            rw [h4] at hxk; exact hss hxk.symm
          exact ⟨x, List.mem_iff_getElem?.2 ⟨i, by rw [List.getElem?_set_ne (Ne.symm hij)]; exact hi⟩, hxk, hxv⟩
        · rintro ⟨x, hx, hxk, hxv⟩
          obtain ⟨i, hi⟩ := List.mem_iff_getElem?.1 hx
          have hij : i ≠ j := by
            rintro rfl
            rw [List.getElem?_set_self (by simpa using hjl)] at hi
            cases hi
            exact hss hxk.symm
          rw [List.getElem?_set_ne (Ne.symm hij)] at hi
          exact ⟨x, List.mem_iff_getElem?.2 ⟨i, hi⟩, hxk, hxv⟩
variable {ops : Array Oper} {rest : List Oper} {o : Oper} {a : Act} {Q : Exit → Act → World → Prop}
theorem wpList_store_key (hg : o.guard = none) (m x v : Operand) (t : TypeId) (hop : o.op = Op.mapUpdate t m x v) (k e : TypeId) (K : WideMaps.KeyLaw P k) (ht : P.underlying t = some (.map k e))
    (b n : Nat) (f : Value → Option Value) (hm : a.eval m = .map (some b)) (hown : KMap P k w b f n) (s : Value) (l : Lit) (val : Value) (hx : a.eval x = s) (hv : a.eval v = val) (hs : keyOf P k s = some l)
    (hK : ∀ w' g, KMap P k w' b g (if (f s).isSome then n else n + 1) → putK f s val g → Fr [b] w w' → wpList P ops Q rest (a.put o.dst undef) w') :
    wpList P ops Q (o :: rest) a w := by
  refine wpList_plain hg fun K' hK' => ?_
  obtain ⟨ob, g, hrun, r1, r2⟩ := hown.store (P := P) K ht hs val
  unfold Oper.wp
  simp [execOp, hop, hm, hx, hv, hrun, Result.andThen]
  exact hK' _ _ (hK _ g r1 r2 (Fr.setBlock w (List.mem_singleton.2 rfl) _))
end

/-- block M numbers the names vs -/
def NumM (w : World) (M : Nat) (vs : List ByteArray) : Prop := ∃ f, SMap w M f vs.length ∧ ∀ s, f s = if Lib.containsS vs s then some (.int .i64 (idxN vs s : Int)) else none
theorem NumM.made (w : World) : NumM (w.alloc (.map #[] 0)) w.heap.size [] := ⟨_, SMap.made w, fun _ => rfl⟩
theorem NumM.fr {F : List Nat} {w w' : World} {M : Nat} {vs : List ByteArray} (h : NumM w M vs) (hf : Fr F w w') (hn : M ∉ F) : NumM w' M vs := by
  obtain ⟨f, h1, h2⟩ := h
  exact ⟨f, h1.fr hf hn, h2⟩
theorem NumM.lt {w : World} {M : Nat} {vs : List ByteArray} (h : NumM w M vs) : M < w.heap.size := by
  obtain ⟨f, h1, h2⟩ := h
  exact h1.lt
theorem idxN_snoc {vs : List ByteArray} {s : ByteArray} (h : s ∉ vs) : idxN (vs ++ [s]) s = vs.length := by
  induction vs with
  | nil => rw [List.nil_append, idxN_cons, if_pos rfl]; rfl
  | cons x vs ih =>
    rw [List.cons_append, idxN_cons, if_neg (fun e => h (by rw [e]; exact List.mem_cons_self ..)), ih (fun hm => h (List.mem_cons_of_mem _ hm))]
    rfl
theorem NumM.put {w' : World} {M : Nat} {vs : List ByteArray} {f : ByteArray → Option Value} {s : ByteArray} (hf : ∀ s, f s = if Lib.containsS vs s then some (.int .i64 (idxN vs s : Int)) else none) (hs : Lib.containsS vs s = false)
    (h : SMap w' M (putM f s (.int .i64 (vs.length : Int))) (if (f s).isSome then vs.length else vs.length + 1)) : NumM w' M (vs ++ [s]) := by
  have hn : s ∉ vs := fun hm => by rw [hasS_true hm] at hs; cases hs
  rw [hf s, hs] at h
  refine ⟨_, by rw [List.length_append]; exact h, fun x => ?_⟩
  unfold putM
  by_cases e : x = s
  · subst e
    rw [if_pos rfl, if_pos (hasS_true (by simp)), idxN_snoc hn]
  · rw [if_neg e, hf x]
    cases hx : Lib.containsS vs x with
    | true =>
      have hm := (Lib.containsS_iff vs x).1 hx
      rw [if_pos rfl, if_pos (hasS_true (List.mem_append_left _ hm)), idxN_app hm]
    | false =>
      rw [if_neg (by decide), if_neg]
      rw [hasS_false (fun hm => by
        rcases List.mem_append.1 hm with hm | hm
        · rw [hasS_true hm] at hx; cases hx
        · exact e (List.mem_singleton.1 hm))]
      decide
def nextV (vs : List ByteArray) (s : ByteArray) : List ByteArray := if Lib.containsS vs s then vs else vs ++ [s]
theorem zero_intV (w : World) : (zeroValue 3).run Tryd.prog w = .ok (.int .i64 0) w := by kernel_rfl
theorem NumM.look {w : World} {M : Nat} {vs : List ByteArray} (h : NumM w M vs) {s : ByteArray} (hs : s.size ≤ maxLen) (hc : Lib.containsS vs s = true) : (Instr.lookup 51 (.map (some M)) (.string s) true).run Tryd.prog w = .ok (.tuple #[.int .i64 (idxN vs s : Int), .bool true]) w := by
  obtain ⟨f, h1, h2⟩ := h
  have := h1.look_ok Tryd.underlying51 Tryd.underlying9 (zero_intV w) hs
  rwa [h2 s, hc] at this
theorem NumM.look_no {w : World} {M : Nat} {vs : List ByteArray} (h : NumM w M vs) {s : ByteArray} (hs : s.size ≤ maxLen) (hc : Lib.containsS vs s = false) : (Instr.lookup 51 (.map (some M)) (.string s) true).run Tryd.prog w = .ok (.tuple #[.int .i64 0, .bool false]) w := by
  obtain ⟨f, h1, h2⟩ := h
  have := h1.look_ok Tryd.underlying51 Tryd.underlying9 (zero_intV w) hs
  rwa [h2 s, hc] at this
theorem NumM.len {w : World} {M : Nat} {vs : List ByteArray} (h : NumM w M vs) (ty : TypeId) : (Builtin.len_ #[51] ty #[.map (some M)]).run Tryd.prog w = .ok (.int .i64 (vs.length : Int)) w := by
  obtain ⟨f, h1, h2⟩ := h
  exact h1.len Tryd.underlying51 ty
set_option maxHeartbeats 1000000 in
theorem number_any (M : Nat) (vs : List ByteArray) (s : ByteArray) (w : World) (h : NumM w M vs) (hs : s.size ≤ 9223372036854775807) :
    Calls Tryd.prog 33 #[.map (some M), .string s] w fun e w' => e = .returned (.int .i64 (idxN vs s : Int)) ∧ NumM w' M (nextV vs s) ∧ Fr [M] w w' := by
  cases hc : Lib.containsS vs s with
  | true =>
    have hl := h.look (s := s) (by unfold maxLen; omega) hc
    have HE : RowKit.Hid (nextV vs s = vs) := Lib.hid (by unfold nextV; rw [hc]; rfl)
    have H := Lib.hid h
    clear h hc
    go_enter Tryd.func33, Tryd.ntmps33
    go_wp2
    go_ret
    exact ⟨rfl, by rw [HE.out]; exact H.out, Fr.refl _ _⟩
  | false =>
    have hl := h.look_no (s := s) (by unfold maxLen; omega) hc
    have hlen := h.len
    have HE : RowKit.Hid (nextV vs s = vs ++ [s]) := Lib.hid (by unfold nextV; rw [hc]; rfl)
    have HI : RowKit.Hid (idxN vs s = vs.length) := Lib.hid (idxN_miss (fun hm => by rw [hasS_true hm] at hc; cases hc))
    obtain ⟨f, hf1, hf2⟩ := h
    have HF := Lib.hid (And.intro hf2 hc)
    have H1 := Lib.hid hf1
    clear hc hf2 hf1
    go_enter Tryd.func33, Tryd.ntmps33
    go_wp2_with (at_mapUpdate; refine wpList_store_mine _ rfl (.tmp 17) (.tmp 18) (.tmp 19) 51 rfl 9 3 Tryd.underlying51 Tryd.underlying9 M vs.length f rfl H1.out s (.int .i64 (vs.length : Int)) rfl rfl (by unfold maxLen; omega) ?_; intro w2 hm2 hfr)
    go_ret
    have hP := NumM.put HF.out.1 HF.out.2 hm2
    rw [HE.out, HI.out]
    exact ⟨rfl, hP, hfr⟩
end Go.Proofs.YtiokjjiakcbmhaaDoor
