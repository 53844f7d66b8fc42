/-
  The law's table and the reference's table side by side. Conditions: the blocks are the law's own.
-/
import Derived.Test.YtobelhfhciafcaaInT
import Derived.Test.YtobelhfhciafcaaInP
namespace Go.Proofs.Ytobelhfhciafcaa
open Go.RowKit

theorem newT_eq {st : List (ByteArray × Nat)} {s : ByteArray} (hs : ¬ (s.size < 1 ∨ 255 < s.size)) (hn : numAt st s = none) (hc : ¬ 65536 ≤ usedN st) : takeT st s = (newT st s, freeAt st, 0) := by
  unfold takeT newT; rw [if_neg hs, hn]; simp only; rw [if_neg hc]
theorem rTake_any (o : Nat) (st : List (ByteArray × Nat)) (bs : List Nat) (s : ByteArray) (w : World) (h : RTab w o st bs) (hu : ∀ p ∈ st, p.2 < 4611686018427387904) (hl : st.length ≤ 60000) (hm : s.size ≤ 9223372036854775807) :
    Calls Try.prog 10 #[.pointer (some ⟨o, 0, none⟩), .string s] w fun e w' => e = .returned (.tuple #[.int .i64 (takeT st s).2.1, .int .i64 (takeT st s).2.2]) ∧ RTabTo w w' o (takeT st s).1 bs := by
  have h' := h
  obtain ⟨tv, mv, R, hwf, rfl⟩ := h
  by_cases hs : s.size < 1 ∨ 255 < s.size
  · have e : takeT st s = (st, 0, 2) := by unfold takeT; rw [if_pos hs]
    rw [e]
    exact (rTake_bad o s w hs hm).mono fun e w' ⟨he, hw⟩ => by subst hw; exact ⟨he, RTabTo.same h'⟩
  · have h1 : 1 ≤ s.size := by omega
    have h2 : s.size ≤ 255 := by omega
    cases hn : numAt st s with
    | some n =>
      obtain ⟨u, hat, hu0⟩ := numAt_some hn
      have e : takeT st s = (st.set n (s, u + 1), n, 0) := by
        unfold takeT; rw [if_neg hs, hn]
        simp only
        rw [modify_at hat]
      rw [e]
      exact (rTake_old o tv mv st n u s w R hwf (by omega) hat hn h1 h2 (hu _ (List.mem_of_getElem? hat))).mono fun e w' ⟨he, R', hf⟩ => ⟨he, _, ⟨tv, mv, R', hwf.set (by constructor; intro _; exact h1; intro _; omega), rfl⟩, hf.wider (fun k hk => .inl (List.mem_cons_of_mem _ (List.mem_append_right _ hk))), fun _ hb => .inl hb⟩
    | none =>
      by_cases hc : 65536 ≤ usedN st
      · have e : takeT st s = (st, 0, 16) := by unfold takeT; rw [if_neg hs, hn]; simp only; rw [if_pos hc]
        rw [e]
        exact (rTake_full o tv mv st s w R hwf (by omega) hn h1 h2 hc).mono fun e w' ⟨he, hw⟩ => by subst hw; exact ⟨he, RTabTo.same h'⟩
      · rw [newT_eq hs hn hc]
        refine (rTake_new o tv mv st s w R hwf (by omega) hn h1 h2 (by omega)).mono fun e w' ⟨he, tv', mv', R', hf, hn1, hn2⟩ => ⟨he, _, ⟨tv', mv', R', ?_, rfl⟩, hf, ?_⟩
        · show WF (newT st s)
          unfold newT
          split
          · exact hwf.set (by constructor; intro _; exact h1; intro _; omega)
          · exact hwf.snoc (by constructor; intro _; exact h1; intro _; omega)
        · intro b hb
          simp only [List.mem_cons, List.mem_append, Option.mem_toList] at hb ⊢
          rcases hb with h | h | h
          · exact .inl (.inl h)
          · rcases hn1 b h with h | h
            · exact .inl (.inr (.inl h))
            · exact .inr h
          · rcases hn2 b h with h | h
            · exact .inl (.inr (.inr h))
            · exact .inr h

theorem takeT_bounds {st st1 : List (ByteArray × Nat)} {s : ByteArray} {n B : Nat} {e1 : Int} (hT : takeT st s = (st1, n, e1)) (hb : UpTo st B) (hl : st.length ≤ B) : UpTo st1 (B + 1) ∧ st1.length ≤ B + 1 ∧ n ≤ B := by
  have hb1 : UpTo st (B + 1) := fun p hp => by have := hb p hp; omega
  by_cases hs : 1 ≤ s.size ∧ s.size ≤ 255
  · by_cases hc : usedN st < 65536
    · obtain ⟨st', n', h, tk⟩ := took hs.1 hs.2 hc hb
      rw [hT] at h
      cases h
      have h3 := (List.getElem?_eq_some_iff.1 tk.at_).1
      have h4 : usedN st1 ≤ B + 1 := by have := tk.used; have : usedN st ≤ st.length := List.countP_le_length; omega
      refine ⟨tk.up, by rcases tk.len with h | h <;> omega, by rcases tk.len with h | h <;> omega⟩
    · unfold takeT at hT
      rw [if_neg (by omega)] at hT
      cases hn : numAt st s with
      | some m =>
        rw [hn] at hT
        obtain ⟨u, hat, hu0⟩ := numAt_some hn
        have hml := (List.getElem?_eq_some_iff.1 hat).1
        simp only [modify_at hat] at hT
        cases hT
        exact ⟨hb1.set (by have := hb _ (List.mem_of_getElem? hat); simp at this; omega), by simp; omega, by omega⟩
      | none =>
        rw [hn] at hT
        simp only at hT
        rw [if_pos (by omega)] at hT
        cases hT
        exact ⟨hb1, by omega, by omega⟩
  · rw [took_bad hs] at hT
    cases hT
    exact ⟨hb1, by omega, by omega⟩
theorem dropT_bounds {st st1 : List (ByteArray × Nat)} {m e1 : Int} {B : Nat} (hT : dropT st m = (st1, e1)) (hb : UpTo st B) (hl : st.length ≤ B) : UpTo st1 B ∧ st1.length ≤ B := by
  unfold dropT at hT
  split at hT
  · cases hT
    refine ⟨fun p hp => ?_, by simp; exact hl⟩
    obtain ⟨i, hi⟩ := List.mem_iff_getElem?.1 hp
    rw [List.getElem?_modify] at hi
    cases hx : st[i]? with
    | none => rw [hx] at hi; cases hi
    | some q =>
      rw [hx] at hi
      have hq := hb q (List.mem_of_getElem? hx)
      simp only [Option.map_eq_map, Option.map_some, Option.some.injEq] at hi
      subst hi
      split
      · split
        · simp
        · simp; omega
      · exact hq
  · cases hT
    exact ⟨hb, hl⟩

/-- both tables, in blocks made since w; and, if K names one, a block beside them -/
def SB (w W : World) (t o : Nat) (st st' : List (ByteArray × Nat)) (K : Option (Nat × Obj)) : Prop :=
  ∃ bs cs, Tab W t st bs ∧ RTab W o st' cs ∧ (∀ b ∈ bs, w.heap.size ≤ b) ∧ (∀ c ∈ cs, w.heap.size ≤ c) ∧ (∀ b ∈ bs, b ∉ cs) ∧ Below w.heap.size w W ∧ ∀ q ob, K = some (q, ob) → W.heap[q]? = some ob ∧ q ∉ bs ∧ q ∉ cs
section
variable {w W : World} {t o : Nat} {st st' : List (ByteArray × Nat)} {K : Option (Nat × Obj)}
theorem SB.bel (h : SB w W t o st st' K) : Below w.heap.size w W := by obtain ⟨_, _, _, _, _, _, _, h, _⟩ := h; exact h
theorem SB.blk {q : Nat} {ob : Obj} (h : SB w W t o st st' (some (q, ob))) : W.heap[q]? = some ob := by obtain ⟨_, _, _, _, _, _, _, _, h⟩ := h; exact (h q ob rfl).1
theorem SB.off (h : SB w W t o st st' K) : SB w W t o st st' none := by
  obtain ⟨bs, cs, hT, hR, hbs, hcs, hd, hw, _⟩ := h
  exact ⟨bs, cs, hT, hR, hbs, hcs, hd, hw, fun _ _ e => by cases e⟩
theorem SB.keep {W' : World} (h : SB w W t o st st' K) (hb : Below W.heap.size W W') : SB w W' t o st st' K := by
  obtain ⟨bs, cs, hT, hR, hbs, hcs, hd, hw, hk⟩ := h
  exact ⟨bs, cs, hT.fr (Fr.of_below (F := []) hb) (by simp), hR.fr (Fr.of_below (F := []) hb) (by simp), hbs, hcs, hd, hw.trans (hb.mono hw.size), fun q ob e => ⟨(Fr.of_below (F := []) hb).at (by simp) (hk q ob e).1, (hk q ob e).2⟩⟩
theorem SB.box (h : SB w W t o st st' none) (ob : Obj) : SB w (W.alloc ob) t o st st' (some (W.heap.size, ob)) := by
  obtain ⟨bs, cs, hT, hR, hbs, hcs, hd, hw, _⟩ := h
  have h1 := hT.lt
  have h2 := hR.lt
  exact ⟨bs, cs, hT.fr (Fr.alloc [] _ _) (by simp), hR.fr (Fr.alloc [] _ _) (by simp), hbs, hcs, hd, hw.alloc hw.size _, fun q o' e => by
    cases e
    exact ⟨heap_alloc_new W ob, fun hm => by have := h1 _ hm; omega, fun hm => by have := h2 _ hm; omega⟩⟩
theorem SB.start (h : Live w W t st) {W' : World} {cs : List Nat} (hR : RTab W' o st' cs) (hcs : ∀ b ∈ cs, W.heap.size ≤ b) (hb : Below W.heap.size W W') : SB w W' t o st st' none := by
  obtain ⟨bs, hT, hbs, hw⟩ := h
  have hlt := hT.lt
  exact ⟨bs, cs, hT.fr (Fr.of_below (F := []) hb) (by simp), hR, hbs, fun c hc => Nat.le_trans hw.size (hcs c hc), fun b hb' hc => by have := hlt b hb'; have := hcs b hc; omega, hw.trans (hb.mono hw.size), fun _ _ e => by cases e⟩
theorem SB.to1 {W' : World} {st1 : List (ByteArray × Nat)} {bs cs : List Nat} (hR : RTab W o st' cs) (hbs : ∀ b ∈ bs, w.heap.size ≤ b) (hcs : ∀ c ∈ cs, w.heap.size ≤ c) (hd : ∀ b ∈ bs, b ∉ cs) (hw : Below w.heap.size w W) (hk : ∀ q ob, K = some (q, ob) → W.heap[q]? = some ob ∧ q ∉ bs ∧ q ∉ cs) (h : TabTo W W' t st1 bs) : SB w W' t o st1 st' K := by
  obtain ⟨bs', hT', hf, hn⟩ := h
  have hltR := hR.lt
  have hws := hw.size
  exact ⟨bs', cs, hT', hR.fr hf (fun b hb hb' => hd b hb' hb), fun b hb => by rcases hn b hb with h | h; exact hbs b h; omega, hcs,
    fun b hb hc => by rcases hn b hb with h | h; exact hd b h hc; have := hltR b hc; omega, hw.trans (hf.below hbs hws), fun q ob e => by
      obtain ⟨k1, k2, k3⟩ := hk q ob e
      have := lt_of_at k1
      exact ⟨hf.at k2 k1, fun hm => by rcases hn q hm with h | h; exact k2 h; omega, k3⟩⟩
theorem SB.to2 {W' : World} {st1 : List (ByteArray × Nat)} {bs cs : List Nat} (hT : Tab W t st bs) (hbs : ∀ b ∈ bs, w.heap.size ≤ b) (hcs : ∀ c ∈ cs, w.heap.size ≤ c) (hd : ∀ b ∈ bs, b ∉ cs) (hw : Below w.heap.size w W) (hk : ∀ q ob, K = some (q, ob) → W.heap[q]? = some ob ∧ q ∉ bs ∧ q ∉ cs) (h : RTabTo W W' o st1 cs) : SB w W' t o st st1 K := by
  obtain ⟨cs', hR', hf, hn⟩ := h
  have hltT := hT.lt
  have hws := hw.size
  exact ⟨bs, cs', hT.fr hf (fun b hb hb' => hd b hb hb'), hR', hbs, fun b hb => by rcases hn b hb with h | h; exact hcs b h; omega,
    fun b hb hc => by rcases hn b hc with h | h; exact hd b hb h; have := hltT b hb; omega, hw.trans (hf.below hcs hws), fun q ob e => by
      obtain ⟨k1, k2, k3⟩ := hk q ob e
      have := lt_of_at k1
      exact ⟨hf.at k3 k1, k2, fun hm => by rcases hn q hm with h | h; exact k3 h; omega⟩⟩
theorem SB.take1 (h : SB w W t o st st' K) {s : ByteArray} {st1 : List (ByteArray × Nat)} {n : Nat} {e1 : Int} (hT : takeT st s = (st1, n, e1)) {B : Nat} (hu : UpTo st B) (hB : B ≤ 1000) (hs : s.size ≤ 9223372036854775807) :
    Calls Try.prog 9 #[.pointer (some ⟨t, 0, none⟩), .string s] W fun e w' => e = .returned (.tuple #[.int .i64 n, .int .i64 e1]) ∧ SB w w' t o st1 st' K := by
  obtain ⟨bs, cs, hT0, hR, hbs, hcs, hd, hw, hk⟩ := h
  have := (Take_any t st bs s W hT0 (fun p hp => by have := hu p hp; omega) hs).mono fun e w' ⟨he, ht⟩ => (⟨he, SB.to1 hR hbs hcs hd hw hk ht⟩ : _ ∧ SB w w' t o (takeT st s).1 st' K)
  rw [hT] at this
  exact this
theorem SB.take2 (h : SB w W t o st st' K) {s : ByteArray} {st1 : List (ByteArray × Nat)} {n : Nat} {e1 : Int} (hT : takeT st' s = (st1, n, e1)) {B : Nat} (hu : UpTo st' B) (hl : st'.length ≤ B) (hB : B ≤ 1000) (hs : s.size ≤ 9223372036854775807) :
    Calls Try.prog 10 #[.pointer (some ⟨o, 0, none⟩), .string s] W fun e w' => e = .returned (.tuple #[.int .i64 n, .int .i64 e1]) ∧ SB w w' t o st st1 K := by
  obtain ⟨bs, cs, hT0, hR, hbs, hcs, hd, hw, hk⟩ := h
  have := (rTake_any o st' cs s W hR (fun p hp => by have := hu p hp; omega) (by omega) hs).mono fun e w' ⟨he, ht⟩ => (⟨he, SB.to2 hT0 hbs hcs hd hw hk ht⟩ : _ ∧ SB w w' t o st (takeT st' s).1 K)
  rw [hT] at this
  exact this
theorem SB.drop1 (h : SB w W t o st st' K) {m : Int} {st1 : List (ByteArray × Nat)} {e1 : Int} (hT : dropT st m = (st1, e1)) {B : Nat} (hu : UpTo st B) (hB : B ≤ 1000) :
    Calls Try.prog 11 #[.pointer (some ⟨t, 0, none⟩), .int .i64 m] W fun e w' => e = .returned (.int .i64 e1) ∧ SB w w' t o st1 st' K := by
  obtain ⟨bs, cs, hT0, hR, hbs, hcs, hd, hw, hk⟩ := h
  have := (Drop_any t st bs m W hT0 (fun p hp => by have := hu p hp; omega)).mono fun e w' ⟨he, ht⟩ => (⟨he, SB.to1 hR hbs hcs hd hw hk ht⟩ : _ ∧ SB w w' t o (dropT st m).1 st' K)
  rw [hT] at this
  exact this
theorem SB.drop2 (h : SB w W t o st st' K) {m : Int} {st1 : List (ByteArray × Nat)} {e1 : Int} (hT : dropT st' m = (st1, e1)) {B : Nat} (hu : UpTo st' B) (hB : B ≤ 1000) :
    Calls Try.prog 12 #[.pointer (some ⟨o, 0, none⟩), .int .i64 m] W fun e w' => e = .returned (.int .i64 e1) ∧ SB w w' t o st st1 K := by
  obtain ⟨bs, cs, hT0, hR, hbs, hcs, hd, hw, hk⟩ := h
  have := (rDrop_any o st' cs m W hR (fun p hp => by have := hu p hp; omega)).mono fun e w' ⟨he, ht⟩ => (⟨he, SB.to2 hT0 hbs hcs hd hw hk ht⟩ : _ ∧ SB w w' t o st (dropT st' m).1 K)
  rw [hT] at this
  exact this
end
section
variable {w W : World} {t o : Nat} {st : List (ByteArray × Nat)} {K : Option (Nat × Obj)}
theorem SB.text1 (h : SB w W t o st st K) (n : Int) : Calls Try.prog 13 #[.pointer (some ⟨t, 0, none⟩), .int .i64 n] W fun e w' => e = .returned (.tuple #[.string (textT st n), .int .i64 (textE st n)]) ∧ W = w' := by
  obtain ⟨bs, cs, hT0, hR, _⟩ := h
  exact Text_any t st bs n W hT0
theorem SB.text2 (h : SB w W t o st st K) (n : Int) : Calls Try.prog 14 #[.pointer (some ⟨o, 0, none⟩), .int .i64 n] W fun e w' => e = .returned (.tuple #[.string (textT st n), .int .i64 (textE st n)]) ∧ W = w' := by
  obtain ⟨bs, cs, _, ⟨tv, mv, R, hwf, _⟩, _⟩ := h
  exact rText_any o tv mv st n W R hwf
theorem SB.find1 (h : SB w W t o st st K) (s : ByteArray) (hs : s.size ≤ 9223372036854775807) : Calls Try.prog 15 #[.pointer (some ⟨t, 0, none⟩), .string s] W fun e w' => e = .returned (.tuple #[.int .i64 (findN st s), .bool (findB st s)]) ∧ W = w' := by
  obtain ⟨bs, cs, hT0, hR, _⟩ := h
  exact Find_any t st bs s W hT0 hs
theorem SB.find2 (h : SB w W t o st st K) (s : ByteArray) (hl : st.length ≤ 1000) (hs : s.size ≤ 9223372036854775807) : Calls Try.prog 16 #[.pointer (some ⟨o, 0, none⟩), .string s] W fun e w' => e = .returned (.tuple #[.int .i64 (findN st s), .bool (findB st s)]) ∧ W = w' := by
  obtain ⟨bs, cs, _, ⟨tv, mv, R, hwf, _⟩, _⟩ := h
  exact rFind_any o tv mv st s W R hwf (by omega) hs
theorem SB.uses1 (h : SB w W t o st st K) (n : Int) : Calls Try.prog 18 #[.pointer (some ⟨t, 0, none⟩), .int .i64 n] W fun e w' => e = .returned (.int .i64 (usesT st n)) ∧ W = w' := by
  obtain ⟨bs, cs, hT0, hR, _⟩ := h
  exact Uses_any t st bs n W hT0
theorem SB.uses2 (h : SB w W t o st st K) (n : Int) : Calls Try.prog 19 #[.pointer (some ⟨o, 0, none⟩), .int .i64 n] W fun e w' => e = .returned (.int .i64 (usesT st n)) ∧ W = w' := by
  obtain ⟨bs, cs, _, ⟨tv, mv, R, hwf, _⟩, _⟩ := h
  exact rUses_any o tv mv st n W R hwf
theorem SB.len1 (h : SB w W t o st st K) : Calls Try.prog 20 #[.pointer (some ⟨t, 0, none⟩)] W fun e w' => e = .returned (.int .i64 (usedN st)) ∧ W = w' := by
  obtain ⟨bs, cs, hT0, hR, _⟩ := h
  exact Len_any t st bs W hT0
theorem SB.len2 (h : SB w W t o st st K) (hl : st.length ≤ 1000) : Calls Try.prog 21 #[.pointer (some ⟨o, 0, none⟩)] W fun e w' => e = .returned (.int .i64 (usedN st)) ∧ W = w' := by
  obtain ⟨bs, cs, _, ⟨tv, mv, R, hwf, _⟩, _⟩ := h
  exact rLen_any o tv mv st W R hwf (by omega)
theorem SB.entries (h : SB w W t o st st K) (most : Nat) (hm : (eachT st 0).length ≤ most) (hm2 : most ≤ 100000) :
    Calls Try.prog 17 #[.pointer (some ⟨t, 0, none⟩), .int .i64 most] W fun e w' => ∃ v, e = .returned (.tuple #[v, .bool true]) ∧ EntAt W w' v (eachT st 0) ∧ SB w w' t o st st K := by
  have h0 := h
  obtain ⟨bs, cs, hT0, hR, _⟩ := h
  exact (entries_any t st bs most W hT0 hm hm2).mono fun _ _ ⟨v, he, hE⟩ => ⟨v, he, hE, h0.keep hE.bel⟩
theorem SB.each2 (h : SB w W t o st st K) (hl : st.length ≤ 1000) :
    Calls Try.prog 23 #[.pointer (some ⟨o, 0, none⟩)] W fun e w' => ∃ v, e = .returned v ∧ EntAt W w' v (eachT st 0) ∧ SB w w' t o st st K := by
  have h0 := h
  obtain ⟨bs, cs, _, ⟨tv, mv, R, hwf, _⟩, _⟩ := h
  exact (rEach_any o tv mv st W R hwf (by omega)).mono fun _ _ ⟨v, he, hE⟩ => ⟨v, he, hE, h0.keep hE.bel⟩
end
end Go.Proofs.Ytobelhfhciafcaa
