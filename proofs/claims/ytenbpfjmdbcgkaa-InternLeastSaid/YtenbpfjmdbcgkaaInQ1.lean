/-
  The law of the stage: numbers stay low, strings stay as long as they are used: what its first loop holds. Condition: the blocks are the law's own.
-/
import Derived.Test.YtenbpfjmdbcgkaaInP
import Derived.Test.YtenbpfjmdbcgkaaInK
import Derived.Lib.MinMax
namespace Go.Proofs.Ytenbpfjmdbcgkaa
open Go.RowKit

/-- a table and a map that the law made -/
def LL (w W : World) (t Lm : Nat) (st : List (ByteArray × Nat)) (f : ByteArray → Option Value) : Prop :=
  ∃ bs c, Tab W t st bs ∧ (∀ b ∈ bs, w.heap.size ≤ b) ∧ Lm ∉ bs ∧ w.heap.size ≤ Lm ∧ SMap W Lm f c ∧ Below w.heap.size w W
section
variable {w W : World} {t Lm : Nat} {st : List (ByteArray × Nat)} {f : ByteArray → Option Value}
theorem LL.bel (h : LL w W t Lm st f) : Below w.heap.size w W := by obtain ⟨_, _, _, _, _, _, _, h⟩ := h; exact h
theorem LL.dist (h : LL w W t Lm st f) : Dist st := by obtain ⟨_, _, ⟨_, _, _, _, _, _, _, G, _⟩, _⟩ := h; exact G.dist
theorem LL.wf (h : LL w W t Lm st f) : WF st := by
  obtain ⟨_, _, ⟨_, _, _, _, _, _, _, G, _⟩, _⟩ := h
  intro p hp
  obtain ⟨n, hn⟩ := List.mem_iff_getElem?.1 hp
  constructor
  · intro h0; exact (G.siz n p.1 p.2 hn h0).1
  · intro h1
    apply Nat.pos_of_ne_zero
    intro h0
    have := G.emp n p.1 (by rw [hn, ← h0])
    rw [this] at h1
    simp at h1
theorem LL.keep {W' : World} (h : LL w W t Lm st f) (hb : Below W.heap.size W W') : LL w W' t Lm st f := by
  obtain ⟨bs, c, hT, hbs, hL, hl, hm, hw⟩ := h
  exact ⟨bs, c, hT.fr (Fr.of_below (F := []) hb) (by simp), hbs, hL, hl, hm.fr (Fr.of_below (F := []) hb) (by simp), hw.trans (hb.mono hw.size)⟩
theorem LL.drewN (h : LL w W t Lm st f) (n : Nat) : LL w (W.drewN n) t Lm st f := h.keep ⟨rfl, rfl, rfl, Nat.le_refl _, fun _ _ => rfl⟩
theorem LL.to {W' : World} {st' : List (ByteArray × Nat)} {bs : List Nat} {c : Nat} (hT0 : Tab W t st bs) (hbs : ∀ b ∈ bs, w.heap.size ≤ b) (hL : Lm ∉ bs) (hl : w.heap.size ≤ Lm) (hm : SMap W Lm f c) (hw : Below w.heap.size w W) (h : TabTo W W' t st' bs) : LL w W' t Lm st' f := by
  obtain ⟨bs', hT, hf, hn⟩ := h
  have := hT0.lt
  exact ⟨bs', c, hT, fun b hb => by rcases hn b hb with h | h; exact hbs b h; have := hw.size; omega, fun hm' => by rcases hn _ hm' with h | h; exact hL h; have := hm.lt; omega, hl, hm.fr hf hL, hw.trans (hf.below hbs hw.size)⟩
theorem LL.store {W' : World} {v : Value} {c' : Nat} (h : LL w W t Lm st f) {s : ByteArray} (hm' : SMap W' Lm (putM f s v) c') (hf : Fr [Lm] W W') : LL w W' t Lm st (putM f s v) := by
  obtain ⟨bs, c, hT, hbs, hL, hl, hm, hw⟩ := h
  exact ⟨bs, c', hT.fr hf (fun b hb hb' => hL (by simp at hb'; rw [← hb']; exact hb)), hbs, hL, hl, hm', hw.trans (hf.below (by simpa using hl) hw.size)⟩
theorem LL.take (h : LL w W t Lm st f) {s : ByteArray} {st1 : List (ByteArray × Nat)} {n : Nat} {e1 : Int} (hT : takeT st s = (st1, n, e1)) {B : Nat} (hu : UpTo st B) (hB : B ≤ 1000000) (hs : s.size ≤ 9223372036854775807) :
    Calls Try.prog 9 #[.pointer (some ⟨t, 0, none⟩), .string s] W fun e w' => e = .returned (.tuple #[.int .i64 n, .int .i64 e1]) ∧ LL w w' t Lm st1 f := by
  obtain ⟨bs, c, hT0, hbs, hL, hl, hm, hw⟩ := h
  have := (Take_any t st bs s W hT0 (fun p hp => by have := hu p hp; omega) hs).mono fun e w' ⟨he, ht⟩ => (⟨he, LL.to hT0 hbs hL hl hm hw ht⟩ : _ ∧ LL w w' t Lm (takeT st s).1 f)
  rw [hT] at this
  exact this
theorem LL.drop (h : LL w W t Lm st f) {m : Int} {st1 : List (ByteArray × Nat)} {e1 : Int} (hT : dropT st m = (st1, e1)) {B : Nat} (hu : UpTo st B) (hB : B ≤ 1000000) :
    Calls Try.prog 14 #[.pointer (some ⟨t, 0, none⟩), .int .i64 m] W fun e w' => e = .returned (.int .i64 e1) ∧ LL w w' t Lm st1 f := by
  obtain ⟨bs, c, hT0, hbs, hL, hl, hm, hw⟩ := h
  have := (Drop_any t st bs m W hT0 (fun p hp => by have := hu p hp; omega)).mono fun e w' ⟨he, ht⟩ => (⟨he, LL.to hT0 hbs hL hl hm hw ht⟩ : _ ∧ LL w w' t Lm (dropT st m).1 f)
  rw [hT] at this
  exact this
theorem LL.text (h : LL w W t Lm st f) {n u : Nat} {s : ByteArray} (hn : st[n]? = some (s, u)) (hu : 0 < u) : Calls Try.prog 11 #[.pointer (some ⟨t, 0, none⟩), .int .i64 n] W fun e w' => e = .returned (.tuple #[.string s, .int .i64 0]) ∧ W = w' := by
  obtain ⟨bs, c, hT0, _⟩ := h
  have := Text_any t st bs n W hT0
  have hh : hasT st n = true := hasT_at hn hu
  rw [show textT st n = s by simp [textT, hh, hn], show textE st n = 0 by simp [textE, hh]] at this
  exact this
theorem LL.uses (h : LL w W t Lm st f) {n u : Nat} {s : ByteArray} (hn : st[n]? = some (s, u)) (hu : 0 < u) : Calls Try.prog 15 #[.pointer (some ⟨t, 0, none⟩), .int .i64 n] W fun e w' => e = .returned (.int .i64 u) ∧ W = w' := by
  obtain ⟨bs, c, hT0, _⟩ := h
  have := Uses_any t st bs n W hT0
  have hh : hasT st n = true := hasT_at hn hu
  rw [show usesT st n = u by simp [usesT, hh, hn]] at this
  exact this
theorem LL.len (h : LL w W t Lm st f) : Calls Try.prog 16 #[.pointer (some ⟨t, 0, none⟩)] W fun e w' => e = .returned (.int .i64 (usedN st)) ∧ W = w' := by
  obtain ⟨bs, c, hT0, _⟩ := h
  exact Len_any t st bs W hT0
theorem LL.find_some (h : LL w W t Lm st f) {s : ByteArray} {n : Nat} (hn : numAt st s = some n) (hs : s.size ≤ 9223372036854775807) : Calls Try.prog 12 #[.pointer (some ⟨t, 0, none⟩), .string s] W fun e w' => e = .returned (.tuple #[.int .i64 n, .bool true]) ∧ W = w' := by
  obtain ⟨bs, c, hT0, _⟩ := h
  have := Find_any t st bs s W hT0 hs
  rw [show findN st s = n by simp [findN, hn], show findB st s = true by simp [findB, hn]] at this
  exact this
theorem LL.find_none (h : LL w W t Lm st f) {s : ByteArray} (hn : numAt st s = none) (hs : s.size ≤ 9223372036854775807) : Calls Try.prog 12 #[.pointer (some ⟨t, 0, none⟩), .string s] W fun e w' => e = .returned (.tuple #[.int .i64 0, .bool false]) ∧ W = w' := by
  obtain ⟨bs, c, hT0, _⟩ := h
  have := Find_any t st bs s W hT0 hs
  rw [show findN st s = 0 by simp [findN, hn], show findB st s = false by simp [findB, hn]] at this
  exact this
/-- what the map reads -/
theorem LL.look (h : LL w W t Lm st f) {s : ByteArray} {k : Nat} (hs : s.size ≤ maxLen) (hk : (f s).getD (.int .i64 0) = .int .i64 (k : Int)) (n : Nat) : (Instr.lookup 55 (.map (some Lm)) (.string s) false).run Try.prog (W.drewN n) = .ok (.int .i64 (k : Int)) (W.drewN n) := by
  obtain ⟨bs, c, _, _, _, _, hm, _⟩ := h.drewN n
  rw [hm.look Try.underlying55 Try.underlying9 (zero_int _) hs, hk]
end
/-- the map says how often each string is there -/
def Rd (f : ByteArray → Option Value) (st : List (ByteArray × Nat)) : Prop := ∀ s, (f s).getD (.int .i64 0) = .int .i64 (cntT st s : Int)
theorem Rd.put {f : ByteArray → Option Value} {st st1 : List (ByteArray × Nat)} (h : Rd f st) {s : ByteArray} {v : Int} (hd : Dist st) (hd1 : Dist st1) (ho : ∀ s', s' ≠ s → ∀ u, HasE st1 s' u ↔ HasE st s' u) (hc : v = cntT st1 s) : Rd (putM f s (.int .i64 v)) st1 := fun s' => by
  unfold putM
  by_cases e : s' = s
  · subst e; rw [if_pos rfl, hc]; rfl
  · rw [if_neg e, h s', cnt_congr hd hd1 (ho s' e)]
theorem run_max_nat (a b : Nat) (w : World) : (Builtin.max_ #[3, 3] 3 #[.int .i64 (a : Int), .int .i64 (b : Int)]).run Try.prog w = .ok (.int .i64 ((max a b : Nat) : Int)) w := by
  have := Lib.run_max_ints (P := Try.prog) w #[3, 3] 3 .i64 .i64 (a : Int) (b : Int)
  rw [this]
  congr 2
  omega
/-- a list of strings that came in -/
def StrsAt (w : World) (A : Option Addr) (xs : List ByteArray) : Prop := ∀ j (h : j < xs.length), ∃ b o, A = some ⟨b, o, none⟩ ∧ b < w.heap.size ∧ w.cell? ⟨b, o + j, none⟩ = some (.string xs[j])
def IntsAt (w : World) (A : Option Addr) (xs : List Int) : Prop := ∀ j (h : j < xs.length), ∃ b o, A = some ⟨b, o, none⟩ ∧ b < w.heap.size ∧ w.cell? ⟨b, o + j, none⟩ = some (.int .i64 xs[j])
theorem HasE.sub {st st1 : List (ByteArray × Nat)} {s : ByteArray} {l : List ByteArray} (ho : ∀ s', s' ≠ s → ∀ u, HasE st1 s' u ↔ HasE st s' u) (h : ∀ s u, HasE st s u → s ∈ l) (hs : s ∈ l) : ∀ s' u, HasE st1 s' u → s' ∈ l := fun s' u h1 => by
  by_cases e : s' = s
  · subst e; exact hs
  · exact h s' u ((ho s' e u).1 h1)

theorem StrsAt.get {w : World} {A : Option Addr} {xs : List ByteArray} (h : StrsAt w A xs) (h0 : 0 < xs.length) : ∃ b o, A = some ⟨b, o, none⟩ ∧ b < w.heap.size ∧ ∀ j (h : j < xs.length), w.cell? ⟨b, o + j, none⟩ = some (.string xs[j]) := by
  obtain ⟨b, o, rfl, hb, _⟩ := h 0 h0
  refine ⟨b, o, rfl, hb, fun j hj => ?_⟩
  obtain ⟨b', o', e, _, hc⟩ := h j hj
  injection e with e
  injection e with e1 e2
  subst e1 e2
  exact hc
theorem IntsAt.get {w : World} {A : Option Addr} {xs : List Int} (h : IntsAt w A xs) (h0 : 0 < xs.length) : ∃ b o, A = some ⟨b, o, none⟩ ∧ b < w.heap.size ∧ ∀ j (h : j < xs.length), w.cell? ⟨b, o + j, none⟩ = some (.int .i64 xs[j]) := by
  obtain ⟨b, o, rfl, hb, _⟩ := h 0 h0
  refine ⟨b, o, rfl, hb, fun j hj => ?_⟩
  obtain ⟨b', o', e, _, hc⟩ := h j hj
  injection e with e
  injection e with e1 e2
  subst e1 e2
  exact hc
theorem Live.toLL {w W : World} {t : Nat} {st : List (ByteArray × Nat)} (h : Live w W t st) : LL w (W.alloc (.map #[] 0)) t W.heap.size st (fun _ => none) := by
  obtain ⟨bs, hT, hbs, hw⟩ := h
  exact ⟨bs, 0, hT.fr (Fr.alloc [] _ _) (by simp), hbs, fun hm => by have := hT.lt _ hm; omega, hw.size, SMap.made W, hw.alloc hw.size _⟩
theorem LL.uses' {w W : World} {t Lm : Nat} {st : List (ByteArray × Nat)} {f : ByteArray → Option Value} (h : LL w W t Lm st f) {n u : Nat} {s : ByteArray} (hn : st[n]? = some (s, u)) (hu : 0 < u) : Calls Try.prog 15 #[.pointer (some ⟨t, 0, none⟩), .int .i64 n] W fun e w' => e = .returned (.int .i64 u) ∧ w' = W :=
  (h.uses hn hu).mono fun _ _ ⟨he, hw⟩ => ⟨he, hw.symm⟩
theorem LL.entries {w W : World} {t Lm : Nat} {st : List (ByteArray × Nat)} {f : ByteArray → Option Value} (h : LL w W t Lm st f) (most : Nat) (hm : (eachT st 0).length ≤ most) (hm2 : most ≤ 100000) :
    Calls Try.prog 24 #[.pointer (some ⟨t, 0, none⟩), .int .i64 most] W fun e w' => ∃ v, e = .returned (.tuple #[v, .bool true]) ∧ EntAt W w' v (eachT st 0) ∧ LL w w' t Lm st f := by
  have h0 := h
  obtain ⟨bs, c, hT, _⟩ := h
  exact (entries_any t st bs most W hT hm hm2).mono fun _ _ ⟨v, he, hE⟩ => ⟨v, he, hE, h0.keep hE.bel⟩
/-- what the first loop holds -/
structure Inv (w wr : World) (t Lm : Nat) (texts : List ByteArray) (k m : Nat) (st : List (ByteArray × Nat)) (f : ByteArray → Option Value) : Prop where
  ll : LL w wr t Lm st f
  rd : Rd f st
  len : st.length ≤ m
  up : UpTo st k
  used : usedN st ≤ k
  sub : ∀ s u, HasE st s u → s ∈ texts.take k
theorem Inv.sub' {w wr : World} {t Lm m : Nat} {texts : List ByteArray} {st : List (ByteArray × Nat)} {f : ByteArray → Option Value} (h : Inv w wr t Lm texts texts.length m st f) {s : ByteArray} {u : Nat} (hh : HasE st s u) : s ∈ texts := by
  have := h.sub s u hh
  rwa [List.take_length] at this
theorem mem_take {texts : List ByteArray} {j k : Nat} (hj : j < k) (hl : j < texts.length) : texts[j] ∈ texts.take k := by
  rw [List.mem_take_iff_getElem]
  exact ⟨j, by omega, rfl⟩
theorem mem_take_succ {texts : List ByteArray} {k : Nat} {s : ByteArray} (h : s ∈ texts.take k) : s ∈ texts.take (k + 1) := by
  rw [List.mem_take_iff_getElem] at h ⊢
  obtain ⟨j, hj, rfl⟩ := h
  exact ⟨j, by omega, rfl⟩
theorem cnt_le {st : List (ByteArray × Nat)} {s : ByteArray} {B : Nat} (h : UpTo st B) : cntT st s ≤ B := by
  by_cases h0 : 0 < cntT st s
  · obtain ⟨n, h1, _⟩ := has_cnt h0
    exact h _ (List.mem_of_getElem? h1)
  · omega

set_option maxRecDepth 100000 in
set_option maxHeartbeats 40000000 in
theorem least_any (A B : Option Addr) (ca cb : Nat) (texts : List ByteArray) (drop : List Int) (w : World) (hA : StrsAt w A texts) (hB : IntsAt w B drop) (hs : ∀ s ∈ texts, s.size ≤ 9223372036854775807) (hd : ∀ d ∈ drop, -9223372036854775808 ≤ d ∧ d ≤ 9223372036854775807)
    (h1 : texts.length ≤ 60) (h2 : drop.length ≤ 60) :
    Calls Try.prog 5 #[.slice A texts.length ca, .slice B drop.length cb] w fun e w' => e = .returned (.bool true) ∧ Below w.heap.size w w' := by
  have hmm := @run_makeMap Try.prog
  go_enter Try.func5, Try.ntmps5
  go_wp2_with (first | (go_at_call 7; refine (lives_any _).mono ?_; rintro e w1 ⟨rfl, h⟩; have HL := Lib.hid h; clear h) | (go_at_call 8; refine (New_live w _ HL.out).mono ?_; rintro e w2 ⟨t, rfl, h⟩; have H0 := Lib.hid h; clear h HL))
  have HLL := Lib.hid H0.out.toLL
  have HT60 := Lib.hid h1
  clear H0
  generalize hLm : w2.heap.size = Lm at *
  clear hLm hmm
  go_loopw [7, 8, 9, 10, 11, 12, 13, 14] (fun a7 a8 _ _ _ _ _ _ wr => ∃ (k m : Nat) (st : List (ByteArray × Nat)) (f : ByteArray → Option Value), k ≤ texts.length ∧ m ≤ k ∧ a7 = .int .i64 m ∧ a8 = .int .i64 k ∧ RowKit.Hid (Inv w wr t Lm texts k m st f)) (fun _ a8 _ _ _ _ _ _ _ => texts.length - (intOf a8).toNat)
  case atStart => exact ⟨0, 0, [], fun _ => none, Nat.zero_le _, Nat.le_refl _, rfl, rfl, Lib.hid ⟨HLL.out, fun _ => rfl, Nat.zero_le _, fun p hp => by simp at hp, by simp [usedN], fun s u ⟨n, h, _⟩ => by simp at h⟩⟩
  case round =>
    obtain ⟨k, m, st, f, hk, hmk, rfl, rfl, HI⟩ := hrel
    by_cases hlt : k < texts.length
    · obtain ⟨bA, oA, rfl, hbA, hcA⟩ := hA.get (by omega)
      have hcAk := hcA k hlt
      obtain ⟨s, hsd⟩ : ∃ s, s = texts[k] := ⟨_, rfl⟩
      rw [← hsd] at hcAk
      have hsz := hs s (by rw [hsd]; exact List.getElem_mem hlt)
      have hsm : s.size ≤ maxLen := by unfold maxLen; omega
      have HIN : RowKit.Hid (s ∈ texts.take (k + 1)) := Lib.hid (by rw [hsd]; exact mem_take (by omega) hlt)
      have cA := (HI.out.ll.bel.cell (p := ⟨bA, oA + k, none⟩) hbA).trans hcAk
      have HCA := Lib.hid hcA
      have hq : (0 : Int) ≤ k := by omega
      have hq2 : (k : Int) < texts.length := by omega
      clear hcA hsd hcAk hA HLL
      by_cases hz : 1 ≤ s.size ∧ s.size ≤ 255
      · obtain ⟨hz1, hz2⟩ := hz
        obtain ⟨st1, n1, hT, tk⟩ := took hz1 hz2 (by have := HI.out.used; omega) HI.out.up
        obtain ⟨c0, hc0⟩ : ∃ c0, c0 = cntT st s := ⟨_, rfl⟩
        obtain ⟨c1, hc1⟩ : ∃ c1, c1 = c0 + 1 := ⟨_, rfl⟩
        have hat1 : st1[n1]? = some (s, c1) := by rw [hc1, hc0]; exact tk.at_
        have hpos : 0 < c1 := by omega
        have e1 : (c0 : Int) + 1 = (c1 : Int) := by omega
        have hc0k : c0 ≤ k := by rw [hc0]; exact cnt_le HI.out.up
        have HR0 : RowKit.Hid ((f s).getD (.int .i64 0) = .int .i64 (c0 : Int)) := Lib.hid (by rw [HI.out.rd s, hc0])
        obtain ⟨m1, hm1⟩ : ∃ m1, m1 = max m (usedN st1) := ⟨_, rfl⟩
        have hmx := run_max_nat m (usedN st1)
        rw [← hm1] at hmx
        have hn1l : n1 < st1.length := (List.getElem?_eq_some_iff.1 hat1).1
        have hl1 : st1.length ≤ m1 := by
          rcases tk.len with h | h
          · have := HI.out.len; omega
          · omega
        have hm1k : m1 ≤ k + 1 := by have := tk.used; have := HI.out.used; omega
        have hn1m : n1 < m1 := by omega
        have hself : (s.toList == s.toList) = true := by simp
        have hz5 : decide ((s.size : Int) ≤ 255) = true := by rw [decide_eq_true_eq]; omega
        have HLEN := Lib.hid hl1
        have HUSED : RowKit.Hid (usedN st1 ≤ k + 1) := Lib.hid (by have := tk.used; have := HI.out.used; omega)
        have HSUB := Lib.hid (HasE.sub tk.oth (fun s u h => mem_take_succ (HI.out.sub s u h)) HIN.out)
        have HAT := Lib.hid hat1
        have HTK := Lib.hid tk
        have HT := Lib.hid hT
        clear hat1 tk hT hc0 hc1 hm1 hl1 hn1l
        by_cases hk0 : drop.length ≤ k
        · go_wp2_with (first | (go_at_call 9; refine (HI.out.ll.take HT.out HI.out.up (by omega) hsz).mono ?_; rintro e w3 ⟨rfl, h⟩; have q3 : (Instr.lookup 55 (.map (some Lm)) (.string s) false).run Try.prog w3 = .ok (.int .i64 (c0 : Int)) w3 := h.look hsm HR0.out 0; have HL3 := Lib.hid h; clear h) | (at_mapUpdate; obtain ⟨bs3, cc3, hT3, hbs3, hL3, hl3, hm3, hw3⟩ := HL3.out; refine wpList_store_mine _ rfl (.tmp 62) (.tmp 63) (.tmp 65) 55 rfl 9 3 Try.underlying55 Try.underlying9 Lm cc3 f rfl hm3 s (.int .i64 (c1 : Int)) rfl rfl hsm ?_; intro w4 hm4 hf4; have h4 := HL3.out.store hm4 hf4; have HC1 := Lib.hid (cnt_has h4.dist ⟨n1, HAT.out, hpos⟩); have HRX := Lib.hid (Rd.put HI.out.rd HI.out.ll.dist h4.dist HTK.out.oth (by rw [HC1.out])); have q4 := h4.look hsm (k := c1) (by rw [HRX.out s, HC1.out]); have q40 : (Instr.lookup 55 (.map (some Lm)) (.string s) false).run Try.prog w4 = .ok (.int .i64 (c1 : Int)) w4 := q4 0;  have HLX := Lib.hid h4; clear h4 hm4 hf4 hT3 hbs3 hL3 hl3 hm3 hw3 HL3 q3) | (go_at_call 16; refine HLX.out.len.mono ?_; rintro e w' ⟨rfl, rfl⟩) | (go_at_call 11; refine (HLX.out.text HAT.out hpos).mono ?_; rintro e w' ⟨rfl, rfl⟩))
          go_quiet ((go_at_call 15; refine Calls.quiet_of_same ((HLX.out.drewN _).uses' HAT.out hpos)))
          go_wp2
          go_roundw
          case rel => exact ⟨k + 1, m1, st1, _, by omega, by omega, rfl, by go_num, Lib.hid ⟨(HLX.out.drewN nq), HRX.out, HLEN.out, HTK.out.up, HUSED.out, HSUB.out⟩⟩
          case measure => simp [intOf]; omega
        · obtain ⟨bB, oB, rfl, hbB, hcB⟩ := hB.get (by omega)
          have hcBk := hcB k (by omega)
          obtain ⟨d, hdd⟩ : ∃ d, d = drop[k] := ⟨_, rfl⟩
          rw [← hdd] at hcBk
          have hdr := hd d (by rw [hdd]; exact List.getElem_mem _)
          have HcB := Lib.hid hcBk
          obtain ⟨hdr1, hdr2⟩ := hdr
          have hq3 : (k : Int) < drop.length := by omega
          clear hcB hdd hcBk hB
          by_cases hd0 : d < 0
          · go_wp2_with (first | (go_at_call 9; refine (HI.out.ll.take HT.out HI.out.up (by omega) hsz).mono ?_; rintro e w3 ⟨rfl, h⟩; have q3 : (Instr.lookup 55 (.map (some Lm)) (.string s) false).run Try.prog w3 = .ok (.int .i64 (c0 : Int)) w3 := h.look hsm HR0.out 0; have HL3 := Lib.hid h; clear h) | (at_mapUpdate; obtain ⟨bs3, cc3, hT3, hbs3, hL3, hl3, hm3, hw3⟩ := HL3.out; refine wpList_store_mine _ rfl (.tmp 62) (.tmp 63) (.tmp 65) 55 rfl 9 3 Try.underlying55 Try.underlying9 Lm cc3 f rfl hm3 s (.int .i64 (c1 : Int)) rfl rfl hsm ?_; intro w4 hm4 hf4; have h4 := HL3.out.store hm4 hf4; have HC1 := Lib.hid (cnt_has h4.dist ⟨n1, HAT.out, hpos⟩); have HRX := Lib.hid (Rd.put HI.out.rd HI.out.ll.dist h4.dist HTK.out.oth (by rw [HC1.out])); have q4 := h4.look hsm (k := c1) (by rw [HRX.out s, HC1.out]); have q40 : (Instr.lookup 55 (.map (some Lm)) (.string s) false).run Try.prog w4 = .ok (.int .i64 (c1 : Int)) w4 := q4 0; have cB : World.cell? w4 ⟨bB, oB + k, none⟩ = some (.int .i64 d) := (h4.bel.cell (p := ⟨bB, oB + k, none⟩) hbB).trans HcB.out;  have HLX := Lib.hid h4; clear h4 hm4 hf4 hT3 hbs3 hL3 hl3 hm3 hw3 HL3 q3) | (go_at_call 16; refine HLX.out.len.mono ?_; rintro e w' ⟨rfl, rfl⟩) | (go_at_call 11; refine (HLX.out.text HAT.out hpos).mono ?_; rintro e w' ⟨rfl, rfl⟩))
            go_quiet ((go_at_call 15; refine Calls.quiet_of_same ((HLX.out.drewN _).uses' HAT.out hpos)))
            go_wp2
            go_roundw
            case rel => exact ⟨k + 1, m1, st1, _, by omega, by omega, rfl, by go_num, Lib.hid ⟨(HLX.out.drewN nq), HRX.out, HLEN.out, HTK.out.up, HUSED.out, HSUB.out⟩⟩
            case measure => simp [intOf]; omega
          · obtain ⟨j, hj, hjk⟩ : ∃ j : Nat, pickI d ((k : Int) + 1) = j ∧ j ≤ k := ⟨(pickI d ((k : Int) + 1)).toNat, by have := pick_range d ((k : Int) + 1) (by omega); omega⟩
            have hjl : j < texts.length := by omega
            have hcj := HCA.out j hjl
            obtain ⟨s2, hs2d⟩ : ∃ s2, s2 = texts[j] := ⟨_, rfl⟩
            rw [← hs2d] at hcj
            have hs2z := hs s2 (by rw [hs2d]; exact List.getElem_mem hjl)
            have hs2m : s2.size ≤ maxLen := by unfold maxLen; omega
            have HcA2 := Lib.hid hcj
            have HP := Lib.hid hj
            have hj1 : (0 : Int) ≤ j := by omega
            have hj2 : (j : Int) < texts.length := by omega
            have HIN2 : RowKit.Hid (s2 ∈ texts.take (k + 1)) := Lib.hid (by rw [hs2d]; exact mem_take (by omega) hjl)
            clear hcj hj hs2d
            cases hN : numAt st1 s2 with
            | none =>
              have HN := Lib.hid hN
              have HC2 := Lib.hid (cnt_none hN)
              clear hN
              go_wp2_with (first | (go_at_call 9; refine (HI.out.ll.take HT.out HI.out.up (by omega) hsz).mono ?_; rintro e w3 ⟨rfl, h⟩; have q3 : (Instr.lookup 55 (.map (some Lm)) (.string s) false).run Try.prog w3 = .ok (.int .i64 (c0 : Int)) w3 := h.look hsm HR0.out 0; have HL3 := Lib.hid h; clear h) | (at_mapUpdate; obtain ⟨bs3, cc3, hT3, hbs3, hL3, hl3, hm3, hw3⟩ := HL3.out; refine wpList_store_mine _ rfl (.tmp 62) (.tmp 63) (.tmp 65) 55 rfl 9 3 Try.underlying55 Try.underlying9 Lm cc3 f rfl hm3 s (.int .i64 (c1 : Int)) rfl rfl hsm ?_; intro w4 hm4 hf4; have h4 := HL3.out.store hm4 hf4; have HC1 := Lib.hid (cnt_has h4.dist ⟨n1, HAT.out, hpos⟩); have HRX := Lib.hid (Rd.put HI.out.rd HI.out.ll.dist h4.dist HTK.out.oth (by rw [HC1.out])); have q4 := h4.look hsm (k := c1) (by rw [HRX.out s, HC1.out]); have q40 : (Instr.lookup 55 (.map (some Lm)) (.string s) false).run Try.prog w4 = .ok (.int .i64 (c1 : Int)) w4 := q4 0; have cB : World.cell? w4 ⟨bB, oB + k, none⟩ = some (.int .i64 d) := (h4.bel.cell (p := ⟨bB, oB + k, none⟩) hbB).trans HcB.out; have cA2 : World.cell? w4 ⟨bA, oA + j, none⟩ = some (.string s2) := (h4.bel.cell (p := ⟨bA, oA + j, none⟩) hbA).trans HcA2.out;  have HLX := Lib.hid h4; clear h4 hm4 hf4 hT3 hbs3 hL3 hl3 hm3 hw3 HL3 q3) | (go_at_call 16; refine HLX.out.len.mono ?_; rintro e w' ⟨rfl, rfl⟩) | (go_at_call 11; refine (HLX.out.text HAT.out hpos).mono ?_; rintro e w' ⟨rfl, rfl⟩) | (go_at_call 19; refine (pick_any d ((k : Int) + 1) _ (by omega) (by omega) hdr1 hdr2).mono ?_; rw [HP.out]; rintro e w' ⟨rfl, rfl⟩) | (go_at_call 12; refine ((HLX.out.drewN nq).find_none HN.out hs2z).mono ?_; rintro e w' ⟨rfl, rfl⟩; have q5 : (Instr.lookup 55 (.map (some Lm)) (.string s2) false).run Try.prog (w4.drewN nq) = .ok (.int .i64 0) (w4.drewN nq) := HLX.out.look hs2m (k := 0) (by rw [HRX.out s2, HC2.out]) nq))
              go_quiet ((go_at_call 15; refine Calls.quiet_of_same ((HLX.out.drewN _).uses' HAT.out hpos)))
              go_wp2_with (first | (go_at_call 19; refine (pick_any d ((k : Int) + 1) _ (by omega) (by omega) hdr1 hdr2).mono ?_; rw [HP.out]; rintro e w' ⟨rfl, rfl⟩) | (go_at_call 12; refine ((HLX.out.drewN nq).find_none HN.out hs2z).mono ?_; rintro e w' ⟨rfl, rfl⟩; have q5 : (Instr.lookup 55 (.map (some Lm)) (.string s2) false).run Try.prog (w4.drewN nq) = .ok (.int .i64 0) (w4.drewN nq) := HLX.out.look hs2m (k := 0) (by rw [HRX.out s2, HC2.out]) nq))
              go_roundw
              case rel => exact ⟨k + 1, m1, st1, _, by omega, by omega, rfl, by go_num, Lib.hid ⟨(HLX.out.drewN nq), HRX.out, HLEN.out, HTK.out.up, HUSED.out, HSUB.out⟩⟩
              case measure => simp [intOf]; omega
            | some n2 =>
              have HN := Lib.hid hN
              obtain ⟨c2, hc2⟩ : ∃ c2, c2 = cntT st1 s2 := ⟨_, rfl⟩
              have hc2p : 0 < c2 := by rw [hc2]; exact (cnt_some hN).2
              have hc2k : c2 ≤ k + 1 := by rw [hc2]; exact cnt_le HTK.out.up
              have HC2 := Lib.hid hc2.symm
              clear hN hc2
              go_wp2_with (first | (go_at_call 9; refine (HI.out.ll.take HT.out HI.out.up (by omega) hsz).mono ?_; rintro e w3 ⟨rfl, h⟩; have q3 : (Instr.lookup 55 (.map (some Lm)) (.string s) false).run Try.prog w3 = .ok (.int .i64 (c0 : Int)) w3 := h.look hsm HR0.out 0; have HL3 := Lib.hid h; clear h) | (at_mapUpdate; obtain ⟨bs3, cc3, hT3, hbs3, hL3, hl3, hm3, hw3⟩ := HL3.out; refine wpList_store_mine _ rfl (.tmp 62) (.tmp 63) (.tmp 65) 55 rfl 9 3 Try.underlying55 Try.underlying9 Lm cc3 f rfl hm3 s (.int .i64 (c1 : Int)) rfl rfl hsm ?_; intro w4 hm4 hf4; have h4 := HL3.out.store hm4 hf4; have HC1 := Lib.hid (cnt_has h4.dist ⟨n1, HAT.out, hpos⟩); have HRX := Lib.hid (Rd.put HI.out.rd HI.out.ll.dist h4.dist HTK.out.oth (by rw [HC1.out])); have q4 := h4.look hsm (k := c1) (by rw [HRX.out s, HC1.out]); have q40 : (Instr.lookup 55 (.map (some Lm)) (.string s) false).run Try.prog w4 = .ok (.int .i64 (c1 : Int)) w4 := q4 0; have cB : World.cell? w4 ⟨bB, oB + k, none⟩ = some (.int .i64 d) := (h4.bel.cell (p := ⟨bB, oB + k, none⟩) hbB).trans HcB.out; have cA2 : World.cell? w4 ⟨bA, oA + j, none⟩ = some (.string s2) := (h4.bel.cell (p := ⟨bA, oA + j, none⟩) hbA).trans HcA2.out;  have HLX := Lib.hid h4; clear h4 hm4 hf4 hT3 hbs3 hL3 hl3 hm3 hw3 HL3 q3) | (go_at_call 16; refine HLX.out.len.mono ?_; rintro e w' ⟨rfl, rfl⟩) | (go_at_call 11; refine (HLX.out.text HAT.out hpos).mono ?_; rintro e w' ⟨rfl, rfl⟩) | (go_at_call 19; refine (pick_any d ((k : Int) + 1) _ (by omega) (by omega) hdr1 hdr2).mono ?_; rw [HP.out]; rintro e w' ⟨rfl, rfl⟩) | (go_at_call 12; refine ((HLX.out.drewN nq).find_some HN.out hs2z).mono ?_; rintro e w' ⟨rfl, rfl⟩; have q5 : (Instr.lookup 55 (.map (some Lm)) (.string s2) false).run Try.prog (w4.drewN nq) = .ok (.int .i64 (c2 : Int)) (w4.drewN nq) := HLX.out.look hs2m (k := c2) (by rw [HRX.out s2, HC2.out]) nq; obtain ⟨st2, hD, gn⟩ := gone HLX.out.dist HN.out HTK.out.up; have HD := Lib.hid hD; have HG := Lib.hid gn; clear hD gn) | (go_at_call 14; refine ((HLX.out.drewN nq).drop HD.out HTK.out.up (by omega)).mono ?_; rintro e w5 ⟨rfl, h⟩; have q6 : (Instr.lookup 55 (.map (some Lm)) (.string s2) false).run Try.prog w5 = .ok (.int .i64 (c2 : Int)) w5 := h.look hs2m (k := c2) (by rw [HRX.out s2, HC2.out]) 0; have HL5 := Lib.hid h; clear h) | (at_mapUpdate; obtain ⟨bs5, cc5, hT5, hbs5, hL5, hl5, hm5, hw5⟩ := HL5.out; refine wpList_store_mine _ rfl (.tmp 139) (.tmp 140) (.tmp 142) 55 rfl 9 3 Try.underlying55 Try.underlying9 Lm cc5 (putM f s (.int .i64 (c1 : Int))) rfl hm5 s2 (.int .i64 ((c2 : Int) - 1)) rfl rfl hs2m ?_; intro w6 hm6 hf6; have h6 := HL5.out.store hm6 hf6; have HR6 := Lib.hid (Rd.put (v := (c2 : Int) - 1) HRX.out HLX.out.dist h6.dist HG.out.oth (by have e := HG.out.cnt h6.dist; have e2 := HC2.out; omega)); have HL6 := Lib.hid h6; clear h6 hm6 hf6 hT5 hbs5 hL5 hl5 hm5 hw5))
              go_quiet ((go_at_call 15; refine Calls.quiet_of_same ((HLX.out.drewN _).uses' HAT.out hpos)))
              go_wp2_with (first | (go_at_call 19; refine (pick_any d ((k : Int) + 1) _ (by omega) (by omega) hdr1 hdr2).mono ?_; rw [HP.out]; rintro e w' ⟨rfl, rfl⟩) | (go_at_call 12; refine ((HLX.out.drewN nq).find_some HN.out hs2z).mono ?_; rintro e w' ⟨rfl, rfl⟩; have q5 : (Instr.lookup 55 (.map (some Lm)) (.string s2) false).run Try.prog (w4.drewN nq) = .ok (.int .i64 (c2 : Int)) (w4.drewN nq) := HLX.out.look hs2m (k := c2) (by rw [HRX.out s2, HC2.out]) nq; obtain ⟨st2, hD, gn⟩ := gone HLX.out.dist HN.out HTK.out.up; have HD := Lib.hid hD; have HG := Lib.hid gn; clear hD gn) | (go_at_call 14; refine ((HLX.out.drewN nq).drop HD.out HTK.out.up (by omega)).mono ?_; rintro e w5 ⟨rfl, h⟩; have q6 : (Instr.lookup 55 (.map (some Lm)) (.string s2) false).run Try.prog w5 = .ok (.int .i64 (c2 : Int)) w5 := h.look hs2m (k := c2) (by rw [HRX.out s2, HC2.out]) 0; have HL5 := Lib.hid h; clear h) | (at_mapUpdate; obtain ⟨bs5, cc5, hT5, hbs5, hL5, hl5, hm5, hw5⟩ := HL5.out; refine wpList_store_mine _ rfl (.tmp 139) (.tmp 140) (.tmp 142) 55 rfl 9 3 Try.underlying55 Try.underlying9 Lm cc5 (putM f s (.int .i64 (c1 : Int))) rfl hm5 s2 (.int .i64 ((c2 : Int) - 1)) rfl rfl hs2m ?_; intro w6 hm6 hf6; have h6 := HL5.out.store hm6 hf6; have HR6 := Lib.hid (Rd.put (v := (c2 : Int) - 1) HRX.out HLX.out.dist h6.dist HG.out.oth (by have e := HG.out.cnt h6.dist; have e2 := HC2.out; omega)); have HL6 := Lib.hid h6; clear h6 hm6 hf6 hT5 hbs5 hL5 hl5 hm5 hw5))
              go_roundw
              case rel => exact ⟨k + 1, m1, st2, _, by omega, by omega, rfl, by go_num, Lib.hid ⟨HL6.out, HR6.out, by rw [HG.out.len]; exact HLEN.out, HG.out.up, Nat.le_trans HG.out.used HUSED.out, HasE.sub HG.out.oth HSUB.out (HIN2.out)⟩⟩
              case measure => simp [intOf]; omega
      · have HT := Lib.hid (took_bad (st := st) hz)
        have HLEN := Lib.hid HI.out.len
        have HUP1 : RowKit.Hid (UpTo st (k + 1)) := Lib.hid (fun p hp => by have := HI.out.up p hp; omega)
        have HUSED : RowKit.Hid (usedN st ≤ k + 1) := Lib.hid (by have := HI.out.used; omega)
        have HSUB : RowKit.Hid (∀ s u, HasE st s u → s ∈ texts.take (k + 1)) := Lib.hid (fun s u h => mem_take_succ (HI.out.sub s u h))
        by_cases hz0 : s.size < 1
        · have hz3 : ¬ (1 ≤ s.size) := by omega
          by_cases hk0 : drop.length ≤ k
          · go_wp2_with (first | (go_at_call 9; refine (HI.out.ll.take HT.out HI.out.up (by omega) hsz).mono ?_; rintro e w3 ⟨rfl, h⟩;  have HLX := Lib.hid h; have HRX := Lib.hid HI.out.rd; clear h))
            go_roundw
            case rel => exact ⟨k + 1, m, st, _, by omega, by omega, rfl, by go_num, Lib.hid ⟨HLX.out, HRX.out, HLEN.out, HUP1.out, HUSED.out, HSUB.out⟩⟩
            case measure => simp [intOf]; omega
          · obtain ⟨bB, oB, rfl, hbB, hcB⟩ := hB.get (by omega)
            have hcBk := hcB k (by omega)
            obtain ⟨d, hdd⟩ : ∃ d, d = drop[k] := ⟨_, rfl⟩
            rw [← hdd] at hcBk
            have hdr := hd d (by rw [hdd]; exact List.getElem_mem _)
            have HcB := Lib.hid hcBk
            obtain ⟨hdr1, hdr2⟩ := hdr
            have hq3 : (k : Int) < drop.length := by omega
            clear hcB hdd hcBk hB
            by_cases hd0 : d < 0
            · go_wp2_with (first | (go_at_call 9; refine (HI.out.ll.take HT.out HI.out.up (by omega) hsz).mono ?_; rintro e w3 ⟨rfl, h⟩; have cB : World.cell? w3 ⟨bB, oB + k, none⟩ = some (.int .i64 d) := (h.bel.cell (p := ⟨bB, oB + k, none⟩) hbB).trans HcB.out;  have HLX := Lib.hid h; have HRX := Lib.hid HI.out.rd; clear h))
              go_roundw
              case rel => exact ⟨k + 1, m, st, _, by omega, by omega, rfl, by go_num, Lib.hid ⟨HLX.out, HRX.out, HLEN.out, HUP1.out, HUSED.out, HSUB.out⟩⟩
              case measure => simp [intOf]; omega
            · obtain ⟨j, hj, hjk⟩ : ∃ j : Nat, pickI d ((k : Int) + 1) = j ∧ j ≤ k := ⟨(pickI d ((k : Int) + 1)).toNat, by have := pick_range d ((k : Int) + 1) (by omega); omega⟩
              have hjl : j < texts.length := by omega
              have hcj := HCA.out j hjl
              obtain ⟨s2, hs2d⟩ : ∃ s2, s2 = texts[j] := ⟨_, rfl⟩
              rw [← hs2d] at hcj
              have hs2z := hs s2 (by rw [hs2d]; exact List.getElem_mem hjl)
              have hs2m : s2.size ≤ maxLen := by unfold maxLen; omega
              have HcA2 := Lib.hid hcj
              have HP := Lib.hid hj
              have hj1 : (0 : Int) ≤ j := by omega
              have hj2 : (j : Int) < texts.length := by omega
              have HIN2 : RowKit.Hid (s2 ∈ texts.take (k + 1)) := Lib.hid (by rw [hs2d]; exact mem_take (by omega) hjl)
              clear hcj hj hs2d
              cases hN : numAt st s2 with
              | none =>
                have HN := Lib.hid hN
                have HC2 := Lib.hid (cnt_none hN)
                clear hN
                go_wp2_with (first | (go_at_call 9; refine (HI.out.ll.take HT.out HI.out.up (by omega) hsz).mono ?_; rintro e w3 ⟨rfl, h⟩; have cB : World.cell? w3 ⟨bB, oB + k, none⟩ = some (.int .i64 d) := (h.bel.cell (p := ⟨bB, oB + k, none⟩) hbB).trans HcB.out; have cA2 : World.cell? w3 ⟨bA, oA + j, none⟩ = some (.string s2) := (h.bel.cell (p := ⟨bA, oA + j, none⟩) hbA).trans HcA2.out;  have HLX := Lib.hid h; have HRX := Lib.hid HI.out.rd; clear h) | (go_at_call 19; refine (pick_any d ((k : Int) + 1) _ (by omega) (by omega) hdr1 hdr2).mono ?_; rw [HP.out]; rintro e w' ⟨rfl, rfl⟩) | (go_at_call 12; refine (HLX.out.find_none HN.out hs2z).mono ?_; rintro e w' ⟨rfl, rfl⟩; have q5 : (Instr.lookup 55 (.map (some Lm)) (.string s2) false).run Try.prog w3 = .ok (.int .i64 0) w3 := HLX.out.look hs2m (k := 0) (by rw [HRX.out s2, HC2.out]) 0))
                go_roundw
                case rel => exact ⟨k + 1, m, st, _, by omega, by omega, rfl, by go_num, Lib.hid ⟨HLX.out, HRX.out, HLEN.out, HUP1.out, HUSED.out, HSUB.out⟩⟩
                case measure => simp [intOf]; omega
              | some n2 =>
                have HN := Lib.hid hN
                obtain ⟨c2, hc2⟩ : ∃ c2, c2 = cntT st s2 := ⟨_, rfl⟩
                have hc2p : 0 < c2 := by rw [hc2]; exact (cnt_some hN).2
                have hc2k : c2 ≤ k + 1 := by rw [hc2]; exact cnt_le HUP1.out
                have HC2 := Lib.hid hc2.symm
                clear hN hc2
                go_wp2_with (first | (go_at_call 9; refine (HI.out.ll.take HT.out HI.out.up (by omega) hsz).mono ?_; rintro e w3 ⟨rfl, h⟩; have cB : World.cell? w3 ⟨bB, oB + k, none⟩ = some (.int .i64 d) := (h.bel.cell (p := ⟨bB, oB + k, none⟩) hbB).trans HcB.out; have cA2 : World.cell? w3 ⟨bA, oA + j, none⟩ = some (.string s2) := (h.bel.cell (p := ⟨bA, oA + j, none⟩) hbA).trans HcA2.out;  have HLX := Lib.hid h; have HRX := Lib.hid HI.out.rd; clear h) | (go_at_call 19; refine (pick_any d ((k : Int) + 1) _ (by omega) (by omega) hdr1 hdr2).mono ?_; rw [HP.out]; rintro e w' ⟨rfl, rfl⟩) | (go_at_call 12; refine (HLX.out.find_some HN.out hs2z).mono ?_; rintro e w' ⟨rfl, rfl⟩; have q5 : (Instr.lookup 55 (.map (some Lm)) (.string s2) false).run Try.prog w3 = .ok (.int .i64 (c2 : Int)) w3 := HLX.out.look hs2m (k := c2) (by rw [HRX.out s2, HC2.out]) 0; obtain ⟨st2, hD, gn⟩ := gone HLX.out.dist HN.out HUP1.out; have HD := Lib.hid hD; have HG := Lib.hid gn; clear hD gn) | (go_at_call 14; refine (HLX.out.drop HD.out HUP1.out (by omega)).mono ?_; rintro e w5 ⟨rfl, h⟩; have q6 : (Instr.lookup 55 (.map (some Lm)) (.string s2) false).run Try.prog w5 = .ok (.int .i64 (c2 : Int)) w5 := h.look hs2m (k := c2) (by rw [HRX.out s2, HC2.out]) 0; have HL5 := Lib.hid h; clear h) | (at_mapUpdate; obtain ⟨bs5, cc5, hT5, hbs5, hL5, hl5, hm5, hw5⟩ := HL5.out; refine wpList_store_mine _ rfl (.tmp 139) (.tmp 140) (.tmp 142) 55 rfl 9 3 Try.underlying55 Try.underlying9 Lm cc5 f rfl hm5 s2 (.int .i64 ((c2 : Int) - 1)) rfl rfl hs2m ?_; intro w6 hm6 hf6; have h6 := HL5.out.store hm6 hf6; have HR6 := Lib.hid (Rd.put (v := (c2 : Int) - 1) HRX.out HLX.out.dist h6.dist HG.out.oth (by have e := HG.out.cnt h6.dist; have e2 := HC2.out; omega)); have HL6 := Lib.hid h6; clear h6 hm6 hf6 hT5 hbs5 hL5 hl5 hm5 hw5))
                go_roundw
                case rel => exact ⟨k + 1, m, st2, _, by omega, by omega, rfl, by go_num, Lib.hid ⟨HL6.out, HR6.out, by rw [HG.out.len]; exact HLEN.out, HG.out.up, Nat.le_trans HG.out.used HUSED.out, HasE.sub HG.out.oth HSUB.out (HIN2.out)⟩⟩
                case measure => simp [intOf]; omega
        · have hz3 : 255 < s.size := by omega
          have hz4 : 1 ≤ s.size := by omega
          by_cases hk0 : drop.length ≤ k
          · go_wp2_with (first | (go_at_call 9; refine (HI.out.ll.take HT.out HI.out.up (by omega) hsz).mono ?_; rintro e w3 ⟨rfl, h⟩;  have HLX := Lib.hid h; have HRX := Lib.hid HI.out.rd; clear h))
            go_roundw
            case rel => exact ⟨k + 1, m, st, _, by omega, by omega, rfl, by go_num, Lib.hid ⟨HLX.out, HRX.out, HLEN.out, HUP1.out, HUSED.out, HSUB.out⟩⟩
            case measure => simp [intOf]; omega
          · obtain ⟨bB, oB, rfl, hbB, hcB⟩ := hB.get (by omega)
            have hcBk := hcB k (by omega)
            obtain ⟨d, hdd⟩ : ∃ d, d = drop[k] := ⟨_, rfl⟩
            rw [← hdd] at hcBk
            have hdr := hd d (by rw [hdd]; exact List.getElem_mem _)
            have HcB := Lib.hid hcBk
            obtain ⟨hdr1, hdr2⟩ := hdr
            have hq3 : (k : Int) < drop.length := by omega
            clear hcB hdd hcBk hB
            by_cases hd0 : d < 0
            · go_wp2_with (first | (go_at_call 9; refine (HI.out.ll.take HT.out HI.out.up (by omega) hsz).mono ?_; rintro e w3 ⟨rfl, h⟩; have cB : World.cell? w3 ⟨bB, oB + k, none⟩ = some (.int .i64 d) := (h.bel.cell (p := ⟨bB, oB + k, none⟩) hbB).trans HcB.out;  have HLX := Lib.hid h; have HRX := Lib.hid HI.out.rd; clear h))
              go_roundw
              case rel => exact ⟨k + 1, m, st, _, by omega, by omega, rfl, by go_num, Lib.hid ⟨HLX.out, HRX.out, HLEN.out, HUP1.out, HUSED.out, HSUB.out⟩⟩
              case measure => simp [intOf]; omega
            · obtain ⟨j, hj, hjk⟩ : ∃ j : Nat, pickI d ((k : Int) + 1) = j ∧ j ≤ k := ⟨(pickI d ((k : Int) + 1)).toNat, by have := pick_range d ((k : Int) + 1) (by omega); omega⟩
              have hjl : j < texts.length := by omega
              have hcj := HCA.out j hjl
              obtain ⟨s2, hs2d⟩ : ∃ s2, s2 = texts[j] := ⟨_, rfl⟩
              rw [← hs2d] at hcj
              have hs2z := hs s2 (by rw [hs2d]; exact List.getElem_mem hjl)
              have hs2m : s2.size ≤ maxLen := by unfold maxLen; omega
              have HcA2 := Lib.hid hcj
              have HP := Lib.hid hj
              have hj1 : (0 : Int) ≤ j := by omega
              have hj2 : (j : Int) < texts.length := by omega
              have HIN2 : RowKit.Hid (s2 ∈ texts.take (k + 1)) := Lib.hid (by rw [hs2d]; exact mem_take (by omega) hjl)
              clear hcj hj hs2d
              cases hN : numAt st s2 with
              | none =>
                have HN := Lib.hid hN
                have HC2 := Lib.hid (cnt_none hN)
                clear hN
                go_wp2_with (first | (go_at_call 9; refine (HI.out.ll.take HT.out HI.out.up (by omega) hsz).mono ?_; rintro e w3 ⟨rfl, h⟩; have cB : World.cell? w3 ⟨bB, oB + k, none⟩ = some (.int .i64 d) := (h.bel.cell (p := ⟨bB, oB + k, none⟩) hbB).trans HcB.out; have cA2 : World.cell? w3 ⟨bA, oA + j, none⟩ = some (.string s2) := (h.bel.cell (p := ⟨bA, oA + j, none⟩) hbA).trans HcA2.out;  have HLX := Lib.hid h; have HRX := Lib.hid HI.out.rd; clear h) | (go_at_call 19; refine (pick_any d ((k : Int) + 1) _ (by omega) (by omega) hdr1 hdr2).mono ?_; rw [HP.out]; rintro e w' ⟨rfl, rfl⟩) | (go_at_call 12; refine (HLX.out.find_none HN.out hs2z).mono ?_; rintro e w' ⟨rfl, rfl⟩; have q5 : (Instr.lookup 55 (.map (some Lm)) (.string s2) false).run Try.prog w3 = .ok (.int .i64 0) w3 := HLX.out.look hs2m (k := 0) (by rw [HRX.out s2, HC2.out]) 0))
                go_roundw
                case rel => exact ⟨k + 1, m, st, _, by omega, by omega, rfl, by go_num, Lib.hid ⟨HLX.out, HRX.out, HLEN.out, HUP1.out, HUSED.out, HSUB.out⟩⟩
                case measure => simp [intOf]; omega
              | some n2 =>
                have HN := Lib.hid hN
                obtain ⟨c2, hc2⟩ : ∃ c2, c2 = cntT st s2 := ⟨_, rfl⟩
                have hc2p : 0 < c2 := by rw [hc2]; exact (cnt_some hN).2
                have hc2k : c2 ≤ k + 1 := by rw [hc2]; exact cnt_le HUP1.out
                have HC2 := Lib.hid hc2.symm
                clear hN hc2
                go_wp2_with (first | (go_at_call 9; refine (HI.out.ll.take HT.out HI.out.up (by omega) hsz).mono ?_; rintro e w3 ⟨rfl, h⟩; have cB : World.cell? w3 ⟨bB, oB + k, none⟩ = some (.int .i64 d) := (h.bel.cell (p := ⟨bB, oB + k, none⟩) hbB).trans HcB.out; have cA2 : World.cell? w3 ⟨bA, oA + j, none⟩ = some (.string s2) := (h.bel.cell (p := ⟨bA, oA + j, none⟩) hbA).trans HcA2.out;  have HLX := Lib.hid h; have HRX := Lib.hid HI.out.rd; clear h) | (go_at_call 19; refine (pick_any d ((k : Int) + 1) _ (by omega) (by omega) hdr1 hdr2).mono ?_; rw [HP.out]; rintro e w' ⟨rfl, rfl⟩) | (go_at_call 12; refine (HLX.out.find_some HN.out hs2z).mono ?_; rintro e w' ⟨rfl, rfl⟩; have q5 : (Instr.lookup 55 (.map (some Lm)) (.string s2) false).run Try.prog w3 = .ok (.int .i64 (c2 : Int)) w3 := HLX.out.look hs2m (k := c2) (by rw [HRX.out s2, HC2.out]) 0; obtain ⟨st2, hD, gn⟩ := gone HLX.out.dist HN.out HUP1.out; have HD := Lib.hid hD; have HG := Lib.hid gn; clear hD gn) | (go_at_call 14; refine (HLX.out.drop HD.out HUP1.out (by omega)).mono ?_; rintro e w5 ⟨rfl, h⟩; have q6 : (Instr.lookup 55 (.map (some Lm)) (.string s2) false).run Try.prog w5 = .ok (.int .i64 (c2 : Int)) w5 := h.look hs2m (k := c2) (by rw [HRX.out s2, HC2.out]) 0; have HL5 := Lib.hid h; clear h) | (at_mapUpdate; obtain ⟨bs5, cc5, hT5, hbs5, hL5, hl5, hm5, hw5⟩ := HL5.out; refine wpList_store_mine _ rfl (.tmp 139) (.tmp 140) (.tmp 142) 55 rfl 9 3 Try.underlying55 Try.underlying9 Lm cc5 f rfl hm5 s2 (.int .i64 ((c2 : Int) - 1)) rfl rfl hs2m ?_; intro w6 hm6 hf6; have h6 := HL5.out.store hm6 hf6; have HR6 := Lib.hid (Rd.put (v := (c2 : Int) - 1) HRX.out HLX.out.dist h6.dist HG.out.oth (by have e := HG.out.cnt h6.dist; have e2 := HC2.out; omega)); have HL6 := Lib.hid h6; clear h6 hm6 hf6 hT5 hbs5 hL5 hl5 hm5 hw5))
                go_roundw
                case rel => exact ⟨k + 1, m, st2, _, by omega, by omega, rfl, by go_num, Lib.hid ⟨HL6.out, HR6.out, by rw [HG.out.len]; exact HLEN.out, HG.out.up, Nat.le_trans HG.out.used HUSED.out, HasE.sub HG.out.oth HSUB.out (HIN2.out)⟩⟩
                case measure => simp [intOf]; omega
    · obtain rfl : k = texts.length := by omega
      have hel : (eachT st 0).length ≤ 60 := by rw [eachT_len]; have := HI.out.used; omega
      have HS60 : RowKit.Hid (∀ i, i ≤ 60 → sumT st i ≤ 3600 ∧ allT st texts i ≤ 3600) := Lib.hid (fun i hi => by
        have h1 := sumT_le HI.out.up i
        have h2 := allT_le (texts := texts) HI.out.up i
        have h3 : i * texts.length ≤ 60 * 60 := Nat.mul_le_mul hi HT60.out
        omega)
      have HU60 : RowKit.Hid (∀ s, cntT st s ≤ 60) := Lib.hid (fun s => by have := cnt_le (s := s) HI.out.up; omega)
      clear hB hd HLL
      go_wp2_with (go_at_call 24; refine (HI.out.ll.entries 100 (by omega) (by omega)).mono ?_; rintro e w3 ⟨v, rfl, hE, h⟩; obtain ⟨p, cap, rfl, hcapE, hmaxE⟩ := row_any hE.row; have HE := Lib.hid hE; have HL3 := Lib.hid h; clear hE h)
      unfold maxLen at hmaxE
      obtain ⟨L, hL⟩ : ∃ L, L = (eachT st 0).length := ⟨_, rfl⟩
      have HLN := Lib.hid hL
      rw [← hL] at hel hcapE
      rw [← hL]
      clear hL
      go_loopw [15, 18] (fun a15 a18 W => ∃ i : Nat, i ≤ L ∧ a18 = .int .i64 i ∧ a15 = .int .i64 (sumT st i) ∧ RowKit.Hid (LL w W t Lm st f ∧ W.ownsRow 0 51 2 (.slice p L cap) (eachT st 0).length (entL (eachT st 0)))) (fun _ a18 _ => L - (intOf a18).toNat)
      case atStart => exact ⟨0, Nat.zero_le _, rfl, rfl, Lib.hid ⟨HL3.out, by have := HE.out.row; rw [← HLN.out] at this ⊢; exact this⟩⟩
      case round =>
        obtain ⟨i, hi, rfl, rfl, HLR⟩ := hrel
        by_cases hil : i < L
        · obtain ⟨n, s, hns⟩ : ∃ n s, (eachT st 0)[i]? = some (n, s) := ⟨(eachT st 0)[i]'(by rw [← HLN.out]; exact hil) |>.1, (eachT st 0)[i]'(by rw [← HLN.out]; exact hil) |>.2, by rw [List.getElem?_eq_getElem (by rw [← HLN.out]; exact hil)]⟩
          obtain ⟨u, hat, hup⟩ := eachT_get hns
          have hu : cntT st s = u := cnt_has HI.out.ll.dist ⟨n, hat, hup⟩
          have hsz := hs s (HI.out.sub' ⟨n, hat, hup⟩)
          have hsm : s.size ≤ maxLen := by unfold maxLen; omega
          have q := HLR.out.1.look hsm (k := u) (by rw [HI.out.rd s, hu])
          have q0 := q 0
          obtain ⟨g, cap', e, hg, hgl, _, _⟩ := row_value HLR.out.2 (by rw [← HLN.out]; omega)
          injection e with e1 e3 e2
          subst e1 e2
          clear e3
          have ci := row_cell HLR.out.2 hg (entL_at hns).1
          have cs := row_cell HLR.out.2 hg (entL_at hns).2
          have hSS := sumT_succ hns
          rw [hu] at hSS
          obtain ⟨S, hS⟩ : ∃ S, S = sumT st i := ⟨_, rfl⟩
          obtain ⟨S1, hS1⟩ : ∃ S1, S1 = sumT st (i + 1) := ⟨_, rfl⟩
          rw [← hS, ← hS1] at hSS
          have eS : (S : Int) + (u : Int) = (S1 : Int) := by omega
          have hSb : S ≤ 3600 := by rw [hS]; exact (HS60.out i (by omega)).1
          have hub : u ≤ 60 := by rw [← hu]; exact HU60.out s
          have hu1 : decide ((u : Int) < 1) = false := by rw [decide_eq_false_iff_not]; omega
          have hu2 : ((u : Int) != (u : Int)) = false := by simp
          have HAT := Lib.hid hat
          have HNS := Lib.hid hns
          have HS1 := Lib.hid hS1
          have hq : (0 : Int) ≤ i := by omega
          have hq2 : (i : Int) < L := by omega
          rw [← hS]
          clear hat hns hS hS1 hSS hu hg
          by_cases h0 : i = 0
          · subst h0
            go_wp2
            go_quiet ((go_at_call 15; refine Calls.quiet_of_same ((HLR.out.1.drewN _).uses' HAT.out hup)))
            go_wp2
            go_roundw
            case rel => exact ⟨1, by omega, rfl, by rw [← HS1.out], Lib.hid ⟨HLR.out.1.drewN _, HLR.out.2⟩⟩
            case measure => simp [intOf]; omega
          · obtain ⟨i', hi'⟩ : ∃ i', i = i' + 1 := ⟨i - 1, by omega⟩
            obtain ⟨n', s', hns'⟩ : ∃ n s, (eachT st 0)[i']? = some (n, s) := ⟨(eachT st 0)[i']'(by rw [← HLN.out]; omega) |>.1, (eachT st 0)[i']'(by rw [← HLN.out]; omega) |>.2, by rw [List.getElem?_eq_getElem (by rw [← HLN.out]; omega)]⟩
            have hlt' : n' < n := eachT_lt hns' (by rw [← hi']; exact HNS.out)
            have ci' := row_cell HLR.out.2 rfl (entL_at hns').1
            have ei : (i : Int) - 1 = (i' : Int) := by omega
            have hpi : 0 < i := by omega
            have hnn : decide (n ≤ n') = false := by rw [decide_eq_false_iff_not]; omega
            have hnn2 : decide ((n : Int) ≤ (n' : Int)) = false := by rw [decide_eq_false_iff_not]; omega
            have hq4 : (0 : Int) ≤ i' := by omega
            have hq5 : (i' : Int) < L := by omega
            clear hns' hi' h0
            go_wp2
            go_quiet ((go_at_call 15; refine Calls.quiet_of_same ((HLR.out.1.drewN _).uses' HAT.out hup)))
            go_wp2
            go_roundw
            case rel => exact ⟨i + 1, by omega, by go_num, by rw [← HS1.out], Lib.hid ⟨HLR.out.1.drewN _, HLR.out.2⟩⟩
            case measure => simp [intOf]; omega
        · obtain rfl : i = L := by omega
          have HSUM : RowKit.Hid (sumT st i = allT st texts texts.length) := Lib.hid (by rw [HLN.out, sumT_all, all_sum HI.out.ll.dist (fun s u h => HI.out.sub' h)])
          have HUS : RowKit.Hid (usedN st = i) := Lib.hid (by rw [HLN.out, eachT_len])
          have hb3 := HLR.out.1.bel
          have HST : RowKit.Hid (0 < texts.length → ∃ b o, A = some ⟨b, o, none⟩ ∧ b < w.heap.size ∧ ∀ j (h : j < texts.length), w.cell? ⟨b, o + j, none⟩ = some (.string texts[j])) := Lib.hid (fun h => hA.get h)
          clear hA
          obtain ⟨S, hS⟩ : ∃ S, S = sumT st i := ⟨_, rfl⟩
          rw [← hS]
          have HSE := Lib.hid hS
          clear hS hb3
          go_wp2
          go_loopw [19, 20] (fun a19 a20 W => ∃ (j al : Nat) (g : ByteArray → Option Value), j ≤ texts.length ∧ al ≤ 3600 ∧ a20 = .int .i64 j ∧ a19 = .int .i64 al ∧ RowKit.Hid (al = allT st texts j ∧ LL w W t Lm st g ∧ ∀ s, (g s).getD (.int .i64 0) = .int .i64 (leftT st texts j s : Int))) (fun _ a20 _ => texts.length - (intOf a20).toNat)
          case atStart => exact ⟨0, 0, f, Nat.zero_le _, by omega, rfl, rfl, Lib.hid ⟨rfl, HLR.out.1, fun s => by rw [HI.out.rd s]; unfold leftT; simp⟩⟩
          case round =>
            obtain ⟨j, al, g, hj, hal, rfl, rfl, HG⟩ := hrel
            by_cases hjl : j < texts.length
            · obtain ⟨bA, oA, rfl, hbA, hcA⟩ := HST.out (by omega)
              have hcAj := hcA j hjl
              obtain ⟨s, hsd⟩ : ∃ s, s = texts[j] := ⟨_, rfl⟩
              rw [← hsd] at hcAj
              have hsz := hs s (by rw [hsd]; exact List.getElem_mem hjl)
              have hsm : s.size ≤ maxLen := by unfold maxLen; omega
              have cA := (HG.out.2.1.bel.cell (p := ⟨bA, oA + j, none⟩) hbA).trans hcAj
              obtain ⟨c, hc⟩ : ∃ c, c = leftT st texts j s := ⟨_, rfl⟩
              have q := HG.out.2.1.look hsm (k := c) (by rw [HG.out.2.2 s, hc])
              have q0 : (Instr.lookup 55 (.map (some Lm)) (.string s) false).run Try.prog wr = .ok (.int .i64 (c : Int)) wr := q 0
              have HNX : RowKit.Hid (∀ s', (putM g s (.int .i64 0) s').getD (.int .i64 0) = .int .i64 (leftT st texts (j + 1) s' : Int)) := Lib.hid (fun s' => by
                have htk : texts.take (j + 1) = texts.take j ++ [texts[j]] := List.take_succ_eq_append_getElem hjl
                unfold putM
                by_cases e : s' = s
                · rw [if_pos e]
                  unfold leftT
                  rw [htk, if_pos (List.mem_append_right _ (by rw [e, hsd]; exact List.mem_singleton.2 rfl))]
                  rfl
                · rw [if_neg e, HG.out.2.2 s']
                  unfold leftT
                  rw [htk]
                  by_cases e2 : s' ∈ texts.take j
                  · rw [if_pos e2, if_pos (List.mem_append_left _ e2)]
                  · rw [if_neg e2, if_neg (fun h => by rcases List.mem_append.1 h with h | h; exact e2 h; exact e (by rw [List.mem_singleton.1 h, hsd]))])
              have hAL : allT st texts (j + 1) = al + c := by
                rw [HG.out.1, hc, hsd]
                show allT st texts j + leftT st texts j (texts.getD j ByteArray.empty) = _
                rw [show texts.getD j ByteArray.empty = texts[j] by simp [hjl]]
              obtain ⟨al1, hal1⟩ : ∃ al1, al1 = al + c := ⟨_, rfl⟩
              have hal2 : al1 ≤ 3600 := by rw [hal1, ← hAL]; exact (HS60.out (j + 1) (by have := HT60.out; omega)).2
              have eal : (al : Int) + (c : Int) = (al1 : Int) := by omega
              have HAL1 : RowKit.Hid (al1 = allT st texts (j + 1)) := Lib.hid (by rw [hAL, hal1])
              have hcb : c ≤ 3600 := by omega
              have hq : (0 : Int) ≤ j := by omega
              have hq2 : (j : Int) < texts.length := by omega
              clear hcA hcAj hsd hc hAL hal1
              go_wp2_with (at_mapUpdate; obtain ⟨bs5, cc5, hT5, hbs5, hL5, hl5, hm5, hw5⟩ := HG.out.2.1; refine wpList_store_mine _ rfl (.tmp 220) (.tmp 224) (.const (.int .i64 0)) 55 rfl 9 3 Try.underlying55 Try.underlying9 Lm cc5 g rfl hm5 s (.int .i64 0) rfl rfl hsm ?_; intro w6 hm6 hf6; have HL6 := Lib.hid (HG.out.2.1.store hm6 hf6); clear hm6 hf6 hT5 hbs5 hL5 hl5 hm5 hw5)
              go_roundw
              case rel => exact ⟨j + 1, al1, _, by omega, hal2, by go_num, rfl, Lib.hid ⟨HAL1.out, HL6.out, HNX.out⟩⟩
              case measure => simp [intOf]; omega
            · obtain rfl : j = texts.length := by omega
              have HLen := Lib.hid HG.out.2.1.len
              have hb1 : ((S : Int) == (al : Int)) = true := by rw [HSE.out, HSUM.out, HG.out.1]; simp
              have hb2 : ((i : Int) == (usedN st : Int)) = true := by rw [HUS.out]; simp
              go_wp2_with (go_at_call 16; refine HLen.out.mono ?_; rintro e w' ⟨rfl, rfl⟩)
              go_ret
              exact ⟨rfl, HG.out.2.1.bel⟩
end Go.Proofs.Ytenbpfjmdbcgkaa
