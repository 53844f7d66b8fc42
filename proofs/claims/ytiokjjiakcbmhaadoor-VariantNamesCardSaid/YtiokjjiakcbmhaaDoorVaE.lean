/-
  A list's canonical forms, each once: the walks of keys and Distinct. Conditions: as each says.
-/
import Derived.Test.YtiokjjiakcbmhaaDoorVaD
namespace Go.Proofs.YtiokjjiakcbmhaaDoor
open Go.RowKit Go.ChangeMaps

/-- a list of atoms that lies in a block from B on, or nowhere -/
structure RowA (w : World) (B : Nat) (q : Option Addr) (c : Nat) (l : List AtomD) : Prop where
  row : w.ownsRow 0 27 11 (.slice q l.length c) l.length (flatL encA l)
  new : ∀ g, (Value.slice q l.length c).ownBlock = some g → B ≤ g
theorem RowA.nil (w : World) (B : Nat) : RowA w B none 0 [] := ⟨by simpa [flatL] using World.ownsRow_nil _ _ _ _, by simp [Value.ownBlock]⟩
theorem RowA.fr {F : List Nat} {w w' : World} {B : Nat} {q : Option Addr} {c : Nat} {l : List AtomD} (h : RowA w B q c l) (hf : Fr F w w') (hn : ∀ k ∈ F, k < B) : RowA w' B q c l :=
  ⟨hf.owns h.row (fun k hk hm => by have h1 := hn k hm; have h2 := h.new k hk; omega), h.new⟩
theorem RowA.bel {w w' : World} {B : Nat} {q : Option Addr} {c : Nat} {l : List AtomD} (h : RowA w B q c l) (hg : Bel w w') : RowA w' B q c l := h.fr (F := []) (Fr.of_below hg) (by simp)
theorem RowA.own {w W : World} {q : Option Addr} {c : Nat} {l : List AtomD} {B : Nat} (h : RowA W B q c l) (hb : Bel w W) (hB : w.heap.size ≤ B) : OA w W q c l := ⟨h.row, hb, fun g hg => by have := h.new g hg; omega⟩
theorem wpList_pushR {ops : Array Oper} {rest : List Oper} {o : Oper} {a : Act} {W : World} {Q : Exit → Act → World → Prop} (hgd : o.guard = none) (s x : Operand) (t : TypeId) (ht : Tryd.prog.underlying t = some (.slice 27))
    (ho : o.op = .call { callee := .builtin .append, args := #[s, x], argTypes := #[t, t] }) {B : Nat} {q : Option Addr} {c : Nat} {out : List AtomD} (b : AtomD) (hs : a.eval s = .slice q out.length c) (hx : a.eval x = .slice (some ⟨W.heap.size, 0, none⟩) 1 1)
    (hO : RowA W B q c out) (hB : B ≤ W.heap.size) (hl : out.length ≤ 2000000)
    (h : ∀ q' c' w' out', RowKit.Hid (out' = out ++ [b]) → RowKit.Hid (RowA w' B q' c' out') → (∃ F : List Nat, (∀ k ∈ F, B ≤ k) ∧ Fr F W w') → wpList Tryd.prog ops Q rest (a.put o.dst (.slice q' out'.length c')) w') :
    wpList Tryd.prog ops Q (o :: rest) a (W.alloc (.cells #[.string b.says, .string b.pred, .int .i64 b.n, .bool b.t0.v, .string b.t0.name, .bool b.t1.v, .string b.t1.name, .bool b.t2.v, .string b.t2.name, .bool b.t3.v, .string b.t3.name] 27)) := by
  obtain ⟨i0, hi, hz0, hz1, hz2⟩ := info_A
  have hO2 := hO.bel (bel_alloc W (.cells #[.string b.says, .string b.pred, .int .i64 b.n, .bool b.t0.v, .string b.t0.name, .bool b.t1.v, .string b.t1.name, .bool b.t2.v, .string b.t2.name, .bool b.t3.v, .string b.t3.name] 27))
  refine wpList_append_mine _ hgd s x t ho 27 i0 _ 11 136 ht hi hz0 hz1 hz2 rfl (by decide) (.slice q out.length c) out.length (flatL encA out) hs hO2.row _ 1 1 (encA b) hx rfl (news_oneA W b) (EA.one b) (by unfold maxLen; omega) (by omega) ?_
  intro v2 w2 ho2 hf2 hn2
  obtain ⟨q', c', e, _, _⟩ := row_any ho2
  subst e
  have hlen : (out ++ [b]).length = out.length + 1 := by simp
  have hfl : flatL encA (out ++ [b]) = flatL encA out ++ encA b := by rw [flat_append, flat_one]
  have hsz : (W.alloc (.cells #[.string b.says, .string b.pred, .int .i64 b.n, .bool b.t0.v, .string b.t0.name, .bool b.t1.v, .string b.t1.name, .bool b.t2.v, .string b.t2.name, .bool b.t3.v, .string b.t3.name] 27)).heap.size = W.heap.size + 1 := by simp
  have hP : RowA w2 B q' c' (out ++ [b]) := ⟨by rw [hlen, hfl]; exact ho2, fun g hg => by
    rw [hlen] at hg
    rcases hn2 g hg with e | e
    · exact hO.new g e
    · omega⟩
  have := h q' c' w2 (out ++ [b]) (Lib.hid rfl) (Lib.hid hP) ⟨_, fun k hk => hO.new k (by simpa using hk), Fr.trans (Fr.alloc _ W _) hf2⟩
  rw [hlen] at this
  exact this

set_option maxRecDepth 20000 in
set_option maxHeartbeats 4000000 in
theorem keys_any (A : Option Addr) (l : List AtomD) (ca : Nat) (w : World) (hL : AL w A ca l) (hl : l.length ≤ 100000) (hk : ∀ x ∈ l, AtomOk x ∧ AtomSm x) :
    Calls Tryd.prog 30 #[.slice A l.length ca, .func (.func 13) #[] #[]] w fun e w' => (∃ q c, RowKit.Hid (OA w w' q c (distinctD l)) ∧ e = .returned (.slice q (distinctD l).length c)) ∧ Bel w w' := by
  have HL := Lib.hid hL
  have HK := Lib.hid hk
  have HB0 := Lib.hid (bel_alloc w (.map #[] 0))
  have HS0 := Lib.hid (SetA.made w)
  have hmm := @run_makeMap Tryd.prog
  clear hL hk
  go_enter Tryd.func30, Tryd.ntmps30
  go_wp2
  clear hmm
  go_loopw [5, 15] (fun s5 i wr => ∃ (k : Nat) (out : List AtomD) (q : Option Addr) (c : Nat), k ≤ l.length ∧ i = .int .i64 k ∧ s5 = .slice q out.length c ∧ out.length ≤ k ∧ RowKit.Hid (out = distinctD (l.take k) ∧ RowA wr (w.heap.size + 1) q c out ∧ SetA wr w.heap.size out ∧ Bel w wr ∧ w.heap.size + 1 ≤ wr.heap.size)) (fun _ i _ => l.length - (intOf i).toNat)
  case atStart => exact ⟨0, [], none, 0, Nat.zero_le _, rfl, rfl, Nat.le_refl _, Lib.hid ⟨rfl, RowA.nil _ _, HS0.out, HB0.out, by simp⟩⟩
  case round =>
    obtain ⟨k, out, q, c, hk, rfl, rfl, hol, H⟩ := hrel
    have HE := Lib.hid H.out.1
    have HR := Lib.hid H.out.2.1
    have HS := Lib.hid H.out.2.2.1
    have HW := Lib.hid H.out.2.2.2.1
    have hsz := H.out.2.2.2.2
    clear H HB0 HS0
    by_cases hlt : k < l.length
    · obtain ⟨b, o, rfl, hbb, hc⟩ := al_get (HL.out.bel HW.out) (by omega)
      obtain ⟨c0, c1, c2, c3, c4, c5, c6, c7, c8, c9, c10⟩ := hc k hlt
      have hq : (0 : Int) ≤ k := by omega
      have hq2 : (k : Int) < l.length := by omega
      have HSU := Lib.hid (distinct_succ hlt)
      have HKX := Lib.hid (HK.out _ (List.getElem_mem hlt))
      clear hc hbb
      generalize l[k] = x at c0 c1 c2 c3 c4 c5 c6 c7 c8 c9 c10 HSU HKX
      have HX := Lib.hid (bel_alloc wr (.cells #[.string x.says, .string x.pred, .int .i64 x.n, .bool x.t0.v, .string x.t0.name, .bool x.t1.v, .string x.t1.name, .bool x.t2.v, .string x.t2.name, .bool x.t3.v, .string x.t3.name] 27))
      have HXA := Lib.hid (AtomAt.new wr x)
      obtain ⟨x0, x1, x2, x3, x4, x5, x6, x7, x8, x9, x10⟩ := HXA.out.cells
      cases hm : out.any (eqA (canonD x))
      · have HN : RowKit.Hid (distinctD (l.take (k + 1)) = out ++ [canonD x]) := Lib.hid (by rw [HSU.out, ← HE.out, stepC_out hm])
        have HM := Lib.hid hm
        clear hm
        go_wp2_with (first | (go_at_call 13; refine (Canon_any _ _ HKX.out.2.args).mono ?_; rintro e w2 ⟨⟨y, HY, rfl⟩, hg⟩; have HG := Lib.hid (HX.out.trans' hg); have HYA := Lib.hid (AtomAt.new w2 y); have HG2 := Lib.hid (HG.out.trans' (bel_alloc w2 (.cells #[.string y.says, .string y.pred, .int .i64 y.n, .bool y.t0.v, .string y.t0.name, .bool y.t1.v, .string y.t1.name, .bool y.t2.v, .string y.t2.name, .bool y.t3.v, .string y.t3.name] 27))); obtain ⟨y0, y1, y2, y3, y4, y5, y6, y7, y8, y9, y10⟩ := HYA.out.cells; have HYO : RowKit.Hid (AtomOk y) := Lib.hid (by rw [HY.out]; exact canon_aok HKX.out.1); have hlk := (HS.out.bel HG2.out).look y HYO.out; rw [HY.out, HM.out, ← HY.out] at hlk; have HG3 := Lib.hid (HG2.out.trans' (bel_alloc (w2.alloc (.cells #[.string y.says, .string y.pred, .int .i64 y.n, .bool y.t0.v, .string y.t0.name, .bool y.t1.v, .string y.t1.name, .bool y.t2.v, .string y.t2.name, .bool y.t3.v, .string y.t3.name] 27)) (.cells #[] 60))); have HS3 := Lib.hid (HS.out.bel HG3.out); have HR3 := Lib.hid (HR.out.bel HG3.out); have hs3 := HG.out.size; clear hg) | (at_mapUpdate; refine wpList_put_set rfl (.tmp 30) (.tmp 31) (.tmp 32) rfl w.heap.size out y HYO.out rfl rfl rfl HS3.out (by rw [HY.out]; exact HM.out) ?_; intro w4 hS4 hF4; have HS4 := Lib.hid hS4; have HR4 := Lib.hid (HR3.out.fr hF4 (by intro k hk; have := List.mem_singleton.1 hk; omega)); have HY4 := Lib.hid (AtomAt.fr (HYA.out.bel (bel_alloc _ (.cells #[] 60))) hF4 (by intro hm; have := List.mem_singleton.1 hm; omega)); have HW4 : RowKit.Hid (Bel w w4) := Lib.hid ((HW.out.trans' HG3.out).trans (hF4.below (B := w.heap.size) (by intro k hk; have := List.mem_singleton.1 hk; omega) (by have := HG3.out.size; omega))); have hs4 := HG3.out.size; have hs5 := hF4.size; clear y0 y1 y2 y3 y4 y5 y6 y7 y8 y9 y10 hS4 hF4; obtain ⟨y0, y1, y2, y3, y4, y5, y6, y7, y8, y9, y10⟩ := HY4.out.cells) | (at_builtin; refine wpList_pushR rfl (.tmp 33) (.tmp 35) 29 Tryd.underlying29 rfl (B := w.heap.size + 1) y rfl rfl HR4.out (by omega) (by omega) ?_; intro q' c' w5 out' HX5 HO5 hF5))
        go_roundw
        case rel =>
          obtain ⟨F, hFB, hF5⟩ := hF5
          have hs6 := hF5.size
          refine ⟨k + 1, out', q', c', by omega, by go_num, rfl, by rw [HX5.out]; simp; omega, Lib.hid ⟨by rw [HX5.out, HN.out, HY.out], HO5.out, ?_, ?_, by omega⟩⟩
          · rw [HX5.out]; exact HS4.out.fr hF5 (fun hm => by have := hFB _ hm; omega)
          · exact HW4.out.trans (hF5.below (B := w.heap.size) (fun k hk => by have := hFB k hk; omega) (by omega))
        case measure => simp [intOf]; omega
      · have HN : RowKit.Hid (distinctD (l.take (k + 1)) = out) := Lib.hid (by rw [HSU.out, ← HE.out, stepC_in hm])
        have HM := Lib.hid hm
        clear hm
        go_wp2_with (first | (go_at_call 13; refine (Canon_any _ _ HKX.out.2.args).mono ?_; rintro e w2 ⟨⟨y, HY, rfl⟩, hg⟩; have HG := Lib.hid (HX.out.trans' hg); have HYA := Lib.hid (AtomAt.new w2 y); have HG2 := Lib.hid (HG.out.trans' (bel_alloc w2 (.cells #[.string y.says, .string y.pred, .int .i64 y.n, .bool y.t0.v, .string y.t0.name, .bool y.t1.v, .string y.t1.name, .bool y.t2.v, .string y.t2.name, .bool y.t3.v, .string y.t3.name] 27))); obtain ⟨y0, y1, y2, y3, y4, y5, y6, y7, y8, y9, y10⟩ := HYA.out.cells; have HYO : RowKit.Hid (AtomOk y) := Lib.hid (by rw [HY.out]; exact canon_aok HKX.out.1); have hlk := (HS.out.bel HG2.out).look y HYO.out; rw [HY.out, HM.out, ← HY.out] at hlk; have HG3 := Lib.hid (HG2.out.trans' (bel_alloc (w2.alloc (.cells #[.string y.says, .string y.pred, .int .i64 y.n, .bool y.t0.v, .string y.t0.name, .bool y.t1.v, .string y.t1.name, .bool y.t2.v, .string y.t2.name, .bool y.t3.v, .string y.t3.name] 27)) (.cells #[] 60))); clear hg))
        go_roundw
        case rel => exact ⟨k + 1, out, q, c, by omega, by go_num, rfl, by omega, Lib.hid ⟨HN.out.symm, HR.out.bel HG3.out, HS.out.bel HG3.out, HW.out.trans' HG3.out, by have := HG3.out.size; omega⟩⟩
        case measure => simp [intOf]; omega
    · obtain rfl : k = l.length := by omega
      have HN : RowKit.Hid (out = distinctD l) := Lib.hid (by have := HE.out; rwa [List.take_length] at this)
      go_wp2
      go_ret
      rw [← HN.out]
      exact ⟨⟨q, c, Lib.hid (HR.out.own HW.out (Nat.le_succ _)), rfl⟩, HW.out⟩
set_option maxHeartbeats 1000000 in
theorem DistinctV_any (A : Option Addr) (l : List AtomD) (n ca : Nat) (hn : l.length = n) (w : World) (hL : AL w A ca l) (hl : l.length ≤ 100000) (hk : ∀ x ∈ l, AtomOk x ∧ AtomSm x) :
    Calls Tryd.prog 10 #[.slice A n ca] w fun e w' => (∃ q c, RowKit.Hid (OA w w' q c (distinctD l)) ∧ e = .returned (.slice q (distinctD l).length c)) ∧ Bel w w' := by
  subst hn
  have HC := Lib.hid (keys_any A l ca w hL hl hk)
  clear hL hk
  go_enter Tryd.func10, Tryd.ntmps10
  go_wp2_with (go_at_call 30; refine HC.out.mono ?_; rintro e w1 ⟨⟨q, c, HO, rfl⟩, hg⟩)
  go_ret
  exact ⟨⟨q, c, HO, rfl⟩, hg⟩
end Go.Proofs.YtiokjjiakcbmhaaDoor
