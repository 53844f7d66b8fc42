/-
  The walks of package match's helpers: whether two atoms are alike, whether a pattern's variables can be bound. Conditions: as each says.
-/
import Derived.Test.YtlbollmmomheoaaMaA
import Derived.Test.YtlbollmmomheoaaSgD
import Derived.Test.YtlbollmmomheoaaTmMa
namespace Go.Proofs.Ytlbollmmomheoaa
open Go.RowKit

set_option maxRecDepth 20000 in
set_option maxHeartbeats 4000000 in
theorem alike_any (a b : AtomD) (w : World) :
    Calls Try.prog 65 #[.agg #[.string a.says, .string a.pred, .int .i64 a.n, .bool a.t0.v, .string a.t0.name, .bool a.t1.v, .string a.t1.name, .bool a.t2.v, .string a.t2.name, .bool a.t3.v, .string a.t3.name], .agg #[.string b.says, .string b.pred, .int .i64 b.n, .bool b.t0.v, .string b.t0.name, .bool b.t1.v, .string b.t1.name, .bool b.t2.v, .string b.t2.name, .bool b.t3.v, .string b.t3.name]] w fun e w' => e = .returned (.bool (alikeD a b)) ∧ Bel w w' := by
  have hb := (bel_alloc w (.cells #[.string a.says, .string a.pred, .int .i64 a.n, .bool a.t0.v, .string a.t0.name, .bool a.t1.v, .string a.t1.name, .bool a.t2.v, .string a.t2.name, .bool a.t3.v, .string a.t3.name] 43)).trans' (bel_alloc _ (.cells #[.string b.says, .string b.pred, .int .i64 b.n, .bool b.t0.v, .string b.t0.name, .bool b.t1.v, .string b.t1.name, .bool b.t2.v, .string b.t2.name, .bool b.t3.v, .string b.t3.name] 43))
  have HL : RowKit.Hid (alikeD a b = ((a.says.toList == b.says.toList) && ((a.pred.toList == b.pred.toList) && ((a.n == b.n) && (decide (0 ≤ a.n) && decide (a.n ≤ 4)))))) := Lib.hid rfl
  rcases Bool.eq_false_or_eq_true (a.says.toList == b.says.toList) with q1 | q1 <;> rcases Bool.eq_false_or_eq_true (a.pred.toList == b.pred.toList) with q2 | q2 <;> rcases Bool.eq_false_or_eq_true (a.n == b.n) with q3 | q3 <;> rcases Bool.eq_false_or_eq_true (decide (0 ≤ a.n)) with q4 | q4 <;> rcases Bool.eq_false_or_eq_true (decide (a.n ≤ 4)) with q5 | q5
  all_goals
    rw [q1, q2, q3, q4, q5] at HL
    go_enter Try.func65, Try.ntmps65
    go_wp2
    go_ret
    exact ⟨ret_bool HL.out.symm, hb⟩

set_option maxHeartbeats 2000000 in
theorem stuck_any (A : Option Addr) (l : List BindD) (n ca : Nat) (hn : l.length = n) (v : ByteArray) (b1 : Nat) (w : World) (hL : BL w A ca l) (hl : l.length ≤ 1000000) (h1 : w.cell? ⟨b1, 0, none⟩ = some (.slice A n ca)) :
    Calls Try.prog 85 #[.string v, .pointer (some ⟨b1, 0, none⟩)] w fun e w' => e = .returned (.bool (stuckB l v)) ∧ Bel w w' := by
  have hG := Lib.hid (Get_any A l n ca hn v w hL hl)
  have HS : RowKit.Hid (stuckB l v = (decide (v = emp) || (getR l v).1.v)) := Lib.hid rfl
  clear hL
  by_cases hv : v = emp
  · rw [decide_eq_true hv, Bool.true_or] at HS
    subst hv
    unfold emp at *
    go_enter Try.func85, Try.ntmps85
    go_wp2_with (go_at_call 16; refine hG.out.mono ?_; rintro e w1 ⟨⟨t, is, HE, rfl⟩, hg⟩)
    go_ret
    exact ⟨ret_bool HS.out.symm, hg.trans' (bel_alloc _ _)⟩
  · have hv2 := ne_emp hv
    have hv3 : v.toList.isEmpty = false := by simpa using hv2
    rw [decide_eq_false hv, Bool.false_or] at HS
    clear hv
    go_enter Try.func85, Try.ntmps85
    go_wp2_with (go_at_call 16; refine hG.out.mono ?_; rintro e w1 ⟨⟨t, is, HE, rfl⟩, hg⟩)
    go_ret
    exact ⟨ret_bool (by rw [HS.out, ← HE.out]), hg.trans' (bel_alloc _ _)⟩

set_option maxHeartbeats 2000000 in
theorem ifs_any (A : Option Addr) (xs : List ByteArray) (cx : Nat) (hxl : xs.length ≤ 1000) (B : Option Addr) (l : List BindD) (n ca : Nat) (hn : l.length = n) (b1 : Nat) (w : World) (hX : ListAt w A xs.length (xs.map Value.string)) (hL : BL w B ca l) (hl : l.length ≤ 1000000) (h1 : w.cell? ⟨b1, 0, none⟩ = some (.slice B n ca)) :
    Calls Try.prog 96 #[.slice A xs.length cx, .func (.func 85) #[] #[.pointer (some ⟨b1, 0, none⟩)]] w fun e w' => (∃ n : Int, RowKit.Hid (decide (n ≥ 0) = xs.any (stuckB l)) ∧ e = .returned (.int .i64 n)) ∧ Bel w w' := by
  have HX := Lib.hid hX
  have HL := Lib.hid hL
  have H1 := Lib.hid h1
  clear hX hL h1
  go_enter Try.func96, Try.ntmps96
  go_wp2
  go_loopw [8] (fun i wr => ∃ k : Nat, k ≤ xs.length ∧ i = .int .i64 k ∧ RowKit.Hid (Bel w wr) ∧ RowKit.Hid ((xs.take k).any (stuckB l) = false)) (fun i _ => xs.length - (intOf i).toNat)
  case atStart => exact ⟨0, Nat.zero_le _, rfl, Lib.hid (Below.refl _ _), Lib.hid rfl⟩
  case round =>
    obtain ⟨k, hk, rfl, HB, HA⟩ := hrel
    by_cases hlt : k < xs.length
    · obtain ⟨_, hLc⟩ := HX.out
      rcases hLc with h0 | ⟨b, o, rfl, hbb, hLc⟩
      · omega
      have c1 := cell_bel (hLc k (.string xs[k]) (by simp [hlt])) HB.out
      have hat : xs[k]? = some xs[k] := List.getElem?_eq_getElem hlt
      have HN : RowKit.Hid ((xs.take (k + 1)).any (stuckB l) = stuckB l xs[k]) := Lib.hid (by rw [List.take_add_one, hat, List.any_append, HA.out]; simp)
      have HF : RowKit.Hid (stuckB l xs[k] = true → xs.any (stuckB l) = true) := Lib.hid (fun hf => by
        rw [List.any_eq_true]
        exact ⟨xs[k], List.getElem_mem hlt, hf⟩)
      have hS := Lib.hid (stuck_any B l n ca hn xs[k] b1 wr (HL.out.bel HB.out) hl (cell_bel H1.out HB.out))
      clear hat hbb hLc
      generalize xs[k] = x at c1 HN HF hS
      have hq : (0 : Int) ≤ k := by omega
      have hq2 : (k : Int) < xs.length := by omega
      rcases Bool.eq_false_or_eq_true (stuckB l x) with hs | hs <;> rw [hs] at hS
      · have HX2 := Lib.hid (HF.out hs)
        have hge : RowKit.Hid (decide ((k : Int) ≥ 0) = true) := Lib.hid (by simp)
        clear hs
        go_wp2_with (go_at_call 85; refine hS.out.mono ?_; rintro e w1 ⟨rfl, hg⟩; have HG := Lib.hid (HB.out.trans' hg); clear hg)
        go_ret
        exact ⟨⟨_, Lib.hid (hge.out.trans HX2.out.symm), rfl⟩, HG.out⟩
      · rw [hs] at HN
        clear hs
        go_wp2_with (go_at_call 85; refine hS.out.mono ?_; rintro e w1 ⟨rfl, hg⟩; have HG := Lib.hid (HB.out.trans' hg); clear hg)
        go_roundw
        case rel => exact ⟨k + 1, by omega, by go_num, HG, Lib.hid HN.out⟩
        case measure => simp [intOf]; omega
    · obtain rfl : k = xs.length := by omega
      have HN : RowKit.Hid (xs.any (stuckB l) = false) := Lib.hid (by have := HA.out; rwa [List.take_length] at this)
      go_wp2
      go_ret
      exact ⟨⟨_, Lib.hid (by rw [HN.out]; decide), rfl⟩, HB.out⟩
theorem cfs_any (A : Option Addr) (xs : List ByteArray) (nx cx : Nat) (hnx : xs.length = nx) (hxl : xs.length ≤ 1000) (B : Option Addr) (l : List BindD) (n ca : Nat) (hn : l.length = n) (b1 : Nat) (w : World) (hX : ListAt w A xs.length (xs.map Value.string)) (hL : BL w B ca l) (hl : l.length ≤ 1000000) (h1 : w.cell? ⟨b1, 0, none⟩ = some (.slice B n ca)) :
    Calls Try.prog 86 #[.slice A nx cx, .func (.func 85) #[] #[.pointer (some ⟨b1, 0, none⟩)]] w fun e w' => e = .returned (.bool (xs.any (stuckB l))) ∧ Bel w w' := by
  subst hnx
  go_enter Try.func86, Try.ntmps86
  go_wp2_with (go_at_call 96; refine (ifs_any A xs cx hxl B l n ca hn b1 w hX hL hl h1).mono ?_; rintro e w1 ⟨⟨n, hn, rfl⟩, hg⟩)
  go_ret
  exact ⟨ret_bool hn.out, hg⟩
set_option maxHeartbeats 1000000 in
theorem bindable_any (B : Option Addr) (l : List BindD) (n ca : Nat) (hn : l.length = n) (p : AtomD) (w : World) (hL : BL w B ca l) (hl : l.length ≤ 1000000) :
    Calls Try.prog 67 #[.slice B n ca, .agg #[.string p.says, .string p.pred, .int .i64 p.n, .bool p.t0.v, .string p.t0.name, .bool p.t1.v, .string p.t1.name, .bool p.t2.v, .string p.t2.name, .bool p.t3.v, .string p.t3.name]] w fun e w' => e = .returned (.bool (bindableD l p)) ∧ Bel w w' := by
  have hb := (bel_alloc w (.cells #[.slice B n ca] 23)).trans' (bel_alloc _ (.cells #[.string p.says, .string p.pred, .int .i64 p.n, .bool p.t0.v, .string p.t0.name, .bool p.t1.v, .string p.t1.name, .bool p.t2.v, .string p.t2.name, .bool p.t3.v, .string p.t3.name] 43))
  have k1 : (w.alloc (.cells #[.slice B n ca] 23)).cell? ⟨w.heap.size, 0, none⟩ = some (.slice B n ca) := cell_of_block (heap_alloc_new w _) rfl
  have k1 := cell_bel k1 (bel_alloc (w.alloc (.cells #[.slice B n ca] 23)) (.cells #[.string p.says, .string p.pred, .int .i64 p.n, .bool p.t0.v, .string p.t0.name, .bool p.t1.v, .string p.t1.name, .bool p.t2.v, .string p.t2.name, .bool p.t3.v, .string p.t3.name] 43))
  have HL := Lib.hid (hL.bel hb)
  have HB := Lib.hid hb
  have HE : RowKit.Hid (bindableD l p = !((varsA p).any (stuckB l))) := Lib.hid rfl
  have HV : RowKit.Hid ((varsA p).length ≤ 1000) := Lib.hid (by have := varsA_len p; omega)
  have K1 := Lib.hid k1
  have hV := fun W => vars_any p W (argsN p) rfl
  rw [show namesD true (argsN p) = varsA p from rfl] at hV
  have HVS := Lib.hid hV
  clear hL hb k1 hV
  go_enter Try.func67, Try.ntmps67
  go_wp2_with (first | (go_at_call 87; refine (HVS.out _).mono ?_; rintro e w1 ⟨⟨A, c, hX, rfl⟩, hg⟩; have HX := hX; have HL := Lib.hid (HL.out.bel hg); have HB := Lib.hid (HB.out.trans' hg); have K1 := Lib.hid (cell_bel K1.out hg); clear hg hX) | (go_at_call 86; refine (cfs_any _ (varsA p) _ _ rfl HV.out B l n ca hn _ _ HX.out HL.out hl K1.out).mono ?_; rintro e w2 ⟨rfl, hg⟩; have HB := Lib.hid (HB.out.trans' hg); clear hg))
  go_ret
  exact ⟨ret_bool HE.out.symm, HB.out⟩
set_option maxHeartbeats 2000000 in
/-- slices.Clone: a list of the call's own -/
theorem clone_any (A : Option Addr) (l : List BindD) (n ca : Nat) (hn : l.length = n) (w : World) (hL : BL w A ca l) (hl : l.length ≤ 100000) :
    Calls Try.prog 68 #[.slice A n ca] w fun e w' => (∃ q c, RowKit.Hid (OB w w' q c l) ∧ e = .returned (.slice q l.length c)) ∧ Bel w w' := by
  subst hn
  have q22 : ∀ (w : World) (a : Option Addr) (n c n' c' : Nat), (binOp .eql 23 (.slice a n c) (.slice none n' c')).run Try.prog w = .ok (.bool a.isNone) w := fun w a n c n' c' => Lib.run_eql_slice_nil w _ _ a n c n' c' Try.underlying23
  cases A with
  | none =>
    have hc := hL.nil rfl
    obtain rfl : l = [] := List.eq_nil_of_length_eq_zero (by have := hL.le; omega)
    go_enter Try.func68, Try.ntmps68
    go_wp2
    go_ret
    exact ⟨⟨none, 0, Lib.hid (OB.nil w (Below.refl _ _)), rfl⟩, Below.refl _ _⟩
  | some ad =>
    have HL := Lib.hid hL
    clear hL
    have hb := bel_alloc w (.cells #[] 32)
    have ho0 : (w.alloc (.cells #[] 32)).ownsRow 0 32 3 (.slice (some ⟨w.heap.size, 0, none⟩) 0 0) 0 [] := World.ownsRow_lit (base := 0) (e := 32) (size := 3) w #[] 0 (Nat.zero_le _) (by unfold maxLen; omega) (by simp)
    have hO : OB w (w.alloc (.cells #[] 32)) (some ⟨w.heap.size, 0, none⟩) 0 [] := ⟨ho0, hb, fun g hg => by simp [Value.ownBlock] at hg; omega⟩
    have HO := Lib.hid hO
    clear ho0 hO
    go_enter Try.func68, Try.ntmps68
    go_wp2_with (at_builtin; refine wpList_pushes rfl (.tmp 5) (.tmp 6) 23 Try.underlying23 rfl rfl rfl HO.out (HL.out.bel hb) rfl (by simp; omega) ?_; intro q' c' w5 out' HX' HO'; obtain rfl : out' = l := HX'.out)
    go_ret
    exact ⟨⟨q', c', HO', rfl⟩, HO'.out.bel⟩
set_option maxHeartbeats 2000000 in
/-- slices.Index at a term that is there -/
theorem index_any (A : Option Addr) (l : List TermD) (n ca : Nat) (hn : l.length = n) (t : TermD) (hi : idxT l t < l.length) (w : World) (hT : TermsAt w A l) (hl : l.length ≤ 1000) :
    Calls Try.prog 69 #[.slice A n ca, .agg #[.bool t.v, .string t.name]] w fun e w' => e = .returned (.int .i64 (idxT l t)) ∧ Bel w w' := by
  subst hn
  obtain ⟨tv, ts⟩ := t
  have hb := bel_alloc w (.cells #[.bool tv, .string ts] 29)
  have hX : TermAt (w.alloc (.cells #[.bool tv, .string ts] 29)) w.heap.size ⟨tv, ts⟩ := TermAt.new w ⟨tv, ts⟩
  have HT := Lib.hid (hT.bel hb)
  have HX := Lib.hid hX
  have HB0 := Lib.hid hb
  have HI := Lib.hid hi
  clear hT hX hb hi
  go_enter Try.func69, Try.ntmps69
  go_wp2
  go_loopw [8] (fun i wr => ∃ k : Nat, k ≤ idxT l ⟨tv, ts⟩ ∧ i = .int .i64 k ∧ RowKit.Hid (Bel (w.alloc (.cells #[.bool tv, .string ts] 29)) wr)) (fun i _ => l.length - (intOf i).toNat)
  case atStart => exact ⟨0, Nat.zero_le _, rfl, Lib.hid (Below.refl _ _)⟩
  case round =>
    obtain ⟨k, hk, rfl, HB⟩ := hrel
    have hlt : k < l.length := Nat.lt_of_le_of_lt hk HI.out
    obtain ⟨b, o, rfl, hbb, hc⟩ := (HT.out.bel HB.out).get (by omega)
    obtain ⟨c1, c2⟩ := hc k hlt
    have hX2 := HX.out.bel HB.out
    obtain ⟨x1, x2⟩ := hX2.cells
    simp only at x1 x2
    have HN : RowKit.Hid (eqT ⟨tv, ts⟩ l[k] = true → idxT l ⟨tv, ts⟩ = k) := Lib.hid (fun h => by
      by_cases e : k < idxT l ⟨tv, ts⟩
      · have := List.not_of_lt_findIdx (p := fun x => eqT ⟨tv, ts⟩ x) e
        rw [h] at this; cases this
      · omega)
    have HF : RowKit.Hid (eqT ⟨tv, ts⟩ l[k] = false → k + 1 ≤ idxT l ⟨tv, ts⟩) := Lib.hid (fun h => by
      by_cases e : idxT l ⟨tv, ts⟩ = k
      · have h2 := List.findIdx_getElem (xs := l) (p := fun x => eqT ⟨tv, ts⟩ x) (w := HI.out)
        simp only [show l.findIdx (fun x => eqT ⟨tv, ts⟩ x) = k from e] at h2
        rw [h2] at h; cases h
      · omega)
    clear hc hbb hX2
    generalize l[k] = y at c1 c2 HN HF
    obtain ⟨yv, ys⟩ := y
    simp only at c1 c2
    have hq : (0 : Int) ≤ k := by omega
    have hq2 : (k : Int) < l.length := by omega
    have he := eql_term tv yv ts ys
    have HBX := Lib.hid (HB0.out.trans' HB.out)
    clear hk
    cases hv : eqT ⟨tv, ts⟩ ⟨yv, ys⟩
    · rw [hv] at he
      have HF2 := HF.out hv
      clear hv HN HF
      go_wp2
      go_quiet (fail)
      go_wp2
      go_roundw
      case rel => exact ⟨k + 1, HF2, by go_num, Lib.hid (HB.out.trans' (by first | exact Below.refl _ _ | exact bel_drewN _ _))⟩
      case measure => simp [intOf]; omega
    · rw [hv] at he
      have HN2 := Lib.hid (HN.out hv)
      clear hv HN HF
      go_wp2
      go_quiet (fail)
      go_wp2
      go_ret
      exact ⟨ret_int (congrArg Int.ofNat HN2.out.symm), HBX.out.trans' (by first | exact Below.refl _ _ | exact bel_drewN _ _)⟩
end Go.Proofs.Ytlbollmmomheoaa
