/-
  Lists of lists of atoms; appending, cloning, joining them. Conditions: as each says.
-/
import Derived.Test.YtamghlneoglfnaaOrH
namespace Go.Proofs.Ytamghlneoglfnaa
open Go.RowKit

abbrev SlV := Option Addr × Nat × Nat
def encV (x : SlV) : List Value := [.slice x.1 x.2.1 x.2.2]
theorem EV : EncK encV 1 := ⟨fun _ => rfl, fun x u h => by
  simp only [encV, List.mem_cons, List.mem_nil_iff, or_false] at h
  rcases h with rfl; rfl, by decide⟩
/-- a slice of slices, and what each lists -/
structure LV (w : World) (A : Option Addr) (ca : Nat) (vs : List SlV) (L : List (List AtomD)) : Prop where
  sl : SliceAt encV 1 w A ca vs
  len : vs.length = L.length
  each : ∀ j (h : j < vs.length) (h' : j < L.length), L[j].length = vs[j].2.1 ∧ AL w vs[j].1 vs[j].2.2 L[j]
theorem LV.bel {w w' : World} {A : Option Addr} {ca : Nat} {vs : List SlV} {L : List (List AtomD)} (h : LV w A ca vs L) (hg : Bel w w') : LV w' A ca vs L :=
  ⟨h.sl.bel hg, h.len, fun j h1 h2 => ⟨(h.each j h1 h2).1, (h.each j h1 h2).2.bel hg⟩⟩
theorem lv_at {w : World} {A : Option Addr} {ca : Nat} {vs : List SlV} {L : List (List AtomD)} (h : LV w A ca vs L) {k : Nat} (hk : k < vs.length) : ∃ b o, A = some ⟨b, o, none⟩ ∧ ∀ W, Bel w W → W.cell? ⟨b, o + k, none⟩ = some (.slice vs[k].1 vs[k].2.1 vs[k].2.2) := by
  obtain ⟨b, o, e, hb, hc⟩ := h.sl.items.get (by omega)
  refine ⟨b, o, e, fun W hg => ?_⟩
  have := hc k hk 0 _ rfl
  rw [Nat.mul_one, Nat.add_zero] at this
  exact cell_bel this hg
theorem LV.of_block {w : World} {g : Nat} {vs : List SlV} {L : List (List AtomD)} (h : w.heap[g]? = some (.cells (flatL encV vs).toArray 29 (0, 0))) (hl : vs.length = L.length) (he : ∀ j (h : j < vs.length) (h' : j < L.length), L[j].length = vs[j].2.1 ∧ AL w vs[j].1 vs[j].2.2 L[j]) : LV w (some ⟨g, 0, none⟩) vs.length vs L :=
  ⟨BlkL.slice EV (e := 29) h, hl, he⟩
theorem LV.one {w : World} {g : Nat} {A : Option Addr} {n ca : Nat} {l : List AtomD} (h : w.heap[g]? = some (.cells #[.slice A n ca] 29 (0, 0))) (hn : l.length = n) (hL : AL w A ca l) : LV w (some ⟨g, 0, none⟩) 1 [(A, n, ca)] [l] := by
  refine LV.of_block (vs := [(A, n, ca)]) h rfl fun j h1 h2 => ?_
  obtain rfl : j = 0 := by simp at h1; omega
  exact ⟨hn, hL⟩
theorem LV.two {w : World} {g : Nat} {A : Option Addr} {n ca : Nat} {l : List AtomD} {B : Option Addr} {m cb : Nat} {k : List AtomD} (h : w.heap[g]? = some (.cells #[.slice A n ca, .slice B m cb] 29 (0, 0))) (hn : l.length = n) (hL : AL w A ca l) (hm : k.length = m) (hM : AL w B cb k) : LV w (some ⟨g, 0, none⟩) 2 [(A, n, ca), (B, m, cb)] [l, k] := by
  refine LV.of_block (vs := [(A, n, ca), (B, m, cb)]) h rfl fun j h1 h2 => ?_
  obtain rfl | rfl : j = 0 ∨ j = 1 := by simp at h1; omega
  · exact ⟨hn, hL⟩
  · exact ⟨hm, hM⟩
theorem LV.three {w : World} {g : Nat} {A : Option Addr} {n ca : Nat} {l : List AtomD} {B : Option Addr} {m cb : Nat} {k : List AtomD} {C : Option Addr} {p cc : Nat} {q : List AtomD} (h : w.heap[g]? = some (.cells #[.slice A n ca, .slice B m cb, .slice C p cc] 29 (0, 0))) (hn : l.length = n) (hL : AL w A ca l) (hm : k.length = m) (hM : AL w B cb k) (hp : q.length = p) (hP : AL w C cc q) : LV w (some ⟨g, 0, none⟩) 3 [(A, n, ca), (B, m, cb), (C, p, cc)] [l, k, q] := by
  refine LV.of_block (vs := [(A, n, ca), (B, m, cb), (C, p, cc)]) h rfl fun j h1 h2 => ?_
  obtain rfl | rfl | rfl : j = 0 ∨ j = 1 ∨ j = 2 := by simp at h1; omega
  · exact ⟨hn, hL⟩
  · exact ⟨hm, hM⟩
  · exact ⟨hp, hP⟩
theorem LV.nil (w : World) : LV w none 0 [] [] := ⟨SliceAt.mkNil w, rfl, fun j h => by simp at h⟩

theorem run_append_nils {n c : Nat} (hn : n ≤ c) (q : Option Addr) (ty : TypeId) (w : World) : (Builtin.append_ #[29, 29] ty #[.slice q n c, .slice none 0 0]).run Try.prog w = .ok (.slice q n c) w := by
  obtain ⟨i0, hi, hz0, hz1, hz2⟩ := info_A
  cases q <;> simp [Builtin.append_, run_underlying Try.underlying29, sizeOf, typeInfo, hi, hz1, Builtin.lenOf, Builtin.firstCells, hn, storeCells]
/-- append of a list, nil or not, to one that the call made -/
theorem wpList_catA {ops : Array Oper} {rest : List Oper} {o : Oper} {a : Act} {w W : World} {Q : Exit → Act → World → Prop} (hgd : o.guard = none) (s x : Operand)
    (ho : o.op = .call { callee := .builtin .append, args := #[s, x], argTypes := #[29, 29] }) {q : Option Addr} {n c : Nat} {out : List AtomD} {A : Option Addr} {k cm : Nat} {m : List AtomD} (hs : a.eval s = .slice q n c) (hx : a.eval x = .slice A k cm) (hO : OA w W q c out) (hno : out.length = n) (hM : AL W A cm m) (hn : m.length = k)
    (hl : n + k ≤ 2000000)
    (h : ∀ q' c' w', RowKit.Hid (OA w w' q' c' (out ++ m)) → wpList Try.prog ops Q rest (a.put o.dst (.slice q' (n + k) c')) w') :
    wpList Try.prog ops Q (o :: rest) a W := by
  subst hno hn
  cases A with
  | some ad =>
    refine wpList_pushesA hgd s x 29 Try.underlying29 ho hs hx hO hM rfl hl ?_
    intro q' c' w' out' HX HO
    have := h q' c' w'
    rw [← List.length_append, ← HX.out] at this
    exact this HO
  | none =>
    have hc := hM.nil rfl
    obtain rfl : m = [] := List.eq_nil_of_length_eq_zero (by have := hM.le; omega)
    subst hc
    have hr := run_append_nils (OwnL.slice EA hO).le q o.type W
    refine wpList_plain hgd fun _ hK => ?_
    unfold Oper.wp execOp
    simp only [ho, resolve, invoke, builtin, Sem.run_bind, Sem.run_pure, Result.andThen_ok, List.map_toArray, List.map_cons, List.map_nil, hs, hx, List.length_nil, hr]
    exact hK _ _ (h q c W (Lib.hid (by rw [List.append_nil]; exact hO)))

set_option maxHeartbeats 1000000 in
theorem growA_any (n : Nat) (hn : n ≤ 1000000) (w : World) : Calls Try.prog 53 #[.slice none 0 0, .int .i64 n] w fun e w' => (∃ q c, RowKit.Hid (OA w w' q c []) ∧ e = .returned (.slice q 0 c)) ∧ Bel w w' := by
  obtain ⟨i0, hi, hz0, hz1, hz2⟩ := info_A
  by_cases h0 : n = 0
  · subst h0
    refine (Any8.slices_Grow_room Try.growA none 0 0 0 w (Nat.le_refl _) (by omega) (by omega) (Nat.le_refl _)).mono fun e w' ⟨he, hw⟩ => ?_
    subst hw
    exact ⟨⟨none, 0, Lib.hid (OA.nil _ (Below.refl _ _)), he⟩, Below.refl _ _⟩
  · refine (Any8.slices_Grow_grow Try.growA i0 _ hi hz0 (by rw [hz1]; decide) none 0 0 n [] w (Nat.le_refl _) (by omega) (by rw [hz2]; omega) (by omega) (by simp) (fun _ => rfl) (fun a h => by cases h)).mono fun e w' ⟨he, hw⟩ => ?_
    subst hw
    have hb : Bel w (w.drew.alloc (.cells ((([] : List Value).toArray ++ Builtin.zeroCells (Value.agg #[.string ⟨#[]⟩, .string ⟨#[]⟩, .int .i64 0, .bool false, .string ⟨#[]⟩, .bool false, .string ⟨#[]⟩, .bool false, .string ⟨#[]⟩, .bool false, .string ⟨#[]⟩]).cells (0 + n - 0)) ++ Builtin.zeroCells (Value.agg #[.string ⟨#[]⟩, .string ⟨#[]⟩, .int .i64 0, .bool false, .string ⟨#[]⟩, .bool false, .string ⟨#[]⟩, .bool false, .string ⟨#[]⟩, .bool false, .string ⟨#[]⟩]).cells (grownCap w (0 + n) 0 27 - (0 + n))) 27)) := (bel_drew' (Below.refl _ _) : Bel w w.drew).trans' (bel_alloc _ _)
    have hge := grownCap_ge w (0 + n) 0 27
    have hle := grownCap_le_maxLen w (0 + n) 0 27 (by unfold maxLen; omega)
    refine ⟨⟨_, _, Lib.hid ⟨⟨by simp [flatL], .inr ⟨w.heap.size, _, _, rfl, Nat.zero_le _, heap_alloc_new w.drew _, Nat.zero_le _, hle, ?_, ?_⟩⟩, hb, fun g hg => ?_⟩, he⟩, hb⟩
    · have e25 : Try.growA_ren.t 25 = 27 := rfl
      simp only [Nat.zero_add] at hge
      simp [Builtin.zeroCells, Value.cells, e25]; omega
    · simp [flatL]
    · simp [Value.ownBlock] at hg; omega

theorem flat_take_succ {L : List (List AtomD)} {k : Nat} (h : k < L.length) : (L.take (k + 1)).flatten = (L.take k).flatten ++ L[k] := by
  rw [List.take_add_one, List.getElem?_eq_getElem h, Option.toList_some, List.flatten_append]; simp
theorem flat_part_le (L : List (List AtomD)) (k : Nat) : ((L.take k).flatten).length ≤ L.flatten.length := by
  conv => rhs; rw [← List.take_append_drop k L, List.flatten_append, List.length_append]
  omega
set_option maxRecDepth 20000 in
set_option maxHeartbeats 4000000 in
theorem Concat_any (A : Option Addr) (vs : List SlV) (L : List (List AtomD)) (n ca : Nat) (hn : vs.length = n) (w : World) (hL : LV w A ca vs L) (hl : L.flatten.length ≤ 1000000) (hl2 : n ≤ 1000) :
    Calls Try.prog 40 #[.slice A n ca] w fun e w' => (∃ q c, RowKit.Hid (OA w w' q c L.flatten) ∧ e = .returned (.slice q L.flatten.length c)) ∧ Bel w w' := by
  subst hn
  have HL := Lib.hid hL
  have HLN := Lib.hid hL.len
  clear hL
  have HFL := Lib.hid (flat_part_le L)
  obtain ⟨tot, htot⟩ : ∃ t, t = L.flatten.length := ⟨_, rfl⟩
  have HT := Lib.hid htot
  rw [← htot] at hl
  clear htot
  have hG := Lib.hid (fun W => growA_any tot hl W)
  go_enter Try.func40, Try.ntmps40
  go_wp2
  go_loopw [3, 11] (fun s3 i wr => ∃ k t : Nat, k ≤ vs.length ∧ i = .int .i64 k ∧ s3 = .int .i64 t ∧ t ≤ tot ∧ RowKit.Hid (t = ((L.take k).flatten).length) ∧ RowKit.Hid (Bel w wr)) (fun _ i _ => vs.length - (intOf i).toNat)
  case atStart => exact ⟨0, 0, Nat.zero_le _, rfl, rfl, Nat.zero_le _, Lib.hid rfl, Lib.hid (Below.refl _ _)⟩
  case round =>
    obtain ⟨k, t, hk, rfl, rfl, htt, HK, HB⟩ := hrel
    by_cases hlt : k < vs.length
    · obtain ⟨b, o, rfl, hc⟩ := lv_at HL.out hlt
      have c0 := hc _ HB.out
      have hq : (0 : Int) ≤ k := by omega
      have hq2 : (k : Int) < vs.length := by omega
      have hkL : k < L.length := by rw [← HLN.out]; exact hlt
      have hlen := (HL.out.each k hlt hkL).1
      have HS : RowKit.Hid (((L.take (k + 1)).flatten).length = t + vs[k].2.1) := Lib.hid (by rw [flat_take_succ hkL, List.length_append, hlen, HK.out])
      have hle : t + vs[k].2.1 ≤ tot := by rw [← HS.out, HT.out]; exact HFL.out _
      clear hc hlen
      generalize vs[k] = v at c0 HS hle
      obtain ⟨vA, vn, vc⟩ := v
      simp only at c0 HS hle
      have hn1 : ¬ (t : Int) + (vn : Int) < 0 := by omega
      go_wp2
      go_roundw
      case rel => exact ⟨k + 1, t + vn, by omega, by go_num, by go_num, hle, Lib.hid HS.out.symm, HB⟩
      case measure => simp [intOf]; omega
    · obtain rfl : k = vs.length := by omega
      obtain rfl : tot = t := by rw [HK.out, HLN.out, List.take_length, HT.out]
      go_wp2_with (fail)
      refine (hG.out _).mono ?_
      rintro e w2 ⟨⟨q0, c0, HO, rfl⟩, hg⟩
      have HB2 := Lib.hid (HB.out.trans' hg)
      have HO2 : RowKit.Hid (OA w w2 q0 c0 []) := Lib.hid ⟨HO.out.row, HB2.out, fun g h => by have := HO.out.new g h; have := HB.out.size; omega⟩
      clear HO HB hg
      go_wp2
      go_loopw [6, 27] (fun s6 i wr => ∃ (k t : Nat) (q : Option Addr) (c : Nat), k ≤ vs.length ∧ i = .int .i64 k ∧ s6 = .slice q t c ∧ t ≤ tot ∧ RowKit.Hid (t = ((L.take k).flatten).length) ∧ RowKit.Hid (OA w wr q c ((L.take k).flatten)) ∧ RowKit.Hid (Bel w wr)) (fun _ i _ => vs.length - (intOf i).toNat)
      case atStart => exact ⟨0, 0, q0, c0, Nat.zero_le _, rfl, rfl, Nat.zero_le _, Lib.hid rfl, HO2, HB2⟩
      case round =>
        obtain ⟨k, t, q, c, hk, rfl, rfl, htt, HK, HO, HB⟩ := hrel
        clear HO2 HB2
        by_cases hlt : k < vs.length
        · obtain ⟨b, o, rfl, hc⟩ := lv_at HL.out hlt
          have c0 := hc _ HB.out
          have hq : (0 : Int) ≤ k := by omega
          have hq2 : (k : Int) < vs.length := by omega
          have hkL : k < L.length := by rw [← HLN.out]; exact hlt
          have hlen := (HL.out.each k hlt hkL).1
          have HAL := Lib.hid ((HL.out.bel HB.out).each k hlt hkL).2
          have HS : RowKit.Hid (((L.take (k + 1)).flatten).length = t + vs[k].2.1) := Lib.hid (by rw [flat_take_succ hkL, List.length_append, hlen, HK.out])
          have HF : RowKit.Hid ((L.take (k + 1)).flatten = (L.take k).flatten ++ L[k]) := Lib.hid (flat_take_succ hkL)
          have hle : t + vs[k].2.1 ≤ tot := by rw [← HS.out, HT.out]; exact HFL.out _
          have HLK := Lib.hid hlen
          clear hc hlen
          generalize vs[k] = v at c0 HS hle HAL HLK
          obtain ⟨vA, vn, vc⟩ := v
          simp only at c0 HS hle HAL HLK
          go_wp2_with (at_builtin; refine wpList_catA rfl (.tmp 31) (.tmp 32) rfl rfl rfl HO.out HK.out.symm HAL.out HLK.out (by omega) ?_; intro q5 c5 w5 HO5)
          go_roundw
          case rel => exact ⟨k + 1, t + vn, q5, c5, by omega, by go_num, rfl, hle, Lib.hid HS.out.symm, Lib.hid (by rw [HF.out]; exact HO5.out), Lib.hid HO5.out.bel⟩
          case measure => simp [intOf]; omega
        · obtain rfl : k = vs.length := by omega
          have HE : RowKit.Hid (OA w wr q c L.flatten) := Lib.hid (by have := HO.out; rwa [HLN.out, List.take_length] at this)
          have HE2 : RowKit.Hid (t = L.flatten.length) := Lib.hid (by have := HK.out; rwa [HLN.out, List.take_length] at this)
          go_wp2
          go_ret
          exact ⟨⟨q, c, HE, by rw [← HE2.out]; rfl⟩, HB.out⟩
set_option maxHeartbeats 1000000 in
theorem cloneA_any (A : Option Addr) (l : List AtomD) (n ca : Nat) (hn : l.length = n) (w : World) (hL : AL w A ca l) (hl : l.length ≤ 100000) :
    Calls Try.prog 39 #[.slice A n ca] w fun e w' => (∃ q c, RowKit.Hid (OA w w' q c l) ∧ e = .returned (.slice q l.length c)) ∧ Bel w w' := by
  subst hn
  have q22 : ∀ (w : World) (a : Option Addr) (n c n' c' : Nat), (binOp .eql 29 (.slice a n c) (.slice none n' c')).run Try.prog w = .ok (.bool a.isNone) w := fun w a n c n' c' => Lib.run_eql_slice_nil w _ _ a n c n' c' Try.underlying29
  cases A with
  | none =>
    have hc := hL.nil rfl
    obtain rfl : l = [] := List.eq_nil_of_length_eq_zero (by have := hL.le; omega)
    go_enter Try.func39, Try.ntmps39
    go_wp2
    go_ret
    exact ⟨⟨none, 0, Lib.hid (OA.nil w (Below.refl _ _)), rfl⟩, Below.refl _ _⟩
  | some ad =>
    have HL := Lib.hid hL
    clear hL
    have hb := bel_alloc w (.cells #[] 27)
    have ho0 : (w.alloc (.cells #[] 27)).ownsRow 0 27 11 (.slice (some ⟨w.heap.size, 0, none⟩) 0 0) 0 [] := World.ownsRow_lit (base := 0) (e := 27) (size := 11) w #[] 0 (Nat.zero_le _) (by unfold maxLen; omega) (by simp)
    have hO : OA w (w.alloc (.cells #[] 27)) (some ⟨w.heap.size, 0, none⟩) 0 [] := ⟨ho0, hb, fun g hg => by simp [Value.ownBlock] at hg; omega⟩
    have HO := Lib.hid hO
    clear ho0 hO
    go_enter Try.func39, Try.ntmps39
    go_wp2_with (at_builtin; refine wpList_pushesA rfl (.tmp 5) (.tmp 6) 29 Try.underlying29 rfl rfl rfl HO.out (HL.out.bel hb) rfl (by simp; omega) ?_; intro q' c' w5 out' HX' HO'; obtain rfl : out' = l := HX'.out)
    go_ret
    exact ⟨⟨q', c', HO', rfl⟩, HO'.out.bel⟩
end Go.Proofs.Ytamghlneoglfnaa
