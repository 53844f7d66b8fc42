/-
  The names of an atom's terms. Conditions: as each says. The reference's names of an atom's terms. Conditions: as each says. Lists of terms that a call writes out; a term's block; constants, variables and the names of an atom. Condition: the library's variable holds some int, where one says so.
-/
import Derived.Test.YtiokjjiakcbmhaaDoorTgB
import Derived.Test.YtiokjjiakcbmhaaDoorKitS
import Derived.Test.YtiokjjiakcbmhaaDoorShelf
namespace Go.Proofs.YtiokjjiakcbmhaaDoor
open Go.RowKit

def stepN (v : Bool) (out : List ByteArray) (t : TermD) : List ByteArray := if (t.v == v && !Lib.containsS out t.name) = true then out ++ [t.name] else out
def namesD (v : Bool) (l : List TermD) : List ByteArray := l.foldl (stepN v) []
theorem names_nil (v : Bool) : namesD v [] = [] := rfl
theorem names_snoc (v : Bool) (l : List TermD) (t : TermD) : namesD v (l ++ [t]) = stepN v (namesD v l) t := by unfold namesD; rw [List.foldl_append]; rfl
theorem names_succ (v : Bool) {l : List TermD} {k : Nat} {t : TermD} (h : l[k]? = some t) : namesD v (l.take (k + 1)) = stepN v (namesD v (l.take k)) t := by
  rw [List.take_add_one, h]; exact names_snoc v _ t
theorem step_len (v : Bool) (out : List ByteArray) (t : TermD) : (stepN v out t).length ≤ out.length + 1 := by unfold stepN; split <;> simp
theorem names_len (v : Bool) (l : List TermD) : (namesD v l).length ≤ l.length := by
  unfold namesD
  suffices h : ∀ (l : List TermD) (acc : List ByteArray), (l.foldl (stepN v) acc).length ≤ acc.length + l.length by simpa using h l []
  intro l
  induction l with
  | nil => intro acc; simp
  | cons t l ih =>
    intro acc
    have := ih (stepN v acc t)
    have := step_len v acc t
    simp only [List.foldl_cons, List.length_cons]
    omega
/-- a list of strings that the call made, in worlds from w on -/
structure StrO (w W : World) (v : Value) (l : List ByteArray) : Prop where
  row : W.ownsRow 0 9 1 v l.length (l.map Value.string)
  bel : Below w.heap.size w W
  new : ∀ g, v.ownBlock = some g → w.heap.size ≤ g
theorem StrO.nil (w : World) {W : World} (hb : Bel w W) : StrO w W (.slice none 0 0) [] := ⟨World.ownsRow_nil _ _ _ _, hb, by simp [Value.ownBlock]⟩
theorem StrO.bel' {w W W' : World} {v : Value} {l : List ByteArray} (h : StrO w W v l) (hg : Bel W W') : StrO w W' v l :=
  ⟨(Fr.of_below (F := []) hg).owns h.row (by simp), h.bel.trans (hg.mono h.bel.size), h.new⟩
theorem StrO.push {w W W' : World} {v v' : Value} {l : List ByteArray} {p : ByteArray} {x : Obj} (h : StrO w W v l) (ho : W'.ownsRow 0 9 1 v' (l.length + 1) (l.map Value.string ++ [.string p])) (hf : Fr v.ownBlock.toList (W.alloc x) W') (hn : ∀ g, v'.ownBlock = some g → v.ownBlock = some g ∨ (W.alloc x).heap.size ≤ g) : StrO w W' v' (l ++ [p]) := by
  have hs := h.bel.size
  refine ⟨by simpa using ho, (h.bel.alloc hs _).trans (hf.below (fun k hk => h.new k (by simpa using hk)) (by simp; omega)), fun g hg => ?_⟩
  rcases hn g hg with e | e
  · exact h.new g e
  · simp at e; omega
theorem StrO.cell {w W : World} {g n c : Nat} {l : List ByteArray} (h : StrO w W (.slice (some ⟨g, 0, none⟩) n c) l) : ∀ j, j < l.length → W.cell? ⟨g, 0 + j, none⟩ = some (.string (l.getD j ByteArray.empty)) := fun j hj => by
  have hj2 : (l.map Value.string)[j]? = some (.string l[j]) := by simp [hj]
  rw [Nat.zero_add, row_cell h.row rfl hj2, List.getD_eq_getElem?_getD, List.getElem?_eq_getElem hj]
  rfl
theorem StrO.list {w W : World} {A : Option Addr} {n c : Nat} {l : List ByteArray} (h : StrO w W (.slice A n c) l) : ListAt W A l.length (l.map Value.string) := by
  refine ⟨by simp, ?_⟩
  by_cases h0 : l.length = 0
  · exact .inl h0
  · obtain ⟨g, cap, e, ho, hlt, _, _⟩ := row_value h.row (by omega)
    injection e with e1 e2 e3
    subst e1
    exact .inr ⟨g, 0, rfl, hlt, fun j u hu => by rw [Nat.zero_add]; exact row_cell h.row ho hu⟩
theorem info_str : ∃ i, Tryd.prog.info? 9 = some i ∧ i.zero = some (.string ⟨#[]⟩) ∧ i.size = 1 ∧ i.bytes = 16 := by
  have h : (Tryd.prog.info? 9).map (fun i => (i.zero, i.size, i.bytes)) = some (some (.string ⟨#[]⟩), 1, 16) := by kernel_rfl
  cases hq : Tryd.prog.info? 9 with
  | none => rw [hq] at h; cases h
  | some i =>
    rw [hq] at h
    injection h with h
    injection h with h1 h2
    injection h2 with h2 h3
    exact ⟨i, rfl, h1, h2, h3⟩
theorem new_one' {W : World} {x : Value} {e : TypeId} {b : Nat} (hb : W.heap.size = b) : ∀ j u, ([x] : List Value)[j]? = some u → (W.alloc (.cells #[x] e)).cell? ((⟨b, 0, none⟩ : Addr).add j) = some u := by subst hb; exact new_one
theorem str_one {s : ByteArray} : ∀ u ∈ ([.string s] : List Value), u.oneCell' = true := by intro u hu; simp at hu; subst hu; rfl

end Go.Proofs.YtiokjjiakcbmhaaDoor
namespace Go.Proofs.YtiokjjiakcbmhaaDoor
open Go.RowKit

theorem step_mem (v : Bool) (out : List ByteArray) (t : TermD) (s : ByteArray) : s ∈ stepN v out t ↔ s ∈ out ∨ (t.v = v ∧ t.name = s) := by
  unfold stepN
  by_cases h : (t.v == v && !Lib.containsS out t.name) = true
  · rw [if_pos h]
    simp only [Bool.and_eq_true, beq_iff_eq] at h
    simp only [List.mem_append, List.mem_singleton]
    constructor
    · rintro (h1 | h1)
      · exact .inl h1
      · exact .inr ⟨h.1, h1.symm⟩
    · rintro (h1 | ⟨_, h1⟩)
      · exact .inl h1
      · exact .inr h1.symm
  · rw [if_neg h]
    constructor
    · exact .inl
    · rintro (h1 | ⟨h1, rfl⟩)
      · exact h1
      · simp only [h1, beq_self_eq_true, Bool.true_and, Bool.not_eq_true', Bool.not_eq_false] at h
        exact (Lib.containsS_iff _ _).1 h
theorem names_mem (v : Bool) (l : List TermD) (s : ByteArray) : s ∈ namesD v l ↔ ∃ t ∈ l, t.v = v ∧ t.name = s := by
  unfold namesD
  suffices h : ∀ (l : List TermD) (acc : List ByteArray), s ∈ l.foldl (stepN v) acc ↔ s ∈ acc ∨ ∃ t ∈ l, t.v = v ∧ t.name = s by simpa using h l []
  intro l
  induction l with
  | nil => intro acc; simp
  | cons t l ih =>
    intro acc
    rw [List.foldl_cons, ih, step_mem]
    simp only [List.mem_cons, exists_eq_or_imp]
    rw [or_assoc]
theorem contains_names (v : Bool) (l : List TermD) (s : ByteArray) : Lib.containsS (namesD v l) s = l.any (fun t => eqT t ⟨v, s⟩) := by
  rw [Bool.eq_iff_iff, Lib.containsS_iff, names_mem, List.any_eq_true]
  constructor
  · rintro ⟨t, h1, h2, h3⟩
    exact ⟨t, h1, (eqT_iff _ _).2 (TermD.ext' h2 h3)⟩
  · rintro ⟨t, h1, h2⟩
    have := (eqT_iff _ _).1 h2
    subst this
    exact ⟨_, h1, rfl, rfl⟩

set_option maxRecDepth 20000 in
set_option maxHeartbeats 4000000 in
theorem rnames_any (a : AtomD) (v : Bool) (w : World) (l : List TermD) (hl : l = (argsD a).take (cntI a.n)) :
    Calls Tryd.prog 39 #[.agg #[.string a.says, .string a.pred, .int .i64 a.n, .bool a.t0.v, .string a.t0.name, .bool a.t1.v, .string a.t1.name, .bool a.t2.v, .string a.t2.name, .bool a.t3.v, .string a.t3.name], .bool v] w fun e w' => (∃ A c, RowKit.Hid (ListAt w' A (namesD v l).length ((namesD v l).map Value.string)) ∧ e = .returned (.slice A (namesD v l).length c)) ∧ Bel w w' := by
  obtain ⟨i0, hi, hz0, hz1, hz2⟩ := info_str
  have hA := AtomAt.new w a
  have hb := bel_alloc w (.cells #[.string a.says, .string a.pred, .int .i64 a.n, .bool a.t0.v, .string a.t0.name, .bool a.t1.v, .string a.t1.name, .bool a.t2.v, .string a.t2.name, .bool a.t3.v, .string a.t3.name] 27)
  have hcl := cntI_le a.n
  have hll : l.length = cntI a.n := by rw [hl, List.length_take]; show min _ 4 = _; omega
  have hT := hA.terms.take (cntI a.n)
  rw [← hl] at hT
  obtain ⟨k0, hk0⟩ : ∃ k0, k0 = cntI a.n := ⟨_, rfl⟩
  have HK := Lib.hid hk0
  rw [← hk0] at hcl hll
  obtain ⟨w0, hw0⟩ : ∃ w0, w0 = w.alloc (.cells #[.string a.says, .string a.pred, .int .i64 a.n, .bool a.t0.v, .string a.t0.name, .bool a.t1.v, .string a.t1.name, .bool a.t2.v, .string a.t2.name, .bool a.t3.v, .string a.t3.name] 27) := ⟨_, rfl⟩
  have HB := Lib.hid hb
  have HA := Lib.hid hA
  have HT := Lib.hid hT
  rw [← hw0] at HB HA HT
  have HW := Lib.hid hw0
  clear hl hk0 hb hA hT hw0
  have hqt := eql_term
  go_enter Tryd.func39, Tryd.ntmps39
  go_wp2
  go_loopw [5, 6] (fun a5 i wr => ∃ (k n : Nat) (q : Option Addr) (c : Nat), k ≤ k0 ∧ i = .int .i64 k ∧ a5 = .slice q n c ∧ RowKit.Hid (n = (namesD v (l.take k)).length ∧ n ≤ k ∧ StrO w0 wr (.slice q n c) (namesD v (l.take k)))) (fun _ i _ => k0 - (intOf i).toNat)
  case atStart => exact ⟨0, 0, none, 0, Nat.zero_le _, rfl, rfl, Lib.hid ⟨rfl, Nat.le_refl _, by rw [← HW.out]; exact StrO.nil _ (Below.refl _ _)⟩⟩
  case round =>
    obtain ⟨k, n, q, c, hk, rfl, rfl, H⟩ := hrel
    have hA := HA.out.bel H.out.2.2.bel
    obtain ⟨c0, c1, c2, c3, c4, c5, c6, c7, c8, c9, c10⟩ := hA.cells
    by_cases hlt : k < k0
    · have hq : (0 : Int) ≤ k := by omega
      have hq2 : (k : Int) < k0 := by omega
      have hq4 : (k : Int) < 4 := by omega
      have HN := Lib.hid (names_succ v (List.getElem?_eq_getElem (by omega : k < l.length)))
      obtain ⟨t, ht⟩ : ∃ t, t = l[k] := ⟨_, rfl⟩
      rw [← ht] at HN
      have HTK := Lib.hid ht
      clear ht
      go_wp2_with (go_at_call 38; refine (rCount_any _ _ _ _ _ _ _ _ _ _ _ _).mono ?_; rw [← HK.out]; rintro e w1 ⟨rfl, hg⟩; have HS := Lib.hid (H.out.2.2.bel' hg); clear hg c0 c1 c2 c3 c4 c5 c6 c7 c8 c9 c10 hA)
      obtain ⟨tv, ts⟩ := t
      go_loopw [7, 8] (fun th kk wr2 => ∃ j : Nat, j ≤ k ∧ kk = .int .i64 j ∧ th = .bool ((l.take j).any (fun x => eqT x ⟨tv, ts⟩)) ∧ RowKit.Hid (Bel w1 wr2)) (fun _ kk _ => k - (intOf kk).toNat)
      case atStart => exact ⟨0, Nat.zero_le _, rfl, rfl, Lib.hid (Below.refl _ _)⟩
      case round =>
        obtain ⟨j, hj, rfl, rfl, HJ⟩ := hrel
        have hS := Lib.hid (HS.out.bel' HJ.out)
        obtain ⟨b, o, e, hbb, hc⟩ := ((HT.out.bel HS.out.bel).bel HJ.out).get (by omega)
        injection e with e
        injection e with e1 e2
        subst e1 e2
        obtain ⟨d3, d4⟩ := hc k (by omega)
        rw [← HTK.out] at d3 d4
        simp only at d3 d4
        by_cases hjk : j < k
        · obtain ⟨d1, d2⟩ := hc j (by omega)
          have HY : RowKit.Hid ((l.take (j + 1)).any (fun x => eqT x ⟨tv, ts⟩) = ((l.take j).any (fun x => eqT x ⟨tv, ts⟩) || eqT l[j] ⟨tv, ts⟩)) := Lib.hid (by
            rw [List.take_add_one, List.getElem?_eq_getElem (by omega : j < l.length), List.any_append]; simp)
          clear hc hbb
          generalize l[j] = x at d1 d2 HY
          obtain ⟨xv, xs⟩ := x
          simp only at d1 d2
          have hj0 : (0 : Int) ≤ j := by omega
          have hj1 : (j : Int) < k := by omega
          have hj4 : (j : Int) < 4 := by omega
          rcases Bool.eq_false_or_eq_true ((l.take j).any (fun x => eqT x ⟨tv, ts⟩)) with hth | hth
          · have HZ : RowKit.Hid ((l.take (j + 1)).any (fun x => eqT x ⟨tv, ts⟩) = true) := Lib.hid (by rw [HY.out, hth]; rfl)
            go_wp2
            go_quiet (fail)
            go_wp2
            go_roundw
            case rel => exact ⟨j + 1, by omega, by go_num, by rw [HZ.out], Lib.hid (HJ.out.trans' (by first | exact Below.refl _ _ | exact bel_drewN _ _))⟩
            case measure => simp [intOf]; omega
          · have HZ : RowKit.Hid ((l.take (j + 1)).any (fun x => eqT x ⟨tv, ts⟩) = eqT ⟨xv, xs⟩ ⟨tv, ts⟩) := Lib.hid (by rw [HY.out, hth]; rfl)
            go_wp2
            go_quiet (fail)
            go_wp2
            go_roundw
            case rel => exact ⟨j + 1, by omega, by go_num, by rw [HZ.out], Lib.hid (HJ.out.trans' (by first | exact Below.refl _ _ | exact bel_drewN _ _))⟩
            case measure => simp [intOf]; omega
        · obtain rfl : j = k := by omega
          have HN1 := Lib.hid H.out.1
          have hnk := H.out.2.1
          clear hc hbb
          have HX := H
          clear H
          rcases Decidable.em (tv = v) with rfl | hv
          · have hv : (tv == tv) = true := by simp
            have HC := Lib.hid (contains_names tv (l.take j) ts)
            rcases Bool.eq_false_or_eq_true ((l.take j).any (fun x => eqT x ⟨tv, ts⟩)) with hth | hth
            · have HE : RowKit.Hid (namesD tv (l.take (j + 1)) = namesD tv (l.take j)) := Lib.hid (by rw [HN.out]; unfold stepN; simp [HC.out, hth])
              go_wp2
              go_roundw
              case rel => exact ⟨j + 1, n, q, c, by omega, by go_num, rfl, Lib.hid (by rw [HE.out]; exact ⟨HN1.out, by omega, hS.out⟩)⟩
              case measure => simp [intOf]; omega
            · have HE : RowKit.Hid (namesD tv (l.take (j + 1)) = namesD tv (l.take j) ++ [ts]) := Lib.hid (by rw [HN.out]; unfold stepN; simp [HC.out, hth])
              go_wp2_with (at_builtin; refine wpList_append_mine _ rfl (.tmp 43) (.tmp 49) 37 rfl 9 i0 (.string ⟨#[]⟩) 1 16 Tryd.underlying37 hi hz0 hz1 hz2 rfl (by decide) (.slice q n c) n ((namesD tv (l.take j)).map Value.string) rfl (by have := hS.out.row; rw [← HN1.out] at this; exact this.alloc _) _ 1 1 [.string ts] rfl rfl new_one str_one (by unfold maxLen; omega) (by omega) ?_; intro v2 w2 ho2 hf2 hn22; obtain ⟨g2, cap2, rfl, _, _, _, _⟩ := row_value ho2 (by omega); have HP := Lib.hid (StrO.push (p := ts) hS.out (by rw [← HN1.out]; exact ho2) hf2 hn22); clear ho2 hf2 hn22)
              go_roundw
              case rel => exact ⟨j + 1, n + 1, _, _, by omega, by go_num, rfl, Lib.hid (by rw [HE.out]; exact ⟨by rw [List.length_append, ← HN1.out]; rfl, by omega, HP.out⟩)⟩
              case measure => simp [intOf]; omega
          · have hv2 : (tv == v) = false := by simpa using hv
            clear hv
            have HE : RowKit.Hid (namesD v (l.take (j + 1)) = namesD v (l.take j)) := Lib.hid (by rw [HN.out]; unfold stepN; simp [hv2])
            go_wp2
            go_roundw
            case rel => exact ⟨j + 1, n, q, c, by omega, by go_num, rfl, Lib.hid (by rw [HE.out]; exact ⟨HN1.out, by omega, hS.out⟩)⟩
            case measure => simp [intOf]; omega
    · obtain rfl : k = k0 := by omega
      have HF : RowKit.Hid (namesD v (l.take k) = namesD v l) := Lib.hid (by rw [← hll, List.take_length])
      have HR : RowKit.Hid (n = (namesD v l).length ∧ StrO w0 wr (.slice q n c) (namesD v l)) := Lib.hid (by rw [← HF.out]; exact ⟨H.out.1, H.out.2.2⟩)
      clear H
      go_wp2_with (go_at_call 38; refine (rCount_any _ _ _ _ _ _ _ _ _ _ _ _).mono ?_; rw [← HK.out]; rintro e w1 ⟨rfl, hg⟩; have HS := Lib.hid (HR.out.2.bel' hg); clear hg)
      go_ret
      exact ⟨⟨_, _, Lib.hid HS.out.list, ret_slice HR.out.1⟩, HB.out.trans' HS.out.bel⟩
end Go.Proofs.YtiokjjiakcbmhaaDoor
namespace Go.Proofs.YtiokjjiakcbmhaaDoor
open Go.RowKit

theorem TermsAt.lit (W : World) (l : List TermD) (hl : l.length ≤ 1000) : TermsAt (W.alloc (.cells (termCells l).toArray 24)) (some ⟨W.heap.size, 0, none⟩) l :=
  TermsAt.of_row (base := 0) (ca := l.length) (World.ownsRow_lit W (termCells l).toArray l.length (Nat.zero_le _) (by unfold maxLen; omega) (by simp [termCells_len]))
/-- block b is the term t -/
def TermAt (w : World) (b : Nat) (t : TermD) : Prop := w.heap[b]? = some (.cells #[.bool t.v, .string t.name] 24)
theorem TermAt.new (w : World) (t : TermD) : TermAt (w.alloc (.cells #[.bool t.v, .string t.name] 24)) w.heap.size t := heap_alloc_new _ _
theorem TermAt.bel {w w' : World} {b : Nat} {t : TermD} (h : TermAt w b t) (hg : Bel w w') : TermAt w' b t := (hg.block b (Array.getElem?_eq_some_iff.1 h).1).trans h
theorem TermAt.cells {w : World} {b : Nat} {t : TermD} (h : TermAt w b t) : w.cell? ⟨b, 0, none⟩ = some (.bool t.v) ∧ w.cell? ⟨b, 1, none⟩ = some (.string t.name) := by
  unfold TermAt at h
  refine ⟨?_, ?_⟩ <;> simp [World.cell?, h]
theorem str_same {a b : ByteArray} (h : a = b) : (a.toList == b.toList) = true := by rw [h]; simp
theorem str_is {a b : ByteArray} (l : List UInt8) (h : a = b) (hl : b = ⟨l.toArray⟩) : (a.toList == l) = true := by
  subst hl; subst h
  rw [ByteArray.toList_eq]; simp
set_option maxHeartbeats 400000 in
theorem c_any (s : ByteArray) (w : World) : Calls Tryd.prog 29 #[.string s] w fun e w' => e = .returned (.agg #[.bool false, .string s]) ∧ Bel w w' := by
  go_enter Tryd.func29, Tryd.ntmps29
  go_wp2
  try simp only [Exit.inBlock, Exit.then]
  refine bodyPost_ret (results_cell_row rfl _ _ w.heap.size 24 #[.bool false, .string s] (0, 0) _ rfl (heap_alloc_new _ _) Tryd.underlying24 rfl (by kernel_rfl)) rfl ?_
  exact ⟨rfl, bel_alloc _ _⟩
set_option maxHeartbeats 400000 in
theorem v_any (s : ByteArray) (w : World) : Calls Tryd.prog 20 #[.string s] w fun e w' => e = .returned (.agg #[.bool true, .string s]) ∧ Bel w w' := by
  go_enter Tryd.func20, Tryd.ntmps20
  go_wp2
  try simp only [Exit.inBlock, Exit.then]
  refine bodyPost_ret (results_cell_row rfl _ _ w.heap.size 24 #[.bool true, .string s] (0, 0) _ rfl (heap_alloc_new _ _) Tryd.underlying24 rfl (by kernel_rfl)) rfl ?_
  exact ⟨rfl, bel_alloc _ _⟩
set_option maxHeartbeats 400000 in
theorem rvars_any (a : AtomD) (w : World) (l : List TermD) (hl : l = (argsD a).take (cntI a.n)) :
    Calls Tryd.prog 19 #[.agg #[.string a.says, .string a.pred, .int .i64 a.n, .bool a.t0.v, .string a.t0.name, .bool a.t1.v, .string a.t1.name, .bool a.t2.v, .string a.t2.name, .bool a.t3.v, .string a.t3.name]] w fun e w' => (∃ A c, RowKit.Hid (ListAt w' A (namesD true l).length ((namesD true l).map Value.string)) ∧ e = .returned (.slice A (namesD true l).length c)) ∧ Bel w w' := by
  have hA := AtomAt.new w a
  have hb := bel_alloc w (.cells #[.string a.says, .string a.pred, .int .i64 a.n, .bool a.t0.v, .string a.t0.name, .bool a.t1.v, .string a.t1.name, .bool a.t2.v, .string a.t2.name, .bool a.t3.v, .string a.t3.name] 27)
  have HL := Lib.hid hl
  clear hl
  go_enter Tryd.func19, Tryd.ntmps19
  go_wp2_with (go_at_call 39; refine (rnames_any a true _ l HL.out).mono ?_; rintro e w1 ⟨⟨A, c, hL, rfl⟩, hg⟩; have hb := hb.trans' hg)
  go_ret
  exact ⟨⟨_, _, hL, rfl⟩, hb⟩
end Go.Proofs.YtiokjjiakcbmhaaDoor
