/-
  The statements' own helpers on bindings: copies, bounds, the chapter's example. Conditions: as each says.
-/
import Derived.Test.YtdmdefdiglpgaaaSbT
import Derived.Test.YtdmdefdiglpgaaaTmV
namespace Go.Proofs.Ytdmdefdiglpgaaa
open Go.RowKit

set_option maxHeartbeats 1000000 in
theorem ownB_any (A : Option Addr) (l : List BindD) (n ca : Nat) (hn : l.length = n) (w : World) (hL : BL w A ca l) (hl : l.length ≤ 100000) :
    Calls Try.prog 24 #[.slice A n ca] w fun e w' => (∃ q c, RowKit.Hid (OB w w' q c l) ∧ e = .returned (.slice q l.length c)) ∧ Bel w w' := by
  subst hn
  have HL := Lib.hid hL
  clear hL
  have hb := bel_alloc w (.cells #[] 32)
  have ho0 : (w.alloc (.cells #[] 32)).ownsRow 0 32 3 (.slice (some ⟨w.heap.size, 0, none⟩) 0 0) 0 [] := World.ownsRow_lit (base := 0) (e := 32) (size := 3) w #[] 0 (Nat.zero_le _) (by unfold maxLen; omega) (by simp)
  have hO : OB w (w.alloc (.cells #[] 32)) (some ⟨w.heap.size, 0, none⟩) 0 [] := ⟨ho0, hb, fun g hg => by simp [Value.ownBlock] at hg; omega⟩
  have HO := Lib.hid hO
  have hH := HL.out.bel hb
  clear ho0 hO
  go_enter Try.func24, Try.ntmps24
  go_wp2_with (at_builtin; refine wpList_pushes rfl (.tmp 3) (.tmp 4) 23 Try.underlying23 rfl rfl rfl HO.out (HL.out.bel hb) rfl (by simp; omega) ?_; intro q' c' w5 out' HX' HO'; obtain rfl : out' = l := HX'.out)
  go_ret
  exact ⟨⟨q', c', HO', rfl⟩, HO'.out.bel⟩

def lightB (b : BindD) : Bool := decide ((b.v.size : Int) ≤ 300) && decide ((b.t.name.size : Int) ≤ 300)
def lightBs (l : List BindD) : Bool := decide ((l.length : Int) ≤ 20) && l.all lightB
theorem lightBs_len {l : List BindD} (h : ¬ (l.length : Int) ≤ 20) : lightBs l = false := by unfold lightBs; simp only [decide_eq_false h, Bool.false_and]
theorem lightBs_no {l : List BindD} {b : BindD} (hb : b ∈ l) (h : lightB b = false) : lightBs l = false := by
  unfold lightBs
  have : l.all lightB = false := by rw [List.all_eq_false]; exact ⟨b, hb, by simp [h]⟩
  rw [this, Bool.and_false]
theorem lightBs_yes {l : List BindD} (h : (l.length : Int) ≤ 20) (h2 : (l.take l.length).all lightB = true) : lightBs l = true := by
  rw [List.take_length] at h2
  unfold lightBs
  rw [h2, decide_eq_true h]; rfl
/-- the strings of bindings fit -/
def BindsOk (l : List BindD) : Prop := ∀ b ∈ l, b.v.size ≤ 9223372036854775807 ∧ b.t.name.size ≤ 9223372036854775807
set_option maxHeartbeats 2000000 in
theorem lightBs_any (A : Option Addr) (l : List BindD) (ca : Nat) (w : World) (hL : BL w A ca l) (hl : l.length ≤ 9223372036854775807) (hk : BindsOk l) :
    Calls Try.prog 20 #[.slice A l.length ca] w fun e w' => e = .returned (.bool (lightBs l)) ∧ Bel w w' := by
  have HL := Lib.hid hL
  have HK := Lib.hid hk
  clear hL hk
  by_cases h20 : (l.length : Int) ≤ 20
  case neg =>
    have HE := Lib.hid (lightBs_len h20)
    go_enter Try.func20, Try.ntmps20
    go_wp2
    go_ret
    exact ⟨ret_bool HE.out.symm, Below.refl _ _⟩
  go_enter Try.func20, Try.ntmps20
  go_wp2
  go_loopw [3] (fun i wr => ∃ k : Nat, k ≤ l.length ∧ i = .int .i64 k ∧ RowKit.Hid (Bel w wr) ∧ RowKit.Hid ((l.take k).all lightB = true)) (fun i _ => l.length - (intOf i).toNat)
  case atStart => exact ⟨0, Nat.zero_le _, rfl, Lib.hid (Below.refl _ _), Lib.hid rfl⟩
  case round =>
    obtain ⟨k, hk, rfl, HB, HU⟩ := hrel
    by_cases hlt : k < l.length
    case neg =>
      obtain rfl : k = l.length := by omega
      have HE := Lib.hid (lightBs_yes h20 HU.out)
      go_wp2
      go_ret
      exact ⟨ret_bool HE.out.symm, HB.out⟩
    obtain ⟨b, o, rfl, hbb, hc⟩ := bl_get (HL.out.bel HB.out) (by omega)
    obtain ⟨c1, c2, c3⟩ := hc k hlt
    have hq : (0 : Int) ≤ k := by omega
    have hq2 : (k : Int) < l.length := by omega
    have HX : RowKit.Hid (lightB l[k] = false → lightBs l = false) := Lib.hid (lightBs_no (List.getElem_mem hlt))
    have HS : RowKit.Hid (lightB l[k] = true → (l.take (k + 1)).all lightB = true) := Lib.hid (all_succ hlt HU.out)
    have hsz := HK.out _ (List.getElem_mem hlt)
    clear hc hbb
    generalize l[k] = x at c1 c2 c3 HX HS hsz
    obtain ⟨xv, tv, s⟩ := x
    simp only at c1 c2 c3 hsz
    obtain ⟨z1, z2⟩ := hsz
    by_cases g1 : (xv.size : Int) ≤ 300
    · by_cases g2 : (s.size : Int) ≤ 300
      · have HN := Lib.hid (HS.out (by unfold lightB; simp only [decide_eq_true g1, decide_eq_true g2]; rfl))
        go_wp2
        go_roundw
        case rel => exact ⟨k + 1, by omega, by go_num, HB, HN⟩
        case measure => simp [intOf]; omega
      · have HE := Lib.hid (HX.out (by unfold lightB; simp only [decide_eq_false g2, Bool.and_false]))
        go_wp2
        go_ret
        exact ⟨ret_bool HE.out.symm, HB.out⟩
    · have HE := Lib.hid (HX.out (by unfold lightB; simp only [decide_eq_false g1, Bool.false_and]))
      go_wp2
      go_ret
      exact ⟨ret_bool HE.out.symm, HB.out⟩

def twoD : List BindD := [⟨⟨#[88]⟩, ⟨false, ⟨#[98]⟩⟩⟩, ⟨⟨#[89]⟩, ⟨true, ⟨#[90]⟩⟩⟩]
theorem two_any (w : World) :
    Calls Try.prog 11 #[] w fun e w' => (∃ g, RowKit.Hid (BL w' (some ⟨g, 0, none⟩) 2 twoD) ∧ e = .returned (.slice (some ⟨g, 0, none⟩) 2 2)) ∧ Bel w w' := by
  go_enter Try.func11, Try.ntmps11
  go_wp2_with (first | (go_at_call 12; refine (c_any _ _).mono ?_; rintro e w1 ⟨rfl, hg1⟩) | (go_at_call 13; refine (v_any _ _).mono ?_; rintro e w2 ⟨rfl, hg2⟩))
  go_ret
  exact ⟨⟨_, Lib.hid (SliceAt.lit EB w2 32 twoD _ rfl), rfl⟩, (hg1.trans' hg2).trans' (bel_alloc _ _)⟩
theorem listAt_lit (w : World) (e : TypeId) (cs : Array Value) : ListAt (w.alloc (.cells cs e)) (some ⟨w.heap.size, 0, none⟩) cs.size cs.toList := by
  refine ⟨by simp, .inr ⟨w.heap.size, 0, rfl, by simp, fun j u hu => ?_⟩⟩
  rw [Nat.zero_add]
  exact cell_of_block (heap_alloc_new w _) (by rw [← Array.getElem?_toList]; exact hu)
theorem live_a : errB twoD = 0 := by decide +kernel
theorem live_b : applyA twoD (storedD ⟨#[97, 108, 105, 99, 101]⟩ ⟨#[112]⟩ ([88, 89, 97].map byteD)) = storedD ⟨#[97, 108, 105, 99, 101]⟩ ⟨#[112]⟩ ([98, 90, 97].map byteD) := (eqA_iff _ _).1 (by decide +kernel)
set_option maxRecDepth 20000 in
set_option maxHeartbeats 2000000 in
theorem lives4_any (w : World) : Calls Try.prog 9 #[] w fun e w' => e = .returned (.bool true) ∧ Bel w w' := by
  have hb : Bel w w := Below.refl _ _
  go_enter Try.func9, Try.ntmps9
  go_wp2_with (fail)
  refine (two_any _).mono ?_
  rintro e w1 ⟨⟨g1, H1, rfl⟩, hg⟩
  have hb := hb.trans' hg
  clear hg
  have hC := Lib.hid (Check_any _ twoD 2 w1 H1.out (by decide))
  rw [live_a] at hC
  go_wp2_with (first | (go_at_call 19; refine hC.out.mono ?_; rintro e w2 ⟨rfl, hg⟩; have hb := hb.trans' hg; clear hg) | (go_at_call 11; refine (two_any _).mono ?_; rintro e w3 ⟨⟨g3, H3, rfl⟩, hg⟩; have hb := hb.trans' hg; clear hg))
  have hK1 := Lib.hid (kA_any ⟨#[97, 108, 105, 99, 101]⟩ ⟨#[112]⟩ (some ⟨w3.heap.size, 0, none⟩) [88, 89, 97] 3 _ (listAt_lit w3 9 #[.string ⟨#[88]⟩, .string ⟨#[89]⟩, .string ⟨#[97]⟩]) (by decide))
  refine hK1.out.mono ?_
  rintro e w4 ⟨⟨a1, HA1, rfl⟩, hg⟩
  have hb4 := (bel_alloc w3 (.cells #[.string ⟨#[88]⟩, .string ⟨#[89]⟩, .string ⟨#[97]⟩] 9)).trans' hg
  have hb := hb.trans' hb4
  have hP := Lib.hid (Apply_any _ twoD 2 a1 w4 (H3.out.bel hb4) (by decide))
  clear hg hb4
  go_wp2_with (first | (go_at_call 29; refine hP.out.mono ?_; rintro e w5 ⟨⟨a2, HA2, rfl⟩, hg⟩; have hb := hb.trans' hg; clear hg))
  have hK2 := Lib.hid (kA_any ⟨#[97, 108, 105, 99, 101]⟩ ⟨#[112]⟩ (some ⟨w5.heap.size, 0, none⟩) [98, 90, 97] 3 _ (listAt_lit w5 9 #[.string ⟨#[98]⟩, .string ⟨#[90]⟩, .string ⟨#[97]⟩]) (by decide))
  refine hK2.out.mono ?_
  rintro e w6 ⟨⟨a3, HA3, rfl⟩, hg⟩
  have hb := hb.trans' ((bel_alloc w5 (.cells #[.string ⟨#[98]⟩, .string ⟨#[90]⟩, .string ⟨#[97]⟩] 9)).trans' hg)
  have he : a2 = a3 := by rw [HA2.out, HA1.out, live_b, HA3.out]
  subst he
  have hqe : eqA a2 a2 = true := (eqA_iff _ _).2 rfl
  have hq := eql_atom a2 a2
  clear hg
  go_wp2
  go_ret
  exact ⟨rfl, hb⟩
def stepM (out : List BindD) (b : BindD) : List BindD := if (bindD out b.v b.t).2 = 0 then (bindD out b.v b.t).1 else out
def madeL (l : List BindD) : List BindD := l.foldl stepM []
theorem madeL_succ {l : List BindD} {k : Nat} {x : BindD} (h : l[k]? = some x) : madeL (l.take (k + 1)) = stepM (madeL (l.take k)) x := by
  unfold madeL
  rw [List.take_add_one, h, List.foldl_append]
  rfl
theorem bindD_len (l : List BindD) (v : ByteArray) (t : TermD) : (bindD l v t).1.length ≤ l.length + 1 := by
  unfold bindD
  split
  · simp
  · split
    · simp
    · split
      · simp
      · split
        · simp
        · simp [putB_len]
theorem stepM_len (out : List BindD) (b : BindD) : (stepM out b).length ≤ out.length + 1 := by
  unfold stepM
  split
  · exact bindD_len _ _ _
  · omega
set_option maxRecDepth 20000 in
set_option maxHeartbeats 4000000 in
theorem made4_any (A : Option Addr) (l : List BindD) (ca : Nat) (w : World) (hL : BL w A ca l) (hl : l.length ≤ 1000) :
    Calls Try.prog 32 #[.slice A l.length ca] w fun e w' => (∃ q c out, RowKit.Hid (out = madeL l ∧ out.length ≤ l.length) ∧ RowKit.Hid (BL w' q c out) ∧ e = .returned (.slice q out.length c)) ∧ Bel w w' := by
  have HL := Lib.hid hL
  clear hL
  go_enter Try.func32, Try.ntmps32
  go_wp2
  go_loopw [3, 4] (fun a3 i wr => ∃ (k : Nat) (out : List BindD) (q : Option Addr) (c : Nat), k ≤ l.length ∧ i = .int .i64 k ∧ a3 = .slice q out.length c ∧ out.length ≤ k ∧ RowKit.Hid (out = madeL (l.take k) ∧ BL wr q c out ∧ Bel w wr)) (fun _ i _ => l.length - (intOf i).toNat)
  case atStart => exact ⟨0, [], none, 0, Nat.zero_le _, rfl, rfl, by simp, Lib.hid ⟨rfl, SliceAt.mkNil w, Below.refl _ _⟩⟩
  case round =>
    obtain ⟨k, out, q, c, hk, rfl, rfl, hol, H⟩ := hrel
    have HO := Lib.hid H.out.2.1
    have HI := Lib.hid H.out.1
    have HB := Lib.hid H.out.2.2
    clear H
    by_cases hlt : k < l.length
    · obtain ⟨b, o, rfl, hbb, hc⟩ := bl_get (HL.out.bel HB.out) (by omega)
      obtain ⟨c1, c2, c3⟩ := hc k hlt
      have hq : (0 : Int) ≤ k := by omega
      have hq2 : (k : Int) < l.length := by omega
      have HN := Lib.hid (madeL_succ (List.getElem?_eq_getElem hlt))
      clear hc hbb
      generalize l[k] = y at c1 c2 c3 HN
      obtain ⟨yv, yt⟩ := y
      simp only at c1 c2 c3
      have HD := Lib.hid (bel_drew' (Below.refl wr.heap.size wr))
      have hT := Lib.hid (rBind_any q out out.length c rfl yv yt wr.drew (HO.out.bel HD.out) (by omega))
      obtain ⟨r, hr⟩ : ∃ r, r = bindD out yv yt := ⟨_, rfl⟩
      have HRL : RowKit.Hid (r.1.length ≤ out.length + 1) := Lib.hid (by rw [hr]; exact bindD_len _ _ _)
      have HN2 : RowKit.Hid (madeL (l.take (k + 1)) = if r.2 = 0 then r.1 else out) := Lib.hid (by rw [HN.out, ← HI.out, hr]; rfl)
      rw [← hr] at hT
      clear hr HN
      obtain ⟨r1, r2⟩ := r
      go_wp2
      go_region_held3 (fun w' => w'.cell? ⟨b, o + k * 3, none⟩ = some (.string yv) ∧ w'.cell? ⟨b, o + k * 3 + 1, none⟩ = some (.bool yt.v) ∧ w'.cell? ⟨b, o + k * 3 + 2, none⟩ = some (.string yt.name)) (first | go_keep | trivial)
        (first | (go_at_call 25; refine hT.out.mono ?_; rintro e w4 ⟨⟨q1, k1, out1, n1, HE1, HO1, rfl⟩, hg⟩; obtain ⟨rfl, rfl⟩ := Prod.mk.inj HE1.out; have HB4 := Lib.hid ((HB.out.trans' HD.out).trans' hg); have HOK := Lib.hid (HO.out.bel (HD.out.trans' hg)); have z1 : w4.cell? ⟨b, o + k * 3, none⟩ = some (.string yv) := cell_bel c1 (HD.out.trans' hg); have z2 : w4.cell? ⟨b, o + k * 3 + 1, none⟩ = some (.bool yt.v) := cell_bel c2 (HD.out.trans' hg); have z3 : w4.cell? ⟨b, o + k * 3 + 2, none⟩ = some (.string yt.name) := cell_bel c3 (HD.out.trans' hg); clear hg))
      all_goals
        by_cases hz : n1 = 0
        · have HN3 := Lib.hid (HN2.out.trans (if_pos hz))
          subst hz
          go_wp2
          go_roundw
          case rel => exact ⟨k + 1, out1, q1, k1, by omega, by go_num, rfl, (Nat.le_trans HRL.out (by omega)), Lib.hid ⟨HN3.out.symm, OwnL.slice EB HO1.out, HB4.out⟩⟩
          case measure => simp [intOf]; omega
        · have HN3 := Lib.hid (HN2.out.trans (if_neg hz))
          have hz2 : (n1 == 0) = false := by simpa using hz
          go_wp2
          go_roundw
          case rel => exact ⟨k + 1, out, q, c, by omega, by go_num, rfl, (by omega), Lib.hid ⟨HN3.out.symm, HOK.out, HB4.out⟩⟩
          case measure => simp [intOf]; omega
    · obtain rfl : k = l.length := by omega
      have HF : RowKit.Hid (out = madeL l ∧ out.length ≤ l.length) := Lib.hid ⟨by have := HI.out; rwa [List.take_length] at this, by omega⟩
      go_wp2
      go_ret
      exact ⟨⟨q, c, out, HF, HO, rfl⟩, HB.out⟩
end Go.Proofs.Ytdmdefdiglpgaaa
