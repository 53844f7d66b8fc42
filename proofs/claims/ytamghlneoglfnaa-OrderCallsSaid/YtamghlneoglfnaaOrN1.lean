/-
  The reference's Compare, Is and Has. Conditions: as each says.
-/
import Derived.Test.YtamghlneoglfnaaOrM
import Derived.Test.YtamghlneoglfnaaVaF0
namespace Go.Proofs.Ytamghlneoglfnaa
open Go.RowKit

set_option maxRecDepth 20000 in
set_option maxHeartbeats 4000000 in
theorem rCompare_any (a b : AtomD) (w : World) (ha : AtomSm a) (hbs : AtomSm b) :
    Calls Try.prog 21 #[.agg #[.string a.says, .string a.pred, .int .i64 a.n, .bool a.t0.v, .string a.t0.name, .bool a.t1.v, .string a.t1.name, .bool a.t2.v, .string a.t2.name, .bool a.t3.v, .string a.t3.name], .agg #[.string b.says, .string b.pred, .int .i64 b.n, .bool b.t0.v, .string b.t0.name, .bool b.t1.v, .string b.t1.name, .bool b.t2.v, .string b.t2.name, .bool b.t3.v, .string b.t3.name]] w fun e w' => e = .returned (.int .i64 (cmpD a b)) ∧ Bel w w' := by
  rw [cmpD_eq]
  have hP := (AtomAt.new w a).bel (bel_alloc (w.alloc (.cells #[.string a.says, .string a.pred, .int .i64 a.n, .bool a.t0.v, .string a.t0.name, .bool a.t1.v, .string a.t1.name, .bool a.t2.v, .string a.t2.name, .bool a.t3.v, .string a.t3.name] 27)) (.cells #[.string b.says, .string b.pred, .int .i64 b.n, .bool b.t0.v, .string b.t0.name, .bool b.t1.v, .string b.t1.name, .bool b.t2.v, .string b.t2.name, .bool b.t3.v, .string b.t3.name] 27))
  have hQ := AtomAt.new (w.alloc (.cells #[.string a.says, .string a.pred, .int .i64 a.n, .bool a.t0.v, .string a.t0.name, .bool a.t1.v, .string a.t1.name, .bool a.t2.v, .string a.t2.name, .bool a.t3.v, .string a.t3.name] 27)) b
  rw [show (w.alloc (.cells #[.string a.says, .string a.pred, .int .i64 a.n, .bool a.t0.v, .string a.t0.name, .bool a.t1.v, .string a.t1.name, .bool a.t2.v, .string a.t2.name, .bool a.t3.v, .string a.t3.name] 27)).heap.size = w.heap.size + 1 by simp] at hQ
  have hb := (bel_alloc w (.cells #[.string a.says, .string a.pred, .int .i64 a.n, .bool a.t0.v, .string a.t0.name, .bool a.t1.v, .string a.t1.name, .bool a.t2.v, .string a.t2.name, .bool a.t3.v, .string a.t3.name] 27)).trans' (bel_alloc (w.alloc (.cells #[.string a.says, .string a.pred, .int .i64 a.n, .bool a.t0.v, .string a.t0.name, .bool a.t1.v, .string a.t1.name, .bool a.t2.v, .string a.t2.name, .bool a.t3.v, .string a.t3.name] 27)) (.cells #[.string b.says, .string b.pred, .int .i64 b.n, .bool b.t0.v, .string b.t0.name, .bool b.t1.v, .string b.t1.name, .bool b.t2.v, .string b.t2.name, .bool b.t3.v, .string b.t3.name] 27))
  have HTA := Lib.hid (fun W => rtext_any a W ha)
  have HTB := Lib.hid (fun W => rtext_any b W hbs)
  generalize textD a = s at HTA ⊢
  generalize textD b = t at HTB ⊢
  replace hP := hP.drew
  replace hQ := hQ.drew
  have hd : Bel w _ := bel_drew' hb
  obtain ⟨c0, c1, c2, c3, c4, c5, c6, c7, c8, c9, c10⟩ := hP.cells
  obtain ⟨d0, d1, d2, d3, d4, d5, d6, d7, d8, d9, d10⟩ := hQ.cells
  clear hb
  cases h1 : ltS s t
  · cases h2 : ltS t s
    · have hr : cmpS s t = 0 := by unfold cmpS; rw [h1, h2]; rfl
      have f1 : Op.bytesLess s.toList t.toList = false := h1
      have f2 : Op.bytesLess t.toList s.toList = false := h2
      have f3 : (s.toList == t.toList) = true := toList_eq (ltS_tri h1 h2)
      rw [hr]
      clear h1 h2 hr
      go_enter Try.func21, Try.ntmps21
      go_wp2
      go_region_held3 (fun w' => (w'.cell? ⟨w.heap.size, 0, none⟩ = some (.string a.says) ∧ w'.cell? ⟨w.heap.size, 1, none⟩ = some (.string a.pred) ∧ w'.cell? ⟨w.heap.size, 2, none⟩ = some (.int .i64 a.n) ∧ w'.cell? ⟨w.heap.size, 3, none⟩ = some (.bool a.t0.v) ∧ w'.cell? ⟨w.heap.size, 4, none⟩ = some (.string a.t0.name) ∧ w'.cell? ⟨w.heap.size, 5, none⟩ = some (.bool a.t1.v) ∧ w'.cell? ⟨w.heap.size, 6, none⟩ = some (.string a.t1.name) ∧ w'.cell? ⟨w.heap.size, 7, none⟩ = some (.bool a.t2.v) ∧ w'.cell? ⟨w.heap.size, 8, none⟩ = some (.string a.t2.name) ∧ w'.cell? ⟨w.heap.size, 9, none⟩ = some (.bool a.t3.v) ∧ w'.cell? ⟨w.heap.size, 10, none⟩ = some (.string a.t3.name)) ∧ (w'.cell? ⟨w.heap.size + 1, 0, none⟩ = some (.string b.says) ∧ w'.cell? ⟨w.heap.size + 1, 1, none⟩ = some (.string b.pred) ∧ w'.cell? ⟨w.heap.size + 1, 2, none⟩ = some (.int .i64 b.n) ∧ w'.cell? ⟨w.heap.size + 1, 3, none⟩ = some (.bool b.t0.v) ∧ w'.cell? ⟨w.heap.size + 1, 4, none⟩ = some (.string b.t0.name) ∧ w'.cell? ⟨w.heap.size + 1, 5, none⟩ = some (.bool b.t1.v) ∧ w'.cell? ⟨w.heap.size + 1, 6, none⟩ = some (.string b.t1.name) ∧ w'.cell? ⟨w.heap.size + 1, 7, none⟩ = some (.bool b.t2.v) ∧ w'.cell? ⟨w.heap.size + 1, 8, none⟩ = some (.string b.t2.name) ∧ w'.cell? ⟨w.heap.size + 1, 9, none⟩ = some (.bool b.t3.v) ∧ w'.cell? ⟨w.heap.size + 1, 10, none⟩ = some (.string b.t3.name))) (first | exact ⟨hP.cells, hQ.cells⟩ | go_keep | trivial)
        (first | (go_at_call 43; refine (HTA.out _).mono ?_; rintro e w9 ⟨rfl, hg⟩; replace hP := hP.bel hg; replace hQ := hQ.bel hg; replace hd := hd.trans' hg; clear hg) | (go_at_call 43; refine (HTB.out _).mono ?_; rintro e w9 ⟨rfl, hg⟩; replace hP := hP.bel hg; replace hQ := hQ.bel hg; replace hd := hd.trans' hg; clear hg))
      all_goals go_wp2
      all_goals go_ret
      all_goals exact ⟨rfl, hd⟩
    · have hr : cmpS s t = 1 := by unfold cmpS; rw [h1, h2]; rfl
      have f1 : Op.bytesLess s.toList t.toList = false := h1
      have f2 : Op.bytesLess t.toList s.toList = true := h2
      have f3 : (s.toList == t.toList) = false := toList_ne (fun e => ltS_ne h2 e.symm)
      rw [hr]
      clear h1 h2 hr
      go_enter Try.func21, Try.ntmps21
      go_wp2
      go_region_held3 (fun w' => (w'.cell? ⟨w.heap.size, 0, none⟩ = some (.string a.says) ∧ w'.cell? ⟨w.heap.size, 1, none⟩ = some (.string a.pred) ∧ w'.cell? ⟨w.heap.size, 2, none⟩ = some (.int .i64 a.n) ∧ w'.cell? ⟨w.heap.size, 3, none⟩ = some (.bool a.t0.v) ∧ w'.cell? ⟨w.heap.size, 4, none⟩ = some (.string a.t0.name) ∧ w'.cell? ⟨w.heap.size, 5, none⟩ = some (.bool a.t1.v) ∧ w'.cell? ⟨w.heap.size, 6, none⟩ = some (.string a.t1.name) ∧ w'.cell? ⟨w.heap.size, 7, none⟩ = some (.bool a.t2.v) ∧ w'.cell? ⟨w.heap.size, 8, none⟩ = some (.string a.t2.name) ∧ w'.cell? ⟨w.heap.size, 9, none⟩ = some (.bool a.t3.v) ∧ w'.cell? ⟨w.heap.size, 10, none⟩ = some (.string a.t3.name)) ∧ (w'.cell? ⟨w.heap.size + 1, 0, none⟩ = some (.string b.says) ∧ w'.cell? ⟨w.heap.size + 1, 1, none⟩ = some (.string b.pred) ∧ w'.cell? ⟨w.heap.size + 1, 2, none⟩ = some (.int .i64 b.n) ∧ w'.cell? ⟨w.heap.size + 1, 3, none⟩ = some (.bool b.t0.v) ∧ w'.cell? ⟨w.heap.size + 1, 4, none⟩ = some (.string b.t0.name) ∧ w'.cell? ⟨w.heap.size + 1, 5, none⟩ = some (.bool b.t1.v) ∧ w'.cell? ⟨w.heap.size + 1, 6, none⟩ = some (.string b.t1.name) ∧ w'.cell? ⟨w.heap.size + 1, 7, none⟩ = some (.bool b.t2.v) ∧ w'.cell? ⟨w.heap.size + 1, 8, none⟩ = some (.string b.t2.name) ∧ w'.cell? ⟨w.heap.size + 1, 9, none⟩ = some (.bool b.t3.v) ∧ w'.cell? ⟨w.heap.size + 1, 10, none⟩ = some (.string b.t3.name))) (first | exact ⟨hP.cells, hQ.cells⟩ | go_keep | trivial)
        (first | (go_at_call 43; refine (HTA.out _).mono ?_; rintro e w9 ⟨rfl, hg⟩; replace hP := hP.bel hg; replace hQ := hQ.bel hg; replace hd := hd.trans' hg; clear hg) | (go_at_call 43; refine (HTB.out _).mono ?_; rintro e w9 ⟨rfl, hg⟩; replace hP := hP.bel hg; replace hQ := hQ.bel hg; replace hd := hd.trans' hg; clear hg))
      all_goals go_wp2
      all_goals go_ret
      all_goals exact ⟨rfl, hd⟩
  · have hr : cmpS s t = -1 := by unfold cmpS; rw [h1]; rfl
    have f1 : Op.bytesLess s.toList t.toList = true := h1
    rw [hr]
    clear h1 hr
    go_enter Try.func21, Try.ntmps21
    go_wp2
    go_region_held3 (fun w' => (w'.cell? ⟨w.heap.size, 0, none⟩ = some (.string a.says) ∧ w'.cell? ⟨w.heap.size, 1, none⟩ = some (.string a.pred) ∧ w'.cell? ⟨w.heap.size, 2, none⟩ = some (.int .i64 a.n) ∧ w'.cell? ⟨w.heap.size, 3, none⟩ = some (.bool a.t0.v) ∧ w'.cell? ⟨w.heap.size, 4, none⟩ = some (.string a.t0.name) ∧ w'.cell? ⟨w.heap.size, 5, none⟩ = some (.bool a.t1.v) ∧ w'.cell? ⟨w.heap.size, 6, none⟩ = some (.string a.t1.name) ∧ w'.cell? ⟨w.heap.size, 7, none⟩ = some (.bool a.t2.v) ∧ w'.cell? ⟨w.heap.size, 8, none⟩ = some (.string a.t2.name) ∧ w'.cell? ⟨w.heap.size, 9, none⟩ = some (.bool a.t3.v) ∧ w'.cell? ⟨w.heap.size, 10, none⟩ = some (.string a.t3.name)) ∧ (w'.cell? ⟨w.heap.size + 1, 0, none⟩ = some (.string b.says) ∧ w'.cell? ⟨w.heap.size + 1, 1, none⟩ = some (.string b.pred) ∧ w'.cell? ⟨w.heap.size + 1, 2, none⟩ = some (.int .i64 b.n) ∧ w'.cell? ⟨w.heap.size + 1, 3, none⟩ = some (.bool b.t0.v) ∧ w'.cell? ⟨w.heap.size + 1, 4, none⟩ = some (.string b.t0.name) ∧ w'.cell? ⟨w.heap.size + 1, 5, none⟩ = some (.bool b.t1.v) ∧ w'.cell? ⟨w.heap.size + 1, 6, none⟩ = some (.string b.t1.name) ∧ w'.cell? ⟨w.heap.size + 1, 7, none⟩ = some (.bool b.t2.v) ∧ w'.cell? ⟨w.heap.size + 1, 8, none⟩ = some (.string b.t2.name) ∧ w'.cell? ⟨w.heap.size + 1, 9, none⟩ = some (.bool b.t3.v) ∧ w'.cell? ⟨w.heap.size + 1, 10, none⟩ = some (.string b.t3.name))) (first | exact ⟨hP.cells, hQ.cells⟩ | go_keep | trivial)
      (first | (go_at_call 43; refine (HTA.out _).mono ?_; rintro e w9 ⟨rfl, hg⟩; replace hP := hP.bel hg; replace hQ := hQ.bel hg; replace hd := hd.trans' hg; clear hg) | (go_at_call 43; refine (HTB.out _).mono ?_; rintro e w9 ⟨rfl, hg⟩; replace hP := hP.bel hg; replace hQ := hQ.bel hg; replace hd := hd.trans' hg; clear hg))
    all_goals go_wp2
    all_goals go_ret
    all_goals exact ⟨rfl, hd⟩
theorem hasK_yes {l : List AtomD} {a : AtomD} {k : Nat} (h : k < l.length) (e : cmpD l[k] a = 0) : hasK l a = true := hasK_iff.2 ⟨l[k], List.getElem_mem h, cmp_eq.1 e⟩
theorem hasK_next {l : List AtomD} {a : AtomD} {k : Nat} (h : k < l.length) (h1 : hasK (l.take k) a = false) (e : ¬ cmpD l[k] a = 0) : hasK (l.take (k + 1)) a = false := by
  cases q : hasK (l.take (k + 1)) a with
  | false => rfl
  | true =>
    obtain ⟨y, hy, e2⟩ := hasK_iff.1 q
    rw [List.take_add_one, List.getElem?_eq_getElem h, Option.toList_some, List.mem_append, List.mem_singleton] at hy
    rcases hy with hy | rfl
    · rw [hasK_iff.2 ⟨y, hy, e2⟩] at h1; cases h1
    · exact absurd (cmp_eq.2 e2) e
set_option maxRecDepth 20000 in
set_option maxHeartbeats 4000000 in
theorem rHas_any (A : Option Addr) (l : List AtomD) (n ca : Nat) (hn : l.length = n) (a : AtomD) (w : World) (hL : AL w A ca l) (hl : l.length ≤ 100000) (hs : SmA l) (ha : AtomSm a) :
    Calls Try.prog 27 #[.slice A n ca, .agg #[.string a.says, .string a.pred, .int .i64 a.n, .bool a.t0.v, .string a.t0.name, .bool a.t1.v, .string a.t1.name, .bool a.t2.v, .string a.t2.name, .bool a.t3.v, .string a.t3.name]] w fun e w' => e = .returned (.bool (hasK l a)) ∧ Bel w w' := by
  subst hn
  have HL := Lib.hid hL
  have HS := Lib.hid hs
  have HP0 := Lib.hid (AtomAt.new w a)
  have HB0 := Lib.hid (bel_alloc w (.cells #[.string a.says, .string a.pred, .int .i64 a.n, .bool a.t0.v, .string a.t0.name, .bool a.t1.v, .string a.t1.name, .bool a.t2.v, .string a.t2.name, .bool a.t3.v, .string a.t3.name] 27))
  clear hL hs
  go_enter Try.func27, Try.ntmps27
  go_wp2
  go_loopw [5] (fun i wr => ∃ k : Nat, k ≤ l.length ∧ i = .int .i64 k ∧ RowKit.Hid (hasK (l.take k) a = false) ∧ RowKit.Hid (AtomAt wr w.heap.size a) ∧ RowKit.Hid (Bel w wr)) (fun i _ => l.length - (intOf i).toNat)
  case atStart => exact ⟨0, Nat.zero_le _, rfl, Lib.hid rfl, HP0, HB0⟩
  case round =>
    obtain ⟨k, hk, rfl, HU, HP, HB⟩ := hrel
    by_cases hlt : k < l.length
    case neg =>
      obtain rfl : k = l.length := by omega
      have HE : RowKit.Hid (hasK l a = false) := Lib.hid (by have := HU.out; rwa [List.take_length] at this)
      go_wp2
      go_ret
      exact ⟨ret_bool HE.out.symm, HB.out⟩
    obtain ⟨b, o, rfl⟩ := al_at HL.out hlt
    have HCX := Lib.hid (al_later HL.out hlt)
    have hq : (0 : Int) ≤ k := by omega
    have hq2 : (k : Int) < l.length := by omega
    have HX := Lib.hid (HS.out _ (List.getElem_mem hlt))
    have HY := Lib.hid (hasK_yes (a := a) hlt)
    have HN := Lib.hid (hasK_next hlt HU.out)
    generalize l[k] = x at HCX HX HY HN
    have HC := Lib.hid (fun W => rCompare_any x a W HX.out ha)
    have hP := HP.out.drew
    have hd : Bel wr wr.drew := bel_drew' (Below.refl _ _)
    obtain ⟨d0, d1, d2, d3, d4, d5, d6, d7, d8, d9, d10⟩ := hP.cells
    obtain ⟨c0, c1, c2, c3, c4, c5, c6, c7, c8, c9, c10⟩ := HCX.out wr.drew (HB.out.trans' hd)
    by_cases hr : cmpD x a = 0
    · have HE := Lib.hid (HY.out hr)
      rw [hr] at HC
      clear hr HN HY
      go_wp2
      go_region_held3 (fun w' => (w'.cell? ⟨b, o + k * 11, none⟩ = some (.string x.says) ∧ w'.cell? ⟨b, o + k * 11 + 1, none⟩ = some (.string x.pred) ∧ w'.cell? ⟨b, o + k * 11 + 2, none⟩ = some (.int .i64 x.n) ∧ w'.cell? ⟨b, o + k * 11 + 3, none⟩ = some (.bool x.t0.v) ∧ w'.cell? ⟨b, o + k * 11 + 4, none⟩ = some (.string x.t0.name) ∧ w'.cell? ⟨b, o + k * 11 + 5, none⟩ = some (.bool x.t1.v) ∧ w'.cell? ⟨b, o + k * 11 + 6, none⟩ = some (.string x.t1.name) ∧ w'.cell? ⟨b, o + k * 11 + 7, none⟩ = some (.bool x.t2.v) ∧ w'.cell? ⟨b, o + k * 11 + 8, none⟩ = some (.string x.t2.name) ∧ w'.cell? ⟨b, o + k * 11 + 9, none⟩ = some (.bool x.t3.v) ∧ w'.cell? ⟨b, o + k * 11 + 10, none⟩ = some (.string x.t3.name)) ∧ (w'.cell? ⟨w.heap.size, 0, none⟩ = some (.string a.says) ∧ w'.cell? ⟨w.heap.size, 1, none⟩ = some (.string a.pred) ∧ w'.cell? ⟨w.heap.size, 2, none⟩ = some (.int .i64 a.n) ∧ w'.cell? ⟨w.heap.size, 3, none⟩ = some (.bool a.t0.v) ∧ w'.cell? ⟨w.heap.size, 4, none⟩ = some (.string a.t0.name) ∧ w'.cell? ⟨w.heap.size, 5, none⟩ = some (.bool a.t1.v) ∧ w'.cell? ⟨w.heap.size, 6, none⟩ = some (.string a.t1.name) ∧ w'.cell? ⟨w.heap.size, 7, none⟩ = some (.bool a.t2.v) ∧ w'.cell? ⟨w.heap.size, 8, none⟩ = some (.string a.t2.name) ∧ w'.cell? ⟨w.heap.size, 9, none⟩ = some (.bool a.t3.v) ∧ w'.cell? ⟨w.heap.size, 10, none⟩ = some (.string a.t3.name))) (first | exact ⟨HCX.out _ (HB.out.trans' hd), hP.cells⟩ | go_keep | trivial)
        (first | (go_at_call 21; refine (HC.out _).mono ?_; rintro e w9 ⟨rfl, hg⟩; replace hP := hP.bel hg; replace hd := hd.trans' hg; clear hg))
      all_goals go_wp2
      all_goals go_ret
      all_goals exact ⟨ret_bool HE.out.symm, HB.out.trans' hd⟩
    · have HE := Lib.hid (HN.out hr)
      have hr2 : (cmpD x a == 0) = false := by simpa using hr
      clear hr HN HY
      generalize cmpD x a = r at HC hr2
      go_wp2
      go_region_held3 (fun w' => (w'.cell? ⟨b, o + k * 11, none⟩ = some (.string x.says) ∧ w'.cell? ⟨b, o + k * 11 + 1, none⟩ = some (.string x.pred) ∧ w'.cell? ⟨b, o + k * 11 + 2, none⟩ = some (.int .i64 x.n) ∧ w'.cell? ⟨b, o + k * 11 + 3, none⟩ = some (.bool x.t0.v) ∧ w'.cell? ⟨b, o + k * 11 + 4, none⟩ = some (.string x.t0.name) ∧ w'.cell? ⟨b, o + k * 11 + 5, none⟩ = some (.bool x.t1.v) ∧ w'.cell? ⟨b, o + k * 11 + 6, none⟩ = some (.string x.t1.name) ∧ w'.cell? ⟨b, o + k * 11 + 7, none⟩ = some (.bool x.t2.v) ∧ w'.cell? ⟨b, o + k * 11 + 8, none⟩ = some (.string x.t2.name) ∧ w'.cell? ⟨b, o + k * 11 + 9, none⟩ = some (.bool x.t3.v) ∧ w'.cell? ⟨b, o + k * 11 + 10, none⟩ = some (.string x.t3.name)) ∧ (w'.cell? ⟨w.heap.size, 0, none⟩ = some (.string a.says) ∧ w'.cell? ⟨w.heap.size, 1, none⟩ = some (.string a.pred) ∧ w'.cell? ⟨w.heap.size, 2, none⟩ = some (.int .i64 a.n) ∧ w'.cell? ⟨w.heap.size, 3, none⟩ = some (.bool a.t0.v) ∧ w'.cell? ⟨w.heap.size, 4, none⟩ = some (.string a.t0.name) ∧ w'.cell? ⟨w.heap.size, 5, none⟩ = some (.bool a.t1.v) ∧ w'.cell? ⟨w.heap.size, 6, none⟩ = some (.string a.t1.name) ∧ w'.cell? ⟨w.heap.size, 7, none⟩ = some (.bool a.t2.v) ∧ w'.cell? ⟨w.heap.size, 8, none⟩ = some (.string a.t2.name) ∧ w'.cell? ⟨w.heap.size, 9, none⟩ = some (.bool a.t3.v) ∧ w'.cell? ⟨w.heap.size, 10, none⟩ = some (.string a.t3.name))) (first | exact ⟨HCX.out _ (HB.out.trans' hd), hP.cells⟩ | go_keep | trivial)
        (first | (go_at_call 21; refine (HC.out _).mono ?_; rintro e w9 ⟨rfl, hg⟩; replace hP := hP.bel hg; replace hd := hd.trans' hg; clear hg))
      all_goals
        clear c0 c1 c2 c3 c4 c5 c6 c7 c8 c9 c10 d0 d1 d2 d3 d4 d5 d6 d7 d8 d9 d10
        go_wp2
        go_roundw
        case rel => exact ⟨k + 1, by omega, by go_num, HE, Lib.hid hP, Lib.hid (HB.out.trans' hd)⟩
        case measure => simp [intOf]; omega
theorem asc_pair {l : List AtomD} {j : Nat} (h : j + 1 < l.length) : AscA (l.take (j + 2)) ↔ AscA (l.take (j + 1)) ∧ ltA l[j] l[j + 1] = true := by
  rw [asc_take (k := j + 1) h, last_succ (by omega)]
  rfl
theorem asc_short {l : List AtomD} (h : l.length ≤ 1) : AscA l := by
  match l, h with
  | [], _ => exact asc_nilA
  | [x], _ => exact asc_consA.2 ⟨by simp, asc_nilA⟩
  | _ :: _ :: _, h => simp at h
set_option maxRecDepth 20000 in
set_option maxHeartbeats 4000000 in
theorem rIs_any (A : Option Addr) (l : List AtomD) (n ca : Nat) (hn : l.length = n) (w : World) (hL : AL w A ca l) (hl : l.length ≤ 100000) (hs : SmA l) :
    Calls Try.prog 25 #[.slice A n ca] w fun e w' => e = .returned (.bool (isD l)) ∧ Bel w w' := by
  subst hn
  have HL := Lib.hid hL
  have HS := Lib.hid hs
  clear hL hs
  go_enter Try.func25, Try.ntmps25
  go_wp2
  go_loopw [3] (fun i wr => ∃ j : Nat, j ≤ l.length ∧ i = .int .i64 ((j : Int) + 1) ∧ RowKit.Hid (AscA (l.take (j + 1))) ∧ RowKit.Hid (Bel w wr)) (fun i _ => l.length + 1 - (intOf i).toNat)
  case atStart => exact ⟨0, Nat.zero_le _, rfl, Lib.hid (asc_short (by rw [List.length_take]; omega)), Lib.hid (Below.refl _ _)⟩
  case round =>
    obtain ⟨j, hj, rfl, HU, HB⟩ := hrel
    by_cases hlt : j + 1 < l.length
    case neg =>
      have hnl : ¬ (j : Int) + 1 < l.length := by omega
      have HE : RowKit.Hid (isD l = true) := Lib.hid (by have := HU.out; rw [List.take_of_length_le (by omega)] at this; exact isD_yes this)
      go_wp2
      go_ret
      exact ⟨ret_bool HE.out.symm, HB.out⟩
    obtain ⟨b, o, rfl⟩ := al_at HL.out hlt
    have HCY := Lib.hid (al_later HL.out hlt)
    have HCX := Lib.hid (al_later HL.out (Nat.lt_of_succ_lt hlt))
    have hr1 : (0 : Int) ≤ (j : Int) + 1 := by omega
    have hr2 : (j : Int) + 1 < l.length := by omega
    have hr3 : (0 : Int) ≤ j := by omega
    have hr4 : (j : Int) < l.length := by omega
    have hw : IntKind.i64.wrap (j : Int) = j := IntWalk.i64_in _ (by omega)
    have hw2 : IntKind.i64.wrap ((j : Int) + 1 - 1) = j := (IntWalk.i64_in _ (by omega)).trans (by omega)
    have HX := Lib.hid (HS.out _ (List.getElem_mem (Nat.lt_of_succ_lt hlt)))
    have HY := Lib.hid (HS.out _ (List.getElem_mem hlt))
    have HN : RowKit.Hid (∀ r, ltA l[j] l[j + 1] = r → if r then AscA (l.take (j + 2)) else isD l = false) := Lib.hid (fun r hr => by
      cases r with
      | true => exact (asc_pair hlt).2 ⟨HU.out, hr⟩
      | false => exact isD_no (fun hA => by have := ((asc_pair hlt).1 (asc_subA hA (List.take_sublist _ _))).2; rw [hr] at this; cases this))
    generalize l[j + 1] = y at HCY HY HN
    generalize l[j] = x at HCX HX HN
    have HC := Lib.hid (fun W => rCompare_any x y W HX.out HY.out)
    have hd : Bel wr wr.drew := bel_drew' (Below.refl _ _)
    obtain ⟨c0, c1, c2, c3, c4, c5, c6, c7, c8, c9, c10⟩ := HCX.out wr.drew (HB.out.trans' hd)
    obtain ⟨d0, d1, d2, d3, d4, d5, d6, d7, d8, d9, d10⟩ := HCY.out wr.drew (HB.out.trans' hd)
    cases hr : ltA x y
    · have HE : RowKit.Hid (isD l = false) := Lib.hid (HN.out _ hr)
      have hr5 : ¬ cmpD x y < 0 := fun h => by
        rcases cmp_cases x y with e | e | e
        · rw [cmp_lt.1 e] at hr; cases hr
        · rw [e] at h; omega
        · rw [e] at h; omega
      have hr6 : (0 : Int) ≤ cmpD x y := by omega
      clear hr HN hr5
      generalize cmpD x y = r at HC hr6
      go_wp2
      go_region_held3 (fun w' => (w'.cell? ⟨b, o + j * 11, none⟩ = some (.string x.says) ∧ w'.cell? ⟨b, o + j * 11 + 1, none⟩ = some (.string x.pred) ∧ w'.cell? ⟨b, o + j * 11 + 2, none⟩ = some (.int .i64 x.n) ∧ w'.cell? ⟨b, o + j * 11 + 3, none⟩ = some (.bool x.t0.v) ∧ w'.cell? ⟨b, o + j * 11 + 4, none⟩ = some (.string x.t0.name) ∧ w'.cell? ⟨b, o + j * 11 + 5, none⟩ = some (.bool x.t1.v) ∧ w'.cell? ⟨b, o + j * 11 + 6, none⟩ = some (.string x.t1.name) ∧ w'.cell? ⟨b, o + j * 11 + 7, none⟩ = some (.bool x.t2.v) ∧ w'.cell? ⟨b, o + j * 11 + 8, none⟩ = some (.string x.t2.name) ∧ w'.cell? ⟨b, o + j * 11 + 9, none⟩ = some (.bool x.t3.v) ∧ w'.cell? ⟨b, o + j * 11 + 10, none⟩ = some (.string x.t3.name)) ∧ (w'.cell? ⟨b, o + (j + 1) * 11, none⟩ = some (.string y.says) ∧ w'.cell? ⟨b, o + (j + 1) * 11 + 1, none⟩ = some (.string y.pred) ∧ w'.cell? ⟨b, o + (j + 1) * 11 + 2, none⟩ = some (.int .i64 y.n) ∧ w'.cell? ⟨b, o + (j + 1) * 11 + 3, none⟩ = some (.bool y.t0.v) ∧ w'.cell? ⟨b, o + (j + 1) * 11 + 4, none⟩ = some (.string y.t0.name) ∧ w'.cell? ⟨b, o + (j + 1) * 11 + 5, none⟩ = some (.bool y.t1.v) ∧ w'.cell? ⟨b, o + (j + 1) * 11 + 6, none⟩ = some (.string y.t1.name) ∧ w'.cell? ⟨b, o + (j + 1) * 11 + 7, none⟩ = some (.bool y.t2.v) ∧ w'.cell? ⟨b, o + (j + 1) * 11 + 8, none⟩ = some (.string y.t2.name) ∧ w'.cell? ⟨b, o + (j + 1) * 11 + 9, none⟩ = some (.bool y.t3.v) ∧ w'.cell? ⟨b, o + (j + 1) * 11 + 10, none⟩ = some (.string y.t3.name))) (first | exact ⟨HCX.out _ (HB.out.trans' hd), HCY.out _ (HB.out.trans' hd)⟩ | go_keep | trivial)
        (first | (go_at_call 21; refine (HC.out _).mono ?_; rintro e w9 ⟨rfl, hg⟩; replace hd := hd.trans' hg; clear hg))
      all_goals go_wp2
      all_goals go_ret
      all_goals exact ⟨ret_bool HE.out.symm, HB.out.trans' hd⟩
    · have HE : RowKit.Hid (AscA (l.take (j + 2))) := Lib.hid (HN.out _ hr)
      rw [cmp_lt.2 hr] at HC
      clear hr HN
      go_wp2
      go_region_held3 (fun w' => (w'.cell? ⟨b, o + j * 11, none⟩ = some (.string x.says) ∧ w'.cell? ⟨b, o + j * 11 + 1, none⟩ = some (.string x.pred) ∧ w'.cell? ⟨b, o + j * 11 + 2, none⟩ = some (.int .i64 x.n) ∧ w'.cell? ⟨b, o + j * 11 + 3, none⟩ = some (.bool x.t0.v) ∧ w'.cell? ⟨b, o + j * 11 + 4, none⟩ = some (.string x.t0.name) ∧ w'.cell? ⟨b, o + j * 11 + 5, none⟩ = some (.bool x.t1.v) ∧ w'.cell? ⟨b, o + j * 11 + 6, none⟩ = some (.string x.t1.name) ∧ w'.cell? ⟨b, o + j * 11 + 7, none⟩ = some (.bool x.t2.v) ∧ w'.cell? ⟨b, o + j * 11 + 8, none⟩ = some (.string x.t2.name) ∧ w'.cell? ⟨b, o + j * 11 + 9, none⟩ = some (.bool x.t3.v) ∧ w'.cell? ⟨b, o + j * 11 + 10, none⟩ = some (.string x.t3.name)) ∧ (w'.cell? ⟨b, o + (j + 1) * 11, none⟩ = some (.string y.says) ∧ w'.cell? ⟨b, o + (j + 1) * 11 + 1, none⟩ = some (.string y.pred) ∧ w'.cell? ⟨b, o + (j + 1) * 11 + 2, none⟩ = some (.int .i64 y.n) ∧ w'.cell? ⟨b, o + (j + 1) * 11 + 3, none⟩ = some (.bool y.t0.v) ∧ w'.cell? ⟨b, o + (j + 1) * 11 + 4, none⟩ = some (.string y.t0.name) ∧ w'.cell? ⟨b, o + (j + 1) * 11 + 5, none⟩ = some (.bool y.t1.v) ∧ w'.cell? ⟨b, o + (j + 1) * 11 + 6, none⟩ = some (.string y.t1.name) ∧ w'.cell? ⟨b, o + (j + 1) * 11 + 7, none⟩ = some (.bool y.t2.v) ∧ w'.cell? ⟨b, o + (j + 1) * 11 + 8, none⟩ = some (.string y.t2.name) ∧ w'.cell? ⟨b, o + (j + 1) * 11 + 9, none⟩ = some (.bool y.t3.v) ∧ w'.cell? ⟨b, o + (j + 1) * 11 + 10, none⟩ = some (.string y.t3.name))) (first | exact ⟨HCX.out _ (HB.out.trans' hd), HCY.out _ (HB.out.trans' hd)⟩ | go_keep | trivial)
        (first | (go_at_call 21; refine (HC.out _).mono ?_; rintro e w9 ⟨rfl, hg⟩; replace hd := hd.trans' hg; clear hg))
      all_goals
        clear c0 c1 c2 c3 c4 c5 c6 c7 c8 c9 c10 d0 d1 d2 d3 d4 d5 d6 d7 d8 d9 d10
        go_wp2
        go_roundw
        case rel => exact ⟨j + 1, by omega, by go_num, HE, Lib.hid (HB.out.trans' hd)⟩
        case measure => simp [intOf]; omega
end Go.Proofs.Ytamghlneoglfnaa
