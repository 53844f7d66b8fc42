/-
  How one string stands to another one: -1, 0 or 1. No condition.
-/
import Derived.Test.YtamghlneoglfnaaOrA
import Derived.Test.YtamghlneoglfnaaAtA
import Derived.Test.YtamghlneoglfnaaShelf
import Derived.Deep.RegionHeld3
namespace Go.Proofs.Ytamghlneoglfnaa
open Go.RowKit

/-- -1, 0 or 1: how one string stands to another one -/
def cmpS (s t : ByteArray) : Int := if ltS s t then -1 else if ltS t s then 1 else 0
theorem cmpD_eq (a b : AtomD) : cmpD a b = cmpS (textD a) (textD b) := rfl
theorem bless_nil (b : UInt8) (y : List UInt8) : Op.bytesLess [] (b :: y) = true := by simp [Op.bytesLess]
theorem bless_nil' (x : List UInt8) : Op.bytesLess x [] = false := by cases x <;> simp [Op.bytesLess]
theorem cmpB_eq : ∀ x y : List UInt8, Lib.compareBytes x y = if Op.bytesLess x y then -1 else if Op.bytesLess y x then 1 else 0
  | [], [] => by simp [Lib.compareBytes, Op.bytesLess]
  | [], _ :: _ => by simp [Lib.compareBytes, bless_nil]
  | _ :: _, [] => by simp [Lib.compareBytes, bless_nil, bless_nil']
  | a :: x, b :: y => by
    rw [Lib.compareBytes, cmpB_eq x y]
    have irr : ∀ c : UInt8, ¬ c < c := fun c h => by simp only [UInt8.lt_iff_toNat_lt] at h; omega
    by_cases h1 : a < b
    · simp [Op.bytesLess, h1]
    · by_cases h2 : b < a
      · have hne : ¬ a = b := fun e => by subst e; exact irr _ h2
        simp [Op.bytesLess, h1, h2, hne]
      · have e : a = b := by
          apply UInt8.toNat.inj
          simp only [UInt8.lt_iff_toNat_lt] at h1 h2
          omega
        subst e
        simp [Op.bytesLess, irr]
theorem cmpS_bytes (s t : ByteArray) : Lib.compareBytes s.toList t.toList = cmpS s t := cmpB_eq _ _
theorem cmpS_lt {s t : ByteArray} : cmpS s t < 0 ↔ ltS s t = true := by
  unfold cmpS
  cases h : ltS s t with
  | true => simp
  | false => cases k : ltS t s <;> simp
theorem cmpS_eq {s t : ByteArray} : cmpS s t = 0 ↔ s = t := by
  unfold cmpS
  cases h : ltS s t with
  | true => simp; exact ltS_ne h
  | false =>
    cases k : ltS t s with
    | true => simp; exact fun e => ltS_ne k e.symm
    | false => simp; exact ltS_tri h k
theorem cmpS_cases (s t : ByteArray) : cmpS s t = -1 ∨ cmpS s t = 0 ∨ cmpS s t = 1 := by
  unfold cmpS
  split
  · exact .inl rfl
  · split
    · exact .inr (.inr rfl)
    · exact .inr (.inl rfl)

theorem sCmp_any (s t : ByteArray) (w : World) : Calls Try.prog 50 #[.string s, .string t] w fun e w' => e = .returned (.int .i64 (cmpS s t)) ∧ w' = w := by
  rw [← cmpS_bytes, ByteArray.toList_eq, ByteArray.toList_eq]
  exact Try.strings_Compare s t w
theorem cInt_any (x y : Int) (w : World) : Calls Try.prog 51 #[.int .i64 x, .int .i64 y] w fun e w' => e = .returned (.int .i64 (Lib.compareInt x y)) ∧ w' = w := Try.cmp_Compare_int x y w
def SmA (l : List AtomD) : Prop := ∀ x ∈ l, AtomSm x

set_option maxHeartbeats 1000000 in
theorem against_any (a : AtomD) (t : ByteArray) (w : World) (ha : AtomSm a) :
    Calls Try.prog 42 #[.agg #[.string a.says, .string a.pred, .int .i64 a.n, .bool a.t0.v, .string a.t0.name, .bool a.t1.v, .string a.t1.name, .bool a.t2.v, .string a.t2.name, .bool a.t3.v, .string a.t3.name], .string t] w fun e w' => e = .returned (.int .i64 (cmpS (textD a) t)) ∧ Bel w w' := by
  have hP := AtomAt.new w a
  have hb := bel_alloc w (.cells #[.string a.says, .string a.pred, .int .i64 a.n, .bool a.t0.v, .string a.t0.name, .bool a.t1.v, .string a.t1.name, .bool a.t2.v, .string a.t2.name, .bool a.t3.v, .string a.t3.name] 27)
  obtain ⟨c0, c1, c2, c3, c4, c5, c6, c7, c8, c9, c10⟩ := hP.cells
  go_enter Try.func42, Try.ntmps42
  go_wp2_with (fail)
  refine (text_any a _ ha).mono ?_
  rintro e w1 ⟨rfl, hg⟩
  replace hb := hb.trans' hg
  clear hg
  go_wp2_with (fail)
  refine (sCmp_any _ t _).mono ?_
  rintro e w2 ⟨rfl, rfl⟩
  go_wp2
  go_ret
  exact ⟨rfl, hb⟩
set_option maxHeartbeats 1000000 in
theorem Compare_any (a b : AtomD) (w : World) (ha : AtomSm a) (hbs : AtomSm b) :
    Calls Try.prog 20 #[.agg #[.string a.says, .string a.pred, .int .i64 a.n, .bool a.t0.v, .string a.t0.name, .bool a.t1.v, .string a.t1.name, .bool a.t2.v, .string a.t2.name, .bool a.t3.v, .string a.t3.name], .agg #[.string b.says, .string b.pred, .int .i64 b.n, .bool b.t0.v, .string b.t0.name, .bool b.t1.v, .string b.t1.name, .bool b.t2.v, .string b.t2.name, .bool b.t3.v, .string b.t3.name]] w fun e w' => e = .returned (.int .i64 (cmpD a b)) ∧ Bel w w' := by
  rw [cmpD_eq]
  have hP := AtomAt.new w a
  have hP := hP.bel (bel_alloc (w.alloc (.cells #[.string a.says, .string a.pred, .int .i64 a.n, .bool a.t0.v, .string a.t0.name, .bool a.t1.v, .string a.t1.name, .bool a.t2.v, .string a.t2.name, .bool a.t3.v, .string a.t3.name] 27)) (.cells #[.string b.says, .string b.pred, .int .i64 b.n, .bool b.t0.v, .string b.t0.name, .bool b.t1.v, .string b.t1.name, .bool b.t2.v, .string b.t2.name, .bool b.t3.v, .string b.t3.name] 27))
  have hQ := AtomAt.new (w.alloc (.cells #[.string a.says, .string a.pred, .int .i64 a.n, .bool a.t0.v, .string a.t0.name, .bool a.t1.v, .string a.t1.name, .bool a.t2.v, .string a.t2.name, .bool a.t3.v, .string a.t3.name] 27)) b
  rw [show (w.alloc (.cells #[.string a.says, .string a.pred, .int .i64 a.n, .bool a.t0.v, .string a.t0.name, .bool a.t1.v, .string a.t1.name, .bool a.t2.v, .string a.t2.name, .bool a.t3.v, .string a.t3.name] 27)).heap.size = w.heap.size + 1 by simp] at hQ
  have hb := (bel_alloc w (.cells #[.string a.says, .string a.pred, .int .i64 a.n, .bool a.t0.v, .string a.t0.name, .bool a.t1.v, .string a.t1.name, .bool a.t2.v, .string a.t2.name, .bool a.t3.v, .string a.t3.name] 27)).trans' (bel_alloc (w.alloc (.cells #[.string a.says, .string a.pred, .int .i64 a.n, .bool a.t0.v, .string a.t0.name, .bool a.t1.v, .string a.t1.name, .bool a.t2.v, .string a.t2.name, .bool a.t3.v, .string a.t3.name] 27)) (.cells #[.string b.says, .string b.pred, .int .i64 b.n, .bool b.t0.v, .string b.t0.name, .bool b.t1.v, .string b.t1.name, .bool b.t2.v, .string b.t2.name, .bool b.t3.v, .string b.t3.name] 27))
  obtain ⟨c0, c1, c2, c3, c4, c5, c6, c7, c8, c9, c10⟩ := hP.cells
  obtain ⟨d0, d1, d2, d3, d4, d5, d6, d7, d8, d9, d10⟩ := hQ.cells
  go_enter Try.func20, Try.ntmps20
  replace hP := hP.drew
  replace hQ := hQ.drew
  have hd : Bel w _ := bel_drew' hb
  go_wp2
  go_region_held3 (fun w' => (w'.cell? ⟨w.heap.size, 0, none⟩ = some (.string a.says) ∧ w'.cell? ⟨w.heap.size, 1, none⟩ = some (.string a.pred) ∧ w'.cell? ⟨w.heap.size, 2, none⟩ = some (.int .i64 a.n) ∧ w'.cell? ⟨w.heap.size, 3, none⟩ = some (.bool a.t0.v) ∧ w'.cell? ⟨w.heap.size, 4, none⟩ = some (.string a.t0.name) ∧ w'.cell? ⟨w.heap.size, 5, none⟩ = some (.bool a.t1.v) ∧ w'.cell? ⟨w.heap.size, 6, none⟩ = some (.string a.t1.name) ∧ w'.cell? ⟨w.heap.size, 7, none⟩ = some (.bool a.t2.v) ∧ w'.cell? ⟨w.heap.size, 8, none⟩ = some (.string a.t2.name) ∧ w'.cell? ⟨w.heap.size, 9, none⟩ = some (.bool a.t3.v) ∧ w'.cell? ⟨w.heap.size, 10, none⟩ = some (.string a.t3.name)) ∧ (w'.cell? ⟨w.heap.size + 1, 0, none⟩ = some (.string b.says) ∧ w'.cell? ⟨w.heap.size + 1, 1, none⟩ = some (.string b.pred) ∧ w'.cell? ⟨w.heap.size + 1, 2, none⟩ = some (.int .i64 b.n) ∧ w'.cell? ⟨w.heap.size + 1, 3, none⟩ = some (.bool b.t0.v) ∧ w'.cell? ⟨w.heap.size + 1, 4, none⟩ = some (.string b.t0.name) ∧ w'.cell? ⟨w.heap.size + 1, 5, none⟩ = some (.bool b.t1.v) ∧ w'.cell? ⟨w.heap.size + 1, 6, none⟩ = some (.string b.t1.name) ∧ w'.cell? ⟨w.heap.size + 1, 7, none⟩ = some (.bool b.t2.v) ∧ w'.cell? ⟨w.heap.size + 1, 8, none⟩ = some (.string b.t2.name) ∧ w'.cell? ⟨w.heap.size + 1, 9, none⟩ = some (.bool b.t3.v) ∧ w'.cell? ⟨w.heap.size + 1, 10, none⟩ = some (.string b.t3.name))) (first | exact ⟨hP.cells, hQ.cells⟩ | go_keep | trivial)
    (first | (go_at_call 41; refine (text_any b _ hbs).mono ?_; rintro e w9 ⟨rfl, hg⟩; replace hP := hP.bel hg; replace hQ := hQ.bel hg; replace hd := hd.trans' hg; clear hg) | (go_at_call 42; refine (against_any a _ _ ha).mono ?_; rintro e w9 ⟨rfl, hg⟩; replace hP := hP.bel hg; replace hQ := hQ.bel hg; replace hd := hd.trans' hg; clear hg))
  all_goals go_wp2
  all_goals go_ret
  all_goals exact ⟨rfl, hd⟩
end Go.Proofs.Ytamghlneoglfnaa
