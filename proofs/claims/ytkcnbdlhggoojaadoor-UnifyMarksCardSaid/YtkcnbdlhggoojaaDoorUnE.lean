/-
  The function that binds one more variable in its caller's list. Conditions: as each says.
-/
import Derived.Test.YtkcnbdlhggoojaaDoorUnD
namespace Go.Proofs.YtkcnbdlhggoojaaDoor
open Go.RowKit

theorem Bind_len (A : Option Addr) (l : List BindD) (n ca : Nat) (hn : l.length = n) (v : ByteArray) (t : TermD) (w : World) (hL : BL w A ca l) (hl : l.length ≤ 100000) :
    Calls Tryd.prog 24 #[.slice A n ca, .string v, .agg #[.bool t.v, .string t.name]] w fun e w' => (∃ q c out n, RowKit.Hid ((out, n) = bindD l v t) ∧ RowKit.Hid (OB w w' q c out) ∧ e = .returned (.tuple #[.slice q out.length c, .int .i64 n])) ∧ Bel w w' := by
  subst hn
  exact Bind_any A l ca v t w hL hl
set_option maxRecDepth 20000 in
set_option maxHeartbeats 4000000 in
theorem bindU_any (bl : Nat) (q : Option Addr) (m : List BindD) (n c : Nat) (hn : m.length = n) (v t : TermD) (w : World) (hbox : LAt w bl q n c) (hL : BL w q c m) (hl : m.length ≤ 90000) :
    Calls Tryd.prog 23 #[.agg #[.bool v.v, .string v.name], .agg #[.bool t.v, .string t.name], .pointer (some ⟨bl, 0, none⟩)] w fun e w' =>
      (RowKit.Hid (v.v = false) ∧ e = .returned (.bool false) ∧ RowKit.Hid (Bel w w')) ∨
      (RowKit.Hid (v.v = true) ∧ ∃ q' c' out k, RowKit.Hid ((out, k) = bindD m v.name t) ∧ e = .returned (.bool (k == 0)) ∧ RowKit.Hid (LAt w' bl q' out.length c' ∧ BL w' q' c' out ∧ Below bl w w')) := by
  have hlt := hbox.lt
  obtain ⟨vv, vn⟩ := v
  obtain ⟨tv, tn⟩ := t
  have hV : TermAt ((w.alloc (.cells #[.bool vv, .string vn] 27)).alloc (.cells #[.bool tv, .string tn] 27)) w.heap.size ⟨vv, vn⟩ := (TermAt.new w ⟨vv, vn⟩).bel (bel_alloc _ _)
  have hT : TermAt ((w.alloc (.cells #[.bool vv, .string vn] 27)).alloc (.cells #[.bool tv, .string tn] 27)) (w.heap.size + 1) ⟨tv, tn⟩ := by
    have := TermAt.new (w.alloc (.cells #[.bool vv, .string vn] 27)) ⟨tv, tn⟩
    rwa [show (w.alloc (.cells #[.bool vv, .string vn] 27)).heap.size = w.heap.size + 1 by simp] at this
  have hb : Bel w ((w.alloc (.cells #[.bool vv, .string vn] 27)).alloc (.cells #[.bool tv, .string tn] 27)) := (bel_alloc _ _).trans' (bel_alloc _ _)
  cases vv
  · have HB := Lib.hid hb
    clear hV hT hb hbox hL
    go_enter Tryd.func23, Tryd.ntmps23
    go_wp2
    go_ret
    exact .inl ⟨Lib.hid (by trivial), rfl, HB⟩
  · have HLt := Lib.hid (hbox.bel hb)
    have hc := HLt.out.cell
    have HB := Lib.hid hb
    obtain ⟨v1, v2⟩ := hV.cells
    obtain ⟨t1, t2⟩ := hT.cells
    simp only at v1 v2 t1 t2
    have hBd := Lib.hid (fun W (hg : Bel w W) => Bind_len q m n c hn vn ⟨tv, tn⟩ W (hL.bel hg) (by omega))
    have HS := Lib.hid hlt
    clear hV hT hL hbox hb hlt
    go_enter Tryd.func23, Tryd.ntmps23
    go_wp2_with (fail)
    refine (hBd.out _ HB.out).mono ?_
    rintro e w7 ⟨⟨q7, c7, out, n7, HE7, HO7, rfl⟩, hg⟩
    have HL7 := Lib.hid (HLt.out.bel hg)
    have hc7 := HL7.out.cell
    have hf7 := HL7.out.frozen 0
    have HB7 := Lib.hid (HB.out.trans' hg)
    clear hg hc v1 v2 t1 t2
    go_wp2
    go_ret
    obtain ⟨k1, k2, k3⟩ := HL7.out.set (q' := q7) (n' := out.length) (c' := c7)
    exact .inr ⟨Lib.hid (by trivial), q7, c7, out, n7, HE7, rfl, Lib.hid ⟨k1, HO7.out.keep (by have := HS.out; simp; omega) (by simp) k3, Below.trans (HB7.out.mono (Nat.le_of_lt HS.out)) k2⟩⟩
end Go.Proofs.YtkcnbdlhggoojaaDoor
