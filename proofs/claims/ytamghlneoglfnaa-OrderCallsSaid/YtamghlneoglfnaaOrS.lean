/-
  The chapter's example of layer 8. Condition: none.
-/
import Derived.Test.YtamghlneoglfnaaOrP
import Derived.Test.YtamghlneoglfnaaVaF0
namespace Go.Proofs.Ytamghlneoglfnaa
open Go.RowKit

def vb : ByteArray := ⟨#[98]⟩
theorem cmp8_1 : cmpD (atV pr7 [vb]) (atV pr7 [va, vb]) = 1 := by decide +kernel
theorem cmp8_2 : cmpD (atV pr7 [va]) (atV pr7 [va]) = 0 := by decide +kernel
theorem sm8 (cs : List ByteArray) (hl : cs.length ≤ 4) (hs : cs.all (fun x => decide (x.size ≤ 1000)) = true) : AtomSm (atV pr7 cs) := smV cs pr7 (by decide) hl hs
set_option maxRecDepth 20000 in
set_option maxHeartbeats 4000000 in
theorem lives8_any (w : World) : Calls Try.prog 8 #[] w fun e w' => e = .returned (.bool true) ∧ Bel w w' := by
  have hb : Bel w w := Below.refl _ _
  go_enter Try.func8, Try.ntmps8
  go_wp2_with (fail)
  refine (kV7 pr7 [vb] 1 #[.string ⟨#[98]⟩] rfl rfl (by decide) (by decide +kernel) _).mono ?_
  rintro e w1 ⟨⟨a1, HA1, rfl⟩, hg⟩
  replace hb := hb.trans' hg
  clear hg
  go_wp2_with (fail)
  refine (kV7 pr7 [va, vb] 2 #[.string ⟨#[97]⟩, .string ⟨#[98]⟩] rfl rfl (by decide) (by decide +kernel) _).mono ?_
  rintro e w2 ⟨⟨a2, HA2, rfl⟩, hg⟩
  replace hb := hb.trans' hg
  clear hg
  go_wp2_with (fail)
  refine (Compare_any a1 a2 _ (by rw [HA1.out]; exact sm8 _ (by decide) (by decide +kernel)) (by rw [HA2.out]; exact sm8 _ (by decide) (by decide +kernel))).mono ?_
  rw [show cmpD a1 a2 = 1 by rw [HA1.out, HA2.out]; exact cmp8_1]
  rintro e w3 ⟨rfl, hg⟩
  replace hb := hb.trans' hg
  clear hg
  go_wp2_with (fail)
  refine (kV7 pr7 [va] 1 #[.string ⟨#[97]⟩] rfl rfl (by decide) (by decide +kernel) _).mono ?_
  rintro e w4 ⟨⟨a3, HA3, rfl⟩, hg⟩
  replace hb := hb.trans' hg
  clear hg
  go_wp2_with (fail)
  refine (kV7 pr7 [va] 1 #[.string ⟨#[97]⟩] rfl rfl (by decide) (by decide +kernel) _).mono ?_
  rintro e w5 ⟨⟨a4, HA4, rfl⟩, hg⟩
  replace hb := hb.trans' hg
  clear hg
  go_wp2_with (fail)
  refine (Compare_any a3 a4 _ (by rw [HA3.out]; exact sm8 _ (by decide) (by decide +kernel)) (by rw [HA4.out]; exact sm8 _ (by decide) (by decide +kernel))).mono ?_
  rw [show cmpD a3 a4 = 0 by rw [HA3.out, HA4.out]; exact cmp8_2]
  rintro e w6 ⟨rfl, hg⟩
  replace hb := hb.trans' hg
  clear hg
  go_wp2
  go_ret
  exact ⟨rfl, hb⟩
end Go.Proofs.Ytamghlneoglfnaa
