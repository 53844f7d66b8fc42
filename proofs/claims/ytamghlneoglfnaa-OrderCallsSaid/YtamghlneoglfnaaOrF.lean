/-
  Entries sorted, and those of one text but the first dropped. Conditions: as each says.
-/
import Derived.Test.YtamghlneoglfnaaOrE
namespace Go.Proofs.Ytamghlneoglfnaa
open Go.RowKit

theorem cmpLaysE (g n : Nat) (w : World) : CmpLays Try.prog 34 #[] encE 2 cfE g 0 n w := fun _ _ _ _ x y => compare_any x y _
set_option maxHeartbeats 1000000 in
theorem sortE_any (g : Nat) (d : List EntD) (n : Nat) (hn : d.length = n) (w : World) (hB : BlkL encE 54 w g d) (hl : d.length ≤ 100000) :
    Calls Try.prog 33 #[.slice (some ⟨g, 0, none⟩) n n, .func (.func 34) #[] #[]] w fun e w' => e = .returned (.tuple #[]) ∧ ∃ d' : List EntD, RowKit.Hid (d'.Perm d ∧ d'.Pairwise (fun x y => ltE y x = false)) ∧ RowKit.Hid (BlkL encE 54 w' g d') ∧ Fr [g] w w' := by
  subst hn
  have eg : ∀ args w, (callFunc 34 args).run Try.prog w = .ok (.enter 34 args) w := enters_of Try.func34 (by kernel_rfl) rfl
  have h := AnyQ.slices_SortFunc Try.sortEnt 2 Try.isAgg54 Try.sizeOf54 encE (fun _ => rfl) EE.one cfE swoE 34 #[] g 0 d.length d.toArray w eg (cmpLaysE g d.length w) (hB.holds EE) hB.lt (by simp; omega)
  refine Calls.mono h fun e w' hp => ?_
  obtain ⟨he, d', m, os, hp, hs, rfl⟩ := hp
  obtain ⟨p1, _, p3⟩ := hp
  have hsz : d'.size = d.length := by simpa using p1
  obtain ⟨k1, k2⟩ := hB.sorted EE m d' hsz os
  refine ⟨he, d'.toList, Lib.hid ⟨?_, ?_⟩, Lib.hid k1, k2⟩
  · have e1 : (d'.extract 0 d.toArray.size) = d' := by rw [← p1, Array.extract_size]
    have e2 : (d.toArray.extract 0 d.toArray.size) = d.toArray := Array.extract_size
    rw [e1, e2] at p3
    exact p3
  · rw [List.pairwise_iff_getElem]
    intro i j hi hj hij
    have hi2 : i < d'.size := by simpa using hi
    have hj2 : j < d'.size := by simpa using hj
    have := hs i j (Nat.zero_le _) hij (by rw [← p1]; exact hj2)
    rw [cf_ltE, getElem!_pos d' i hi2, getElem!_pos d' j hj2] at this
    simpa using this
end Go.Proofs.Ytamghlneoglfnaa
