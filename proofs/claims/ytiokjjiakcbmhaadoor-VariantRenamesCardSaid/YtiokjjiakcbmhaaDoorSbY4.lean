/-
  Bounds of texts. Conditions: as it says.
-/
import Derived.Test.YtiokjjiakcbmhaaDoorSgF
namespace Go.Proofs.YtiokjjiakcbmhaaDoor
open Go.RowKit

def goTx (bytes : Int) : Int → List ByteArray → Bool
  | _, [] => true
  | z, x :: l => if bytes < wrap64 (z + (x.size : Int)) then false else goTx bytes (wrap64 (z + (x.size : Int))) l
def lightTx (l : List ByteArray) (most bytes : Int) : Bool := if most < (l.length : Int) then false else goTx bytes 0 l
theorem lightTx_len {l : List ByteArray} {most bytes : Int} (h : lightTx l most bytes = true) : (l.length : Int) ≤ most := by
  unfold lightTx at h
  split at h
  · cases h
  · omega
set_option maxHeartbeats 4000000 in
theorem lightTx_any (A : Option Addr) (l : List ByteArray) (ca : Nat) (most bytes : Int) (w : World) (hL : SI w A l) (hl : l.length ≤ 9223372036854775807) (hk : ∀ x ∈ l, x.size ≤ 9223372036854775807) :
    Calls Tryd.prog 18 #[.slice A l.length ca, .int .i64 most, .int .i64 bytes] w fun e w' => e = .returned (.bool (lightTx l most bytes)) ∧ Bel w w' := by
  have HL := Lib.hid hL
  have HK := Lib.hid hk
  clear hL hk
  by_cases hm : most < (l.length : Int)
  · have HE : RowKit.Hid (lightTx l most bytes = false) := Lib.hid (by unfold lightTx; rw [if_pos hm])
    go_enter Tryd.func18, Tryd.ntmps18
    go_wp2
    go_ret
    exact ⟨(congrArg (fun r => Ending.returned (Value.bool r)) HE.out).symm, Below.refl _ _⟩
  have HE : RowKit.Hid (lightTx l most bytes = goTx bytes 0 l) := Lib.hid (by unfold lightTx; rw [if_neg hm])
  go_enter Tryd.func18, Tryd.ntmps18
  go_wp2
  go_loopw [7, 8] (fun a7 i wr => ∃ (k : Nat) (z : Int), k ≤ l.length ∧ i = .int .i64 k ∧ a7 = .int .i64 z ∧ RowKit.Hid (Bel w wr ∧ goTx bytes z (l.drop k) = goTx bytes 0 l)) (fun _ i _ => l.length - (intOf i).toNat)
  case atStart => exact ⟨0, 0, Nat.zero_le _, rfl, rfl, Lib.hid ⟨Below.refl _ _, rfl⟩⟩
  case round =>
    obtain ⟨k, z, hk, rfl, rfl, H⟩ := hrel
    by_cases hlt : k < l.length
    · obtain ⟨b, o, rfl, _, hc⟩ := si_get (HL.out.bel H.out.1) (by omega)
      have c1 := hc k hlt
      have hxs := HK.out l[k] (List.getElem_mem hlt)
      have HG : RowKit.Hid (goTx bytes 0 l = goTx bytes z (l[k] :: l.drop (k + 1))) := Lib.hid (by rw [← List.drop_eq_getElem_cons hlt]; exact H.out.2.symm)
      have hq : (0 : Int) ≤ k := by omega
      have hq2 : (k : Int) < l.length := by omega
      clear hc
      generalize l[k] = x at c1 hxs HG
      by_cases hz : bytes < wrap64 (z + (x.size : Int))
      · have HF : RowKit.Hid (lightTx l most bytes = false) := Lib.hid (by rw [HE.out, HG.out]; unfold goTx; rw [if_pos hz])
        go_wp2
        go_ret
        exact ⟨(congrArg (fun r => Ending.returned (Value.bool r)) HF.out).symm, H.out.1⟩
      · have HF : RowKit.Hid (goTx bytes (wrap64 (z + (x.size : Int))) (l.drop (k + 1)) = goTx bytes 0 l) := Lib.hid (by rw [HG.out]; conv => rhs; unfold goTx; rw [if_neg hz])
        go_wp2
        go_roundw
        case rel => exact ⟨k + 1, _, by omega, by go_num, rfl, Lib.hid ⟨H.out.1, HF.out⟩⟩
        case measure => simp [intOf]; omega
    · obtain rfl : k = l.length := by omega
      have HF : RowKit.Hid (lightTx l most bytes = true) := Lib.hid (by rw [HE.out, ← H.out.2, List.drop_length]; rfl)
      go_wp2
      go_ret
      exact ⟨(congrArg (fun r => Ending.returned (Value.bool r)) HF.out).symm, H.out.1⟩
end Go.Proofs.YtiokjjiakcbmhaaDoor
