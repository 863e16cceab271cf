/-
  VerifyMakes answers true at whatever arguments.
-/
import Derived.Test.YtialppfpbgaanaaGreatDoorROVM1
import Derived.Test.YtialppfpbgaanaaGreatDoorROVM2
import Derived.Test.YtialppfpbgaanaaGreatDoorROVM3
import Derived.Test.YtialppfpbgaanaaGreatDoorROVM4
namespace Go.Proofs.YtialppfpbgaanaaGreatDoor
namespace Rn
open Go.RowKit

theorem makes_walk (w : World) (x0 : Int) (l0 : -9223372036854775808 ≤ x0) (u0 : x0 < 9223372036854775808) : Calls Tryz.prog 3 #[.int .i64 x0] w fun e w' => e = .returned (.bool true) ∧ Below w.heap.size w w' := by
  obtain ⟨c0, hc0, hl0⟩ := left_lt (x := x0) (n := 12) (by omega)
  have fin : ∀ (c0 : Nat) (hc0 : c0 < MK) (hl0 : left x0 (12 : Nat) = (c0 : Int)) (T : Prop) (hk : evCall Tryz.prog tb ⟨some 10, some 9, some 351, 408, [(106, false), (107, false)], [(195, insK tb 3)]⟩ pl 100000 3 [.chan (some (12 * MK + c0))] ⟨none, 1000, 0⟩ yes = T) (hT : T),
      Calls Tryz.prog 3 #[.int .i64 x0] w fun e w' => e = .returned (.bool true) ∧ Below w.heap.size w w' := fun c0 hc0 hl0 T hk hT =>
    ran (args := [.chan (some (12 * MK + c0))]) (args' := [.int .i64 x0]) tok pok ov_ins w (show All2 (VR fun _ => none) _ _ from ⟨mark_vr l0 u0 hc0 hl0, rfl⟩) hk hT
  match c0, hc0, hl0 with
  | 0, _, hl0 =>
    exact fin 0 (by decide) hl0 _ makes_0 (by simp only [and_self])
  | 1, _, hl0 =>
    exact fin 1 (by decide) hl0 _ makes_1 (by simp only [and_self])
  | 2, _, hl0 =>
    exact fin 2 (by decide) hl0 _ makes_2 (by simp only [and_self])
  | 3, _, hl0 =>
    exact fin 3 (by decide) hl0 _ makes_3 (by simp only [and_self])
  | 4, _, hl0 =>
    exact fin 4 (by decide) hl0 _ makes_4 (by simp only [and_self])
  | 5, _, hl0 =>
    exact fin 5 (by decide) hl0 _ makes_5 (by simp only [and_self])
  | 6, _, hl0 =>
    exact fin 6 (by decide) hl0 _ makes_6 (by simp only [and_self])
  | 7, _, hl0 =>
    exact fin 7 (by decide) hl0 _ makes_7 (by simp only [and_self])
  | 8, _, hl0 =>
    exact fin 8 (by decide) hl0 _ makes_8 (by simp only [and_self])
  | 9, _, hl0 =>
    exact fin 9 (by decide) hl0 _ makes_9 (by simp only [and_self])
  | 10, _, hl0 =>
    exact fin 10 (by decide) hl0 _ makes_10 (by simp only [and_self])
  | 11, _, hl0 =>
    exact fin 11 (by decide) hl0 _ makes_11 (by simp only [and_self])
  | c + 12, hc, _ => exact absurd hc (by omega)

end Rn
end Go.Proofs.YtialppfpbgaanaaGreatDoor
