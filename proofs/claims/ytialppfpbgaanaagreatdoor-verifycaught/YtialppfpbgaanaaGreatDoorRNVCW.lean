/-
  VerifyCaught answers true at whatever arguments.
-/
import Derived.Test.YtialppfpbgaanaaGreatDoorRNVC1
import Derived.Test.YtialppfpbgaanaaGreatDoorRNVC2
import Derived.Test.YtialppfpbgaanaaGreatDoorRNVC3
import Derived.Test.YtialppfpbgaanaaGreatDoorRNVC4
namespace Go.Proofs.YtialppfpbgaanaaGreatDoor
namespace Rn
open Go.RowKit

theorem caught_walk (w : World) (x0 : Int) (l0 : -9223372036854775808 ≤ x0) (u0 : x0 < 9223372036854775808) (x1 : Int) (l1 : -9223372036854775808 ≤ x1) (u1 : x1 < 9223372036854775808) (x2 : Int) (l2 : -9223372036854775808 ≤ x2) (u2 : x2 < 9223372036854775808) : Calls Tryz.prog 7 #[.int .i64 x0, .int .i64 x1, .int .i64 x2] w fun e w' => e = .returned (.bool true) ∧ Below w.heap.size w w' := by
  obtain ⟨c0, hc0, hl0⟩ := left_lt (x := x0) (n := 2) (by omega)
  obtain ⟨c1, hc1, hl1⟩ := left_lt (x := x1) (n := 2) (by omega)
  obtain ⟨c2, hc2, hl2⟩ := left_lt (x := x2) (n := 3) (by omega)
  have fin : ∀ (c0 : Nat) (hc0 : c0 < MK) (hl0 : left x0 (2 : Nat) = (c0 : Int)) (c1 : Nat) (hc1 : c1 < MK) (hl1 : left x1 (2 : Nat) = (c1 : Int)) (c2 : Nat) (hc2 : c2 < MK) (hl2 : left x2 (3 : Nat) = (c2 : Int)) (T : Prop) (hk : evCall Tryz.prog tb ⟨some 10, some 9, some 351, 408, [(106, false), (107, false)], [(195, insK tb 3)]⟩ pl 100000 7 [.chan (some (2 * MK + c0)), .chan (some (2 * MK + c1)), .chan (some (3 * MK + c2))] ⟨none, 1000, 0⟩ yes = T) (hT : T),
      Calls Tryz.prog 7 #[.int .i64 x0, .int .i64 x1, .int .i64 x2] w fun e w' => e = .returned (.bool true) ∧ Below w.heap.size w w' := fun c0 hc0 hl0 c1 hc1 hl1 c2 hc2 hl2 T hk hT =>
    ran (args := [.chan (some (2 * MK + c0)), .chan (some (2 * MK + c1)), .chan (some (3 * MK + c2))]) (args' := [.int .i64 x0, .int .i64 x1, .int .i64 x2]) tok pok ov_ins w (show All2 (VR fun _ => none) _ _ from ⟨mark_vr l0 u0 hc0 hl0, mark_vr l1 u1 hc1 hl1, mark_vr l2 u2 hc2 hl2, rfl⟩) hk hT
  match c0, hc0, hl0 with
  | 0, _, hl0 =>
    match c1, hc1, hl1 with
    | 0, _, hl1 =>
      match c2, hc2, hl2 with
      | 0, _, hl2 =>
        exact fin 0 (by decide) hl0 0 (by decide) hl1 0 (by decide) hl2 _ caught_0_0_0 (by simp only [and_self])
      | 1, _, hl2 =>
        exact fin 0 (by decide) hl0 0 (by decide) hl1 1 (by decide) hl2 _ caught_0_0_1 (by simp only [and_self])
      | 2, _, hl2 =>
        exact fin 0 (by decide) hl0 0 (by decide) hl1 2 (by decide) hl2 _ caught_0_0_2 (by simp only [and_self])
      | c + 3, hc, _ => exact absurd hc (by omega)
    | 1, _, hl1 =>
      match c2, hc2, hl2 with
      | 0, _, hl2 =>
        exact fin 0 (by decide) hl0 1 (by decide) hl1 0 (by decide) hl2 _ caught_0_1_0 (by simp only [and_self])
      | 1, _, hl2 =>
        exact fin 0 (by decide) hl0 1 (by decide) hl1 1 (by decide) hl2 _ caught_0_1_1 (by simp only [and_self])
      | 2, _, hl2 =>
        exact fin 0 (by decide) hl0 1 (by decide) hl1 2 (by decide) hl2 _ caught_0_1_2 (by simp only [and_self])
      | c + 3, hc, _ => exact absurd hc (by omega)
    | c + 2, hc, _ => exact absurd hc (by omega)
  | 1, _, hl0 =>
    match c1, hc1, hl1 with
    | 0, _, hl1 =>
      match c2, hc2, hl2 with
      | 0, _, hl2 =>
        exact fin 1 (by decide) hl0 0 (by decide) hl1 0 (by decide) hl2 _ caught_1_0_0 (by simp only [and_self])
      | 1, _, hl2 =>
        exact fin 1 (by decide) hl0 0 (by decide) hl1 1 (by decide) hl2 _ caught_1_0_1 (by simp only [and_self])
      | 2, _, hl2 =>
        exact fin 1 (by decide) hl0 0 (by decide) hl1 2 (by decide) hl2 _ caught_1_0_2 (by simp only [and_self])
      | c + 3, hc, _ => exact absurd hc (by omega)
    | 1, _, hl1 =>
      match c2, hc2, hl2 with
      | 0, _, hl2 =>
        exact fin 1 (by decide) hl0 1 (by decide) hl1 0 (by decide) hl2 _ caught_1_1_0 (by simp only [and_self])
      | 1, _, hl2 =>
        exact fin 1 (by decide) hl0 1 (by decide) hl1 1 (by decide) hl2 _ caught_1_1_1 (by simp only [and_self])
      | 2, _, hl2 =>
        exact fin 1 (by decide) hl0 1 (by decide) hl1 2 (by decide) hl2 _ caught_1_1_2 (by simp only [and_self])
      | c + 3, hc, _ => exact absurd hc (by omega)
    | c + 2, hc, _ => exact absurd hc (by omega)
  | c + 2, hc, _ => exact absurd hc (by omega)

end Rn
end Go.Proofs.YtialppfpbgaanaaGreatDoor
