/-
  VerifyWays answers true at whatever arguments.
-/
import Derived.Test.YtialppfpbgaanaaGreatDoorRNVA1
import Derived.Test.YtialppfpbgaanaaGreatDoorRNVA2
import Derived.Test.YtialppfpbgaanaaGreatDoorRNVA3
import Derived.Test.YtialppfpbgaanaaGreatDoorRNVA4
namespace Go.Proofs.YtialppfpbgaanaaGreatDoor
namespace Rn
open Go.RowKit

theorem ways_walk (w : World) (x0 : Int) (l0 : -9223372036854775808 ≤ x0) (u0 : x0 < 9223372036854775808) (b1 : Bool) : Calls Tryz.prog 5 #[.int .i64 x0, .bool b1] w fun e w' => e = .returned (.bool true) ∧ Below w.heap.size w w' := by
  obtain ⟨c0, hc0, hl0⟩ := left_lt (x := x0) (n := 6) (by omega)
  have fin : ∀ (b1 : Bool) (c0 : Nat) (hc0 : c0 < MK) (hl0 : left x0 (6 : Nat) = (c0 : Int)) (T : Prop) (hk : evCall Tryz.prog tb ⟨some 10, some 9, some 351, 408, [(106, false), (107, false)], []⟩ pl 100000 5 [.chan (some (6 * MK + c0)), .bool b1] ⟨none, 1000, 0⟩ yes = T) (hT : T),
      Calls Tryz.prog 5 #[.int .i64 x0, .bool b1] w fun e w' => e = .returned (.bool true) ∧ Below w.heap.size w w' := fun b1 c0 hc0 hl0 T hk hT =>
    ran (args := [.chan (some (6 * MK + c0)), .bool b1]) (args' := [.int .i64 x0, .bool b1]) tok pok ov_ok w (show All2 (VR fun _ => none) _ _ from ⟨mark_vr l0 u0 hc0 hl0, bool_vr, rfl⟩) hk hT
  match c0, hc0, hl0 with
  | 0, _, hl0 =>
    cases b1 with
    | false =>
      exact fin false 0 (by decide) hl0 _ ways_0_f (by simp only [and_self])
    | true =>
      exact fin true 0 (by decide) hl0 _ ways_0_t (by simp only [and_self])
  | 1, _, hl0 =>
    cases b1 with
    | false =>
      exact fin false 1 (by decide) hl0 _ ways_1_f (by simp only [and_self])
    | true =>
      exact fin true 1 (by decide) hl0 _ ways_1_t (by simp only [and_self])
  | 2, _, hl0 =>
    cases b1 with
    | false =>
      exact fin false 2 (by decide) hl0 _ ways_2_f (by simp only [and_self])
    | true =>
      exact fin true 2 (by decide) hl0 _ ways_2_t (by simp only [and_self])
  | 3, _, hl0 =>
    cases b1 with
    | false =>
      exact fin false 3 (by decide) hl0 _ ways_3_f (by simp only [and_self])
    | true =>
      exact fin true 3 (by decide) hl0 _ ways_3_t (by simp only [and_self])
  | 4, _, hl0 =>
    cases b1 with
    | false =>
      exact fin false 4 (by decide) hl0 _ ways_4_f (by simp only [and_self])
    | true =>
      exact fin true 4 (by decide) hl0 _ ways_4_t (by simp only [and_self])
  | 5, _, hl0 =>
    cases b1 with
    | false =>
      exact fin false 5 (by decide) hl0 _ ways_5_f (by simp only [and_self])
    | true =>
      exact fin true 5 (by decide) hl0 _ ways_5_t (by simp only [and_self])
  | c + 6, hc, _ => exact absurd hc (by omega)

end Rn
end Go.Proofs.YtialppfpbgaanaaGreatDoor
