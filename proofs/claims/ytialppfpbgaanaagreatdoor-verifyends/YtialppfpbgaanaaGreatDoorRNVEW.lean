/-
  VerifyEnds answers true at whatever arguments.
-/
import Derived.Test.YtialppfpbgaanaaGreatDoorRNVE1
import Derived.Test.YtialppfpbgaanaaGreatDoorRNVE2
import Derived.Test.YtialppfpbgaanaaGreatDoorRNVE3
import Derived.Test.YtialppfpbgaanaaGreatDoorRNVE4
import Derived.Test.YtialppfpbgaanaaGreatDoorRNVE5
import Derived.Test.YtialppfpbgaanaaGreatDoorRNVE6
import Derived.Test.YtialppfpbgaanaaGreatDoorRNVE7
import Derived.Test.YtialppfpbgaanaaGreatDoorRNVE8
import Derived.Test.YtialppfpbgaanaaGreatDoorRNVE9
import Derived.Test.YtialppfpbgaanaaGreatDoorRNVE10
namespace Go.Proofs.YtialppfpbgaanaaGreatDoor
namespace Rn
open Go.RowKit

theorem ends_walk (w : World) (x0 : Int) (l0 : -9223372036854775808 ≤ x0) (u0 : x0 < 9223372036854775808) (b1 : Bool) : Calls Tryz.prog 6 #[.int .i64 x0, .bool b1] w fun e w' => e = .returned (.bool true) ∧ Below w.heap.size w w' := by
  obtain ⟨c0, hc0, hl0⟩ := left_lt (x := x0) (n := 50) (by omega)
  have fin : ∀ (b1 : Bool) (c0 : Nat) (hc0 : c0 < MK) (hl0 : left x0 (50 : Nat) = (c0 : Int)) (T : Prop) (hk : evCall Tryz.prog tb ⟨some 10, some 9, some 351, 408, [(106, false), (107, false)], []⟩ pl 100000 6 [.chan (some (50 * MK + c0)), .bool b1] ⟨none, 1000, 0⟩ yes = T) (hT : T),
      Calls Tryz.prog 6 #[.int .i64 x0, .bool b1] w fun e w' => e = .returned (.bool true) ∧ Below w.heap.size w w' := fun b1 c0 hc0 hl0 T hk hT =>
    ran (args := [.chan (some (50 * MK + c0)), .bool b1]) (args' := [.int .i64 x0, .bool b1]) tok pok ov_ok w (show All2 (VR fun _ => none) _ _ from ⟨mark_vr l0 u0 hc0 hl0, bool_vr, rfl⟩) hk hT
  match c0, hc0, hl0 with
  | 0, _, hl0 =>
    cases b1 with
    | false =>
      exact fin false 0 (by decide) hl0 _ ends_0_f (by simp only [and_self])
    | true =>
      exact fin true 0 (by decide) hl0 _ ends_0_t (by simp only [and_self])
  | 1, _, hl0 =>
    cases b1 with
    | false =>
      exact fin false 1 (by decide) hl0 _ ends_1_f (by simp only [and_self])
    | true =>
      exact fin true 1 (by decide) hl0 _ ends_1_t (by simp only [and_self])
  | 2, _, hl0 =>
    cases b1 with
    | false =>
      exact fin false 2 (by decide) hl0 _ ends_2_f (by simp only [and_self])
    | true =>
      exact fin true 2 (by decide) hl0 _ ends_2_t (by simp only [and_self])
  | 3, _, hl0 =>
    cases b1 with
    | false =>
      exact fin false 3 (by decide) hl0 _ ends_3_f (by simp only [and_self])
    | true =>
      exact fin true 3 (by decide) hl0 _ ends_3_t (by simp only [and_self])
  | 4, _, hl0 =>
    cases b1 with
    | false =>
      exact fin false 4 (by decide) hl0 _ ends_4_f (by simp only [and_self])
    | true =>
      exact fin true 4 (by decide) hl0 _ ends_4_t (by simp only [and_self])
  | 5, _, hl0 =>
    cases b1 with
    | false =>
      exact fin false 5 (by decide) hl0 _ ends_5_f (by simp only [and_self])
    | true =>
      exact fin true 5 (by decide) hl0 _ ends_5_t (by simp only [and_self])
  | 6, _, hl0 =>
    cases b1 with
    | false =>
      exact fin false 6 (by decide) hl0 _ ends_6_f (by simp only [and_self])
    | true =>
      exact fin true 6 (by decide) hl0 _ ends_6_t (by simp only [and_self])
  | 7, _, hl0 =>
    cases b1 with
    | false =>
      exact fin false 7 (by decide) hl0 _ ends_7_f (by simp only [and_self])
    | true =>
      exact fin true 7 (by decide) hl0 _ ends_7_t (by simp only [and_self])
  | 8, _, hl0 =>
    cases b1 with
    | false =>
      exact fin false 8 (by decide) hl0 _ ends_8_f (by simp only [and_self])
    | true =>
      exact fin true 8 (by decide) hl0 _ ends_8_t (by simp only [and_self])
  | 9, _, hl0 =>
    cases b1 with
    | false =>
      exact fin false 9 (by decide) hl0 _ ends_9_f (by simp only [and_self])
    | true =>
      exact fin true 9 (by decide) hl0 _ ends_9_t (by simp only [and_self])
  | 10, _, hl0 =>
    cases b1 with
    | false =>
      exact fin false 10 (by decide) hl0 _ ends_10_f (by simp only [and_self])
    | true =>
      exact fin true 10 (by decide) hl0 _ ends_10_t (by simp only [and_self])
  | 11, _, hl0 =>
    cases b1 with
    | false =>
      exact fin false 11 (by decide) hl0 _ ends_11_f (by simp only [and_self])
    | true =>
      exact fin true 11 (by decide) hl0 _ ends_11_t (by simp only [and_self])
  | 12, _, hl0 =>
    cases b1 with
    | false =>
      exact fin false 12 (by decide) hl0 _ ends_12_f (by simp only [and_self])
    | true =>
      exact fin true 12 (by decide) hl0 _ ends_12_t (by simp only [and_self])
  | 13, _, hl0 =>
    cases b1 with
    | false =>
      exact fin false 13 (by decide) hl0 _ ends_13_f (by simp only [and_self])
    | true =>
      exact fin true 13 (by decide) hl0 _ ends_13_t (by simp only [and_self])
  | 14, _, hl0 =>
    cases b1 with
    | false =>
      exact fin false 14 (by decide) hl0 _ ends_14_f (by simp only [and_self])
    | true =>
      exact fin true 14 (by decide) hl0 _ ends_14_t (by simp only [and_self])
  | 15, _, hl0 =>
    cases b1 with
    | false =>
      exact fin false 15 (by decide) hl0 _ ends_15_f (by simp only [and_self])
    | true =>
      exact fin true 15 (by decide) hl0 _ ends_15_t (by simp only [and_self])
  | 16, _, hl0 =>
    cases b1 with
    | false =>
      exact fin false 16 (by decide) hl0 _ ends_16_f (by simp only [and_self])
    | true =>
      exact fin true 16 (by decide) hl0 _ ends_16_t (by simp only [and_self])
  | 17, _, hl0 =>
    cases b1 with
    | false =>
      exact fin false 17 (by decide) hl0 _ ends_17_f (by simp only [and_self])
    | true =>
      exact fin true 17 (by decide) hl0 _ ends_17_t (by simp only [and_self])
  | 18, _, hl0 =>
    cases b1 with
    | false =>
      exact fin false 18 (by decide) hl0 _ ends_18_f (by simp only [and_self])
    | true =>
      exact fin true 18 (by decide) hl0 _ ends_18_t (by simp only [and_self])
  | 19, _, hl0 =>
    cases b1 with
    | false =>
      exact fin false 19 (by decide) hl0 _ ends_19_f (by simp only [and_self])
    | true =>
      exact fin true 19 (by decide) hl0 _ ends_19_t (by simp only [and_self])
  | 20, _, hl0 =>
    cases b1 with
    | false =>
      exact fin false 20 (by decide) hl0 _ ends_20_f (by simp only [and_self])
    | true =>
      exact fin true 20 (by decide) hl0 _ ends_20_t (by simp only [and_self])
  | 21, _, hl0 =>
    cases b1 with
    | false =>
      exact fin false 21 (by decide) hl0 _ ends_21_f (by simp only [and_self])
    | true =>
      exact fin true 21 (by decide) hl0 _ ends_21_t (by simp only [and_self])
  | 22, _, hl0 =>
    cases b1 with
    | false =>
      exact fin false 22 (by decide) hl0 _ ends_22_f (by simp only [and_self])
    | true =>
      exact fin true 22 (by decide) hl0 _ ends_22_t (by simp only [and_self])
  | 23, _, hl0 =>
    cases b1 with
    | false =>
      exact fin false 23 (by decide) hl0 _ ends_23_f (by simp only [and_self])
    | true =>
      exact fin true 23 (by decide) hl0 _ ends_23_t (by simp only [and_self])
  | 24, _, hl0 =>
    cases b1 with
    | false =>
      exact fin false 24 (by decide) hl0 _ ends_24_f (by simp only [and_self])
    | true =>
      exact fin true 24 (by decide) hl0 _ ends_24_t (by simp only [and_self])
  | 25, _, hl0 =>
    cases b1 with
    | false =>
      exact fin false 25 (by decide) hl0 _ ends_25_f (by simp only [and_self])
    | true =>
      exact fin true 25 (by decide) hl0 _ ends_25_t (by simp only [and_self])
  | 26, _, hl0 =>
    cases b1 with
    | false =>
      exact fin false 26 (by decide) hl0 _ ends_26_f (by simp only [and_self])
    | true =>
      exact fin true 26 (by decide) hl0 _ ends_26_t (by simp only [and_self])
  | 27, _, hl0 =>
    cases b1 with
    | false =>
      exact fin false 27 (by decide) hl0 _ ends_27_f (by simp only [and_self])
    | true =>
      exact fin true 27 (by decide) hl0 _ ends_27_t (by simp only [and_self])
  | 28, _, hl0 =>
    cases b1 with
    | false =>
      exact fin false 28 (by decide) hl0 _ ends_28_f (by simp only [and_self])
    | true =>
      exact fin true 28 (by decide) hl0 _ ends_28_t (by simp only [and_self])
  | 29, _, hl0 =>
    cases b1 with
    | false =>
      exact fin false 29 (by decide) hl0 _ ends_29_f (by simp only [and_self])
    | true =>
      exact fin true 29 (by decide) hl0 _ ends_29_t (by simp only [and_self])
  | 30, _, hl0 =>
    cases b1 with
    | false =>
      exact fin false 30 (by decide) hl0 _ ends_30_f (by simp only [and_self])
    | true =>
      exact fin true 30 (by decide) hl0 _ ends_30_t (by simp only [and_self])
  | 31, _, hl0 =>
    cases b1 with
    | false =>
      exact fin false 31 (by decide) hl0 _ ends_31_f (by simp only [and_self])
    | true =>
      exact fin true 31 (by decide) hl0 _ ends_31_t (by simp only [and_self])
  | 32, _, hl0 =>
    cases b1 with
    | false =>
      exact fin false 32 (by decide) hl0 _ ends_32_f (by simp only [and_self])
    | true =>
      exact fin true 32 (by decide) hl0 _ ends_32_t (by simp only [and_self])
  | 33, _, hl0 =>
    cases b1 with
    | false =>
      exact fin false 33 (by decide) hl0 _ ends_33_f (by simp only [and_self])
    | true =>
      exact fin true 33 (by decide) hl0 _ ends_33_t (by simp only [and_self])
  | 34, _, hl0 =>
    cases b1 with
    | false =>
      exact fin false 34 (by decide) hl0 _ ends_34_f (by simp only [and_self])
    | true =>
      exact fin true 34 (by decide) hl0 _ ends_34_t (by simp only [and_self])
  | 35, _, hl0 =>
    cases b1 with
    | false =>
      exact fin false 35 (by decide) hl0 _ ends_35_f (by simp only [and_self])
    | true =>
      exact fin true 35 (by decide) hl0 _ ends_35_t (by simp only [and_self])
  | 36, _, hl0 =>
    cases b1 with
    | false =>
      exact fin false 36 (by decide) hl0 _ ends_36_f (by simp only [and_self])
    | true =>
      exact fin true 36 (by decide) hl0 _ ends_36_t (by simp only [and_self])
  | 37, _, hl0 =>
    cases b1 with
    | false =>
      exact fin false 37 (by decide) hl0 _ ends_37_f (by simp only [and_self])
    | true =>
      exact fin true 37 (by decide) hl0 _ ends_37_t (by simp only [and_self])
  | 38, _, hl0 =>
    cases b1 with
    | false =>
      exact fin false 38 (by decide) hl0 _ ends_38_f (by simp only [and_self])
    | true =>
      exact fin true 38 (by decide) hl0 _ ends_38_t (by simp only [and_self])
  | 39, _, hl0 =>
    cases b1 with
    | false =>
      exact fin false 39 (by decide) hl0 _ ends_39_f (by simp only [and_self])
    | true =>
      exact fin true 39 (by decide) hl0 _ ends_39_t (by simp only [and_self])
  | 40, _, hl0 =>
    cases b1 with
    | false =>
      exact fin false 40 (by decide) hl0 _ ends_40_f (by simp only [and_self])
    | true =>
      exact fin true 40 (by decide) hl0 _ ends_40_t (by simp only [and_self])
  | 41, _, hl0 =>
    cases b1 with
    | false =>
      exact fin false 41 (by decide) hl0 _ ends_41_f (by simp only [and_self])
    | true =>
      exact fin true 41 (by decide) hl0 _ ends_41_t (by simp only [and_self])
  | 42, _, hl0 =>
    cases b1 with
    | false =>
      exact fin false 42 (by decide) hl0 _ ends_42_f (by simp only [and_self])
    | true =>
      exact fin true 42 (by decide) hl0 _ ends_42_t (by simp only [and_self])
  | 43, _, hl0 =>
    cases b1 with
    | false =>
      exact fin false 43 (by decide) hl0 _ ends_43_f (by simp only [and_self])
    | true =>
      exact fin true 43 (by decide) hl0 _ ends_43_t (by simp only [and_self])
  | 44, _, hl0 =>
    cases b1 with
    | false =>
      exact fin false 44 (by decide) hl0 _ ends_44_f (by simp only [and_self])
    | true =>
      exact fin true 44 (by decide) hl0 _ ends_44_t (by simp only [and_self])
  | 45, _, hl0 =>
    cases b1 with
    | false =>
      exact fin false 45 (by decide) hl0 _ ends_45_f (by simp only [and_self])
    | true =>
      exact fin true 45 (by decide) hl0 _ ends_45_t (by simp only [and_self])
  | 46, _, hl0 =>
    cases b1 with
    | false =>
      exact fin false 46 (by decide) hl0 _ ends_46_f (by simp only [and_self])
    | true =>
      exact fin true 46 (by decide) hl0 _ ends_46_t (by simp only [and_self])
  | 47, _, hl0 =>
    cases b1 with
    | false =>
      exact fin false 47 (by decide) hl0 _ ends_47_f (by simp only [and_self])
    | true =>
      exact fin true 47 (by decide) hl0 _ ends_47_t (by simp only [and_self])
  | 48, _, hl0 =>
    cases b1 with
    | false =>
      exact fin false 48 (by decide) hl0 _ ends_48_f (by simp only [and_self])
    | true =>
      exact fin true 48 (by decide) hl0 _ ends_48_t (by simp only [and_self])
  | 49, _, hl0 =>
    cases b1 with
    | false =>
      exact fin false 49 (by decide) hl0 _ ends_49_f (by simp only [and_self])
    | true =>
      exact fin true 49 (by decide) hl0 _ ends_49_t (by simp only [and_self])
  | c + 50, hc, _ => exact absurd hc (by omega)

end Rn
end Go.Proofs.YtialppfpbgaanaaGreatDoor
