/-
  StepEffects answers true at whatever arguments.
-/
import Derived.Test.YtldmpcnpgjnddaaGreatDoorRNE1
import Derived.Test.YtldmpcnpgjnddaaGreatDoorRNE2
import Derived.Test.YtldmpcnpgjnddaaGreatDoorRNE3
import Derived.Test.YtldmpcnpgjnddaaGreatDoorRNE4
import Derived.Test.YtldmpcnpgjnddaaGreatDoorRNE5
import Derived.Test.YtldmpcnpgjnddaaGreatDoorRNE6
import Derived.Test.YtldmpcnpgjnddaaGreatDoorRNE7
import Derived.Test.YtldmpcnpgjnddaaGreatDoorRNE8
import Derived.Test.YtldmpcnpgjnddaaGreatDoorRNE9
import Derived.Test.YtldmpcnpgjnddaaGreatDoorRNE10
namespace Go.Proofs.YtldmpcnpgjnddaaGreatDoor
namespace Rn
open Go.RowKit

section
variable {w : World} {x0 : Int}
theorem ways_of {l : List Nat} (h : l.all (fun m => m == 0 || m == 1 || Nat.ble 16 m) = true) : numWays l := fun m hm => by
  have := List.all_eq_true.1 h m hm
  simp only [Bool.or_eq_true, beq_iff_eq] at this
  rcases this with (h | h) | h
  · exact .inl h
  · exact .inr (.inl h)
  · exact .inr (.inr (Nat.le_of_ble_eq_true h))
theorem bit255 : ∀ c, c < 8 → bitOf 255 c = true := by decide
theorem eff_any (l0 : -9223372036854775808 ≤ x0) (u0 : x0 < 9223372036854775808) {v : Value} (hv : Fl v) (c : Nat) (hc : c < MK) (hl : left x0 (46 : Nat) = (c : Int)) {T : Prop} (hk : evCall Tryz.prog tb ⟨some 6, some 5, none, 0, [], [(12, kindK)]⟩ pl 100000 3 [.chan (some (46 * MK + c)), any] ⟨none, 1000, 0⟩ yes = T) (hT : T) : Calls Tryz.prog 3 #[.int .i64 x0, v] w fun e w' => e = .returned (.bool true) ∧ Below w.heap.size w w' :=
  ran (args := [.chan (some (46 * MK + c)), any]) (args' := [.int .i64 x0, v]) tok pok ov_kind w (show All2 (VR fun _ => none) _ _ from ⟨mark_vr l0 u0 hc hl, any_vr hv, rfl⟩) hk hT
theorem eff_nil (l0 : -9223372036854775808 ≤ x0) (u0 : x0 < 9223372036854775808) (c : Nat) (hc : c < MK) (hl : left x0 (46 : Nat) = (c : Int)) {T : Prop} (hk : evCall Tryz.prog tb ⟨some 6, some 5, none, 0, [], [(12, kindK)]⟩ pl 100000 3 [.chan (some (46 * MK + c)), .slice none 0 0] hpN yes = T) (hT : T) : Calls Tryz.prog 3 #[.int .i64 x0, .slice none 0 0] w fun e w' => e = .returned (.bool true) ∧ Below w.heap.size w w' :=
  ranH (φ := (place ⟨0, 0, 0, []⟩ ⟨0, 0, 0, []⟩)) (args := [.chan (some (46 * MK + c)), .slice none 0 0]) (args' := [.int .i64 x0, .slice none 0 0]) tok pok ov_kind wr_N shut_N (show All2 (VR _) _ _ from ⟨mark_vr l0 u0 hc hl, nil_vr, rfl⟩) hk hT
theorem eff_emp (l0 : -9223372036854775808 ≤ x0) (u0 : x0 < 9223372036854775808) {a : Addr} {cap : Nat} (c : Nat) (hc : c < MK) (hl : left x0 (46 : Nat) = (c : Int)) {T : Prop} (hk : evCall Tryz.prog tb ⟨some 6, some 5, none, 0, [], [(12, kindK)]⟩ pl 100000 3 [.chan (some (46 * MK + c)), .slice (some ⟨NOWHERE, 0, none⟩) 0 TOP] hpN yes = T) (hT : T) : Calls Tryz.prog 3 #[.int .i64 x0, .slice (some a) 0 cap] w fun e w' => e = .returned (.bool true) ∧ Below w.heap.size w w' :=
  ranH (φ := (place ⟨0, 0, 0, []⟩ ⟨0, 0, 0, []⟩)) (args := [.chan (some (46 * MK + c)), .slice (some ⟨NOWHERE, 0, none⟩) 0 TOP]) (args' := [.int .i64 x0, .slice (some a) 0 cap]) tok pok ov_kind wr_N shut_N (show All2 (VR _) _ _ from ⟨mark_vr l0 u0 hc hl, empty_vr, rfl⟩) hk hT
theorem eff_row (l0 : -9223372036854775808 ≤ x0) (u0 : x0 < 9223372036854775808) {A : Li} (hA : LiAt w A) (n : Nat) (hn : A.zs.length = n) (l : List Nat) (hw : numWays l) (h5 : l.length ≤ 5) (hl1 : CodesOK l A.zs) (c : Nat) (hc : c < MK) (hl : left x0 (46 : Nat) = (c : Int)) {T : Prop} (hk : evCall Tryz.prog tb ⟨some 6, some 5, none, 0, [], [(12, kindK)]⟩ pl 100000 3 [.chan (some (46 * MK + c)), .slice (some ⟨1000, 0, none⟩) n TOP] (hpA (symRow 1010 l)) yes = T) (hT : T) : Calls Tryz.prog 3 #[.int .i64 x0, .slice (some ⟨A.b, A.off, none⟩) A.zs.length A.cap] w fun e w' => e = .returned (.bool true) ∧ Below w.heap.size w w' :=
  ranH (φ := place A ⟨0, 0, 0, []⟩) (args := [.chan (some (46 * MK + c)), .slice (some ⟨1000, 0, none⟩) n TOP]) (args' := [.int .i64 x0, .slice (some ⟨A.b, A.off, none⟩) A.zs.length A.cap]) tok pok ov_kind (wr_A int_size hA hl1 hw h5) shut_A (show All2 (VR _) _ _ from ⟨mark_vr l0 u0 hc hl, handed_vr (.inl rfl) hA hn place_0, rfl⟩) hk hT
theorem eff_long (l0 : -9223372036854775808 ≤ x0) (u0 : x0 < 9223372036854775808) {A : Li} (hA : LiAt w A) (hn : LONG ≤ A.zs.length) (l : List Nat) (hw : numWays l) (h5 : l.length ≤ 5) (hl1 : CodesOK l A.zs) (c : Nat) (hc : c < MK) (hl : left x0 (46 : Nat) = (c : Int)) {T : Prop} (hk : evCall Tryz.prog tb ⟨some 6, some 5, none, 0, [], [(12, kindK)]⟩ pl 100000 3 [.chan (some (46 * MK + c)), .complex .f64 1000 1002] (hpA (symRow 1010 l)) yes = T) (hT : T) : Calls Tryz.prog 3 #[.int .i64 x0, .slice (some ⟨A.b, A.off, none⟩) A.zs.length A.cap] w fun e w' => e = .returned (.bool true) ∧ Below w.heap.size w w' :=
  ranH (φ := place A ⟨0, 0, 0, []⟩) (args := [.chan (some (46 * MK + c)), .complex .f64 1000 1002]) (args' := [.int .i64 x0, .slice (some ⟨A.b, A.off, none⟩) A.zs.length A.cap]) tok pok ov_kind (wr_A int_size hA hl1 hw h5) shut_A (show All2 (VR _) _ _ from ⟨mark_vr l0 u0 hc hl, long_vr hA hn place_0 place_2, rfl⟩) hk hT
theorem eff_op0 (l0 : -9223372036854775808 ≤ x0) (u0 : x0 < 9223372036854775808) (hl : left x0 (46 : Nat) = ((0 : Nat) : Int)) {v : Value} (hv : v = .slice none 0 0 ∨ (∃ a c, v = .slice (some a) 0 c) ∨ ∃ A, LiAt w A ∧ v = .slice (some ⟨A.b, A.off, none⟩) A.zs.length A.cap) : Calls Tryz.prog 3 #[.int .i64 x0, v] w fun e w' => e = .returned (.bool true) ∧ Below w.heap.size w w' := by
  rcases hv with rfl | ⟨a, cap, rfl⟩ | ⟨⟨b, off, cap, zs⟩, hA, rfl⟩
  · exact eff_nil l0 u0 0 (by decide) hl eff_0_nil trivial
  · exact eff_emp l0 u0 0 (by decide) hl eff_0_emp trivial
  · match zs, hA with
    | [], hA => exact absurd hA.some (by simp)
    | [z0], hA =>
      have r0 := hA.wf z0 (by simp)
      exact eff_row l0 u0 hA 1 rfl [0] (ways_of rfl) (by decide) ⟨sym_all r0, trivial⟩ 0 (by decide) hl eff_0_1_0 trivial
    | [z0, z1], hA =>
      have r0 := hA.wf z0 (by simp)
      have r1 := hA.wf z1 (by simp)
      exact eff_row l0 u0 hA 2 rfl [0, 0] (ways_of rfl) (by decide) ⟨sym_all r0, sym_all r1, trivial⟩ 0 (by decide) hl eff_0_2_0 trivial
    | [z0, z1, z2], hA =>
      have r0 := hA.wf z0 (by simp)
      have r1 := hA.wf z1 (by simp)
      have r2 := hA.wf z2 (by simp)
      exact eff_row l0 u0 hA 3 rfl [0, 0, 0] (ways_of rfl) (by decide) ⟨sym_all r0, sym_all r1, sym_all r2, trivial⟩ 0 (by decide) hl eff_0_3_0 trivial
    | [z0, z1, z2, z3], hA =>
      have r0 := hA.wf z0 (by simp)
      have r1 := hA.wf z1 (by simp)
      have r2 := hA.wf z2 (by simp)
      have r3 := hA.wf z3 (by simp)
      exact eff_row l0 u0 hA 4 rfl [0, 0, 0, 0] (ways_of rfl) (by decide) ⟨sym_all r0, sym_all r1, sym_all r2, sym_all r3, trivial⟩ 0 (by decide) hl eff_0_4_0 trivial
    | z0 :: z1 :: z2 :: z3 :: z4 :: zs, hA =>
      have r0 := hA.wf z0 (by simp)
      have r1 := hA.wf z1 (by simp)
      have r2 := hA.wf z2 (by simp)
      have r3 := hA.wf z3 (by simp)
      exact eff_long l0 u0 hA (by simp only [LONG, List.length_cons]; omega) [0, 0, 0, 0] (ways_of rfl) (by decide) ⟨sym_all r0, sym_all r1, sym_all r2, sym_all r3, trivial⟩ 0 (by decide) hl eff_0_5_0 trivial
theorem eff_op2 (l0 : -9223372036854775808 ≤ x0) (u0 : x0 < 9223372036854775808) (hl : left x0 (46 : Nat) = ((2 : Nat) : Int)) {v : Value} (hv : v = .slice none 0 0 ∨ (∃ a c, v = .slice (some a) 0 c) ∨ ∃ A, LiAt w A ∧ v = .slice (some ⟨A.b, A.off, none⟩) A.zs.length A.cap) : Calls Tryz.prog 3 #[.int .i64 x0, v] w fun e w' => e = .returned (.bool true) ∧ Below w.heap.size w w' := by
  rcases hv with rfl | ⟨a, cap, rfl⟩ | ⟨⟨b, off, cap, zs⟩, hA, rfl⟩
  · exact eff_nil l0 u0 2 (by decide) hl eff_2_nil trivial
  · exact eff_emp l0 u0 2 (by decide) hl eff_2_emp trivial
  · match zs, hA with
    | [], hA => exact absurd hA.some (by simp)
    | [z0], hA =>
      have r0 := hA.wf z0 (by simp)
      exact eff_row l0 u0 hA 1 rfl [0] (ways_of rfl) (by decide) ⟨sym_all r0, trivial⟩ 2 (by decide) hl eff_2_1_0 trivial
    | [z0, z1], hA =>
      have r0 := hA.wf z0 (by simp)
      have r1 := hA.wf z1 (by simp)
      exact eff_row l0 u0 hA 2 rfl [0, 0] (ways_of rfl) (by decide) ⟨sym_all r0, sym_all r1, trivial⟩ 2 (by decide) hl eff_2_2_0 trivial
    | [z0, z1, z2], hA =>
      have r0 := hA.wf z0 (by simp)
      have r1 := hA.wf z1 (by simp)
      have r2 := hA.wf z2 (by simp)
      exact eff_row l0 u0 hA 3 rfl [0, 0, 0] (ways_of rfl) (by decide) ⟨sym_all r0, sym_all r1, sym_all r2, trivial⟩ 2 (by decide) hl eff_2_3_0 trivial
    | [z0, z1, z2, z3], hA =>
      have r0 := hA.wf z0 (by simp)
      have r1 := hA.wf z1 (by simp)
      have r2 := hA.wf z2 (by simp)
      have r3 := hA.wf z3 (by simp)
      exact eff_row l0 u0 hA 4 rfl [0, 0, 0, 0] (ways_of rfl) (by decide) ⟨sym_all r0, sym_all r1, sym_all r2, sym_all r3, trivial⟩ 2 (by decide) hl eff_2_4_0 trivial
    | z0 :: z1 :: z2 :: z3 :: z4 :: zs, hA =>
      have r0 := hA.wf z0 (by simp)
      have r1 := hA.wf z1 (by simp)
      have r2 := hA.wf z2 (by simp)
      have r3 := hA.wf z3 (by simp)
      exact eff_long l0 u0 hA (by simp only [LONG, List.length_cons]; omega) [0, 0, 0, 0] (ways_of rfl) (by decide) ⟨sym_all r0, sym_all r1, sym_all r2, sym_all r3, trivial⟩ 2 (by decide) hl eff_2_5_0 trivial
theorem eff_op5 (l0 : -9223372036854775808 ≤ x0) (u0 : x0 < 9223372036854775808) (hl : left x0 (46 : Nat) = ((5 : Nat) : Int)) {v : Value} (hv : v = .slice none 0 0 ∨ (∃ a c, v = .slice (some a) 0 c) ∨ ∃ A, LiAt w A ∧ v = .slice (some ⟨A.b, A.off, none⟩) A.zs.length A.cap) : Calls Tryz.prog 3 #[.int .i64 x0, v] w fun e w' => e = .returned (.bool true) ∧ Below w.heap.size w w' := by
  rcases hv with rfl | ⟨a, cap, rfl⟩ | ⟨⟨b, off, cap, zs⟩, hA, rfl⟩
  · exact eff_nil l0 u0 5 (by decide) hl eff_5_nil trivial
  · exact eff_emp l0 u0 5 (by decide) hl eff_5_emp trivial
  · match zs, hA with
    | [], hA => exact absurd hA.some (by simp)
    | [z0], hA =>
      have r0 := hA.wf z0 (by simp)
      exact eff_row l0 u0 hA 1 rfl [0] (ways_of rfl) (by decide) ⟨sym_all r0, trivial⟩ 5 (by decide) hl eff_5_1_0 trivial
    | [z0, z1], hA =>
      have r0 := hA.wf z0 (by simp)
      have r1 := hA.wf z1 (by simp)
      exact eff_row l0 u0 hA 2 rfl [0, 0] (ways_of rfl) (by decide) ⟨sym_all r0, sym_all r1, trivial⟩ 5 (by decide) hl eff_5_2_0 trivial
    | [z0, z1, z2], hA =>
      have r0 := hA.wf z0 (by simp)
      have r1 := hA.wf z1 (by simp)
      have r2 := hA.wf z2 (by simp)
      exact eff_row l0 u0 hA 3 rfl [0, 0, 0] (ways_of rfl) (by decide) ⟨sym_all r0, sym_all r1, sym_all r2, trivial⟩ 5 (by decide) hl eff_5_3_0 trivial
    | [z0, z1, z2, z3], hA =>
      have r0 := hA.wf z0 (by simp)
      have r1 := hA.wf z1 (by simp)
      have r2 := hA.wf z2 (by simp)
      have r3 := hA.wf z3 (by simp)
      exact eff_row l0 u0 hA 4 rfl [0, 0, 0, 0] (ways_of rfl) (by decide) ⟨sym_all r0, sym_all r1, sym_all r2, sym_all r3, trivial⟩ 5 (by decide) hl eff_5_4_0 trivial
    | z0 :: z1 :: z2 :: z3 :: z4 :: zs, hA =>
      have r0 := hA.wf z0 (by simp)
      have r1 := hA.wf z1 (by simp)
      have r2 := hA.wf z2 (by simp)
      have r3 := hA.wf z3 (by simp)
      exact eff_long l0 u0 hA (by simp only [LONG, List.length_cons]; omega) [0, 0, 0, 0] (ways_of rfl) (by decide) ⟨sym_all r0, sym_all r1, sym_all r2, sym_all r3, trivial⟩ 5 (by decide) hl eff_5_5_0 trivial
theorem eff_op8 (l0 : -9223372036854775808 ≤ x0) (u0 : x0 < 9223372036854775808) (hl : left x0 (46 : Nat) = ((8 : Nat) : Int)) {v : Value} (hv : v = .slice none 0 0 ∨ (∃ a c, v = .slice (some a) 0 c) ∨ ∃ A, LiAt w A ∧ v = .slice (some ⟨A.b, A.off, none⟩) A.zs.length A.cap) : Calls Tryz.prog 3 #[.int .i64 x0, v] w fun e w' => e = .returned (.bool true) ∧ Below w.heap.size w w' := by
  rcases hv with rfl | ⟨a, cap, rfl⟩ | ⟨⟨b, off, cap, zs⟩, hA, rfl⟩
  · exact eff_nil l0 u0 8 (by decide) hl eff_8_nil trivial
  · exact eff_emp l0 u0 8 (by decide) hl eff_8_emp trivial
  · match zs, hA with
    | [], hA => exact absurd hA.some (by simp)
    | [z0], hA =>
      have r0 := hA.wf z0 (by simp)
      obtain ⟨c0, hc0, hl0⟩ := left_lt (x := z0) (n := 8) (by omega)
      exact eff_row l0 u0 hA 1 rfl [271] (ways_of rfl) (by decide) ⟨sym_mask r0 hc0 hl0 (bit255 _ hc0), trivial⟩ 8 (by decide) hl eff_8_1_0 (by simp only [and_self])
    | [z0, z1], hA =>
      have r0 := hA.wf z0 (by simp)
      have r1 := hA.wf z1 (by simp)
      obtain ⟨c1, hc1, hl1⟩ := left_lt (x := z1) (n := 8) (by omega)
      rcases two_masks (p := 254) (q := 1) (by decide) hc1 with hb1 | hb1
      · skip
        exact eff_row l0 u0 hA 2 rfl [0, 270] (ways_of rfl) (by decide) ⟨sym_all r0, sym_mask r1 hc1 hl1 hb1, trivial⟩ 8 (by decide) hl eff_8_2_0 (by simp only [and_self])
      · skip
        obtain ⟨c0, hc0, hl0⟩ := left_lt (x := z0) (n := 8) (by omega)
        exact eff_row l0 u0 hA 2 rfl [271, 17] (ways_of rfl) (by decide) ⟨sym_mask r0 hc0 hl0 (bit255 _ hc0), sym_mask r1 hc1 hl1 hb1, trivial⟩ 8 (by decide) hl eff_8_2_1 (by simp only [and_self])
    | [z0, z1, z2], hA =>
      have r0 := hA.wf z0 (by simp)
      have r1 := hA.wf z1 (by simp)
      have r2 := hA.wf z2 (by simp)
      obtain ⟨c2, hc2, hl2⟩ := left_lt (x := z2) (n := 8) (by omega)
      rcases two_masks (p := 254) (q := 1) (by decide) hc2 with hb2 | hb2
      · skip
        exact eff_row l0 u0 hA 3 rfl [0, 0, 270] (ways_of rfl) (by decide) ⟨sym_all r0, sym_all r1, sym_mask r2 hc2 hl2 hb2, trivial⟩ 8 (by decide) hl eff_8_3_0 (by simp only [and_self])
      · skip
        obtain ⟨c1, hc1, hl1⟩ := left_lt (x := z1) (n := 8) (by omega)
        exact eff_row l0 u0 hA 3 rfl [0, 271, 17] (ways_of rfl) (by decide) ⟨sym_all r0, sym_mask r1 hc1 hl1 (bit255 _ hc1), sym_mask r2 hc2 hl2 hb2, trivial⟩ 8 (by decide) hl eff_8_3_1 (by simp only [and_self])
    | [z0, z1, z2, z3], hA =>
      have r0 := hA.wf z0 (by simp)
      have r1 := hA.wf z1 (by simp)
      have r2 := hA.wf z2 (by simp)
      have r3 := hA.wf z3 (by simp)
      obtain ⟨c3, hc3, hl3⟩ := left_lt (x := z3) (n := 8) (by omega)
      rcases two_masks (p := 254) (q := 1) (by decide) hc3 with hb3 | hb3
      · skip
        exact eff_row l0 u0 hA 4 rfl [0, 0, 0, 270] (ways_of rfl) (by decide) ⟨sym_all r0, sym_all r1, sym_all r2, sym_mask r3 hc3 hl3 hb3, trivial⟩ 8 (by decide) hl eff_8_4_0 (by simp only [and_self])
      · skip
        obtain ⟨c2, hc2, hl2⟩ := left_lt (x := z2) (n := 8) (by omega)
        exact eff_row l0 u0 hA 4 rfl [0, 0, 271, 17] (ways_of rfl) (by decide) ⟨sym_all r0, sym_all r1, sym_mask r2 hc2 hl2 (bit255 _ hc2), sym_mask r3 hc3 hl3 hb3, trivial⟩ 8 (by decide) hl eff_8_4_1 (by simp only [and_self])
    | z0 :: z1 :: z2 :: z3 :: z4 :: zs, hA =>
      have r0 := hA.wf z0 (by simp)
      have r1 := hA.wf z1 (by simp)
      have r2 := hA.wf z2 (by simp)
      have r3 := hA.wf z3 (by simp)
      obtain ⟨c3, hc3, hl3⟩ := left_lt (x := z3) (n := 8) (by omega)
      rcases two_masks (p := 254) (q := 1) (by decide) hc3 with hb3 | hb3
      · skip
        exact eff_long l0 u0 hA (by simp only [LONG, List.length_cons]; omega) [0, 0, 0, 270] (ways_of rfl) (by decide) ⟨sym_all r0, sym_all r1, sym_all r2, sym_mask r3 hc3 hl3 hb3, trivial⟩ 8 (by decide) hl eff_8_5_0 (by simp only [and_self])
      · skip
        obtain ⟨c2, hc2, hl2⟩ := left_lt (x := z2) (n := 8) (by omega)
        exact eff_long l0 u0 hA (by simp only [LONG, List.length_cons]; omega) [0, 0, 271, 17] (ways_of rfl) (by decide) ⟨sym_all r0, sym_all r1, sym_mask r2 hc2 hl2 (bit255 _ hc2), sym_mask r3 hc3 hl3 hb3, trivial⟩ 8 (by decide) hl eff_8_5_1 (by simp only [and_self])
theorem eff_op9 (l0 : -9223372036854775808 ≤ x0) (u0 : x0 < 9223372036854775808) (hl : left x0 (46 : Nat) = ((9 : Nat) : Int)) {v : Value} (hv : v = .slice none 0 0 ∨ (∃ a c, v = .slice (some a) 0 c) ∨ ∃ A, LiAt w A ∧ v = .slice (some ⟨A.b, A.off, none⟩) A.zs.length A.cap) : Calls Tryz.prog 3 #[.int .i64 x0, v] w fun e w' => e = .returned (.bool true) ∧ Below w.heap.size w w' := by
  rcases hv with rfl | ⟨a, cap, rfl⟩ | ⟨⟨b, off, cap, zs⟩, hA, rfl⟩
  · exact eff_nil l0 u0 9 (by decide) hl eff_9_nil trivial
  · exact eff_emp l0 u0 9 (by decide) hl eff_9_emp trivial
  · match zs, hA with
    | [], hA => exact absurd hA.some (by simp)
    | [z0], hA =>
      have r0 := hA.wf z0 (by simp)
      obtain ⟨c0, hc0, hl0⟩ := left_lt (x := z0) (n := 8) (by omega)
      exact eff_row l0 u0 hA 1 rfl [271] (ways_of rfl) (by decide) ⟨sym_mask r0 hc0 hl0 (bit255 _ hc0), trivial⟩ 9 (by decide) hl eff_9_1_0 (by simp only [and_self])
    | [z0, z1], hA =>
      have r0 := hA.wf z0 (by simp)
      have r1 := hA.wf z1 (by simp)
      obtain ⟨c1, hc1, hl1⟩ := left_lt (x := z1) (n := 8) (by omega)
      rcases two_masks (p := 254) (q := 1) (by decide) hc1 with hb1 | hb1
      · skip
        exact eff_row l0 u0 hA 2 rfl [0, 270] (ways_of rfl) (by decide) ⟨sym_all r0, sym_mask r1 hc1 hl1 hb1, trivial⟩ 9 (by decide) hl eff_9_2_0 (by simp only [and_self])
      · skip
        obtain ⟨c0, hc0, hl0⟩ := left_lt (x := z0) (n := 8) (by omega)
        exact eff_row l0 u0 hA 2 rfl [271, 17] (ways_of rfl) (by decide) ⟨sym_mask r0 hc0 hl0 (bit255 _ hc0), sym_mask r1 hc1 hl1 hb1, trivial⟩ 9 (by decide) hl eff_9_2_1 (by simp only [and_self])
    | [z0, z1, z2], hA =>
      have r0 := hA.wf z0 (by simp)
      have r1 := hA.wf z1 (by simp)
      have r2 := hA.wf z2 (by simp)
      obtain ⟨c2, hc2, hl2⟩ := left_lt (x := z2) (n := 8) (by omega)
      rcases two_masks (p := 254) (q := 1) (by decide) hc2 with hb2 | hb2
      · skip
        exact eff_row l0 u0 hA 3 rfl [0, 0, 270] (ways_of rfl) (by decide) ⟨sym_all r0, sym_all r1, sym_mask r2 hc2 hl2 hb2, trivial⟩ 9 (by decide) hl eff_9_3_0 (by simp only [and_self])
      · skip
        obtain ⟨c1, hc1, hl1⟩ := left_lt (x := z1) (n := 8) (by omega)
        exact eff_row l0 u0 hA 3 rfl [0, 271, 17] (ways_of rfl) (by decide) ⟨sym_all r0, sym_mask r1 hc1 hl1 (bit255 _ hc1), sym_mask r2 hc2 hl2 hb2, trivial⟩ 9 (by decide) hl eff_9_3_1 (by simp only [and_self])
    | [z0, z1, z2, z3], hA =>
      have r0 := hA.wf z0 (by simp)
      have r1 := hA.wf z1 (by simp)
      have r2 := hA.wf z2 (by simp)
      have r3 := hA.wf z3 (by simp)
      obtain ⟨c3, hc3, hl3⟩ := left_lt (x := z3) (n := 8) (by omega)
      rcases two_masks (p := 254) (q := 1) (by decide) hc3 with hb3 | hb3
      · skip
        exact eff_row l0 u0 hA 4 rfl [0, 0, 0, 270] (ways_of rfl) (by decide) ⟨sym_all r0, sym_all r1, sym_all r2, sym_mask r3 hc3 hl3 hb3, trivial⟩ 9 (by decide) hl eff_9_4_0 (by simp only [and_self])
      · skip
        obtain ⟨c2, hc2, hl2⟩ := left_lt (x := z2) (n := 8) (by omega)
        exact eff_row l0 u0 hA 4 rfl [0, 0, 271, 17] (ways_of rfl) (by decide) ⟨sym_all r0, sym_all r1, sym_mask r2 hc2 hl2 (bit255 _ hc2), sym_mask r3 hc3 hl3 hb3, trivial⟩ 9 (by decide) hl eff_9_4_1 (by simp only [and_self])
    | z0 :: z1 :: z2 :: z3 :: z4 :: zs, hA =>
      have r0 := hA.wf z0 (by simp)
      have r1 := hA.wf z1 (by simp)
      have r2 := hA.wf z2 (by simp)
      have r3 := hA.wf z3 (by simp)
      obtain ⟨c3, hc3, hl3⟩ := left_lt (x := z3) (n := 8) (by omega)
      rcases two_masks (p := 254) (q := 1) (by decide) hc3 with hb3 | hb3
      · skip
        exact eff_long l0 u0 hA (by simp only [LONG, List.length_cons]; omega) [0, 0, 0, 270] (ways_of rfl) (by decide) ⟨sym_all r0, sym_all r1, sym_all r2, sym_mask r3 hc3 hl3 hb3, trivial⟩ 9 (by decide) hl eff_9_5_0 (by simp only [and_self])
      · skip
        obtain ⟨c2, hc2, hl2⟩ := left_lt (x := z2) (n := 8) (by omega)
        exact eff_long l0 u0 hA (by simp only [LONG, List.length_cons]; omega) [0, 0, 271, 17] (ways_of rfl) (by decide) ⟨sym_all r0, sym_all r1, sym_mask r2 hc2 hl2 (bit255 _ hc2), sym_mask r3 hc3 hl3 hb3, trivial⟩ 9 (by decide) hl eff_9_5_1 (by simp only [and_self])
theorem eff_op10 (l0 : -9223372036854775808 ≤ x0) (u0 : x0 < 9223372036854775808) (hl : left x0 (46 : Nat) = ((10 : Nat) : Int)) {v : Value} (hv : v = .slice none 0 0 ∨ (∃ a c, v = .slice (some a) 0 c) ∨ ∃ A, LiAt w A ∧ v = .slice (some ⟨A.b, A.off, none⟩) A.zs.length A.cap) : Calls Tryz.prog 3 #[.int .i64 x0, v] w fun e w' => e = .returned (.bool true) ∧ Below w.heap.size w w' := by
  rcases hv with rfl | ⟨a, cap, rfl⟩ | ⟨⟨b, off, cap, zs⟩, hA, rfl⟩
  · exact eff_nil l0 u0 10 (by decide) hl eff_10_nil trivial
  · exact eff_emp l0 u0 10 (by decide) hl eff_10_emp trivial
  · match zs, hA with
    | [], hA => exact absurd hA.some (by simp)
    | [z0], hA =>
      have r0 := hA.wf z0 (by simp)
      obtain ⟨c0, hc0, hl0⟩ := left_lt (x := z0) (n := 8) (by omega)
      exact eff_row l0 u0 hA 1 rfl [271] (ways_of rfl) (by decide) ⟨sym_mask r0 hc0 hl0 (bit255 _ hc0), trivial⟩ 10 (by decide) hl eff_10_1_0 (by simp only [and_self])
    | [z0, z1], hA =>
      have r0 := hA.wf z0 (by simp)
      have r1 := hA.wf z1 (by simp)
      obtain ⟨c1, hc1, hl1⟩ := left_lt (x := z1) (n := 8) (by omega)
      rcases two_masks (p := 254) (q := 1) (by decide) hc1 with hb1 | hb1
      · skip
        exact eff_row l0 u0 hA 2 rfl [0, 270] (ways_of rfl) (by decide) ⟨sym_all r0, sym_mask r1 hc1 hl1 hb1, trivial⟩ 10 (by decide) hl eff_10_2_0 (by simp only [and_self])
      · skip
        obtain ⟨c0, hc0, hl0⟩ := left_lt (x := z0) (n := 8) (by omega)
        exact eff_row l0 u0 hA 2 rfl [271, 17] (ways_of rfl) (by decide) ⟨sym_mask r0 hc0 hl0 (bit255 _ hc0), sym_mask r1 hc1 hl1 hb1, trivial⟩ 10 (by decide) hl eff_10_2_1 (by simp only [and_self])
    | [z0, z1, z2], hA =>
      have r0 := hA.wf z0 (by simp)
      have r1 := hA.wf z1 (by simp)
      have r2 := hA.wf z2 (by simp)
      obtain ⟨c2, hc2, hl2⟩ := left_lt (x := z2) (n := 8) (by omega)
      rcases two_masks (p := 254) (q := 1) (by decide) hc2 with hb2 | hb2
      · skip
        exact eff_row l0 u0 hA 3 rfl [0, 0, 270] (ways_of rfl) (by decide) ⟨sym_all r0, sym_all r1, sym_mask r2 hc2 hl2 hb2, trivial⟩ 10 (by decide) hl eff_10_3_0 (by simp only [and_self])
      · skip
        obtain ⟨c1, hc1, hl1⟩ := left_lt (x := z1) (n := 8) (by omega)
        exact eff_row l0 u0 hA 3 rfl [0, 271, 17] (ways_of rfl) (by decide) ⟨sym_all r0, sym_mask r1 hc1 hl1 (bit255 _ hc1), sym_mask r2 hc2 hl2 hb2, trivial⟩ 10 (by decide) hl eff_10_3_1 (by simp only [and_self])
    | [z0, z1, z2, z3], hA =>
      have r0 := hA.wf z0 (by simp)
      have r1 := hA.wf z1 (by simp)
      have r2 := hA.wf z2 (by simp)
      have r3 := hA.wf z3 (by simp)
      obtain ⟨c3, hc3, hl3⟩ := left_lt (x := z3) (n := 8) (by omega)
      rcases two_masks (p := 254) (q := 1) (by decide) hc3 with hb3 | hb3
      · skip
        exact eff_row l0 u0 hA 4 rfl [0, 0, 0, 270] (ways_of rfl) (by decide) ⟨sym_all r0, sym_all r1, sym_all r2, sym_mask r3 hc3 hl3 hb3, trivial⟩ 10 (by decide) hl eff_10_4_0 (by simp only [and_self])
      · skip
        obtain ⟨c2, hc2, hl2⟩ := left_lt (x := z2) (n := 8) (by omega)
        exact eff_row l0 u0 hA 4 rfl [0, 0, 271, 17] (ways_of rfl) (by decide) ⟨sym_all r0, sym_all r1, sym_mask r2 hc2 hl2 (bit255 _ hc2), sym_mask r3 hc3 hl3 hb3, trivial⟩ 10 (by decide) hl eff_10_4_1 (by simp only [and_self])
    | z0 :: z1 :: z2 :: z3 :: z4 :: zs, hA =>
      have r0 := hA.wf z0 (by simp)
      have r1 := hA.wf z1 (by simp)
      have r2 := hA.wf z2 (by simp)
      have r3 := hA.wf z3 (by simp)
      obtain ⟨c3, hc3, hl3⟩ := left_lt (x := z3) (n := 8) (by omega)
      rcases two_masks (p := 254) (q := 1) (by decide) hc3 with hb3 | hb3
      · skip
        exact eff_long l0 u0 hA (by simp only [LONG, List.length_cons]; omega) [0, 0, 0, 270] (ways_of rfl) (by decide) ⟨sym_all r0, sym_all r1, sym_all r2, sym_mask r3 hc3 hl3 hb3, trivial⟩ 10 (by decide) hl eff_10_5_0 (by simp only [and_self])
      · skip
        obtain ⟨c2, hc2, hl2⟩ := left_lt (x := z2) (n := 8) (by omega)
        exact eff_long l0 u0 hA (by simp only [LONG, List.length_cons]; omega) [0, 0, 271, 17] (ways_of rfl) (by decide) ⟨sym_all r0, sym_all r1, sym_mask r2 hc2 hl2 (bit255 _ hc2), sym_mask r3 hc3 hl3 hb3, trivial⟩ 10 (by decide) hl eff_10_5_1 (by simp only [and_self])
theorem eff_op11 (l0 : -9223372036854775808 ≤ x0) (u0 : x0 < 9223372036854775808) (hl : left x0 (46 : Nat) = ((11 : Nat) : Int)) {v : Value} (hv : v = .slice none 0 0 ∨ (∃ a c, v = .slice (some a) 0 c) ∨ ∃ A, LiAt w A ∧ v = .slice (some ⟨A.b, A.off, none⟩) A.zs.length A.cap) : Calls Tryz.prog 3 #[.int .i64 x0, v] w fun e w' => e = .returned (.bool true) ∧ Below w.heap.size w w' := by
  rcases hv with rfl | ⟨a, cap, rfl⟩ | ⟨⟨b, off, cap, zs⟩, hA, rfl⟩
  · exact eff_nil l0 u0 11 (by decide) hl eff_11_nil trivial
  · exact eff_emp l0 u0 11 (by decide) hl eff_11_emp trivial
  · match zs, hA with
    | [], hA => exact absurd hA.some (by simp)
    | [z0], hA =>
      have r0 := hA.wf z0 (by simp)
      obtain ⟨c0, hc0, hl0⟩ := left_lt (x := z0) (n := 8) (by omega)
      exact eff_row l0 u0 hA 1 rfl [271] (ways_of rfl) (by decide) ⟨sym_mask r0 hc0 hl0 (bit255 _ hc0), trivial⟩ 11 (by decide) hl eff_11_1_0 (by simp only [and_self])
    | [z0, z1], hA =>
      have r0 := hA.wf z0 (by simp)
      have r1 := hA.wf z1 (by simp)
      obtain ⟨c1, hc1, hl1⟩ := left_lt (x := z1) (n := 8) (by omega)
      rcases two_masks (p := 254) (q := 1) (by decide) hc1 with hb1 | hb1
      · skip
        exact eff_row l0 u0 hA 2 rfl [0, 270] (ways_of rfl) (by decide) ⟨sym_all r0, sym_mask r1 hc1 hl1 hb1, trivial⟩ 11 (by decide) hl eff_11_2_0 (by simp only [and_self])
      · skip
        obtain ⟨c0, hc0, hl0⟩ := left_lt (x := z0) (n := 8) (by omega)
        exact eff_row l0 u0 hA 2 rfl [271, 17] (ways_of rfl) (by decide) ⟨sym_mask r0 hc0 hl0 (bit255 _ hc0), sym_mask r1 hc1 hl1 hb1, trivial⟩ 11 (by decide) hl eff_11_2_1 (by simp only [and_self])
    | [z0, z1, z2], hA =>
      have r0 := hA.wf z0 (by simp)
      have r1 := hA.wf z1 (by simp)
      have r2 := hA.wf z2 (by simp)
      obtain ⟨c2, hc2, hl2⟩ := left_lt (x := z2) (n := 8) (by omega)
      rcases two_masks (p := 254) (q := 1) (by decide) hc2 with hb2 | hb2
      · skip
        exact eff_row l0 u0 hA 3 rfl [0, 0, 270] (ways_of rfl) (by decide) ⟨sym_all r0, sym_all r1, sym_mask r2 hc2 hl2 hb2, trivial⟩ 11 (by decide) hl eff_11_3_0 (by simp only [and_self])
      · skip
        obtain ⟨c1, hc1, hl1⟩ := left_lt (x := z1) (n := 8) (by omega)
        exact eff_row l0 u0 hA 3 rfl [0, 271, 17] (ways_of rfl) (by decide) ⟨sym_all r0, sym_mask r1 hc1 hl1 (bit255 _ hc1), sym_mask r2 hc2 hl2 hb2, trivial⟩ 11 (by decide) hl eff_11_3_1 (by simp only [and_self])
    | [z0, z1, z2, z3], hA =>
      have r0 := hA.wf z0 (by simp)
      have r1 := hA.wf z1 (by simp)
      have r2 := hA.wf z2 (by simp)
      have r3 := hA.wf z3 (by simp)
      obtain ⟨c3, hc3, hl3⟩ := left_lt (x := z3) (n := 8) (by omega)
      rcases two_masks (p := 254) (q := 1) (by decide) hc3 with hb3 | hb3
      · skip
        exact eff_row l0 u0 hA 4 rfl [0, 0, 0, 270] (ways_of rfl) (by decide) ⟨sym_all r0, sym_all r1, sym_all r2, sym_mask r3 hc3 hl3 hb3, trivial⟩ 11 (by decide) hl eff_11_4_0 (by simp only [and_self])
      · skip
        obtain ⟨c2, hc2, hl2⟩ := left_lt (x := z2) (n := 8) (by omega)
        exact eff_row l0 u0 hA 4 rfl [0, 0, 271, 17] (ways_of rfl) (by decide) ⟨sym_all r0, sym_all r1, sym_mask r2 hc2 hl2 (bit255 _ hc2), sym_mask r3 hc3 hl3 hb3, trivial⟩ 11 (by decide) hl eff_11_4_1 (by simp only [and_self])
    | z0 :: z1 :: z2 :: z3 :: z4 :: zs, hA =>
      have r0 := hA.wf z0 (by simp)
      have r1 := hA.wf z1 (by simp)
      have r2 := hA.wf z2 (by simp)
      have r3 := hA.wf z3 (by simp)
      obtain ⟨c3, hc3, hl3⟩ := left_lt (x := z3) (n := 8) (by omega)
      rcases two_masks (p := 254) (q := 1) (by decide) hc3 with hb3 | hb3
      · skip
        exact eff_long l0 u0 hA (by simp only [LONG, List.length_cons]; omega) [0, 0, 0, 270] (ways_of rfl) (by decide) ⟨sym_all r0, sym_all r1, sym_all r2, sym_mask r3 hc3 hl3 hb3, trivial⟩ 11 (by decide) hl eff_11_5_0 (by simp only [and_self])
      · skip
        obtain ⟨c2, hc2, hl2⟩ := left_lt (x := z2) (n := 8) (by omega)
        exact eff_long l0 u0 hA (by simp only [LONG, List.length_cons]; omega) [0, 0, 271, 17] (ways_of rfl) (by decide) ⟨sym_all r0, sym_all r1, sym_mask r2 hc2 hl2 (bit255 _ hc2), sym_mask r3 hc3 hl3 hb3, trivial⟩ 11 (by decide) hl eff_11_5_1 (by simp only [and_self])
theorem eff_op12 (l0 : -9223372036854775808 ≤ x0) (u0 : x0 < 9223372036854775808) (hl : left x0 (46 : Nat) = ((12 : Nat) : Int)) {v : Value} (hv : v = .slice none 0 0 ∨ (∃ a c, v = .slice (some a) 0 c) ∨ ∃ A, LiAt w A ∧ v = .slice (some ⟨A.b, A.off, none⟩) A.zs.length A.cap) : Calls Tryz.prog 3 #[.int .i64 x0, v] w fun e w' => e = .returned (.bool true) ∧ Below w.heap.size w w' := by
  rcases hv with rfl | ⟨a, cap, rfl⟩ | ⟨⟨b, off, cap, zs⟩, hA, rfl⟩
  · exact eff_nil l0 u0 12 (by decide) hl eff_12_nil trivial
  · exact eff_emp l0 u0 12 (by decide) hl eff_12_emp trivial
  · match zs, hA with
    | [], hA => exact absurd hA.some (by simp)
    | [z0], hA =>
      have r0 := hA.wf z0 (by simp)
      obtain ⟨c0, hc0, hl0⟩ := left_lt (x := z0) (n := 8) (by omega)
      exact eff_row l0 u0 hA 1 rfl [271] (ways_of rfl) (by decide) ⟨sym_mask r0 hc0 hl0 (bit255 _ hc0), trivial⟩ 12 (by decide) hl eff_12_1_0 (by simp only [and_self])
    | [z0, z1], hA =>
      have r0 := hA.wf z0 (by simp)
      have r1 := hA.wf z1 (by simp)
      obtain ⟨c1, hc1, hl1⟩ := left_lt (x := z1) (n := 8) (by omega)
      rcases two_masks (p := 254) (q := 1) (by decide) hc1 with hb1 | hb1
      · skip
        exact eff_row l0 u0 hA 2 rfl [0, 270] (ways_of rfl) (by decide) ⟨sym_all r0, sym_mask r1 hc1 hl1 hb1, trivial⟩ 12 (by decide) hl eff_12_2_0 (by simp only [and_self])
      · skip
        obtain ⟨c0, hc0, hl0⟩ := left_lt (x := z0) (n := 8) (by omega)
        exact eff_row l0 u0 hA 2 rfl [271, 17] (ways_of rfl) (by decide) ⟨sym_mask r0 hc0 hl0 (bit255 _ hc0), sym_mask r1 hc1 hl1 hb1, trivial⟩ 12 (by decide) hl eff_12_2_1 (by simp only [and_self])
    | [z0, z1, z2], hA =>
      have r0 := hA.wf z0 (by simp)
      have r1 := hA.wf z1 (by simp)
      have r2 := hA.wf z2 (by simp)
      obtain ⟨c2, hc2, hl2⟩ := left_lt (x := z2) (n := 8) (by omega)
      rcases two_masks (p := 254) (q := 1) (by decide) hc2 with hb2 | hb2
      · skip
        exact eff_row l0 u0 hA 3 rfl [0, 0, 270] (ways_of rfl) (by decide) ⟨sym_all r0, sym_all r1, sym_mask r2 hc2 hl2 hb2, trivial⟩ 12 (by decide) hl eff_12_3_0 (by simp only [and_self])
      · skip
        obtain ⟨c1, hc1, hl1⟩ := left_lt (x := z1) (n := 8) (by omega)
        exact eff_row l0 u0 hA 3 rfl [0, 271, 17] (ways_of rfl) (by decide) ⟨sym_all r0, sym_mask r1 hc1 hl1 (bit255 _ hc1), sym_mask r2 hc2 hl2 hb2, trivial⟩ 12 (by decide) hl eff_12_3_1 (by simp only [and_self])
    | [z0, z1, z2, z3], hA =>
      have r0 := hA.wf z0 (by simp)
      have r1 := hA.wf z1 (by simp)
      have r2 := hA.wf z2 (by simp)
      have r3 := hA.wf z3 (by simp)
      obtain ⟨c3, hc3, hl3⟩ := left_lt (x := z3) (n := 8) (by omega)
      rcases two_masks (p := 254) (q := 1) (by decide) hc3 with hb3 | hb3
      · skip
        exact eff_row l0 u0 hA 4 rfl [0, 0, 0, 270] (ways_of rfl) (by decide) ⟨sym_all r0, sym_all r1, sym_all r2, sym_mask r3 hc3 hl3 hb3, trivial⟩ 12 (by decide) hl eff_12_4_0 (by simp only [and_self])
      · skip
        obtain ⟨c2, hc2, hl2⟩ := left_lt (x := z2) (n := 8) (by omega)
        exact eff_row l0 u0 hA 4 rfl [0, 0, 271, 17] (ways_of rfl) (by decide) ⟨sym_all r0, sym_all r1, sym_mask r2 hc2 hl2 (bit255 _ hc2), sym_mask r3 hc3 hl3 hb3, trivial⟩ 12 (by decide) hl eff_12_4_1 (by simp only [and_self])
    | z0 :: z1 :: z2 :: z3 :: z4 :: zs, hA =>
      have r0 := hA.wf z0 (by simp)
      have r1 := hA.wf z1 (by simp)
      have r2 := hA.wf z2 (by simp)
      have r3 := hA.wf z3 (by simp)
      obtain ⟨c3, hc3, hl3⟩ := left_lt (x := z3) (n := 8) (by omega)
      rcases two_masks (p := 254) (q := 1) (by decide) hc3 with hb3 | hb3
      · skip
        exact eff_long l0 u0 hA (by simp only [LONG, List.length_cons]; omega) [0, 0, 0, 270] (ways_of rfl) (by decide) ⟨sym_all r0, sym_all r1, sym_all r2, sym_mask r3 hc3 hl3 hb3, trivial⟩ 12 (by decide) hl eff_12_5_0 (by simp only [and_self])
      · skip
        obtain ⟨c2, hc2, hl2⟩ := left_lt (x := z2) (n := 8) (by omega)
        exact eff_long l0 u0 hA (by simp only [LONG, List.length_cons]; omega) [0, 0, 271, 17] (ways_of rfl) (by decide) ⟨sym_all r0, sym_all r1, sym_mask r2 hc2 hl2 (bit255 _ hc2), sym_mask r3 hc3 hl3 hb3, trivial⟩ 12 (by decide) hl eff_12_5_1 (by simp only [and_self])
theorem eff_op13 (l0 : -9223372036854775808 ≤ x0) (u0 : x0 < 9223372036854775808) (hl : left x0 (46 : Nat) = ((13 : Nat) : Int)) {v : Value} (hv : v = .slice none 0 0 ∨ (∃ a c, v = .slice (some a) 0 c) ∨ ∃ A, LiAt w A ∧ v = .slice (some ⟨A.b, A.off, none⟩) A.zs.length A.cap) : Calls Tryz.prog 3 #[.int .i64 x0, v] w fun e w' => e = .returned (.bool true) ∧ Below w.heap.size w w' := by
  rcases hv with rfl | ⟨a, cap, rfl⟩ | ⟨⟨b, off, cap, zs⟩, hA, rfl⟩
  · exact eff_nil l0 u0 13 (by decide) hl eff_13_nil trivial
  · exact eff_emp l0 u0 13 (by decide) hl eff_13_emp trivial
  · match zs, hA with
    | [], hA => exact absurd hA.some (by simp)
    | [z0], hA =>
      have r0 := hA.wf z0 (by simp)
      obtain ⟨c0, hc0, hl0⟩ := left_lt (x := z0) (n := 8) (by omega)
      exact eff_row l0 u0 hA 1 rfl [271] (ways_of rfl) (by decide) ⟨sym_mask r0 hc0 hl0 (bit255 _ hc0), trivial⟩ 13 (by decide) hl eff_13_1_0 (by simp only [and_self])
    | [z0, z1], hA =>
      have r0 := hA.wf z0 (by simp)
      have r1 := hA.wf z1 (by simp)
      obtain ⟨c1, hc1, hl1⟩ := left_lt (x := z1) (n := 8) (by omega)
      exact eff_row l0 u0 hA 2 rfl [0, 271] (ways_of rfl) (by decide) ⟨sym_all r0, sym_mask r1 hc1 hl1 (bit255 _ hc1), trivial⟩ 13 (by decide) hl eff_13_2_0 (by simp only [and_self])
    | [z0, z1, z2], hA =>
      have r0 := hA.wf z0 (by simp)
      have r1 := hA.wf z1 (by simp)
      have r2 := hA.wf z2 (by simp)
      obtain ⟨c2, hc2, hl2⟩ := left_lt (x := z2) (n := 8) (by omega)
      exact eff_row l0 u0 hA 3 rfl [0, 0, 271] (ways_of rfl) (by decide) ⟨sym_all r0, sym_all r1, sym_mask r2 hc2 hl2 (bit255 _ hc2), trivial⟩ 13 (by decide) hl eff_13_3_0 (by simp only [and_self])
    | [z0, z1, z2, z3], hA =>
      have r0 := hA.wf z0 (by simp)
      have r1 := hA.wf z1 (by simp)
      have r2 := hA.wf z2 (by simp)
      have r3 := hA.wf z3 (by simp)
      obtain ⟨c3, hc3, hl3⟩ := left_lt (x := z3) (n := 8) (by omega)
      exact eff_row l0 u0 hA 4 rfl [0, 0, 0, 271] (ways_of rfl) (by decide) ⟨sym_all r0, sym_all r1, sym_all r2, sym_mask r3 hc3 hl3 (bit255 _ hc3), trivial⟩ 13 (by decide) hl eff_13_4_0 (by simp only [and_self])
    | z0 :: z1 :: z2 :: z3 :: z4 :: zs, hA =>
      have r0 := hA.wf z0 (by simp)
      have r1 := hA.wf z1 (by simp)
      have r2 := hA.wf z2 (by simp)
      have r3 := hA.wf z3 (by simp)
      obtain ⟨c3, hc3, hl3⟩ := left_lt (x := z3) (n := 8) (by omega)
      exact eff_long l0 u0 hA (by simp only [LONG, List.length_cons]; omega) [0, 0, 0, 271] (ways_of rfl) (by decide) ⟨sym_all r0, sym_all r1, sym_all r2, sym_mask r3 hc3 hl3 (bit255 _ hc3), trivial⟩ 13 (by decide) hl eff_13_5_0 (by simp only [and_self])
theorem eff_op14 (l0 : -9223372036854775808 ≤ x0) (u0 : x0 < 9223372036854775808) (hl : left x0 (46 : Nat) = ((14 : Nat) : Int)) {v : Value} (hv : v = .slice none 0 0 ∨ (∃ a c, v = .slice (some a) 0 c) ∨ ∃ A, LiAt w A ∧ v = .slice (some ⟨A.b, A.off, none⟩) A.zs.length A.cap) : Calls Tryz.prog 3 #[.int .i64 x0, v] w fun e w' => e = .returned (.bool true) ∧ Below w.heap.size w w' := by
  rcases hv with rfl | ⟨a, cap, rfl⟩ | ⟨⟨b, off, cap, zs⟩, hA, rfl⟩
  · exact eff_nil l0 u0 14 (by decide) hl eff_14_nil trivial
  · exact eff_emp l0 u0 14 (by decide) hl eff_14_emp trivial
  · match zs, hA with
    | [], hA => exact absurd hA.some (by simp)
    | [z0], hA =>
      have r0 := hA.wf z0 (by simp)
      obtain ⟨c0, hc0, hl0⟩ := left_lt (x := z0) (n := 8) (by omega)
      exact eff_row l0 u0 hA 1 rfl [271] (ways_of rfl) (by decide) ⟨sym_mask r0 hc0 hl0 (bit255 _ hc0), trivial⟩ 14 (by decide) hl eff_14_1_0 (by simp only [and_self])
    | [z0, z1], hA =>
      have r0 := hA.wf z0 (by simp)
      have r1 := hA.wf z1 (by simp)
      obtain ⟨c1, hc1, hl1⟩ := left_lt (x := z1) (n := 8) (by omega)
      rcases two_masks (p := 254) (q := 1) (by decide) hc1 with hb1 | hb1
      · skip
        exact eff_row l0 u0 hA 2 rfl [0, 270] (ways_of rfl) (by decide) ⟨sym_all r0, sym_mask r1 hc1 hl1 hb1, trivial⟩ 14 (by decide) hl eff_14_2_0 (by simp only [and_self])
      · skip
        obtain ⟨c0, hc0, hl0⟩ := left_lt (x := z0) (n := 8) (by omega)
        exact eff_row l0 u0 hA 2 rfl [271, 17] (ways_of rfl) (by decide) ⟨sym_mask r0 hc0 hl0 (bit255 _ hc0), sym_mask r1 hc1 hl1 hb1, trivial⟩ 14 (by decide) hl eff_14_2_1 (by simp only [and_self])
    | [z0, z1, z2], hA =>
      have r0 := hA.wf z0 (by simp)
      have r1 := hA.wf z1 (by simp)
      have r2 := hA.wf z2 (by simp)
      obtain ⟨c2, hc2, hl2⟩ := left_lt (x := z2) (n := 8) (by omega)
      rcases two_masks (p := 254) (q := 1) (by decide) hc2 with hb2 | hb2
      · skip
        exact eff_row l0 u0 hA 3 rfl [0, 0, 270] (ways_of rfl) (by decide) ⟨sym_all r0, sym_all r1, sym_mask r2 hc2 hl2 hb2, trivial⟩ 14 (by decide) hl eff_14_3_0 (by simp only [and_self])
      · skip
        obtain ⟨c1, hc1, hl1⟩ := left_lt (x := z1) (n := 8) (by omega)
        exact eff_row l0 u0 hA 3 rfl [0, 271, 17] (ways_of rfl) (by decide) ⟨sym_all r0, sym_mask r1 hc1 hl1 (bit255 _ hc1), sym_mask r2 hc2 hl2 hb2, trivial⟩ 14 (by decide) hl eff_14_3_1 (by simp only [and_self])
    | [z0, z1, z2, z3], hA =>
      have r0 := hA.wf z0 (by simp)
      have r1 := hA.wf z1 (by simp)
      have r2 := hA.wf z2 (by simp)
      have r3 := hA.wf z3 (by simp)
      obtain ⟨c3, hc3, hl3⟩ := left_lt (x := z3) (n := 8) (by omega)
      rcases two_masks (p := 254) (q := 1) (by decide) hc3 with hb3 | hb3
      · skip
        exact eff_row l0 u0 hA 4 rfl [0, 0, 0, 270] (ways_of rfl) (by decide) ⟨sym_all r0, sym_all r1, sym_all r2, sym_mask r3 hc3 hl3 hb3, trivial⟩ 14 (by decide) hl eff_14_4_0 (by simp only [and_self])
      · skip
        obtain ⟨c2, hc2, hl2⟩ := left_lt (x := z2) (n := 8) (by omega)
        exact eff_row l0 u0 hA 4 rfl [0, 0, 271, 17] (ways_of rfl) (by decide) ⟨sym_all r0, sym_all r1, sym_mask r2 hc2 hl2 (bit255 _ hc2), sym_mask r3 hc3 hl3 hb3, trivial⟩ 14 (by decide) hl eff_14_4_1 (by simp only [and_self])
    | z0 :: z1 :: z2 :: z3 :: z4 :: zs, hA =>
      have r0 := hA.wf z0 (by simp)
      have r1 := hA.wf z1 (by simp)
      have r2 := hA.wf z2 (by simp)
      have r3 := hA.wf z3 (by simp)
      obtain ⟨c3, hc3, hl3⟩ := left_lt (x := z3) (n := 8) (by omega)
      rcases two_masks (p := 254) (q := 1) (by decide) hc3 with hb3 | hb3
      · skip
        exact eff_long l0 u0 hA (by simp only [LONG, List.length_cons]; omega) [0, 0, 0, 270] (ways_of rfl) (by decide) ⟨sym_all r0, sym_all r1, sym_all r2, sym_mask r3 hc3 hl3 hb3, trivial⟩ 14 (by decide) hl eff_14_5_0 (by simp only [and_self])
      · skip
        obtain ⟨c2, hc2, hl2⟩ := left_lt (x := z2) (n := 8) (by omega)
        exact eff_long l0 u0 hA (by simp only [LONG, List.length_cons]; omega) [0, 0, 271, 17] (ways_of rfl) (by decide) ⟨sym_all r0, sym_all r1, sym_mask r2 hc2 hl2 (bit255 _ hc2), sym_mask r3 hc3 hl3 hb3, trivial⟩ 14 (by decide) hl eff_14_5_1 (by simp only [and_self])
theorem eff_op15 (l0 : -9223372036854775808 ≤ x0) (u0 : x0 < 9223372036854775808) (hl : left x0 (46 : Nat) = ((15 : Nat) : Int)) {v : Value} (hv : v = .slice none 0 0 ∨ (∃ a c, v = .slice (some a) 0 c) ∨ ∃ A, LiAt w A ∧ v = .slice (some ⟨A.b, A.off, none⟩) A.zs.length A.cap) : Calls Tryz.prog 3 #[.int .i64 x0, v] w fun e w' => e = .returned (.bool true) ∧ Below w.heap.size w w' := by
  rcases hv with rfl | ⟨a, cap, rfl⟩ | ⟨⟨b, off, cap, zs⟩, hA, rfl⟩
  · exact eff_nil l0 u0 15 (by decide) hl eff_15_nil trivial
  · exact eff_emp l0 u0 15 (by decide) hl eff_15_emp trivial
  · match zs, hA with
    | [], hA => exact absurd hA.some (by simp)
    | [z0], hA =>
      have r0 := hA.wf z0 (by simp)
      obtain ⟨c0, hc0, hl0⟩ := left_lt (x := z0) (n := 8) (by omega)
      exact eff_row l0 u0 hA 1 rfl [271] (ways_of rfl) (by decide) ⟨sym_mask r0 hc0 hl0 (bit255 _ hc0), trivial⟩ 15 (by decide) hl eff_15_1_0 (by simp only [and_self])
    | [z0, z1], hA =>
      have r0 := hA.wf z0 (by simp)
      have r1 := hA.wf z1 (by simp)
      obtain ⟨c1, hc1, hl1⟩ := left_lt (x := z1) (n := 8) (by omega)
      rcases two_masks (p := 254) (q := 1) (by decide) hc1 with hb1 | hb1
      · skip
        exact eff_row l0 u0 hA 2 rfl [0, 270] (ways_of rfl) (by decide) ⟨sym_all r0, sym_mask r1 hc1 hl1 hb1, trivial⟩ 15 (by decide) hl eff_15_2_0 (by simp only [and_self])
      · skip
        obtain ⟨c0, hc0, hl0⟩ := left_lt (x := z0) (n := 8) (by omega)
        exact eff_row l0 u0 hA 2 rfl [271, 17] (ways_of rfl) (by decide) ⟨sym_mask r0 hc0 hl0 (bit255 _ hc0), sym_mask r1 hc1 hl1 hb1, trivial⟩ 15 (by decide) hl eff_15_2_1 (by simp only [and_self])
    | [z0, z1, z2], hA =>
      have r0 := hA.wf z0 (by simp)
      have r1 := hA.wf z1 (by simp)
      have r2 := hA.wf z2 (by simp)
      obtain ⟨c2, hc2, hl2⟩ := left_lt (x := z2) (n := 8) (by omega)
      rcases two_masks (p := 254) (q := 1) (by decide) hc2 with hb2 | hb2
      · skip
        exact eff_row l0 u0 hA 3 rfl [0, 0, 270] (ways_of rfl) (by decide) ⟨sym_all r0, sym_all r1, sym_mask r2 hc2 hl2 hb2, trivial⟩ 15 (by decide) hl eff_15_3_0 (by simp only [and_self])
      · skip
        obtain ⟨c1, hc1, hl1⟩ := left_lt (x := z1) (n := 8) (by omega)
        exact eff_row l0 u0 hA 3 rfl [0, 271, 17] (ways_of rfl) (by decide) ⟨sym_all r0, sym_mask r1 hc1 hl1 (bit255 _ hc1), sym_mask r2 hc2 hl2 hb2, trivial⟩ 15 (by decide) hl eff_15_3_1 (by simp only [and_self])
    | [z0, z1, z2, z3], hA =>
      have r0 := hA.wf z0 (by simp)
      have r1 := hA.wf z1 (by simp)
      have r2 := hA.wf z2 (by simp)
      have r3 := hA.wf z3 (by simp)
      obtain ⟨c3, hc3, hl3⟩ := left_lt (x := z3) (n := 8) (by omega)
      rcases two_masks (p := 254) (q := 1) (by decide) hc3 with hb3 | hb3
      · skip
        exact eff_row l0 u0 hA 4 rfl [0, 0, 0, 270] (ways_of rfl) (by decide) ⟨sym_all r0, sym_all r1, sym_all r2, sym_mask r3 hc3 hl3 hb3, trivial⟩ 15 (by decide) hl eff_15_4_0 (by simp only [and_self])
      · skip
        obtain ⟨c2, hc2, hl2⟩ := left_lt (x := z2) (n := 8) (by omega)
        exact eff_row l0 u0 hA 4 rfl [0, 0, 271, 17] (ways_of rfl) (by decide) ⟨sym_all r0, sym_all r1, sym_mask r2 hc2 hl2 (bit255 _ hc2), sym_mask r3 hc3 hl3 hb3, trivial⟩ 15 (by decide) hl eff_15_4_1 (by simp only [and_self])
    | z0 :: z1 :: z2 :: z3 :: z4 :: zs, hA =>
      have r0 := hA.wf z0 (by simp)
      have r1 := hA.wf z1 (by simp)
      have r2 := hA.wf z2 (by simp)
      have r3 := hA.wf z3 (by simp)
      obtain ⟨c3, hc3, hl3⟩ := left_lt (x := z3) (n := 8) (by omega)
      rcases two_masks (p := 254) (q := 1) (by decide) hc3 with hb3 | hb3
      · skip
        exact eff_long l0 u0 hA (by simp only [LONG, List.length_cons]; omega) [0, 0, 0, 270] (ways_of rfl) (by decide) ⟨sym_all r0, sym_all r1, sym_all r2, sym_mask r3 hc3 hl3 hb3, trivial⟩ 15 (by decide) hl eff_15_5_0 (by simp only [and_self])
      · skip
        obtain ⟨c2, hc2, hl2⟩ := left_lt (x := z2) (n := 8) (by omega)
        exact eff_long l0 u0 hA (by simp only [LONG, List.length_cons]; omega) [0, 0, 271, 17] (ways_of rfl) (by decide) ⟨sym_all r0, sym_all r1, sym_mask r2 hc2 hl2 (bit255 _ hc2), sym_mask r3 hc3 hl3 hb3, trivial⟩ 15 (by decide) hl eff_15_5_1 (by simp only [and_self])
theorem eff_op16 (l0 : -9223372036854775808 ≤ x0) (u0 : x0 < 9223372036854775808) (hl : left x0 (46 : Nat) = ((16 : Nat) : Int)) {v : Value} (hv : v = .slice none 0 0 ∨ (∃ a c, v = .slice (some a) 0 c) ∨ ∃ A, LiAt w A ∧ v = .slice (some ⟨A.b, A.off, none⟩) A.zs.length A.cap) : Calls Tryz.prog 3 #[.int .i64 x0, v] w fun e w' => e = .returned (.bool true) ∧ Below w.heap.size w w' := by
  rcases hv with rfl | ⟨a, cap, rfl⟩ | ⟨⟨b, off, cap, zs⟩, hA, rfl⟩
  · exact eff_nil l0 u0 16 (by decide) hl eff_16_nil trivial
  · exact eff_emp l0 u0 16 (by decide) hl eff_16_emp trivial
  · match zs, hA with
    | [], hA => exact absurd hA.some (by simp)
    | [z0], hA =>
      have r0 := hA.wf z0 (by simp)
      obtain ⟨c0, hc0, hl0⟩ := left_lt (x := z0) (n := 8) (by omega)
      exact eff_row l0 u0 hA 1 rfl [271] (ways_of rfl) (by decide) ⟨sym_mask r0 hc0 hl0 (bit255 _ hc0), trivial⟩ 16 (by decide) hl eff_16_1_0 (by simp only [and_self])
    | [z0, z1], hA =>
      have r0 := hA.wf z0 (by simp)
      have r1 := hA.wf z1 (by simp)
      obtain ⟨c1, hc1, hl1⟩ := left_lt (x := z1) (n := 8) (by omega)
      rcases two_masks (p := 254) (q := 1) (by decide) hc1 with hb1 | hb1
      · skip
        exact eff_row l0 u0 hA 2 rfl [0, 270] (ways_of rfl) (by decide) ⟨sym_all r0, sym_mask r1 hc1 hl1 hb1, trivial⟩ 16 (by decide) hl eff_16_2_0 (by simp only [and_self])
      · skip
        obtain ⟨c0, hc0, hl0⟩ := left_lt (x := z0) (n := 8) (by omega)
        exact eff_row l0 u0 hA 2 rfl [271, 17] (ways_of rfl) (by decide) ⟨sym_mask r0 hc0 hl0 (bit255 _ hc0), sym_mask r1 hc1 hl1 hb1, trivial⟩ 16 (by decide) hl eff_16_2_1 (by simp only [and_self])
    | [z0, z1, z2], hA =>
      have r0 := hA.wf z0 (by simp)
      have r1 := hA.wf z1 (by simp)
      have r2 := hA.wf z2 (by simp)
      obtain ⟨c2, hc2, hl2⟩ := left_lt (x := z2) (n := 8) (by omega)
      rcases two_masks (p := 254) (q := 1) (by decide) hc2 with hb2 | hb2
      · skip
        exact eff_row l0 u0 hA 3 rfl [0, 0, 270] (ways_of rfl) (by decide) ⟨sym_all r0, sym_all r1, sym_mask r2 hc2 hl2 hb2, trivial⟩ 16 (by decide) hl eff_16_3_0 (by simp only [and_self])
      · skip
        obtain ⟨c1, hc1, hl1⟩ := left_lt (x := z1) (n := 8) (by omega)
        exact eff_row l0 u0 hA 3 rfl [0, 271, 17] (ways_of rfl) (by decide) ⟨sym_all r0, sym_mask r1 hc1 hl1 (bit255 _ hc1), sym_mask r2 hc2 hl2 hb2, trivial⟩ 16 (by decide) hl eff_16_3_1 (by simp only [and_self])
    | [z0, z1, z2, z3], hA =>
      have r0 := hA.wf z0 (by simp)
      have r1 := hA.wf z1 (by simp)
      have r2 := hA.wf z2 (by simp)
      have r3 := hA.wf z3 (by simp)
      obtain ⟨c3, hc3, hl3⟩ := left_lt (x := z3) (n := 8) (by omega)
      rcases two_masks (p := 254) (q := 1) (by decide) hc3 with hb3 | hb3
      · skip
        exact eff_row l0 u0 hA 4 rfl [0, 0, 0, 270] (ways_of rfl) (by decide) ⟨sym_all r0, sym_all r1, sym_all r2, sym_mask r3 hc3 hl3 hb3, trivial⟩ 16 (by decide) hl eff_16_4_0 (by simp only [and_self])
      · skip
        obtain ⟨c2, hc2, hl2⟩ := left_lt (x := z2) (n := 8) (by omega)
        exact eff_row l0 u0 hA 4 rfl [0, 0, 271, 17] (ways_of rfl) (by decide) ⟨sym_all r0, sym_all r1, sym_mask r2 hc2 hl2 (bit255 _ hc2), sym_mask r3 hc3 hl3 hb3, trivial⟩ 16 (by decide) hl eff_16_4_1 (by simp only [and_self])
    | z0 :: z1 :: z2 :: z3 :: z4 :: zs, hA =>
      have r0 := hA.wf z0 (by simp)
      have r1 := hA.wf z1 (by simp)
      have r2 := hA.wf z2 (by simp)
      have r3 := hA.wf z3 (by simp)
      obtain ⟨c3, hc3, hl3⟩ := left_lt (x := z3) (n := 8) (by omega)
      rcases two_masks (p := 254) (q := 1) (by decide) hc3 with hb3 | hb3
      · skip
        exact eff_long l0 u0 hA (by simp only [LONG, List.length_cons]; omega) [0, 0, 0, 270] (ways_of rfl) (by decide) ⟨sym_all r0, sym_all r1, sym_all r2, sym_mask r3 hc3 hl3 hb3, trivial⟩ 16 (by decide) hl eff_16_5_0 (by simp only [and_self])
      · skip
        obtain ⟨c2, hc2, hl2⟩ := left_lt (x := z2) (n := 8) (by omega)
        exact eff_long l0 u0 hA (by simp only [LONG, List.length_cons]; omega) [0, 0, 271, 17] (ways_of rfl) (by decide) ⟨sym_all r0, sym_all r1, sym_mask r2 hc2 hl2 (bit255 _ hc2), sym_mask r3 hc3 hl3 hb3, trivial⟩ 16 (by decide) hl eff_16_5_1 (by simp only [and_self])
theorem eff_op17 (l0 : -9223372036854775808 ≤ x0) (u0 : x0 < 9223372036854775808) (hl : left x0 (46 : Nat) = ((17 : Nat) : Int)) {v : Value} (hv : v = .slice none 0 0 ∨ (∃ a c, v = .slice (some a) 0 c) ∨ ∃ A, LiAt w A ∧ v = .slice (some ⟨A.b, A.off, none⟩) A.zs.length A.cap) : Calls Tryz.prog 3 #[.int .i64 x0, v] w fun e w' => e = .returned (.bool true) ∧ Below w.heap.size w w' := by
  rcases hv with rfl | ⟨a, cap, rfl⟩ | ⟨⟨b, off, cap, zs⟩, hA, rfl⟩
  · exact eff_nil l0 u0 17 (by decide) hl eff_17_nil trivial
  · exact eff_emp l0 u0 17 (by decide) hl eff_17_emp trivial
  · match zs, hA with
    | [], hA => exact absurd hA.some (by simp)
    | [z0], hA =>
      have r0 := hA.wf z0 (by simp)
      obtain ⟨c0, hc0, hl0⟩ := left_lt (x := z0) (n := 8) (by omega)
      exact eff_row l0 u0 hA 1 rfl [271] (ways_of rfl) (by decide) ⟨sym_mask r0 hc0 hl0 (bit255 _ hc0), trivial⟩ 17 (by decide) hl eff_17_1_0 (by simp only [and_self])
    | [z0, z1], hA =>
      have r0 := hA.wf z0 (by simp)
      have r1 := hA.wf z1 (by simp)
      obtain ⟨c1, hc1, hl1⟩ := left_lt (x := z1) (n := 8) (by omega)
      rcases two_masks (p := 254) (q := 1) (by decide) hc1 with hb1 | hb1
      · skip
        exact eff_row l0 u0 hA 2 rfl [0, 270] (ways_of rfl) (by decide) ⟨sym_all r0, sym_mask r1 hc1 hl1 hb1, trivial⟩ 17 (by decide) hl eff_17_2_0 (by simp only [and_self])
      · skip
        obtain ⟨c0, hc0, hl0⟩ := left_lt (x := z0) (n := 8) (by omega)
        exact eff_row l0 u0 hA 2 rfl [271, 17] (ways_of rfl) (by decide) ⟨sym_mask r0 hc0 hl0 (bit255 _ hc0), sym_mask r1 hc1 hl1 hb1, trivial⟩ 17 (by decide) hl eff_17_2_1 (by simp only [and_self])
    | [z0, z1, z2], hA =>
      have r0 := hA.wf z0 (by simp)
      have r1 := hA.wf z1 (by simp)
      have r2 := hA.wf z2 (by simp)
      obtain ⟨c2, hc2, hl2⟩ := left_lt (x := z2) (n := 8) (by omega)
      rcases two_masks (p := 254) (q := 1) (by decide) hc2 with hb2 | hb2
      · skip
        exact eff_row l0 u0 hA 3 rfl [0, 0, 270] (ways_of rfl) (by decide) ⟨sym_all r0, sym_all r1, sym_mask r2 hc2 hl2 hb2, trivial⟩ 17 (by decide) hl eff_17_3_0 (by simp only [and_self])
      · skip
        obtain ⟨c1, hc1, hl1⟩ := left_lt (x := z1) (n := 8) (by omega)
        exact eff_row l0 u0 hA 3 rfl [0, 271, 17] (ways_of rfl) (by decide) ⟨sym_all r0, sym_mask r1 hc1 hl1 (bit255 _ hc1), sym_mask r2 hc2 hl2 hb2, trivial⟩ 17 (by decide) hl eff_17_3_1 (by simp only [and_self])
    | [z0, z1, z2, z3], hA =>
      have r0 := hA.wf z0 (by simp)
      have r1 := hA.wf z1 (by simp)
      have r2 := hA.wf z2 (by simp)
      have r3 := hA.wf z3 (by simp)
      obtain ⟨c3, hc3, hl3⟩ := left_lt (x := z3) (n := 8) (by omega)
      rcases two_masks (p := 254) (q := 1) (by decide) hc3 with hb3 | hb3
      · skip
        exact eff_row l0 u0 hA 4 rfl [0, 0, 0, 270] (ways_of rfl) (by decide) ⟨sym_all r0, sym_all r1, sym_all r2, sym_mask r3 hc3 hl3 hb3, trivial⟩ 17 (by decide) hl eff_17_4_0 (by simp only [and_self])
      · skip
        obtain ⟨c2, hc2, hl2⟩ := left_lt (x := z2) (n := 8) (by omega)
        exact eff_row l0 u0 hA 4 rfl [0, 0, 271, 17] (ways_of rfl) (by decide) ⟨sym_all r0, sym_all r1, sym_mask r2 hc2 hl2 (bit255 _ hc2), sym_mask r3 hc3 hl3 hb3, trivial⟩ 17 (by decide) hl eff_17_4_1 (by simp only [and_self])
    | z0 :: z1 :: z2 :: z3 :: z4 :: zs, hA =>
      have r0 := hA.wf z0 (by simp)
      have r1 := hA.wf z1 (by simp)
      have r2 := hA.wf z2 (by simp)
      have r3 := hA.wf z3 (by simp)
      obtain ⟨c3, hc3, hl3⟩ := left_lt (x := z3) (n := 8) (by omega)
      rcases two_masks (p := 254) (q := 1) (by decide) hc3 with hb3 | hb3
      · skip
        exact eff_long l0 u0 hA (by simp only [LONG, List.length_cons]; omega) [0, 0, 0, 270] (ways_of rfl) (by decide) ⟨sym_all r0, sym_all r1, sym_all r2, sym_mask r3 hc3 hl3 hb3, trivial⟩ 17 (by decide) hl eff_17_5_0 (by simp only [and_self])
      · skip
        obtain ⟨c2, hc2, hl2⟩ := left_lt (x := z2) (n := 8) (by omega)
        exact eff_long l0 u0 hA (by simp only [LONG, List.length_cons]; omega) [0, 0, 271, 17] (ways_of rfl) (by decide) ⟨sym_all r0, sym_all r1, sym_mask r2 hc2 hl2 (bit255 _ hc2), sym_mask r3 hc3 hl3 hb3, trivial⟩ 17 (by decide) hl eff_17_5_1 (by simp only [and_self])
theorem eff_op18 (l0 : -9223372036854775808 ≤ x0) (u0 : x0 < 9223372036854775808) (hl : left x0 (46 : Nat) = ((18 : Nat) : Int)) {v : Value} (hv : v = .slice none 0 0 ∨ (∃ a c, v = .slice (some a) 0 c) ∨ ∃ A, LiAt w A ∧ v = .slice (some ⟨A.b, A.off, none⟩) A.zs.length A.cap) : Calls Tryz.prog 3 #[.int .i64 x0, v] w fun e w' => e = .returned (.bool true) ∧ Below w.heap.size w w' := by
  rcases hv with rfl | ⟨a, cap, rfl⟩ | ⟨⟨b, off, cap, zs⟩, hA, rfl⟩
  · exact eff_nil l0 u0 18 (by decide) hl eff_18_nil trivial
  · exact eff_emp l0 u0 18 (by decide) hl eff_18_emp trivial
  · match zs, hA with
    | [], hA => exact absurd hA.some (by simp)
    | [z0], hA =>
      have r0 := hA.wf z0 (by simp)
      obtain ⟨c0, hc0, hl0⟩ := left_lt (x := z0) (n := 8) (by omega)
      exact eff_row l0 u0 hA 1 rfl [271] (ways_of rfl) (by decide) ⟨sym_mask r0 hc0 hl0 (bit255 _ hc0), trivial⟩ 18 (by decide) hl eff_18_1_0 (by simp only [and_self])
    | [z0, z1], hA =>
      have r0 := hA.wf z0 (by simp)
      have r1 := hA.wf z1 (by simp)
      obtain ⟨c1, hc1, hl1⟩ := left_lt (x := z1) (n := 8) (by omega)
      rcases two_masks (p := 254) (q := 1) (by decide) hc1 with hb1 | hb1
      · skip
        exact eff_row l0 u0 hA 2 rfl [0, 270] (ways_of rfl) (by decide) ⟨sym_all r0, sym_mask r1 hc1 hl1 hb1, trivial⟩ 18 (by decide) hl eff_18_2_0 (by simp only [and_self])
      · skip
        obtain ⟨c0, hc0, hl0⟩ := left_lt (x := z0) (n := 8) (by omega)
        exact eff_row l0 u0 hA 2 rfl [271, 17] (ways_of rfl) (by decide) ⟨sym_mask r0 hc0 hl0 (bit255 _ hc0), sym_mask r1 hc1 hl1 hb1, trivial⟩ 18 (by decide) hl eff_18_2_1 (by simp only [and_self])
    | [z0, z1, z2], hA =>
      have r0 := hA.wf z0 (by simp)
      have r1 := hA.wf z1 (by simp)
      have r2 := hA.wf z2 (by simp)
      obtain ⟨c2, hc2, hl2⟩ := left_lt (x := z2) (n := 8) (by omega)
      rcases two_masks (p := 254) (q := 1) (by decide) hc2 with hb2 | hb2
      · skip
        exact eff_row l0 u0 hA 3 rfl [0, 0, 270] (ways_of rfl) (by decide) ⟨sym_all r0, sym_all r1, sym_mask r2 hc2 hl2 hb2, trivial⟩ 18 (by decide) hl eff_18_3_0 (by simp only [and_self])
      · skip
        obtain ⟨c1, hc1, hl1⟩ := left_lt (x := z1) (n := 8) (by omega)
        exact eff_row l0 u0 hA 3 rfl [0, 271, 17] (ways_of rfl) (by decide) ⟨sym_all r0, sym_mask r1 hc1 hl1 (bit255 _ hc1), sym_mask r2 hc2 hl2 hb2, trivial⟩ 18 (by decide) hl eff_18_3_1 (by simp only [and_self])
    | [z0, z1, z2, z3], hA =>
      have r0 := hA.wf z0 (by simp)
      have r1 := hA.wf z1 (by simp)
      have r2 := hA.wf z2 (by simp)
      have r3 := hA.wf z3 (by simp)
      obtain ⟨c3, hc3, hl3⟩ := left_lt (x := z3) (n := 8) (by omega)
      rcases two_masks (p := 254) (q := 1) (by decide) hc3 with hb3 | hb3
      · skip
        exact eff_row l0 u0 hA 4 rfl [0, 0, 0, 270] (ways_of rfl) (by decide) ⟨sym_all r0, sym_all r1, sym_all r2, sym_mask r3 hc3 hl3 hb3, trivial⟩ 18 (by decide) hl eff_18_4_0 (by simp only [and_self])
      · skip
        obtain ⟨c2, hc2, hl2⟩ := left_lt (x := z2) (n := 8) (by omega)
        exact eff_row l0 u0 hA 4 rfl [0, 0, 271, 17] (ways_of rfl) (by decide) ⟨sym_all r0, sym_all r1, sym_mask r2 hc2 hl2 (bit255 _ hc2), sym_mask r3 hc3 hl3 hb3, trivial⟩ 18 (by decide) hl eff_18_4_1 (by simp only [and_self])
    | z0 :: z1 :: z2 :: z3 :: z4 :: zs, hA =>
      have r0 := hA.wf z0 (by simp)
      have r1 := hA.wf z1 (by simp)
      have r2 := hA.wf z2 (by simp)
      have r3 := hA.wf z3 (by simp)
      obtain ⟨c3, hc3, hl3⟩ := left_lt (x := z3) (n := 8) (by omega)
      rcases two_masks (p := 254) (q := 1) (by decide) hc3 with hb3 | hb3
      · skip
        exact eff_long l0 u0 hA (by simp only [LONG, List.length_cons]; omega) [0, 0, 0, 270] (ways_of rfl) (by decide) ⟨sym_all r0, sym_all r1, sym_all r2, sym_mask r3 hc3 hl3 hb3, trivial⟩ 18 (by decide) hl eff_18_5_0 (by simp only [and_self])
      · skip
        obtain ⟨c2, hc2, hl2⟩ := left_lt (x := z2) (n := 8) (by omega)
        exact eff_long l0 u0 hA (by simp only [LONG, List.length_cons]; omega) [0, 0, 271, 17] (ways_of rfl) (by decide) ⟨sym_all r0, sym_all r1, sym_mask r2 hc2 hl2 (bit255 _ hc2), sym_mask r3 hc3 hl3 hb3, trivial⟩ 18 (by decide) hl eff_18_5_1 (by simp only [and_self])
theorem eff_op20 (l0 : -9223372036854775808 ≤ x0) (u0 : x0 < 9223372036854775808) (hl : left x0 (46 : Nat) = ((20 : Nat) : Int)) {v : Value} (hv : v = .slice none 0 0 ∨ (∃ a c, v = .slice (some a) 0 c) ∨ ∃ A, LiAt w A ∧ v = .slice (some ⟨A.b, A.off, none⟩) A.zs.length A.cap) : Calls Tryz.prog 3 #[.int .i64 x0, v] w fun e w' => e = .returned (.bool true) ∧ Below w.heap.size w w' := by
  rcases hv with rfl | ⟨a, cap, rfl⟩ | ⟨⟨b, off, cap, zs⟩, hA, rfl⟩
  · exact eff_nil l0 u0 20 (by decide) hl eff_20_nil trivial
  · exact eff_emp l0 u0 20 (by decide) hl eff_20_emp trivial
  · match zs, hA with
    | [], hA => exact absurd hA.some (by simp)
    | [z0], hA =>
      have r0 := hA.wf z0 (by simp)
      obtain ⟨c0, hc0, hl0⟩ := left_lt (x := z0) (n := 8) (by omega)
      exact eff_row l0 u0 hA 1 rfl [271] (ways_of rfl) (by decide) ⟨sym_mask r0 hc0 hl0 (bit255 _ hc0), trivial⟩ 20 (by decide) hl eff_20_1_0 (by simp only [and_self])
    | [z0, z1], hA =>
      have r0 := hA.wf z0 (by simp)
      have r1 := hA.wf z1 (by simp)
      obtain ⟨c1, hc1, hl1⟩ := left_lt (x := z1) (n := 8) (by omega)
      exact eff_row l0 u0 hA 2 rfl [0, 271] (ways_of rfl) (by decide) ⟨sym_all r0, sym_mask r1 hc1 hl1 (bit255 _ hc1), trivial⟩ 20 (by decide) hl eff_20_2_0 (by simp only [and_self])
    | [z0, z1, z2], hA =>
      have r0 := hA.wf z0 (by simp)
      have r1 := hA.wf z1 (by simp)
      have r2 := hA.wf z2 (by simp)
      obtain ⟨c2, hc2, hl2⟩ := left_lt (x := z2) (n := 8) (by omega)
      exact eff_row l0 u0 hA 3 rfl [0, 0, 271] (ways_of rfl) (by decide) ⟨sym_all r0, sym_all r1, sym_mask r2 hc2 hl2 (bit255 _ hc2), trivial⟩ 20 (by decide) hl eff_20_3_0 (by simp only [and_self])
    | [z0, z1, z2, z3], hA =>
      have r0 := hA.wf z0 (by simp)
      have r1 := hA.wf z1 (by simp)
      have r2 := hA.wf z2 (by simp)
      have r3 := hA.wf z3 (by simp)
      obtain ⟨c3, hc3, hl3⟩ := left_lt (x := z3) (n := 8) (by omega)
      exact eff_row l0 u0 hA 4 rfl [0, 0, 0, 271] (ways_of rfl) (by decide) ⟨sym_all r0, sym_all r1, sym_all r2, sym_mask r3 hc3 hl3 (bit255 _ hc3), trivial⟩ 20 (by decide) hl eff_20_4_0 (by simp only [and_self])
    | z0 :: z1 :: z2 :: z3 :: z4 :: zs, hA =>
      have r0 := hA.wf z0 (by simp)
      have r1 := hA.wf z1 (by simp)
      have r2 := hA.wf z2 (by simp)
      have r3 := hA.wf z3 (by simp)
      obtain ⟨c3, hc3, hl3⟩ := left_lt (x := z3) (n := 8) (by omega)
      exact eff_long l0 u0 hA (by simp only [LONG, List.length_cons]; omega) [0, 0, 0, 271] (ways_of rfl) (by decide) ⟨sym_all r0, sym_all r1, sym_all r2, sym_mask r3 hc3 hl3 (bit255 _ hc3), trivial⟩ 20 (by decide) hl eff_20_5_0 (by simp only [and_self])
theorem eff_op21 (l0 : -9223372036854775808 ≤ x0) (u0 : x0 < 9223372036854775808) (hl : left x0 (46 : Nat) = ((21 : Nat) : Int)) {v : Value} (hv : v = .slice none 0 0 ∨ (∃ a c, v = .slice (some a) 0 c) ∨ ∃ A, LiAt w A ∧ v = .slice (some ⟨A.b, A.off, none⟩) A.zs.length A.cap) : Calls Tryz.prog 3 #[.int .i64 x0, v] w fun e w' => e = .returned (.bool true) ∧ Below w.heap.size w w' := by
  rcases hv with rfl | ⟨a, cap, rfl⟩ | ⟨⟨b, off, cap, zs⟩, hA, rfl⟩
  · exact eff_nil l0 u0 21 (by decide) hl eff_21_nil trivial
  · exact eff_emp l0 u0 21 (by decide) hl eff_21_emp trivial
  · match zs, hA with
    | [], hA => exact absurd hA.some (by simp)
    | [z0], hA =>
      have r0 := hA.wf z0 (by simp)
      obtain ⟨c0, hc0, hl0⟩ := left_lt (x := z0) (n := 8) (by omega)
      exact eff_row l0 u0 hA 1 rfl [271] (ways_of rfl) (by decide) ⟨sym_mask r0 hc0 hl0 (bit255 _ hc0), trivial⟩ 21 (by decide) hl eff_21_1_0 (by simp only [and_self])
    | [z0, z1], hA =>
      have r0 := hA.wf z0 (by simp)
      have r1 := hA.wf z1 (by simp)
      obtain ⟨c1, hc1, hl1⟩ := left_lt (x := z1) (n := 8) (by omega)
      exact eff_row l0 u0 hA 2 rfl [0, 271] (ways_of rfl) (by decide) ⟨sym_all r0, sym_mask r1 hc1 hl1 (bit255 _ hc1), trivial⟩ 21 (by decide) hl eff_21_2_0 (by simp only [and_self])
    | [z0, z1, z2], hA =>
      have r0 := hA.wf z0 (by simp)
      have r1 := hA.wf z1 (by simp)
      have r2 := hA.wf z2 (by simp)
      obtain ⟨c2, hc2, hl2⟩ := left_lt (x := z2) (n := 8) (by omega)
      exact eff_row l0 u0 hA 3 rfl [0, 0, 271] (ways_of rfl) (by decide) ⟨sym_all r0, sym_all r1, sym_mask r2 hc2 hl2 (bit255 _ hc2), trivial⟩ 21 (by decide) hl eff_21_3_0 (by simp only [and_self])
    | [z0, z1, z2, z3], hA =>
      have r0 := hA.wf z0 (by simp)
      have r1 := hA.wf z1 (by simp)
      have r2 := hA.wf z2 (by simp)
      have r3 := hA.wf z3 (by simp)
      obtain ⟨c3, hc3, hl3⟩ := left_lt (x := z3) (n := 8) (by omega)
      exact eff_row l0 u0 hA 4 rfl [0, 0, 0, 271] (ways_of rfl) (by decide) ⟨sym_all r0, sym_all r1, sym_all r2, sym_mask r3 hc3 hl3 (bit255 _ hc3), trivial⟩ 21 (by decide) hl eff_21_4_0 (by simp only [and_self])
    | z0 :: z1 :: z2 :: z3 :: z4 :: zs, hA =>
      have r0 := hA.wf z0 (by simp)
      have r1 := hA.wf z1 (by simp)
      have r2 := hA.wf z2 (by simp)
      have r3 := hA.wf z3 (by simp)
      obtain ⟨c3, hc3, hl3⟩ := left_lt (x := z3) (n := 8) (by omega)
      exact eff_long l0 u0 hA (by simp only [LONG, List.length_cons]; omega) [0, 0, 0, 271] (ways_of rfl) (by decide) ⟨sym_all r0, sym_all r1, sym_all r2, sym_mask r3 hc3 hl3 (bit255 _ hc3), trivial⟩ 21 (by decide) hl eff_21_5_0 (by simp only [and_self])
theorem eff_op22 (l0 : -9223372036854775808 ≤ x0) (u0 : x0 < 9223372036854775808) (hl : left x0 (46 : Nat) = ((22 : Nat) : Int)) {v : Value} (hv : v = .slice none 0 0 ∨ (∃ a c, v = .slice (some a) 0 c) ∨ ∃ A, LiAt w A ∧ v = .slice (some ⟨A.b, A.off, none⟩) A.zs.length A.cap) : Calls Tryz.prog 3 #[.int .i64 x0, v] w fun e w' => e = .returned (.bool true) ∧ Below w.heap.size w w' := by
  rcases hv with rfl | ⟨a, cap, rfl⟩ | ⟨⟨b, off, cap, zs⟩, hA, rfl⟩
  · exact eff_nil l0 u0 22 (by decide) hl eff_22_nil trivial
  · exact eff_emp l0 u0 22 (by decide) hl eff_22_emp trivial
  · match zs, hA with
    | [], hA => exact absurd hA.some (by simp)
    | [z0], hA =>
      have r0 := hA.wf z0 (by simp)
      obtain ⟨c0, hc0, hl0⟩ := left_lt (x := z0) (n := 8) (by omega)
      exact eff_row l0 u0 hA 1 rfl [271] (ways_of rfl) (by decide) ⟨sym_mask r0 hc0 hl0 (bit255 _ hc0), trivial⟩ 22 (by decide) hl eff_22_1_0 (by simp only [and_self])
    | [z0, z1], hA =>
      have r0 := hA.wf z0 (by simp)
      have r1 := hA.wf z1 (by simp)
      obtain ⟨c1, hc1, hl1⟩ := left_lt (x := z1) (n := 8) (by omega)
      rcases two_masks (p := 254) (q := 1) (by decide) hc1 with hb1 | hb1
      · skip
        exact eff_row l0 u0 hA 2 rfl [0, 270] (ways_of rfl) (by decide) ⟨sym_all r0, sym_mask r1 hc1 hl1 hb1, trivial⟩ 22 (by decide) hl eff_22_2_0 (by simp only [and_self])
      · skip
        obtain ⟨c0, hc0, hl0⟩ := left_lt (x := z0) (n := 8) (by omega)
        exact eff_row l0 u0 hA 2 rfl [271, 17] (ways_of rfl) (by decide) ⟨sym_mask r0 hc0 hl0 (bit255 _ hc0), sym_mask r1 hc1 hl1 hb1, trivial⟩ 22 (by decide) hl eff_22_2_1 (by simp only [and_self])
    | [z0, z1, z2], hA =>
      have r0 := hA.wf z0 (by simp)
      have r1 := hA.wf z1 (by simp)
      have r2 := hA.wf z2 (by simp)
      obtain ⟨c2, hc2, hl2⟩ := left_lt (x := z2) (n := 8) (by omega)
      rcases two_masks (p := 254) (q := 1) (by decide) hc2 with hb2 | hb2
      · skip
        exact eff_row l0 u0 hA 3 rfl [0, 0, 270] (ways_of rfl) (by decide) ⟨sym_all r0, sym_all r1, sym_mask r2 hc2 hl2 hb2, trivial⟩ 22 (by decide) hl eff_22_3_0 (by simp only [and_self])
      · skip
        obtain ⟨c1, hc1, hl1⟩ := left_lt (x := z1) (n := 8) (by omega)
        exact eff_row l0 u0 hA 3 rfl [0, 271, 17] (ways_of rfl) (by decide) ⟨sym_all r0, sym_mask r1 hc1 hl1 (bit255 _ hc1), sym_mask r2 hc2 hl2 hb2, trivial⟩ 22 (by decide) hl eff_22_3_1 (by simp only [and_self])
    | [z0, z1, z2, z3], hA =>
      have r0 := hA.wf z0 (by simp)
      have r1 := hA.wf z1 (by simp)
      have r2 := hA.wf z2 (by simp)
      have r3 := hA.wf z3 (by simp)
      obtain ⟨c3, hc3, hl3⟩ := left_lt (x := z3) (n := 8) (by omega)
      rcases two_masks (p := 254) (q := 1) (by decide) hc3 with hb3 | hb3
      · skip
        exact eff_row l0 u0 hA 4 rfl [0, 0, 0, 270] (ways_of rfl) (by decide) ⟨sym_all r0, sym_all r1, sym_all r2, sym_mask r3 hc3 hl3 hb3, trivial⟩ 22 (by decide) hl eff_22_4_0 (by simp only [and_self])
      · skip
        obtain ⟨c2, hc2, hl2⟩ := left_lt (x := z2) (n := 8) (by omega)
        exact eff_row l0 u0 hA 4 rfl [0, 0, 271, 17] (ways_of rfl) (by decide) ⟨sym_all r0, sym_all r1, sym_mask r2 hc2 hl2 (bit255 _ hc2), sym_mask r3 hc3 hl3 hb3, trivial⟩ 22 (by decide) hl eff_22_4_1 (by simp only [and_self])
    | z0 :: z1 :: z2 :: z3 :: z4 :: zs, hA =>
      have r0 := hA.wf z0 (by simp)
      have r1 := hA.wf z1 (by simp)
      have r2 := hA.wf z2 (by simp)
      have r3 := hA.wf z3 (by simp)
      obtain ⟨c3, hc3, hl3⟩ := left_lt (x := z3) (n := 8) (by omega)
      rcases two_masks (p := 254) (q := 1) (by decide) hc3 with hb3 | hb3
      · skip
        exact eff_long l0 u0 hA (by simp only [LONG, List.length_cons]; omega) [0, 0, 0, 270] (ways_of rfl) (by decide) ⟨sym_all r0, sym_all r1, sym_all r2, sym_mask r3 hc3 hl3 hb3, trivial⟩ 22 (by decide) hl eff_22_5_0 (by simp only [and_self])
      · skip
        obtain ⟨c2, hc2, hl2⟩ := left_lt (x := z2) (n := 8) (by omega)
        exact eff_long l0 u0 hA (by simp only [LONG, List.length_cons]; omega) [0, 0, 271, 17] (ways_of rfl) (by decide) ⟨sym_all r0, sym_all r1, sym_mask r2 hc2 hl2 (bit255 _ hc2), sym_mask r3 hc3 hl3 hb3, trivial⟩ 22 (by decide) hl eff_22_5_1 (by simp only [and_self])
theorem eff_op23 (l0 : -9223372036854775808 ≤ x0) (u0 : x0 < 9223372036854775808) (hl : left x0 (46 : Nat) = ((23 : Nat) : Int)) {v : Value} (hv : v = .slice none 0 0 ∨ (∃ a c, v = .slice (some a) 0 c) ∨ ∃ A, LiAt w A ∧ v = .slice (some ⟨A.b, A.off, none⟩) A.zs.length A.cap) : Calls Tryz.prog 3 #[.int .i64 x0, v] w fun e w' => e = .returned (.bool true) ∧ Below w.heap.size w w' := by
  rcases hv with rfl | ⟨a, cap, rfl⟩ | ⟨⟨b, off, cap, zs⟩, hA, rfl⟩
  · exact eff_nil l0 u0 23 (by decide) hl eff_23_nil trivial
  · exact eff_emp l0 u0 23 (by decide) hl eff_23_emp trivial
  · match zs, hA with
    | [], hA => exact absurd hA.some (by simp)
    | [z0], hA =>
      have r0 := hA.wf z0 (by simp)
      obtain ⟨c0, hc0, hl0⟩ := left_lt (x := z0) (n := 8) (by omega)
      exact eff_row l0 u0 hA 1 rfl [271] (ways_of rfl) (by decide) ⟨sym_mask r0 hc0 hl0 (bit255 _ hc0), trivial⟩ 23 (by decide) hl eff_23_1_0 (by simp only [and_self])
    | [z0, z1], hA =>
      have r0 := hA.wf z0 (by simp)
      have r1 := hA.wf z1 (by simp)
      obtain ⟨c1, hc1, hl1⟩ := left_lt (x := z1) (n := 8) (by omega)
      exact eff_row l0 u0 hA 2 rfl [0, 271] (ways_of rfl) (by decide) ⟨sym_all r0, sym_mask r1 hc1 hl1 (bit255 _ hc1), trivial⟩ 23 (by decide) hl eff_23_2_0 (by simp only [and_self])
    | [z0, z1, z2], hA =>
      have r0 := hA.wf z0 (by simp)
      have r1 := hA.wf z1 (by simp)
      have r2 := hA.wf z2 (by simp)
      obtain ⟨c2, hc2, hl2⟩ := left_lt (x := z2) (n := 8) (by omega)
      exact eff_row l0 u0 hA 3 rfl [0, 0, 271] (ways_of rfl) (by decide) ⟨sym_all r0, sym_all r1, sym_mask r2 hc2 hl2 (bit255 _ hc2), trivial⟩ 23 (by decide) hl eff_23_3_0 (by simp only [and_self])
    | [z0, z1, z2, z3], hA =>
      have r0 := hA.wf z0 (by simp)
      have r1 := hA.wf z1 (by simp)
      have r2 := hA.wf z2 (by simp)
      have r3 := hA.wf z3 (by simp)
      obtain ⟨c3, hc3, hl3⟩ := left_lt (x := z3) (n := 8) (by omega)
      exact eff_row l0 u0 hA 4 rfl [0, 0, 0, 271] (ways_of rfl) (by decide) ⟨sym_all r0, sym_all r1, sym_all r2, sym_mask r3 hc3 hl3 (bit255 _ hc3), trivial⟩ 23 (by decide) hl eff_23_4_0 (by simp only [and_self])
    | z0 :: z1 :: z2 :: z3 :: z4 :: zs, hA =>
      have r0 := hA.wf z0 (by simp)
      have r1 := hA.wf z1 (by simp)
      have r2 := hA.wf z2 (by simp)
      have r3 := hA.wf z3 (by simp)
      obtain ⟨c3, hc3, hl3⟩ := left_lt (x := z3) (n := 8) (by omega)
      exact eff_long l0 u0 hA (by simp only [LONG, List.length_cons]; omega) [0, 0, 0, 271] (ways_of rfl) (by decide) ⟨sym_all r0, sym_all r1, sym_all r2, sym_mask r3 hc3 hl3 (bit255 _ hc3), trivial⟩ 23 (by decide) hl eff_23_5_0 (by simp only [and_self])
theorem eff_op24 (l0 : -9223372036854775808 ≤ x0) (u0 : x0 < 9223372036854775808) (hl : left x0 (46 : Nat) = ((24 : Nat) : Int)) {v : Value} (hv : v = .slice none 0 0 ∨ (∃ a c, v = .slice (some a) 0 c) ∨ ∃ A, LiAt w A ∧ v = .slice (some ⟨A.b, A.off, none⟩) A.zs.length A.cap) : Calls Tryz.prog 3 #[.int .i64 x0, v] w fun e w' => e = .returned (.bool true) ∧ Below w.heap.size w w' := by
  rcases hv with rfl | ⟨a, cap, rfl⟩ | ⟨⟨b, off, cap, zs⟩, hA, rfl⟩
  · exact eff_nil l0 u0 24 (by decide) hl eff_24_nil trivial
  · exact eff_emp l0 u0 24 (by decide) hl eff_24_emp trivial
  · match zs, hA with
    | [], hA => exact absurd hA.some (by simp)
    | [z0], hA =>
      have r0 := hA.wf z0 (by simp)
      obtain ⟨c0, hc0, hl0⟩ := left_lt (x := z0) (n := 8) (by omega)
      exact eff_row l0 u0 hA 1 rfl [271] (ways_of rfl) (by decide) ⟨sym_mask r0 hc0 hl0 (bit255 _ hc0), trivial⟩ 24 (by decide) hl eff_24_1_0 (by simp only [and_self])
    | [z0, z1], hA =>
      have r0 := hA.wf z0 (by simp)
      have r1 := hA.wf z1 (by simp)
      obtain ⟨c1, hc1, hl1⟩ := left_lt (x := z1) (n := 8) (by omega)
      rcases two_masks (p := 25) (q := 230) (by decide) hc1 with hb1 | hb1
      · skip
        exact eff_row l0 u0 hA 2 rfl [0, 41] (ways_of rfl) (by decide) ⟨sym_all r0, sym_mask r1 hc1 hl1 hb1, trivial⟩ 24 (by decide) hl eff_24_2_0 (by simp only [and_self])
      · skip
        obtain ⟨c0, hc0, hl0⟩ := left_lt (x := z0) (n := 8) (by omega)
        exact eff_row l0 u0 hA 2 rfl [271, 246] (ways_of rfl) (by decide) ⟨sym_mask r0 hc0 hl0 (bit255 _ hc0), sym_mask r1 hc1 hl1 hb1, trivial⟩ 24 (by decide) hl eff_24_2_1 (by simp only [and_self])
    | [z0, z1, z2], hA =>
      have r0 := hA.wf z0 (by simp)
      have r1 := hA.wf z1 (by simp)
      have r2 := hA.wf z2 (by simp)
      obtain ⟨c2, hc2, hl2⟩ := left_lt (x := z2) (n := 8) (by omega)
      rcases two_masks (p := 25) (q := 230) (by decide) hc2 with hb2 | hb2
      · skip
        exact eff_row l0 u0 hA 3 rfl [0, 0, 41] (ways_of rfl) (by decide) ⟨sym_all r0, sym_all r1, sym_mask r2 hc2 hl2 hb2, trivial⟩ 24 (by decide) hl eff_24_3_0 (by simp only [and_self])
      · skip
        obtain ⟨c1, hc1, hl1⟩ := left_lt (x := z1) (n := 8) (by omega)
        exact eff_row l0 u0 hA 3 rfl [0, 271, 246] (ways_of rfl) (by decide) ⟨sym_all r0, sym_mask r1 hc1 hl1 (bit255 _ hc1), sym_mask r2 hc2 hl2 hb2, trivial⟩ 24 (by decide) hl eff_24_3_1 (by simp only [and_self])
    | [z0, z1, z2, z3], hA =>
      have r0 := hA.wf z0 (by simp)
      have r1 := hA.wf z1 (by simp)
      have r2 := hA.wf z2 (by simp)
      have r3 := hA.wf z3 (by simp)
      obtain ⟨c3, hc3, hl3⟩ := left_lt (x := z3) (n := 8) (by omega)
      rcases two_masks (p := 25) (q := 230) (by decide) hc3 with hb3 | hb3
      · skip
        exact eff_row l0 u0 hA 4 rfl [0, 0, 0, 41] (ways_of rfl) (by decide) ⟨sym_all r0, sym_all r1, sym_all r2, sym_mask r3 hc3 hl3 hb3, trivial⟩ 24 (by decide) hl eff_24_4_0 (by simp only [and_self])
      · skip
        obtain ⟨c2, hc2, hl2⟩ := left_lt (x := z2) (n := 8) (by omega)
        exact eff_row l0 u0 hA 4 rfl [0, 0, 271, 246] (ways_of rfl) (by decide) ⟨sym_all r0, sym_all r1, sym_mask r2 hc2 hl2 (bit255 _ hc2), sym_mask r3 hc3 hl3 hb3, trivial⟩ 24 (by decide) hl eff_24_4_1 (by simp only [and_self])
    | z0 :: z1 :: z2 :: z3 :: z4 :: zs, hA =>
      have r0 := hA.wf z0 (by simp)
      have r1 := hA.wf z1 (by simp)
      have r2 := hA.wf z2 (by simp)
      have r3 := hA.wf z3 (by simp)
      obtain ⟨c3, hc3, hl3⟩ := left_lt (x := z3) (n := 8) (by omega)
      rcases two_masks (p := 25) (q := 230) (by decide) hc3 with hb3 | hb3
      · skip
        exact eff_long l0 u0 hA (by simp only [LONG, List.length_cons]; omega) [0, 0, 0, 41] (ways_of rfl) (by decide) ⟨sym_all r0, sym_all r1, sym_all r2, sym_mask r3 hc3 hl3 hb3, trivial⟩ 24 (by decide) hl eff_24_5_0 (by simp only [and_self])
      · skip
        obtain ⟨c2, hc2, hl2⟩ := left_lt (x := z2) (n := 8) (by omega)
        exact eff_long l0 u0 hA (by simp only [LONG, List.length_cons]; omega) [0, 0, 271, 246] (ways_of rfl) (by decide) ⟨sym_all r0, sym_all r1, sym_mask r2 hc2 hl2 (bit255 _ hc2), sym_mask r3 hc3 hl3 hb3, trivial⟩ 24 (by decide) hl eff_24_5_1 (by simp only [and_self])
theorem eff_op31 (l0 : -9223372036854775808 ≤ x0) (u0 : x0 < 9223372036854775808) (hl : left x0 (46 : Nat) = ((31 : Nat) : Int)) {v : Value} (hv : v = .slice none 0 0 ∨ (∃ a c, v = .slice (some a) 0 c) ∨ ∃ A, LiAt w A ∧ v = .slice (some ⟨A.b, A.off, none⟩) A.zs.length A.cap) : Calls Tryz.prog 3 #[.int .i64 x0, v] w fun e w' => e = .returned (.bool true) ∧ Below w.heap.size w w' := by
  rcases hv with rfl | ⟨a, cap, rfl⟩ | ⟨⟨b, off, cap, zs⟩, hA, rfl⟩
  · exact eff_nil l0 u0 31 (by decide) hl eff_31_nil trivial
  · exact eff_emp l0 u0 31 (by decide) hl eff_31_emp trivial
  · match zs, hA with
    | [], hA => exact absurd hA.some (by simp)
    | [z0], hA =>
      have r0 := hA.wf z0 (by simp)
      obtain ⟨c0, hc0, hl0⟩ := left_lt (x := z0) (n := 8) (by omega)
      exact eff_row l0 u0 hA 1 rfl [271] (ways_of rfl) (by decide) ⟨sym_mask r0 hc0 hl0 (bit255 _ hc0), trivial⟩ 31 (by decide) hl eff_31_1_0 (by simp only [and_self])
    | [z0, z1], hA =>
      have r0 := hA.wf z0 (by simp)
      have r1 := hA.wf z1 (by simp)
      obtain ⟨c1, hc1, hl1⟩ := left_lt (x := z1) (n := 8) (by omega)
      rcases two_masks (p := 254) (q := 1) (by decide) hc1 with hb1 | hb1
      · skip
        exact eff_row l0 u0 hA 2 rfl [0, 270] (ways_of rfl) (by decide) ⟨sym_all r0, sym_mask r1 hc1 hl1 hb1, trivial⟩ 31 (by decide) hl eff_31_2_0 (by simp only [and_self])
      · skip
        obtain ⟨c0, hc0, hl0⟩ := left_lt (x := z0) (n := 8) (by omega)
        exact eff_row l0 u0 hA 2 rfl [271, 17] (ways_of rfl) (by decide) ⟨sym_mask r0 hc0 hl0 (bit255 _ hc0), sym_mask r1 hc1 hl1 hb1, trivial⟩ 31 (by decide) hl eff_31_2_1 (by simp only [and_self])
    | [z0, z1, z2], hA =>
      have r0 := hA.wf z0 (by simp)
      have r1 := hA.wf z1 (by simp)
      have r2 := hA.wf z2 (by simp)
      obtain ⟨c2, hc2, hl2⟩ := left_lt (x := z2) (n := 8) (by omega)
      rcases two_masks (p := 254) (q := 1) (by decide) hc2 with hb2 | hb2
      · skip
        exact eff_row l0 u0 hA 3 rfl [0, 0, 270] (ways_of rfl) (by decide) ⟨sym_all r0, sym_all r1, sym_mask r2 hc2 hl2 hb2, trivial⟩ 31 (by decide) hl eff_31_3_0 (by simp only [and_self])
      · skip
        obtain ⟨c1, hc1, hl1⟩ := left_lt (x := z1) (n := 8) (by omega)
        exact eff_row l0 u0 hA 3 rfl [0, 271, 17] (ways_of rfl) (by decide) ⟨sym_all r0, sym_mask r1 hc1 hl1 (bit255 _ hc1), sym_mask r2 hc2 hl2 hb2, trivial⟩ 31 (by decide) hl eff_31_3_1 (by simp only [and_self])
    | [z0, z1, z2, z3], hA =>
      have r0 := hA.wf z0 (by simp)
      have r1 := hA.wf z1 (by simp)
      have r2 := hA.wf z2 (by simp)
      have r3 := hA.wf z3 (by simp)
      obtain ⟨c3, hc3, hl3⟩ := left_lt (x := z3) (n := 8) (by omega)
      rcases two_masks (p := 254) (q := 1) (by decide) hc3 with hb3 | hb3
      · skip
        exact eff_row l0 u0 hA 4 rfl [0, 0, 0, 270] (ways_of rfl) (by decide) ⟨sym_all r0, sym_all r1, sym_all r2, sym_mask r3 hc3 hl3 hb3, trivial⟩ 31 (by decide) hl eff_31_4_0 (by simp only [and_self])
      · skip
        obtain ⟨c2, hc2, hl2⟩ := left_lt (x := z2) (n := 8) (by omega)
        exact eff_row l0 u0 hA 4 rfl [0, 0, 271, 17] (ways_of rfl) (by decide) ⟨sym_all r0, sym_all r1, sym_mask r2 hc2 hl2 (bit255 _ hc2), sym_mask r3 hc3 hl3 hb3, trivial⟩ 31 (by decide) hl eff_31_4_1 (by simp only [and_self])
    | z0 :: z1 :: z2 :: z3 :: z4 :: zs, hA =>
      have r0 := hA.wf z0 (by simp)
      have r1 := hA.wf z1 (by simp)
      have r2 := hA.wf z2 (by simp)
      have r3 := hA.wf z3 (by simp)
      obtain ⟨c3, hc3, hl3⟩ := left_lt (x := z3) (n := 8) (by omega)
      rcases two_masks (p := 254) (q := 1) (by decide) hc3 with hb3 | hb3
      · skip
        exact eff_long l0 u0 hA (by simp only [LONG, List.length_cons]; omega) [0, 0, 0, 270] (ways_of rfl) (by decide) ⟨sym_all r0, sym_all r1, sym_all r2, sym_mask r3 hc3 hl3 hb3, trivial⟩ 31 (by decide) hl eff_31_5_0 (by simp only [and_self])
      · skip
        obtain ⟨c2, hc2, hl2⟩ := left_lt (x := z2) (n := 8) (by omega)
        exact eff_long l0 u0 hA (by simp only [LONG, List.length_cons]; omega) [0, 0, 271, 17] (ways_of rfl) (by decide) ⟨sym_all r0, sym_all r1, sym_mask r2 hc2 hl2 (bit255 _ hc2), sym_mask r3 hc3 hl3 hb3, trivial⟩ 31 (by decide) hl eff_31_5_1 (by simp only [and_self])
theorem eff_op32 (l0 : -9223372036854775808 ≤ x0) (u0 : x0 < 9223372036854775808) (hl : left x0 (46 : Nat) = ((32 : Nat) : Int)) {v : Value} (hv : v = .slice none 0 0 ∨ (∃ a c, v = .slice (some a) 0 c) ∨ ∃ A, LiAt w A ∧ v = .slice (some ⟨A.b, A.off, none⟩) A.zs.length A.cap) : Calls Tryz.prog 3 #[.int .i64 x0, v] w fun e w' => e = .returned (.bool true) ∧ Below w.heap.size w w' := by
  rcases hv with rfl | ⟨a, cap, rfl⟩ | ⟨⟨b, off, cap, zs⟩, hA, rfl⟩
  · exact eff_nil l0 u0 32 (by decide) hl eff_32_nil trivial
  · exact eff_emp l0 u0 32 (by decide) hl eff_32_emp trivial
  · match zs, hA with
    | [], hA => exact absurd hA.some (by simp)
    | [z0], hA =>
      have r0 := hA.wf z0 (by simp)
      obtain ⟨c0, hc0, hl0⟩ := left_lt (x := z0) (n := 8) (by omega)
      exact eff_row l0 u0 hA 1 rfl [271] (ways_of rfl) (by decide) ⟨sym_mask r0 hc0 hl0 (bit255 _ hc0), trivial⟩ 32 (by decide) hl eff_32_1_0 (by simp only [and_self])
    | [z0, z1], hA =>
      have r0 := hA.wf z0 (by simp)
      have r1 := hA.wf z1 (by simp)
      obtain ⟨c1, hc1, hl1⟩ := left_lt (x := z1) (n := 8) (by omega)
      rcases two_masks (p := 254) (q := 1) (by decide) hc1 with hb1 | hb1
      · skip
        exact eff_row l0 u0 hA 2 rfl [0, 270] (ways_of rfl) (by decide) ⟨sym_all r0, sym_mask r1 hc1 hl1 hb1, trivial⟩ 32 (by decide) hl eff_32_2_0 (by simp only [and_self])
      · skip
        obtain ⟨c0, hc0, hl0⟩ := left_lt (x := z0) (n := 8) (by omega)
        exact eff_row l0 u0 hA 2 rfl [271, 17] (ways_of rfl) (by decide) ⟨sym_mask r0 hc0 hl0 (bit255 _ hc0), sym_mask r1 hc1 hl1 hb1, trivial⟩ 32 (by decide) hl eff_32_2_1 (by simp only [and_self])
    | [z0, z1, z2], hA =>
      have r0 := hA.wf z0 (by simp)
      have r1 := hA.wf z1 (by simp)
      have r2 := hA.wf z2 (by simp)
      obtain ⟨c2, hc2, hl2⟩ := left_lt (x := z2) (n := 8) (by omega)
      rcases two_masks (p := 254) (q := 1) (by decide) hc2 with hb2 | hb2
      · skip
        exact eff_row l0 u0 hA 3 rfl [0, 0, 270] (ways_of rfl) (by decide) ⟨sym_all r0, sym_all r1, sym_mask r2 hc2 hl2 hb2, trivial⟩ 32 (by decide) hl eff_32_3_0 (by simp only [and_self])
      · skip
        obtain ⟨c1, hc1, hl1⟩ := left_lt (x := z1) (n := 8) (by omega)
        rcases two_masks (p := 254) (q := 1) (by decide) hc1 with hb1 | hb1
        · skip
          exact eff_row l0 u0 hA 3 rfl [0, 270, 17] (ways_of rfl) (by decide) ⟨sym_all r0, sym_mask r1 hc1 hl1 hb1, sym_mask r2 hc2 hl2 hb2, trivial⟩ 32 (by decide) hl eff_32_3_1 (by simp only [and_self])
        · skip
          obtain ⟨c0, hc0, hl0⟩ := left_lt (x := z0) (n := 8) (by omega)
          exact eff_row l0 u0 hA 3 rfl [271, 17, 17] (ways_of rfl) (by decide) ⟨sym_mask r0 hc0 hl0 (bit255 _ hc0), sym_mask r1 hc1 hl1 hb1, sym_mask r2 hc2 hl2 hb2, trivial⟩ 32 (by decide) hl eff_32_3_2 (by simp only [and_self])
    | [z0, z1, z2, z3], hA =>
      have r0 := hA.wf z0 (by simp)
      have r1 := hA.wf z1 (by simp)
      have r2 := hA.wf z2 (by simp)
      have r3 := hA.wf z3 (by simp)
      obtain ⟨c3, hc3, hl3⟩ := left_lt (x := z3) (n := 8) (by omega)
      rcases two_masks (p := 254) (q := 1) (by decide) hc3 with hb3 | hb3
      · skip
        exact eff_row l0 u0 hA 4 rfl [0, 0, 0, 270] (ways_of rfl) (by decide) ⟨sym_all r0, sym_all r1, sym_all r2, sym_mask r3 hc3 hl3 hb3, trivial⟩ 32 (by decide) hl eff_32_4_0 (by simp only [and_self])
      · skip
        obtain ⟨c2, hc2, hl2⟩ := left_lt (x := z2) (n := 8) (by omega)
        rcases two_masks (p := 254) (q := 1) (by decide) hc2 with hb2 | hb2
        · skip
          exact eff_row l0 u0 hA 4 rfl [0, 0, 270, 17] (ways_of rfl) (by decide) ⟨sym_all r0, sym_all r1, sym_mask r2 hc2 hl2 hb2, sym_mask r3 hc3 hl3 hb3, trivial⟩ 32 (by decide) hl eff_32_4_1 (by simp only [and_self])
        · skip
          obtain ⟨c1, hc1, hl1⟩ := left_lt (x := z1) (n := 8) (by omega)
          exact eff_row l0 u0 hA 4 rfl [0, 271, 17, 17] (ways_of rfl) (by decide) ⟨sym_all r0, sym_mask r1 hc1 hl1 (bit255 _ hc1), sym_mask r2 hc2 hl2 hb2, sym_mask r3 hc3 hl3 hb3, trivial⟩ 32 (by decide) hl eff_32_4_2 (by simp only [and_self])
    | z0 :: z1 :: z2 :: z3 :: z4 :: zs, hA =>
      have r0 := hA.wf z0 (by simp)
      have r1 := hA.wf z1 (by simp)
      have r2 := hA.wf z2 (by simp)
      have r3 := hA.wf z3 (by simp)
      obtain ⟨c3, hc3, hl3⟩ := left_lt (x := z3) (n := 8) (by omega)
      rcases two_masks (p := 254) (q := 1) (by decide) hc3 with hb3 | hb3
      · skip
        exact eff_long l0 u0 hA (by simp only [LONG, List.length_cons]; omega) [0, 0, 0, 270] (ways_of rfl) (by decide) ⟨sym_all r0, sym_all r1, sym_all r2, sym_mask r3 hc3 hl3 hb3, trivial⟩ 32 (by decide) hl eff_32_5_0 (by simp only [and_self])
      · skip
        obtain ⟨c2, hc2, hl2⟩ := left_lt (x := z2) (n := 8) (by omega)
        rcases two_masks (p := 254) (q := 1) (by decide) hc2 with hb2 | hb2
        · skip
          exact eff_long l0 u0 hA (by simp only [LONG, List.length_cons]; omega) [0, 0, 270, 17] (ways_of rfl) (by decide) ⟨sym_all r0, sym_all r1, sym_mask r2 hc2 hl2 hb2, sym_mask r3 hc3 hl3 hb3, trivial⟩ 32 (by decide) hl eff_32_5_1 (by simp only [and_self])
        · skip
          obtain ⟨c1, hc1, hl1⟩ := left_lt (x := z1) (n := 8) (by omega)
          exact eff_long l0 u0 hA (by simp only [LONG, List.length_cons]; omega) [0, 271, 17, 17] (ways_of rfl) (by decide) ⟨sym_all r0, sym_mask r1 hc1 hl1 (bit255 _ hc1), sym_mask r2 hc2 hl2 hb2, sym_mask r3 hc3 hl3 hb3, trivial⟩ 32 (by decide) hl eff_32_5_2 (by simp only [and_self])
theorem eff_op35 (l0 : -9223372036854775808 ≤ x0) (u0 : x0 < 9223372036854775808) (hl : left x0 (46 : Nat) = ((35 : Nat) : Int)) {v : Value} (hv : v = .slice none 0 0 ∨ (∃ a c, v = .slice (some a) 0 c) ∨ ∃ A, LiAt w A ∧ v = .slice (some ⟨A.b, A.off, none⟩) A.zs.length A.cap) : Calls Tryz.prog 3 #[.int .i64 x0, v] w fun e w' => e = .returned (.bool true) ∧ Below w.heap.size w w' := by
  rcases hv with rfl | ⟨a, cap, rfl⟩ | ⟨⟨b, off, cap, zs⟩, hA, rfl⟩
  · exact eff_nil l0 u0 35 (by decide) hl eff_35_nil trivial
  · exact eff_emp l0 u0 35 (by decide) hl eff_35_emp trivial
  · match zs, hA with
    | [], hA => exact absurd hA.some (by simp)
    | [z0], hA =>
      have r0 := hA.wf z0 (by simp)
      obtain ⟨c0, hc0, hl0⟩ := left_lt (x := z0) (n := 8) (by omega)
      exact eff_row l0 u0 hA 1 rfl [271] (ways_of rfl) (by decide) ⟨sym_mask r0 hc0 hl0 (bit255 _ hc0), trivial⟩ 35 (by decide) hl eff_35_1_0 (by simp only [and_self])
    | [z0, z1], hA =>
      have r0 := hA.wf z0 (by simp)
      have r1 := hA.wf z1 (by simp)
      obtain ⟨c1, hc1, hl1⟩ := left_lt (x := z1) (n := 8) (by omega)
      exact eff_row l0 u0 hA 2 rfl [0, 271] (ways_of rfl) (by decide) ⟨sym_all r0, sym_mask r1 hc1 hl1 (bit255 _ hc1), trivial⟩ 35 (by decide) hl eff_35_2_0 (by simp only [and_self])
    | [z0, z1, z2], hA =>
      have r0 := hA.wf z0 (by simp)
      have r1 := hA.wf z1 (by simp)
      have r2 := hA.wf z2 (by simp)
      obtain ⟨c2, hc2, hl2⟩ := left_lt (x := z2) (n := 8) (by omega)
      exact eff_row l0 u0 hA 3 rfl [0, 0, 271] (ways_of rfl) (by decide) ⟨sym_all r0, sym_all r1, sym_mask r2 hc2 hl2 (bit255 _ hc2), trivial⟩ 35 (by decide) hl eff_35_3_0 (by simp only [and_self])
    | [z0, z1, z2, z3], hA =>
      have r0 := hA.wf z0 (by simp)
      have r1 := hA.wf z1 (by simp)
      have r2 := hA.wf z2 (by simp)
      have r3 := hA.wf z3 (by simp)
      obtain ⟨c3, hc3, hl3⟩ := left_lt (x := z3) (n := 8) (by omega)
      exact eff_row l0 u0 hA 4 rfl [0, 0, 0, 271] (ways_of rfl) (by decide) ⟨sym_all r0, sym_all r1, sym_all r2, sym_mask r3 hc3 hl3 (bit255 _ hc3), trivial⟩ 35 (by decide) hl eff_35_4_0 (by simp only [and_self])
    | z0 :: z1 :: z2 :: z3 :: z4 :: zs, hA =>
      have r0 := hA.wf z0 (by simp)
      have r1 := hA.wf z1 (by simp)
      have r2 := hA.wf z2 (by simp)
      have r3 := hA.wf z3 (by simp)
      obtain ⟨c3, hc3, hl3⟩ := left_lt (x := z3) (n := 8) (by omega)
      exact eff_long l0 u0 hA (by simp only [LONG, List.length_cons]; omega) [0, 0, 0, 271] (ways_of rfl) (by decide) ⟨sym_all r0, sym_all r1, sym_all r2, sym_mask r3 hc3 hl3 (bit255 _ hc3), trivial⟩ 35 (by decide) hl eff_35_5_0 (by simp only [and_self])
theorem eff_op45 (l0 : -9223372036854775808 ≤ x0) (u0 : x0 < 9223372036854775808) (hl : left x0 (46 : Nat) = ((45 : Nat) : Int)) {v : Value} (hv : v = .slice none 0 0 ∨ (∃ a c, v = .slice (some a) 0 c) ∨ ∃ A, LiAt w A ∧ v = .slice (some ⟨A.b, A.off, none⟩) A.zs.length A.cap) : Calls Tryz.prog 3 #[.int .i64 x0, v] w fun e w' => e = .returned (.bool true) ∧ Below w.heap.size w w' := by
  rcases hv with rfl | ⟨a, cap, rfl⟩ | ⟨⟨b, off, cap, zs⟩, hA, rfl⟩
  · exact eff_nil l0 u0 45 (by decide) hl eff_45_nil trivial
  · exact eff_emp l0 u0 45 (by decide) hl eff_45_emp trivial
  · match zs, hA with
    | [], hA => exact absurd hA.some (by simp)
    | [z0], hA =>
      have r0 := hA.wf z0 (by simp)
      obtain ⟨c0, hc0, hl0⟩ := left_lt (x := z0) (n := 8) (by omega)
      exact eff_row l0 u0 hA 1 rfl [271] (ways_of rfl) (by decide) ⟨sym_mask r0 hc0 hl0 (bit255 _ hc0), trivial⟩ 45 (by decide) hl eff_45_1_0 (by simp only [and_self])
    | [z0, z1], hA =>
      have r0 := hA.wf z0 (by simp)
      have r1 := hA.wf z1 (by simp)
      obtain ⟨c1, hc1, hl1⟩ := left_lt (x := z1) (n := 8) (by omega)
      exact eff_row l0 u0 hA 2 rfl [0, 271] (ways_of rfl) (by decide) ⟨sym_all r0, sym_mask r1 hc1 hl1 (bit255 _ hc1), trivial⟩ 45 (by decide) hl eff_45_2_0 (by simp only [and_self])
    | [z0, z1, z2], hA =>
      have r0 := hA.wf z0 (by simp)
      have r1 := hA.wf z1 (by simp)
      have r2 := hA.wf z2 (by simp)
      obtain ⟨c2, hc2, hl2⟩ := left_lt (x := z2) (n := 8) (by omega)
      exact eff_row l0 u0 hA 3 rfl [0, 0, 271] (ways_of rfl) (by decide) ⟨sym_all r0, sym_all r1, sym_mask r2 hc2 hl2 (bit255 _ hc2), trivial⟩ 45 (by decide) hl eff_45_3_0 (by simp only [and_self])
    | [z0, z1, z2, z3], hA =>
      have r0 := hA.wf z0 (by simp)
      have r1 := hA.wf z1 (by simp)
      have r2 := hA.wf z2 (by simp)
      have r3 := hA.wf z3 (by simp)
      obtain ⟨c3, hc3, hl3⟩ := left_lt (x := z3) (n := 8) (by omega)
      exact eff_row l0 u0 hA 4 rfl [0, 0, 0, 271] (ways_of rfl) (by decide) ⟨sym_all r0, sym_all r1, sym_all r2, sym_mask r3 hc3 hl3 (bit255 _ hc3), trivial⟩ 45 (by decide) hl eff_45_4_0 (by simp only [and_self])
    | z0 :: z1 :: z2 :: z3 :: z4 :: zs, hA =>
      have r0 := hA.wf z0 (by simp)
      have r1 := hA.wf z1 (by simp)
      have r2 := hA.wf z2 (by simp)
      have r3 := hA.wf z3 (by simp)
      obtain ⟨c3, hc3, hl3⟩ := left_lt (x := z3) (n := 8) (by omega)
      exact eff_long l0 u0 hA (by simp only [LONG, List.length_cons]; omega) [0, 0, 0, 271] (ways_of rfl) (by decide) ⟨sym_all r0, sym_all r1, sym_all r2, sym_mask r3 hc3 hl3 (bit255 _ hc3), trivial⟩ 45 (by decide) hl eff_45_5_0 (by simp only [and_self])
theorem effects_walk (w : World) (x0 : Int) (l0 : -9223372036854775808 ≤ x0) (u0 : x0 < 9223372036854775808) {v : Value} (hv : v = .slice none 0 0 ∨ (∃ a c, v = .slice (some a) 0 c) ∨ ∃ A, LiAt w A ∧ v = .slice (some ⟨A.b, A.off, none⟩) A.zs.length A.cap) : Calls Tryz.prog 3 #[.int .i64 x0, v] w fun e w' => e = .returned (.bool true) ∧ Below w.heap.size w w' := by
  have hf : Fl v := by
    rcases hv with rfl | ⟨a, cap, rfl⟩ | ⟨A, hA, rfl⟩ <;> exact trivial
  obtain ⟨c0, hc0, hl0⟩ := left_lt (x := x0) (n := 46) (by omega)
  match c0, hc0, hl0 with
  | 0, _, hl => exact eff_op0 l0 u0 hl hv
  | 1, _, hl => exact eff_any l0 u0 hf 1 (by decide) hl eff_1 trivial
  | 2, _, hl => exact eff_op2 l0 u0 hl hv
  | 3, _, hl => exact eff_any l0 u0 hf 3 (by decide) hl eff_3 trivial
  | 4, _, hl => exact eff_any l0 u0 hf 4 (by decide) hl eff_4 trivial
  | 5, _, hl => exact eff_op5 l0 u0 hl hv
  | 6, _, hl => exact eff_any l0 u0 hf 6 (by decide) hl eff_6 trivial
  | 7, _, hl => exact eff_any l0 u0 hf 7 (by decide) hl eff_7 trivial
  | 8, _, hl => exact eff_op8 l0 u0 hl hv
  | 9, _, hl => exact eff_op9 l0 u0 hl hv
  | 10, _, hl => exact eff_op10 l0 u0 hl hv
  | 11, _, hl => exact eff_op11 l0 u0 hl hv
  | 12, _, hl => exact eff_op12 l0 u0 hl hv
  | 13, _, hl => exact eff_op13 l0 u0 hl hv
  | 14, _, hl => exact eff_op14 l0 u0 hl hv
  | 15, _, hl => exact eff_op15 l0 u0 hl hv
  | 16, _, hl => exact eff_op16 l0 u0 hl hv
  | 17, _, hl => exact eff_op17 l0 u0 hl hv
  | 18, _, hl => exact eff_op18 l0 u0 hl hv
  | 19, _, hl => exact eff_any l0 u0 hf 19 (by decide) hl eff_19 trivial
  | 20, _, hl => exact eff_op20 l0 u0 hl hv
  | 21, _, hl => exact eff_op21 l0 u0 hl hv
  | 22, _, hl => exact eff_op22 l0 u0 hl hv
  | 23, _, hl => exact eff_op23 l0 u0 hl hv
  | 24, _, hl => exact eff_op24 l0 u0 hl hv
  | 25, _, hl => exact eff_any l0 u0 hf 25 (by decide) hl eff_25 trivial
  | 26, _, hl => exact eff_any l0 u0 hf 26 (by decide) hl eff_26 trivial
  | 27, _, hl => exact eff_any l0 u0 hf 27 (by decide) hl eff_27 trivial
  | 28, _, hl => exact eff_any l0 u0 hf 28 (by decide) hl eff_28 trivial
  | 29, _, hl => exact eff_any l0 u0 hf 29 (by decide) hl eff_29 trivial
  | 30, _, hl => exact eff_any l0 u0 hf 30 (by decide) hl eff_30 trivial
  | 31, _, hl => exact eff_op31 l0 u0 hl hv
  | 32, _, hl => exact eff_op32 l0 u0 hl hv
  | 33, _, hl => exact eff_any l0 u0 hf 33 (by decide) hl eff_33 trivial
  | 34, _, hl => exact eff_any l0 u0 hf 34 (by decide) hl eff_34 trivial
  | 35, _, hl => exact eff_op35 l0 u0 hl hv
  | 36, _, hl => exact eff_any l0 u0 hf 36 (by decide) hl eff_36 trivial
  | 37, _, hl => exact eff_any l0 u0 hf 37 (by decide) hl eff_37 trivial
  | 38, _, hl => exact eff_any l0 u0 hf 38 (by decide) hl eff_38 trivial
  | 39, _, hl => exact eff_any l0 u0 hf 39 (by decide) hl eff_39 trivial
  | 40, _, hl => exact eff_any l0 u0 hf 40 (by decide) hl eff_40 trivial
  | 41, _, hl => exact eff_any l0 u0 hf 41 (by decide) hl eff_41 trivial
  | 42, _, hl => exact eff_any l0 u0 hf 42 (by decide) hl eff_42 trivial
  | 43, _, hl => exact eff_any l0 u0 hf 43 (by decide) hl eff_43 trivial
  | 44, _, hl => exact eff_any l0 u0 hf 44 (by decide) hl eff_44 trivial
  | 45, _, hl => exact eff_op45 l0 u0 hl hv
  | c + 46, hc, _ => exact absurd hc (by omega)
end

end Rn
end Go.Proofs.YtldmpcnpgjnddaaGreatDoor
