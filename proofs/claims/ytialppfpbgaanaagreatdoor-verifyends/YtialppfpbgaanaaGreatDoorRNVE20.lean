/-
  VerifyEnds at some of its arguments, reckoned by the runner.
-/
import Derived.Test.YtialppfpbgaanaaGreatDoorRNH10
namespace Go.Proofs.YtialppfpbgaanaaGreatDoor
namespace Rn
theorem ends_5_t : evCall Tryz.prog tb ⟨some 10, some 9, some 351, 408, [(106, false), (107, false)], []⟩ pl 100000 6 [.chan (some 3276805), .bool true] ⟨none, 1000, 0⟩ yes = (True ∧ (True ∧ True) ∧ True ∧ (True ∧ True) ∧ True) := by kernel_rfl
theorem ends_15_t : evCall Tryz.prog tb ⟨some 10, some 9, some 351, 408, [(106, false), (107, false)], []⟩ pl 100000 6 [.chan (some 3276815), .bool true] ⟨none, 1000, 0⟩ yes = (True ∧ (True ∧ True) ∧ True ∧ (True ∧ True) ∧ True) := by kernel_rfl
theorem ends_24_t : evCall Tryz.prog tb ⟨some 10, some 9, some 351, 408, [(106, false), (107, false)], []⟩ pl 100000 6 [.chan (some 3276824), .bool true] ⟨none, 1000, 0⟩ yes = (True ∧ (True ∧ True) ∧ True ∧ (True ∧ True) ∧ True) := by kernel_rfl
theorem ends_39_t : evCall Tryz.prog tb ⟨some 10, some 9, some 351, 408, [(106, false), (107, false)], []⟩ pl 100000 6 [.chan (some 3276839), .bool true] ⟨none, 1000, 0⟩ yes = (True ∧ (True ∧ True) ∧ True ∧ (True ∧ True) ∧ True) := by kernel_rfl
theorem ends_40_t : evCall Tryz.prog tb ⟨some 10, some 9, some 351, 408, [(106, false), (107, false)], []⟩ pl 100000 6 [.chan (some 3276840), .bool true] ⟨none, 1000, 0⟩ yes = (True ∧ (True ∧ True) ∧ True ∧ (True ∧ True) ∧ True) := by kernel_rfl
end Rn
end Go.Proofs.YtialppfpbgaanaaGreatDoor
