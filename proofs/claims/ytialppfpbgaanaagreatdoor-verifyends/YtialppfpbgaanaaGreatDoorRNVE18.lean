/-
  VerifyEnds at some of its arguments, reckoned by the runner.
-/
import Derived.Test.YtialppfpbgaanaaGreatDoorRNH10
namespace Go.Proofs.YtialppfpbgaanaaGreatDoor
namespace Rn
theorem ends_0_t : evCall Tryz.prog tb ⟨some 10, some 9, some 351, 408, [(106, false), (107, false)], []⟩ pl 100000 6 [.chan (some 3276800), .bool true] ⟨none, 1000, 0⟩ yes = (True ∧ (True ∧ True) ∧ True ∧ (True ∧ True) ∧ True) := by kernel_rfl
theorem ends_19_t : evCall Tryz.prog tb ⟨some 10, some 9, some 351, 408, [(106, false), (107, false)], []⟩ pl 100000 6 [.chan (some 3276819), .bool true] ⟨none, 1000, 0⟩ yes = (True ∧ (True ∧ True) ∧ True ∧ (True ∧ True) ∧ True) := by kernel_rfl
theorem ends_20_t : evCall Tryz.prog tb ⟨some 10, some 9, some 351, 408, [(106, false), (107, false)], []⟩ pl 100000 6 [.chan (some 3276820), .bool true] ⟨none, 1000, 0⟩ yes = (True ∧ (True ∧ True) ∧ True ∧ (True ∧ True) ∧ True) := by kernel_rfl
theorem ends_38_t : evCall Tryz.prog tb ⟨some 10, some 9, some 351, 408, [(106, false), (107, false)], []⟩ pl 100000 6 [.chan (some 3276838), .bool true] ⟨none, 1000, 0⟩ yes = (True ∧ (True ∧ True) ∧ True ∧ (True ∧ True) ∧ True) := by kernel_rfl
theorem ends_41_t : evCall Tryz.prog tb ⟨some 10, some 9, some 351, 408, [(106, false), (107, false)], []⟩ pl 100000 6 [.chan (some 3276841), .bool true] ⟨none, 1000, 0⟩ yes = (True ∧ (True ∧ True) ∧ True ∧ (True ∧ True) ∧ True) := by kernel_rfl
end Rn
end Go.Proofs.YtialppfpbgaanaaGreatDoor
