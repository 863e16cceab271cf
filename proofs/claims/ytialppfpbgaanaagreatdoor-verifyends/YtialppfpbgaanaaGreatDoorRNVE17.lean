/-
  VerifyEnds at some of its arguments, reckoned by the runner.
-/
import Derived.Test.YtialppfpbgaanaaGreatDoorRNH10
namespace Go.Proofs.YtialppfpbgaanaaGreatDoor
namespace Rn
theorem ends_0_f : evCall Tryz.prog tb ⟨some 10, some 9, some 351, 408, [(106, false), (107, false)], []⟩ pl 100000 6 [.chan (some 3276800), .bool false] ⟨none, 1000, 0⟩ yes = (True ∧ (True ∧ True) ∧ True ∧ (True ∧ True) ∧ True) := by kernel_rfl
theorem ends_19_f : evCall Tryz.prog tb ⟨some 10, some 9, some 351, 408, [(106, false), (107, false)], []⟩ pl 100000 6 [.chan (some 3276819), .bool false] ⟨none, 1000, 0⟩ yes = (True ∧ (True ∧ True) ∧ True ∧ (True ∧ True) ∧ True) := by kernel_rfl
theorem ends_20_f : evCall Tryz.prog tb ⟨some 10, some 9, some 351, 408, [(106, false), (107, false)], []⟩ pl 100000 6 [.chan (some 3276820), .bool false] ⟨none, 1000, 0⟩ yes = (True ∧ (True ∧ True) ∧ True ∧ (True ∧ True) ∧ True) := by kernel_rfl
theorem ends_38_f : evCall Tryz.prog tb ⟨some 10, some 9, some 351, 408, [(106, false), (107, false)], []⟩ pl 100000 6 [.chan (some 3276838), .bool false] ⟨none, 1000, 0⟩ yes = (True ∧ (True ∧ True) ∧ True ∧ (True ∧ True) ∧ True) := by kernel_rfl
theorem ends_41_f : evCall Tryz.prog tb ⟨some 10, some 9, some 351, 408, [(106, false), (107, false)], []⟩ pl 100000 6 [.chan (some 3276841), .bool false] ⟨none, 1000, 0⟩ yes = (True ∧ (True ∧ True) ∧ True ∧ (True ∧ True) ∧ True) := by kernel_rfl
end Rn
end Go.Proofs.YtialppfpbgaanaaGreatDoor
