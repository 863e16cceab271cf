/-
  VerifyEnds at some of its arguments, reckoned by the runner.
-/
import Derived.Test.YtialppfpbgaanaaGreatDoorRNH10
namespace Go.Proofs.YtialppfpbgaanaaGreatDoor
namespace Rn
theorem ends_3_f : evCall Tryz.prog tb ⟨some 10, some 9, some 351, 408, [(106, false), (107, false)], []⟩ pl 100000 6 [.chan (some 3276803), .bool false] ⟨none, 1000, 0⟩ yes = (True ∧ (True ∧ True) ∧ True ∧ (True ∧ True) ∧ True) := by kernel_rfl
theorem ends_11_f : evCall Tryz.prog tb ⟨some 10, some 9, some 351, 408, [(106, false), (107, false)], []⟩ pl 100000 6 [.chan (some 3276811), .bool false] ⟨none, 1000, 0⟩ yes = (True ∧ (True ∧ True) ∧ True ∧ (True ∧ True) ∧ True) := by kernel_rfl
theorem ends_28_f : evCall Tryz.prog tb ⟨some 10, some 9, some 351, 408, [(106, false), (107, false)], []⟩ pl 100000 6 [.chan (some 3276828), .bool false] ⟨none, 1000, 0⟩ yes = (True ∧ (True ∧ True) ∧ True ∧ (True ∧ True) ∧ True) := by kernel_rfl
theorem ends_32_f : evCall Tryz.prog tb ⟨some 10, some 9, some 351, 408, [(106, false), (107, false)], []⟩ pl 100000 6 [.chan (some 3276832), .bool false] ⟨none, 1000, 0⟩ yes = (True ∧ (True ∧ True) ∧ True ∧ (True ∧ True) ∧ True) := by kernel_rfl
theorem ends_47_f : evCall Tryz.prog tb ⟨some 10, some 9, some 351, 408, [(106, false), (107, false)], []⟩ pl 100000 6 [.chan (some 3276847), .bool false] ⟨none, 1000, 0⟩ yes = (True ∧ (True ∧ True) ∧ True ∧ (True ∧ True) ∧ True) := by kernel_rfl
end Rn
end Go.Proofs.YtialppfpbgaanaaGreatDoor
