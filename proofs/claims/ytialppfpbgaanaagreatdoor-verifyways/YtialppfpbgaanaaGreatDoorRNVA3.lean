/-
  VerifyWays at some of its arguments, reckoned by the runner.
-/
import Derived.Test.YtialppfpbgaanaaGreatDoorRNH10
namespace Go.Proofs.YtialppfpbgaanaaGreatDoor
namespace Rn
theorem ways_1_f : evCall Tryz.prog tb ⟨some 10, some 9, some 351, 408, [(106, false), (107, false)], []⟩ pl 100000 5 [.chan (some 393217), .bool false] ⟨none, 1000, 0⟩ yes = (True ∧ (True ∧ True) ∧ True ∧ (True ∧ True) ∧ True) := by kernel_rfl
theorem ways_3_f : evCall Tryz.prog tb ⟨some 10, some 9, some 351, 408, [(106, false), (107, false)], []⟩ pl 100000 5 [.chan (some 393219), .bool false] ⟨none, 1000, 0⟩ yes = (True ∧ (True ∧ True) ∧ True ∧ (True ∧ True) ∧ True) := by kernel_rfl
theorem ways_5_f : evCall Tryz.prog tb ⟨some 10, some 9, some 351, 408, [(106, false), (107, false)], []⟩ pl 100000 5 [.chan (some 393221), .bool false] ⟨none, 1000, 0⟩ yes = (True ∧ (True ∧ True) ∧ True ∧ (True ∧ True) ∧ True) := by kernel_rfl
end Rn
end Go.Proofs.YtialppfpbgaanaaGreatDoor
