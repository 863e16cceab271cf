/-
  VerifyMakes at some of its arguments, reckoned by the runner.
-/
import Derived.Test.YtialppfpbgaanaaGreatDoorROH11
namespace Go.Proofs.YtialppfpbgaanaaGreatDoor
namespace Rn
theorem makes_3 : evCall Tryz.prog tb ⟨some 10, some 9, some 351, 408, [(106, false), (107, false)], [(195, insK tb 3)]⟩ pl 100000 3 [.chan (some 786435)] ⟨none, 1000, 0⟩ yes = (True ∧ (True ∧ True) ∧ True ∧ (True ∧ True) ∧ True) := by kernel_rfl
theorem makes_7 : evCall Tryz.prog tb ⟨some 10, some 9, some 351, 408, [(106, false), (107, false)], [(195, insK tb 3)]⟩ pl 100000 3 [.chan (some 786439)] ⟨none, 1000, 0⟩ yes = (True ∧ (True ∧ True) ∧ True ∧ (True ∧ True) ∧ True) := by kernel_rfl
theorem makes_11 : evCall Tryz.prog tb ⟨some 10, some 9, some 351, 408, [(106, false), (107, false)], [(195, insK tb 3)]⟩ pl 100000 3 [.chan (some 786443)] ⟨none, 1000, 0⟩ yes = (True ∧ (True ∧ True) ∧ True ∧ (True ∧ True) ∧ True) := by kernel_rfl
end Rn
end Go.Proofs.YtialppfpbgaanaaGreatDoor
