/-
  VerifyBegins at some of its arguments, reckoned by the runner.
-/
import Derived.Test.YtialppfpbgaanaaGreatDoorROH11
namespace Go.Proofs.YtialppfpbgaanaaGreatDoor
namespace Rn
theorem begins_1 : evCall Tryz.prog tb ⟨some 10, some 9, some 351, 408, [(106, false), (107, false)], [(195, insK tb 3)]⟩ pl 100000 4 [.chan (some 720897)] ⟨none, 1000, 0⟩ yes = (True ∧ True ∧ True ∧ True ∧ True) := by kernel_rfl
theorem begins_5 : evCall Tryz.prog tb ⟨some 10, some 9, some 351, 408, [(106, false), (107, false)], [(195, insK tb 3)]⟩ pl 100000 4 [.chan (some 720901)] ⟨none, 1000, 0⟩ yes = (True ∧ True ∧ True ∧ True ∧ True) := by kernel_rfl
theorem begins_9 : evCall Tryz.prog tb ⟨some 10, some 9, some 351, 408, [(106, false), (107, false)], [(195, insK tb 3)]⟩ pl 100000 4 [.chan (some 720905)] ⟨none, 1000, 0⟩ yes = (True ∧ True ∧ True ∧ True ∧ True) := by kernel_rfl
end Rn
end Go.Proofs.YtialppfpbgaanaaGreatDoor
