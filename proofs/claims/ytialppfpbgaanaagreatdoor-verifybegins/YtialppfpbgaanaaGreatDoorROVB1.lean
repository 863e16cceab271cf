/-
  VerifyBegins at some of its arguments, reckoned by the runner.
-/
import Derived.Test.YtialppfpbgaanaaGreatDoorROH11
namespace Go.Proofs.YtialppfpbgaanaaGreatDoor
namespace Rn
theorem begins_0 : evCall Tryz.prog tb ⟨some 10, some 9, some 351, 408, [(106, false), (107, false)], [(195, insK tb 3)]⟩ pl 100000 4 [.chan (some 720896)] ⟨none, 1000, 0⟩ yes = (True ∧ True ∧ True ∧ True ∧ True) := by kernel_rfl
theorem begins_4 : evCall Tryz.prog tb ⟨some 10, some 9, some 351, 408, [(106, false), (107, false)], [(195, insK tb 3)]⟩ pl 100000 4 [.chan (some 720900)] ⟨none, 1000, 0⟩ yes = (True ∧ True ∧ True ∧ True ∧ True) := by kernel_rfl
theorem begins_8 : evCall Tryz.prog tb ⟨some 10, some 9, some 351, 408, [(106, false), (107, false)], [(195, insK tb 3)]⟩ pl 100000 4 [.chan (some 720904)] ⟨none, 1000, 0⟩ yes = (True ∧ True ∧ True ∧ True ∧ True) := by kernel_rfl
end Rn
end Go.Proofs.YtialppfpbgaanaaGreatDoor
