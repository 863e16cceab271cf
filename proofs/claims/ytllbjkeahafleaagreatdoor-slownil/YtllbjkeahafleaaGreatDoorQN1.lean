/-
  SlowNil at some of its arguments, reckoned by the runner.
-/
import Derived.Test.YtllbjkeahafleaaGreatDoorRNH14
namespace Go.Proofs.YtllbjkeahafleaaGreatDoor
namespace Rn
theorem nil_0 : evCall Tryz.prog tb ⟨some 9, none, some 367, 517, [(119, false), (120, false)], [(4, knownK), (325, indexK)]⟩ pl 100000 3 [.chan (some 786432)] hpG yes = ((True ∧ True) ∧ ((True ∧ True) ∧ True)) := by kernel_rfl
theorem nil_3 : evCall Tryz.prog tb ⟨some 9, none, some 367, 517, [(119, false), (120, false)], [(4, knownK), (325, indexK)]⟩ pl 100000 3 [.chan (some 786435)] hpG yes = ((True ∧ True) ∧ ((True ∧ True) ∧ True)) := by kernel_rfl
theorem nil_6 : evCall Tryz.prog tb ⟨some 9, none, some 367, 517, [(119, false), (120, false)], [(4, knownK), (325, indexK)]⟩ pl 100000 3 [.chan (some 786438)] hpG yes = ((True ∧ True) ∧ ((True ∧ True) ∧ True)) := by kernel_rfl
theorem nil_9 : evCall Tryz.prog tb ⟨some 9, none, some 367, 517, [(119, false), (120, false)], [(4, knownK), (325, indexK)]⟩ pl 100000 3 [.chan (some 786441)] hpG yes = ((True ∧ True) ∧ ((True ∧ True) ∧ True)) := by kernel_rfl
end Rn
end Go.Proofs.YtllbjkeahafleaaGreatDoor
