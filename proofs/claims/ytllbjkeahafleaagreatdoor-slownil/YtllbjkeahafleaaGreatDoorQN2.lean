/-
  SlowNil at some of its arguments, reckoned by the runner.
-/
import Derived.Test.YtllbjkeahafleaaGreatDoorRNH14
namespace Go.Proofs.YtllbjkeahafleaaGreatDoor
namespace Rn
theorem nil_1 : evCall Tryz.prog tb ⟨some 9, none, some 367, 517, [(119, false), (120, false)], [(4, knownK), (325, indexK)]⟩ pl 100000 3 [.chan (some 786433)] hpG yes = ((True ∧ True) ∧ ((True ∧ True) ∧ True)) := by kernel_rfl
theorem nil_4 : evCall Tryz.prog tb ⟨some 9, none, some 367, 517, [(119, false), (120, false)], [(4, knownK), (325, indexK)]⟩ pl 100000 3 [.chan (some 786436)] hpG yes = ((True ∧ True) ∧ ((True ∧ True) ∧ True)) := by kernel_rfl
theorem nil_7 : evCall Tryz.prog tb ⟨some 9, none, some 367, 517, [(119, false), (120, false)], [(4, knownK), (325, indexK)]⟩ pl 100000 3 [.chan (some 786439)] hpG yes = ((True ∧ True) ∧ ((True ∧ True) ∧ True)) := by kernel_rfl
theorem nil_10 : evCall Tryz.prog tb ⟨some 9, none, some 367, 517, [(119, false), (120, false)], [(4, knownK), (325, indexK)]⟩ pl 100000 3 [.chan (some 786442)] hpG yes = ((True ∧ True) ∧ ((True ∧ True) ∧ True)) := by kernel_rfl
end Rn
end Go.Proofs.YtllbjkeahafleaaGreatDoor
