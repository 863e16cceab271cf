/-
  SlowNil at some of its arguments, reckoned by the runner.
-/
import Derived.Test.YtllbjkeahafleaaGreatDoorRNH14
namespace Go.Proofs.YtllbjkeahafleaaGreatDoor
namespace Rn
theorem nil_2 : evCall Tryz.prog tb ⟨some 9, none, some 367, 517, [(119, false), (120, false)], [(4, knownK), (325, indexK)]⟩ pl 100000 3 [.chan (some 786434)] hpG yes = ((True ∧ True) ∧ ((True ∧ True) ∧ True)) := by kernel_rfl
theorem nil_5 : evCall Tryz.prog tb ⟨some 9, none, some 367, 517, [(119, false), (120, false)], [(4, knownK), (325, indexK)]⟩ pl 100000 3 [.chan (some 786437)] hpG yes = ((True ∧ True) ∧ ((True ∧ True) ∧ True)) := by kernel_rfl
theorem nil_8 : evCall Tryz.prog tb ⟨some 9, none, some 367, 517, [(119, false), (120, false)], [(4, knownK), (325, indexK)]⟩ pl 100000 3 [.chan (some 786440)] hpG yes = ((True ∧ True) ∧ ((True ∧ True) ∧ True)) := by kernel_rfl
theorem nil_11 : evCall Tryz.prog tb ⟨some 9, none, some 367, 517, [(119, false), (120, false)], [(4, knownK), (325, indexK)]⟩ pl 100000 3 [.chan (some 786443)] hpG yes = ((True ∧ True) ∧ ((True ∧ True) ∧ True)) := by kernel_rfl
end Rn
end Go.Proofs.YtllbjkeahafleaaGreatDoor
