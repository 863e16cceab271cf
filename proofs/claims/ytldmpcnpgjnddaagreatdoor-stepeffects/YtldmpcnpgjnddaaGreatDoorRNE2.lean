/-
  StepEffects at some of its arguments, reckoned by the runner.
-/
import Derived.Test.YtldmpcnpgjnddaaGreatDoorRNH9
namespace Go.Proofs.YtldmpcnpgjnddaaGreatDoor
namespace Rn
theorem eff_0_3_0 : evCall Tryz.prog tb ⟨some 6, some 5, none, 0, [], [(12, kindK)]⟩ pl 100000 3 [.chan (some 3014656), .slice (some ⟨1000, 0, none⟩) 3 TOP] (hpA (symRow 1010 [0, 0, 0])) yes = (True) := by kernel_rfl
theorem eff_0_nil : evCall Tryz.prog tb ⟨some 6, some 5, none, 0, [], [(12, kindK)]⟩ pl 100000 3 [.chan (some 3014656), .slice none 0 0] hpN yes = (True) := by kernel_rfl
theorem eff_12_5_0 : evCall Tryz.prog tb ⟨some 6, some 5, none, 0, [], [(12, kindK)]⟩ pl 100000 3 [.chan (some 3014668), .complex .f64 1000 1002] (hpA (symRow 1010 [0, 0, 0, 270])) yes = ((True ∧ (True ∧ (True ∧ (True ∧ (True ∧ (True ∧ (True ∧ True)))))))) := by kernel_rfl
theorem eff_14_2_1 : evCall Tryz.prog tb ⟨some 6, some 5, none, 0, [], [(12, kindK)]⟩ pl 100000 3 [.chan (some 3014670), .slice (some ⟨1000, 0, none⟩) 2 TOP] (hpA (symRow 1010 [271, 17])) yes = (((True ∧ True) ∧ ((True ∧ True) ∧ ((True ∧ True) ∧ ((True ∧ True) ∧ ((True ∧ True) ∧ ((True ∧ True) ∧ ((True ∧ True) ∧ ((True ∧ True) ∧ True))))))))) := by kernel_rfl
theorem eff_16_emp : evCall Tryz.prog tb ⟨some 6, some 5, none, 0, [], [(12, kindK)]⟩ pl 100000 3 [.chan (some 3014672), .slice (some ⟨NOWHERE, 0, none⟩) 0 TOP] hpN yes = (True) := by kernel_rfl
theorem eff_17_1_0 : evCall Tryz.prog tb ⟨some 6, some 5, none, 0, [], [(12, kindK)]⟩ pl 100000 3 [.chan (some 3014673), .slice (some ⟨1000, 0, none⟩) 1 TOP] (hpA (symRow 1010 [271])) yes = ((True ∧ (True ∧ (True ∧ (True ∧ (True ∧ (True ∧ (True ∧ (True ∧ True))))))))) := by kernel_rfl
theorem eff_17_3_0 : evCall Tryz.prog tb ⟨some 6, some 5, none, 0, [], [(12, kindK)]⟩ pl 100000 3 [.chan (some 3014673), .slice (some ⟨1000, 0, none⟩) 3 TOP] (hpA (symRow 1010 [0, 0, 270])) yes = ((True ∧ (True ∧ (True ∧ (True ∧ (True ∧ (True ∧ (True ∧ True)))))))) := by kernel_rfl
theorem eff_20_5_0 : evCall Tryz.prog tb ⟨some 6, some 5, none, 0, [], [(12, kindK)]⟩ pl 100000 3 [.chan (some 3014676), .complex .f64 1000 1002] (hpA (symRow 1010 [0, 0, 0, 271])) yes = ((True ∧ (True ∧ (True ∧ (True ∧ (True ∧ (True ∧ (True ∧ (True ∧ True))))))))) := by kernel_rfl
theorem eff_23_4_0 : evCall Tryz.prog tb ⟨some 6, some 5, none, 0, [], [(12, kindK)]⟩ pl 100000 3 [.chan (some 3014679), .slice (some ⟨1000, 0, none⟩) 4 TOP] (hpA (symRow 1010 [0, 0, 0, 271])) yes = ((True ∧ (True ∧ (True ∧ (True ∧ (True ∧ (True ∧ (True ∧ (True ∧ True))))))))) := by kernel_rfl
theorem eff_24_3_1 : evCall Tryz.prog tb ⟨some 6, some 5, none, 0, [], [(12, kindK)]⟩ pl 100000 3 [.chan (some 3014680), .slice (some ⟨1000, 0, none⟩) 3 TOP] (hpA (symRow 1010 [0, 271, 246])) yes = (((True ∧ (True ∧ (True ∧ (True ∧ (True ∧ True))))) ∧ ((True ∧ (True ∧ (True ∧ (True ∧ (True ∧ True))))) ∧ ((True ∧ (True ∧ (True ∧ (True ∧ (True ∧ True))))) ∧ ((True ∧ (True ∧ (True ∧ (True ∧ (True ∧ True))))) ∧ ((True ∧ (True ∧ (True ∧ (True ∧ (True ∧ True))))) ∧ ((True ∧ (True ∧ (True ∧ (True ∧ (True ∧ True))))) ∧ ((True ∧ (True ∧ (True ∧ (True ∧ (True ∧ True))))) ∧ ((True ∧ (True ∧ (True ∧ (True ∧ (True ∧ True))))) ∧ True))))))))) := by kernel_rfl
theorem eff_24_emp : evCall Tryz.prog tb ⟨some 6, some 5, none, 0, [], [(12, kindK)]⟩ pl 100000 3 [.chan (some 3014680), .slice (some ⟨NOWHERE, 0, none⟩) 0 TOP] hpN yes = (True) := by kernel_rfl
theorem eff_31_5_0 : evCall Tryz.prog tb ⟨some 6, some 5, none, 0, [], [(12, kindK)]⟩ pl 100000 3 [.chan (some 3014687), .complex .f64 1000 1002] (hpA (symRow 1010 [0, 0, 0, 270])) yes = ((True ∧ (True ∧ (True ∧ (True ∧ (True ∧ (True ∧ (True ∧ True)))))))) := by kernel_rfl
theorem eff_35_2_0 : evCall Tryz.prog tb ⟨some 6, some 5, none, 0, [], [(12, kindK)]⟩ pl 100000 3 [.chan (some 3014691), .slice (some ⟨1000, 0, none⟩) 2 TOP] (hpA (symRow 1010 [0, 271])) yes = ((True ∧ (True ∧ (True ∧ (True ∧ (True ∧ (True ∧ (True ∧ (True ∧ True))))))))) := by kernel_rfl
theorem eff_9_3_0 : evCall Tryz.prog tb ⟨some 6, some 5, none, 0, [], [(12, kindK)]⟩ pl 100000 3 [.chan (some 3014665), .slice (some ⟨1000, 0, none⟩) 3 TOP] (hpA (symRow 1010 [0, 0, 270])) yes = ((True ∧ (True ∧ (True ∧ (True ∧ (True ∧ (True ∧ (True ∧ True)))))))) := by kernel_rfl
theorem eff_9_emp : evCall Tryz.prog tb ⟨some 6, some 5, none, 0, [], [(12, kindK)]⟩ pl 100000 3 [.chan (some 3014665), .slice (some ⟨NOWHERE, 0, none⟩) 0 TOP] hpN yes = (True) := by kernel_rfl
end Rn
end Go.Proofs.YtldmpcnpgjnddaaGreatDoor
