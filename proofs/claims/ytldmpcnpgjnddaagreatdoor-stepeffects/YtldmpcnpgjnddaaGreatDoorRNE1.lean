/-
  StepEffects at some of its arguments, reckoned by the runner.
-/
import Derived.Test.YtldmpcnpgjnddaaGreatDoorRNH9
namespace Go.Proofs.YtldmpcnpgjnddaaGreatDoor
namespace Rn
theorem eff_0_2_0 : evCall Tryz.prog tb ⟨some 6, some 5, none, 0, [], [(12, kindK)]⟩ pl 100000 3 [.chan (some 3014656), .slice (some ⟨1000, 0, none⟩) 2 TOP] (hpA (symRow 1010 [0, 0])) yes = (True) := by kernel_rfl
theorem eff_12_4_0 : evCall Tryz.prog tb ⟨some 6, some 5, none, 0, [], [(12, kindK)]⟩ pl 100000 3 [.chan (some 3014668), .slice (some ⟨1000, 0, none⟩) 4 TOP] (hpA (symRow 1010 [0, 0, 0, 270])) yes = ((True ∧ (True ∧ (True ∧ (True ∧ (True ∧ (True ∧ (True ∧ True)))))))) := by kernel_rfl
theorem eff_13_emp : evCall Tryz.prog tb ⟨some 6, some 5, none, 0, [], [(12, kindK)]⟩ pl 100000 3 [.chan (some 3014669), .slice (some ⟨NOWHERE, 0, none⟩) 0 TOP] hpN yes = (True) := by kernel_rfl
theorem eff_14_1_0 : evCall Tryz.prog tb ⟨some 6, some 5, none, 0, [], [(12, kindK)]⟩ pl 100000 3 [.chan (some 3014670), .slice (some ⟨1000, 0, none⟩) 1 TOP] (hpA (symRow 1010 [271])) yes = ((True ∧ (True ∧ (True ∧ (True ∧ (True ∧ (True ∧ (True ∧ (True ∧ True))))))))) := by kernel_rfl
theorem eff_16_5_1 : evCall Tryz.prog tb ⟨some 6, some 5, none, 0, [], [(12, kindK)]⟩ pl 100000 3 [.chan (some 3014672), .complex .f64 1000 1002] (hpA (symRow 1010 [0, 0, 271, 17])) yes = (((True ∧ True) ∧ ((True ∧ True) ∧ ((True ∧ True) ∧ ((True ∧ True) ∧ ((True ∧ True) ∧ ((True ∧ True) ∧ ((True ∧ True) ∧ ((True ∧ True) ∧ True))))))))) := by kernel_rfl
theorem eff_17_2_0 : evCall Tryz.prog tb ⟨some 6, some 5, none, 0, [], [(12, kindK)]⟩ pl 100000 3 [.chan (some 3014673), .slice (some ⟨1000, 0, none⟩) 2 TOP] (hpA (symRow 1010 [0, 270])) yes = ((True ∧ (True ∧ (True ∧ (True ∧ (True ∧ (True ∧ (True ∧ True)))))))) := by kernel_rfl
theorem eff_20_4_0 : evCall Tryz.prog tb ⟨some 6, some 5, none, 0, [], [(12, kindK)]⟩ pl 100000 3 [.chan (some 3014676), .slice (some ⟨1000, 0, none⟩) 4 TOP] (hpA (symRow 1010 [0, 0, 0, 271])) yes = ((True ∧ (True ∧ (True ∧ (True ∧ (True ∧ (True ∧ (True ∧ (True ∧ True))))))))) := by kernel_rfl
theorem eff_21_emp : evCall Tryz.prog tb ⟨some 6, some 5, none, 0, [], [(12, kindK)]⟩ pl 100000 3 [.chan (some 3014677), .slice (some ⟨NOWHERE, 0, none⟩) 0 TOP] hpN yes = (True) := by kernel_rfl
theorem eff_23_3_0 : evCall Tryz.prog tb ⟨some 6, some 5, none, 0, [], [(12, kindK)]⟩ pl 100000 3 [.chan (some 3014679), .slice (some ⟨1000, 0, none⟩) 3 TOP] (hpA (symRow 1010 [0, 0, 271])) yes = ((True ∧ (True ∧ (True ∧ (True ∧ (True ∧ (True ∧ (True ∧ (True ∧ True))))))))) := by kernel_rfl
theorem eff_24_2_1 : evCall Tryz.prog tb ⟨some 6, some 5, none, 0, [], [(12, kindK)]⟩ pl 100000 3 [.chan (some 3014680), .slice (some ⟨1000, 0, none⟩) 2 TOP] (hpA (symRow 1010 [271, 246])) yes = (((True ∧ (True ∧ (True ∧ (True ∧ (True ∧ True))))) ∧ ((True ∧ (True ∧ (True ∧ (True ∧ (True ∧ True))))) ∧ ((True ∧ (True ∧ (True ∧ (True ∧ (True ∧ True))))) ∧ ((True ∧ (True ∧ (True ∧ (True ∧ (True ∧ True))))) ∧ ((True ∧ (True ∧ (True ∧ (True ∧ (True ∧ True))))) ∧ ((True ∧ (True ∧ (True ∧ (True ∧ (True ∧ True))))) ∧ ((True ∧ (True ∧ (True ∧ (True ∧ (True ∧ True))))) ∧ ((True ∧ (True ∧ (True ∧ (True ∧ (True ∧ True))))) ∧ True))))))))) := by kernel_rfl
theorem eff_31_4_0 : evCall Tryz.prog tb ⟨some 6, some 5, none, 0, [], [(12, kindK)]⟩ pl 100000 3 [.chan (some 3014687), .slice (some ⟨1000, 0, none⟩) 4 TOP] (hpA (symRow 1010 [0, 0, 0, 270])) yes = ((True ∧ (True ∧ (True ∧ (True ∧ (True ∧ (True ∧ (True ∧ True)))))))) := by kernel_rfl
theorem eff_35_1_0 : evCall Tryz.prog tb ⟨some 6, some 5, none, 0, [], [(12, kindK)]⟩ pl 100000 3 [.chan (some 3014691), .slice (some ⟨1000, 0, none⟩) 1 TOP] (hpA (symRow 1010 [271])) yes = ((True ∧ (True ∧ (True ∧ (True ∧ (True ∧ (True ∧ (True ∧ (True ∧ True))))))))) := by kernel_rfl
theorem eff_45_emp : evCall Tryz.prog tb ⟨some 6, some 5, none, 0, [], [(12, kindK)]⟩ pl 100000 3 [.chan (some 3014701), .slice (some ⟨NOWHERE, 0, none⟩) 0 TOP] hpN yes = (True) := by kernel_rfl
theorem eff_5_5_0 : evCall Tryz.prog tb ⟨some 6, some 5, none, 0, [], [(12, kindK)]⟩ pl 100000 3 [.chan (some 3014661), .complex .f64 1000 1002] (hpA (symRow 1010 [0, 0, 0, 0])) yes = (True) := by kernel_rfl
theorem eff_9_2_0 : evCall Tryz.prog tb ⟨some 6, some 5, none, 0, [], [(12, kindK)]⟩ pl 100000 3 [.chan (some 3014665), .slice (some ⟨1000, 0, none⟩) 2 TOP] (hpA (symRow 1010 [0, 270])) yes = ((True ∧ (True ∧ (True ∧ (True ∧ (True ∧ (True ∧ (True ∧ True)))))))) := by kernel_rfl
end Rn
end Go.Proofs.YtldmpcnpgjnddaaGreatDoor
