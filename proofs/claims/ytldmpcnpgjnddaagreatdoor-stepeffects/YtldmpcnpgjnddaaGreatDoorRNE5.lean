/-
  StepEffects at some of its arguments, reckoned by the runner.
-/
import Derived.Test.YtldmpcnpgjnddaaGreatDoorRNH9
namespace Go.Proofs.YtldmpcnpgjnddaaGreatDoor
namespace Rn
theorem eff_10_1_0 : evCall Tryz.prog tb ⟨some 6, some 5, none, 0, [], [(12, kindK)]⟩ pl 100000 3 [.chan (some 3014666), .slice (some ⟨1000, 0, none⟩) 1 TOP] (hpA (symRow 1010 [271])) yes = ((True ∧ (True ∧ (True ∧ (True ∧ (True ∧ (True ∧ (True ∧ (True ∧ True))))))))) := by kernel_rfl
theorem eff_11_2_0 : evCall Tryz.prog tb ⟨some 6, some 5, none, 0, [], [(12, kindK)]⟩ pl 100000 3 [.chan (some 3014667), .slice (some ⟨1000, 0, none⟩) 2 TOP] (hpA (symRow 1010 [0, 270])) yes = ((True ∧ (True ∧ (True ∧ (True ∧ (True ∧ (True ∧ (True ∧ True)))))))) := by kernel_rfl
theorem eff_11_nil : evCall Tryz.prog tb ⟨some 6, some 5, none, 0, [], [(12, kindK)]⟩ pl 100000 3 [.chan (some 3014667), .slice none 0 0] hpN yes = (True) := by kernel_rfl
theorem eff_12_1_0 : evCall Tryz.prog tb ⟨some 6, some 5, none, 0, [], [(12, kindK)]⟩ pl 100000 3 [.chan (some 3014668), .slice (some ⟨1000, 0, none⟩) 1 TOP] (hpA (symRow 1010 [271])) yes = ((True ∧ (True ∧ (True ∧ (True ∧ (True ∧ (True ∧ (True ∧ (True ∧ True))))))))) := by kernel_rfl
theorem eff_14_5_1 : evCall Tryz.prog tb ⟨some 6, some 5, none, 0, [], [(12, kindK)]⟩ pl 100000 3 [.chan (some 3014670), .complex .f64 1000 1002] (hpA (symRow 1010 [0, 0, 271, 17])) yes = (((True ∧ True) ∧ ((True ∧ True) ∧ ((True ∧ True) ∧ ((True ∧ True) ∧ ((True ∧ True) ∧ ((True ∧ True) ∧ ((True ∧ True) ∧ ((True ∧ True) ∧ True))))))))) := by kernel_rfl
theorem eff_15_4_0 : evCall Tryz.prog tb ⟨some 6, some 5, none, 0, [], [(12, kindK)]⟩ pl 100000 3 [.chan (some 3014671), .slice (some ⟨1000, 0, none⟩) 4 TOP] (hpA (symRow 1010 [0, 0, 0, 270])) yes = ((True ∧ (True ∧ (True ∧ (True ∧ (True ∧ (True ∧ (True ∧ True)))))))) := by kernel_rfl
theorem eff_17_4_1 : evCall Tryz.prog tb ⟨some 6, some 5, none, 0, [], [(12, kindK)]⟩ pl 100000 3 [.chan (some 3014673), .slice (some ⟨1000, 0, none⟩) 4 TOP] (hpA (symRow 1010 [0, 0, 271, 17])) yes = (((True ∧ True) ∧ ((True ∧ True) ∧ ((True ∧ True) ∧ ((True ∧ True) ∧ ((True ∧ True) ∧ ((True ∧ True) ∧ ((True ∧ True) ∧ ((True ∧ True) ∧ True))))))))) := by kernel_rfl
theorem eff_18_nil : evCall Tryz.prog tb ⟨some 6, some 5, none, 0, [], [(12, kindK)]⟩ pl 100000 3 [.chan (some 3014674), .slice none 0 0] hpN yes = (True) := by kernel_rfl
theorem eff_21_3_0 : evCall Tryz.prog tb ⟨some 6, some 5, none, 0, [], [(12, kindK)]⟩ pl 100000 3 [.chan (some 3014677), .slice (some ⟨1000, 0, none⟩) 3 TOP] (hpA (symRow 1010 [0, 0, 271])) yes = ((True ∧ (True ∧ (True ∧ (True ∧ (True ∧ (True ∧ (True ∧ (True ∧ True))))))))) := by kernel_rfl
theorem eff_22_2_0 : evCall Tryz.prog tb ⟨some 6, some 5, none, 0, [], [(12, kindK)]⟩ pl 100000 3 [.chan (some 3014678), .slice (some ⟨1000, 0, none⟩) 2 TOP] (hpA (symRow 1010 [0, 270])) yes = ((True ∧ (True ∧ (True ∧ (True ∧ (True ∧ (True ∧ (True ∧ True)))))))) := by kernel_rfl
theorem eff_2_emp : evCall Tryz.prog tb ⟨some 6, some 5, none, 0, [], [(12, kindK)]⟩ pl 100000 3 [.chan (some 3014658), .slice (some ⟨NOWHERE, 0, none⟩) 0 TOP] hpN yes = (True) := by kernel_rfl
theorem eff_31_1_0 : evCall Tryz.prog tb ⟨some 6, some 5, none, 0, [], [(12, kindK)]⟩ pl 100000 3 [.chan (some 3014687), .slice (some ⟨1000, 0, none⟩) 1 TOP] (hpA (symRow 1010 [271])) yes = ((True ∧ (True ∧ (True ∧ (True ∧ (True ∧ (True ∧ (True ∧ (True ∧ True))))))))) := by kernel_rfl
theorem eff_32_5_1 : evCall Tryz.prog tb ⟨some 6, some 5, none, 0, [], [(12, kindK)]⟩ pl 100000 3 [.chan (some 3014688), .complex .f64 1000 1002] (hpA (symRow 1010 [0, 0, 270, 17])) yes = (((True ∧ True) ∧ ((True ∧ True) ∧ ((True ∧ True) ∧ ((True ∧ True) ∧ ((True ∧ True) ∧ ((True ∧ True) ∧ ((True ∧ True) ∧ True)))))))) := by kernel_rfl
theorem eff_32_nil : evCall Tryz.prog tb ⟨some 6, some 5, none, 0, [], [(12, kindK)]⟩ pl 100000 3 [.chan (some 3014688), .slice none 0 0] hpN yes = (True) := by kernel_rfl
theorem eff_35_5_0 : evCall Tryz.prog tb ⟨some 6, some 5, none, 0, [], [(12, kindK)]⟩ pl 100000 3 [.chan (some 3014691), .complex .f64 1000 1002] (hpA (symRow 1010 [0, 0, 0, 271])) yes = ((True ∧ (True ∧ (True ∧ (True ∧ (True ∧ (True ∧ (True ∧ (True ∧ True))))))))) := by kernel_rfl
theorem eff_8_1_0 : evCall Tryz.prog tb ⟨some 6, some 5, none, 0, [], [(12, kindK)]⟩ pl 100000 3 [.chan (some 3014664), .slice (some ⟨1000, 0, none⟩) 1 TOP] (hpA (symRow 1010 [271])) yes = ((True ∧ (True ∧ (True ∧ (True ∧ (True ∧ (True ∧ (True ∧ (True ∧ True))))))))) := by kernel_rfl
end Rn
end Go.Proofs.YtldmpcnpgjnddaaGreatDoor
