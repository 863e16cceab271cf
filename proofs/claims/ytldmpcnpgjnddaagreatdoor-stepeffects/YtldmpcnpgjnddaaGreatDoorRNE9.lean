/-
  StepEffects at some of its arguments, reckoned by the runner.
-/
import Derived.Test.YtldmpcnpgjnddaaGreatDoorRNH9
namespace Go.Proofs.YtldmpcnpgjnddaaGreatDoor
namespace Rn
theorem eff_10_5_1 : evCall Tryz.prog tb ⟨some 6, some 5, none, 0, [], [(12, kindK)]⟩ pl 100000 3 [.chan (some 3014666), .complex .f64 1000 1002] (hpA (symRow 1010 [0, 0, 271, 17])) yes = (((True ∧ True) ∧ ((True ∧ True) ∧ ((True ∧ True) ∧ ((True ∧ True) ∧ ((True ∧ True) ∧ ((True ∧ True) ∧ ((True ∧ True) ∧ ((True ∧ True) ∧ True))))))))) := by kernel_rfl
theorem eff_12_2_0 : evCall Tryz.prog tb ⟨some 6, some 5, none, 0, [], [(12, kindK)]⟩ pl 100000 3 [.chan (some 3014668), .slice (some ⟨1000, 0, none⟩) 2 TOP] (hpA (symRow 1010 [0, 270])) yes = ((True ∧ (True ∧ (True ∧ (True ∧ (True ∧ (True ∧ (True ∧ True)))))))) := by kernel_rfl
theorem eff_12_5_1 : evCall Tryz.prog tb ⟨some 6, some 5, none, 0, [], [(12, kindK)]⟩ pl 100000 3 [.chan (some 3014668), .complex .f64 1000 1002] (hpA (symRow 1010 [0, 0, 271, 17])) yes = (((True ∧ True) ∧ ((True ∧ True) ∧ ((True ∧ True) ∧ ((True ∧ True) ∧ ((True ∧ True) ∧ ((True ∧ True) ∧ ((True ∧ True) ∧ ((True ∧ True) ∧ True))))))))) := by kernel_rfl
theorem eff_15_4_1 : evCall Tryz.prog tb ⟨some 6, some 5, none, 0, [], [(12, kindK)]⟩ pl 100000 3 [.chan (some 3014671), .slice (some ⟨1000, 0, none⟩) 4 TOP] (hpA (symRow 1010 [0, 0, 271, 17])) yes = (((True ∧ True) ∧ ((True ∧ True) ∧ ((True ∧ True) ∧ ((True ∧ True) ∧ ((True ∧ True) ∧ ((True ∧ True) ∧ ((True ∧ True) ∧ ((True ∧ True) ∧ True))))))))) := by kernel_rfl
theorem eff_16_4_0 : evCall Tryz.prog tb ⟨some 6, some 5, none, 0, [], [(12, kindK)]⟩ pl 100000 3 [.chan (some 3014672), .slice (some ⟨1000, 0, none⟩) 4 TOP] (hpA (symRow 1010 [0, 0, 0, 270])) yes = ((True ∧ (True ∧ (True ∧ (True ∧ (True ∧ (True ∧ (True ∧ True)))))))) := by kernel_rfl
theorem eff_16_nil : evCall Tryz.prog tb ⟨some 6, some 5, none, 0, [], [(12, kindK)]⟩ pl 100000 3 [.chan (some 3014672), .slice none 0 0] hpN yes = (True) := by kernel_rfl
theorem eff_18_3_1 : evCall Tryz.prog tb ⟨some 6, some 5, none, 0, [], [(12, kindK)]⟩ pl 100000 3 [.chan (some 3014674), .slice (some ⟨1000, 0, none⟩) 3 TOP] (hpA (symRow 1010 [0, 271, 17])) yes = (((True ∧ True) ∧ ((True ∧ True) ∧ ((True ∧ True) ∧ ((True ∧ True) ∧ ((True ∧ True) ∧ ((True ∧ True) ∧ ((True ∧ True) ∧ ((True ∧ True) ∧ True))))))))) := by kernel_rfl
theorem eff_22_2_1 : evCall Tryz.prog tb ⟨some 6, some 5, none, 0, [], [(12, kindK)]⟩ pl 100000 3 [.chan (some 3014678), .slice (some ⟨1000, 0, none⟩) 2 TOP] (hpA (symRow 1010 [271, 17])) yes = (((True ∧ True) ∧ ((True ∧ True) ∧ ((True ∧ True) ∧ ((True ∧ True) ∧ ((True ∧ True) ∧ ((True ∧ True) ∧ ((True ∧ True) ∧ ((True ∧ True) ∧ True))))))))) := by kernel_rfl
theorem eff_24_5_0 : evCall Tryz.prog tb ⟨some 6, some 5, none, 0, [], [(12, kindK)]⟩ pl 100000 3 [.chan (some 3014680), .complex .f64 1000 1002] (hpA (symRow 1010 [0, 0, 0, 41])) yes = ((True ∧ (True ∧ (True ∧ True)))) := by kernel_rfl
theorem eff_24_nil : evCall Tryz.prog tb ⟨some 6, some 5, none, 0, [], [(12, kindK)]⟩ pl 100000 3 [.chan (some 3014680), .slice none 0 0] hpN yes = (True) := by kernel_rfl
theorem eff_27 : evCall Tryz.prog tb ⟨some 6, some 5, none, 0, [], [(12, kindK)]⟩ pl 100000 3 [.chan (some 3014683), any] ⟨none, 1000, 0⟩ yes = (True) := by kernel_rfl
theorem eff_2_5_0 : evCall Tryz.prog tb ⟨some 6, some 5, none, 0, [], [(12, kindK)]⟩ pl 100000 3 [.chan (some 3014658), .complex .f64 1000 1002] (hpA (symRow 1010 [0, 0, 0, 0])) yes = (True) := by kernel_rfl
theorem eff_31_2_0 : evCall Tryz.prog tb ⟨some 6, some 5, none, 0, [], [(12, kindK)]⟩ pl 100000 3 [.chan (some 3014687), .slice (some ⟨1000, 0, none⟩) 2 TOP] (hpA (symRow 1010 [0, 270])) yes = ((True ∧ (True ∧ (True ∧ (True ∧ (True ∧ (True ∧ (True ∧ True)))))))) := by kernel_rfl
theorem eff_31_5_1 : evCall Tryz.prog tb ⟨some 6, some 5, none, 0, [], [(12, kindK)]⟩ pl 100000 3 [.chan (some 3014687), .complex .f64 1000 1002] (hpA (symRow 1010 [0, 0, 271, 17])) yes = (((True ∧ True) ∧ ((True ∧ True) ∧ ((True ∧ True) ∧ ((True ∧ True) ∧ ((True ∧ True) ∧ ((True ∧ True) ∧ ((True ∧ True) ∧ ((True ∧ True) ∧ True))))))))) := by kernel_rfl
theorem eff_34 : evCall Tryz.prog tb ⟨some 6, some 5, none, 0, [], [(12, kindK)]⟩ pl 100000 3 [.chan (some 3014690), any] ⟨none, 1000, 0⟩ yes = (True) := by kernel_rfl
theorem eff_40 : evCall Tryz.prog tb ⟨some 6, some 5, none, 0, [], [(12, kindK)]⟩ pl 100000 3 [.chan (some 3014696), any] ⟨none, 1000, 0⟩ yes = (True) := by kernel_rfl
theorem eff_45_4_0 : evCall Tryz.prog tb ⟨some 6, some 5, none, 0, [], [(12, kindK)]⟩ pl 100000 3 [.chan (some 3014701), .slice (some ⟨1000, 0, none⟩) 4 TOP] (hpA (symRow 1010 [0, 0, 0, 271])) yes = ((True ∧ (True ∧ (True ∧ (True ∧ (True ∧ (True ∧ (True ∧ (True ∧ True))))))))) := by kernel_rfl
theorem eff_8_5_1 : evCall Tryz.prog tb ⟨some 6, some 5, none, 0, [], [(12, kindK)]⟩ pl 100000 3 [.chan (some 3014664), .complex .f64 1000 1002] (hpA (symRow 1010 [0, 0, 271, 17])) yes = (((True ∧ True) ∧ ((True ∧ True) ∧ ((True ∧ True) ∧ ((True ∧ True) ∧ ((True ∧ True) ∧ ((True ∧ True) ∧ ((True ∧ True) ∧ ((True ∧ True) ∧ True))))))))) := by kernel_rfl
theorem eff_9_nil : evCall Tryz.prog tb ⟨some 6, some 5, none, 0, [], [(12, kindK)]⟩ pl 100000 3 [.chan (some 3014665), .slice none 0 0] hpN yes = (True) := by kernel_rfl
end Rn
end Go.Proofs.YtldmpcnpgjnddaaGreatDoor
