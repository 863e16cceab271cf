/-
  StepEffects at some of its arguments, reckoned by the runner.
-/
import Derived.Test.YtldmpcnpgjnddaaGreatDoorRNH9
namespace Go.Proofs.YtldmpcnpgjnddaaGreatDoor
namespace Rn
theorem eff_0_1_0 : evCall Tryz.prog tb ⟨some 6, some 5, none, 0, [], [(12, kindK)]⟩ pl 100000 3 [.chan (some 3014656), .slice (some ⟨1000, 0, none⟩) 1 TOP] (hpA (symRow 1010 [0])) yes = (True) := by kernel_rfl
theorem eff_1 : evCall Tryz.prog tb ⟨some 6, some 5, none, 0, [], [(12, kindK)]⟩ pl 100000 3 [.chan (some 3014657), any] ⟨none, 1000, 0⟩ yes = (True) := by kernel_rfl
theorem eff_11_1_0 : evCall Tryz.prog tb ⟨some 6, some 5, none, 0, [], [(12, kindK)]⟩ pl 100000 3 [.chan (some 3014667), .slice (some ⟨1000, 0, none⟩) 1 TOP] (hpA (symRow 1010 [271])) yes = ((True ∧ (True ∧ (True ∧ (True ∧ (True ∧ (True ∧ (True ∧ (True ∧ True))))))))) := by kernel_rfl
theorem eff_12_3_0 : evCall Tryz.prog tb ⟨some 6, some 5, none, 0, [], [(12, kindK)]⟩ pl 100000 3 [.chan (some 3014668), .slice (some ⟨1000, 0, none⟩) 3 TOP] (hpA (symRow 1010 [0, 0, 270])) yes = ((True ∧ (True ∧ (True ∧ (True ∧ (True ∧ (True ∧ (True ∧ True)))))))) := by kernel_rfl
theorem eff_13_1_0 : evCall Tryz.prog tb ⟨some 6, some 5, none, 0, [], [(12, kindK)]⟩ pl 100000 3 [.chan (some 3014669), .slice (some ⟨1000, 0, none⟩) 1 TOP] (hpA (symRow 1010 [271])) yes = ((True ∧ (True ∧ (True ∧ (True ∧ (True ∧ (True ∧ (True ∧ (True ∧ True))))))))) := by kernel_rfl
theorem eff_14_nil : evCall Tryz.prog tb ⟨some 6, some 5, none, 0, [], [(12, kindK)]⟩ pl 100000 3 [.chan (some 3014670), .slice none 0 0] hpN yes = (True) := by kernel_rfl
theorem eff_15_5_1 : evCall Tryz.prog tb ⟨some 6, some 5, none, 0, [], [(12, kindK)]⟩ pl 100000 3 [.chan (some 3014671), .complex .f64 1000 1002] (hpA (symRow 1010 [0, 0, 271, 17])) yes = (((True ∧ True) ∧ ((True ∧ True) ∧ ((True ∧ True) ∧ ((True ∧ True) ∧ ((True ∧ True) ∧ ((True ∧ True) ∧ ((True ∧ True) ∧ ((True ∧ True) ∧ True))))))))) := by kernel_rfl
theorem eff_16_5_0 : evCall Tryz.prog tb ⟨some 6, some 5, none, 0, [], [(12, kindK)]⟩ pl 100000 3 [.chan (some 3014672), .complex .f64 1000 1002] (hpA (symRow 1010 [0, 0, 0, 270])) yes = ((True ∧ (True ∧ (True ∧ (True ∧ (True ∧ (True ∧ (True ∧ True)))))))) := by kernel_rfl
theorem eff_18_4_1 : evCall Tryz.prog tb ⟨some 6, some 5, none, 0, [], [(12, kindK)]⟩ pl 100000 3 [.chan (some 3014674), .slice (some ⟨1000, 0, none⟩) 4 TOP] (hpA (symRow 1010 [0, 0, 271, 17])) yes = (((True ∧ True) ∧ ((True ∧ True) ∧ ((True ∧ True) ∧ ((True ∧ True) ∧ ((True ∧ True) ∧ ((True ∧ True) ∧ ((True ∧ True) ∧ ((True ∧ True) ∧ True))))))))) := by kernel_rfl
theorem eff_22_3_1 : evCall Tryz.prog tb ⟨some 6, some 5, none, 0, [], [(12, kindK)]⟩ pl 100000 3 [.chan (some 3014678), .slice (some ⟨1000, 0, none⟩) 3 TOP] (hpA (symRow 1010 [0, 271, 17])) yes = (((True ∧ True) ∧ ((True ∧ True) ∧ ((True ∧ True) ∧ ((True ∧ True) ∧ ((True ∧ True) ∧ ((True ∧ True) ∧ ((True ∧ True) ∧ ((True ∧ True) ∧ True))))))))) := by kernel_rfl
theorem eff_22_nil : evCall Tryz.prog tb ⟨some 6, some 5, none, 0, [], [(12, kindK)]⟩ pl 100000 3 [.chan (some 3014678), .slice none 0 0] hpN yes = (True) := by kernel_rfl
theorem eff_28 : evCall Tryz.prog tb ⟨some 6, some 5, none, 0, [], [(12, kindK)]⟩ pl 100000 3 [.chan (some 3014684), any] ⟨none, 1000, 0⟩ yes = (True) := by kernel_rfl
theorem eff_2_1_0 : evCall Tryz.prog tb ⟨some 6, some 5, none, 0, [], [(12, kindK)]⟩ pl 100000 3 [.chan (some 3014658), .slice (some ⟨1000, 0, none⟩) 1 TOP] (hpA (symRow 1010 [0])) yes = (True) := by kernel_rfl
theorem eff_3 : evCall Tryz.prog tb ⟨some 6, some 5, none, 0, [], [(12, kindK)]⟩ pl 100000 3 [.chan (some 3014659), any] ⟨none, 1000, 0⟩ yes = (True) := by kernel_rfl
theorem eff_31_3_0 : evCall Tryz.prog tb ⟨some 6, some 5, none, 0, [], [(12, kindK)]⟩ pl 100000 3 [.chan (some 3014687), .slice (some ⟨1000, 0, none⟩) 3 TOP] (hpA (symRow 1010 [0, 0, 270])) yes = ((True ∧ (True ∧ (True ∧ (True ∧ (True ∧ (True ∧ (True ∧ True)))))))) := by kernel_rfl
theorem eff_32_1_0 : evCall Tryz.prog tb ⟨some 6, some 5, none, 0, [], [(12, kindK)]⟩ pl 100000 3 [.chan (some 3014688), .slice (some ⟨1000, 0, none⟩) 1 TOP] (hpA (symRow 1010 [271])) yes = ((True ∧ (True ∧ (True ∧ (True ∧ (True ∧ (True ∧ (True ∧ (True ∧ True))))))))) := by kernel_rfl
theorem eff_36 : evCall Tryz.prog tb ⟨some 6, some 5, none, 0, [], [(12, kindK)]⟩ pl 100000 3 [.chan (some 3014692), any] ⟨none, 1000, 0⟩ yes = (True) := by kernel_rfl
theorem eff_4 : evCall Tryz.prog tb ⟨some 6, some 5, none, 0, [], [(12, kindK)]⟩ pl 100000 3 [.chan (some 3014660), any] ⟨none, 1000, 0⟩ yes = (True) := by kernel_rfl
theorem eff_41 : evCall Tryz.prog tb ⟨some 6, some 5, none, 0, [], [(12, kindK)]⟩ pl 100000 3 [.chan (some 3014697), any] ⟨none, 1000, 0⟩ yes = (True) := by kernel_rfl
theorem eff_45_5_0 : evCall Tryz.prog tb ⟨some 6, some 5, none, 0, [], [(12, kindK)]⟩ pl 100000 3 [.chan (some 3014701), .complex .f64 1000 1002] (hpA (symRow 1010 [0, 0, 0, 271])) yes = ((True ∧ (True ∧ (True ∧ (True ∧ (True ∧ (True ∧ (True ∧ (True ∧ True))))))))) := by kernel_rfl
theorem eff_5_nil : evCall Tryz.prog tb ⟨some 6, some 5, none, 0, [], [(12, kindK)]⟩ pl 100000 3 [.chan (some 3014661), .slice none 0 0] hpN yes = (True) := by kernel_rfl
theorem eff_6 : evCall Tryz.prog tb ⟨some 6, some 5, none, 0, [], [(12, kindK)]⟩ pl 100000 3 [.chan (some 3014662), any] ⟨none, 1000, 0⟩ yes = (True) := by kernel_rfl
theorem eff_7 : evCall Tryz.prog tb ⟨some 6, some 5, none, 0, [], [(12, kindK)]⟩ pl 100000 3 [.chan (some 3014663), any] ⟨none, 1000, 0⟩ yes = (True) := by kernel_rfl
theorem eff_9_1_0 : evCall Tryz.prog tb ⟨some 6, some 5, none, 0, [], [(12, kindK)]⟩ pl 100000 3 [.chan (some 3014665), .slice (some ⟨1000, 0, none⟩) 1 TOP] (hpA (symRow 1010 [271])) yes = ((True ∧ (True ∧ (True ∧ (True ∧ (True ∧ (True ∧ (True ∧ (True ∧ True))))))))) := by kernel_rfl
end Rn
end Go.Proofs.YtldmpcnpgjnddaaGreatDoor
