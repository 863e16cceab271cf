/-
  StepShuffles at some of its arguments, reckoned by the runner.
-/
import Derived.Test.YtldmpcnpgjnddaaGreatDoorRNHS
namespace Go.Proofs.YtldmpcnpgjnddaaGreatDoor
namespace Rn
theorem shuf_nil_2 : evCall Tryz.prog tb ⟨none, some 5, none, 0, [], [(6, split3K), (12, kindK)]⟩ ps 100000 4 [.slice none 0 0, .slice (some ⟨1001, 0, none⟩) 2 TOP, .complex .f32 1009 0] (hpC (symRow 1020 [0, 0])) yes = (True ∧ (True ∧ True)) := by kernel_rfl
theorem shuf_emp_2 : evCall Tryz.prog tb ⟨none, some 5, none, 0, [], [(6, split3K), (12, kindK)]⟩ ps 100000 4 [.slice (some ⟨NOWHERE, 0, none⟩) 0 TOP, .slice (some ⟨1001, 0, none⟩) 2 TOP, .complex .f32 1009 0] (hpC (symRow 1020 [0, 0])) yes = (True ∧ (True ∧ True)) := by kernel_rfl
theorem shuf_1_2 : evCall Tryz.prog tb ⟨none, some 5, none, 0, [], [(6, split3K), (12, kindK)]⟩ ps 100000 4 [.slice (some ⟨1000, 0, none⟩) 1 TOP, .slice (some ⟨1001, 0, none⟩) 2 TOP, .complex .f32 1009 0] (hpB (symRow 1010 [0]) (symRow 1020 [0, 0])) yes = (True ∧ (True ∧ True)) := by kernel_rfl
theorem shuf_2_2 : evCall Tryz.prog tb ⟨none, some 5, none, 0, [], [(6, split3K), (12, kindK)]⟩ ps 100000 4 [.slice (some ⟨1000, 0, none⟩) 2 TOP, .slice (some ⟨1001, 0, none⟩) 2 TOP, .complex .f32 1009 0] (hpB (symRow 1010 [0, 0]) (symRow 1020 [0, 0])) yes = (True ∧ (True ∧ True)) := by kernel_rfl
theorem shuf_3_2 : evCall Tryz.prog tb ⟨none, some 5, none, 0, [], [(6, split3K), (12, kindK)]⟩ ps 100000 4 [.slice (some ⟨1000, 0, none⟩) 3 TOP, .slice (some ⟨1001, 0, none⟩) 2 TOP, .complex .f32 1009 0] (hpB (symRow 1010 [0, 0, 0]) (symRow 1020 [0, 0])) yes = (True ∧ (True ∧ True)) := by kernel_rfl
theorem shuf_4_2 : evCall Tryz.prog tb ⟨none, some 5, none, 0, [], [(6, split3K), (12, kindK)]⟩ ps 100000 4 [.slice (some ⟨1000, 0, none⟩) 4 TOP, .slice (some ⟨1001, 0, none⟩) 2 TOP, .complex .f32 1009 0] (hpB (symRow 1010 [0, 0, 0, 0]) (symRow 1020 [0, 0])) yes = (True ∧ (True ∧ True)) := by kernel_rfl
theorem shuf_5_2 : evCall Tryz.prog tb ⟨none, some 5, none, 0, [], [(6, split3K), (12, kindK)]⟩ ps 100000 4 [.complex .f64 1000 1002, .slice (some ⟨1001, 0, none⟩) 2 TOP, .complex .f32 1009 0] (hpB (symRow 1010 [0, 0, 0, 0]) (symRow 1020 [0, 0])) yes = (True ∧ (True ∧ True)) := by kernel_rfl
end Rn
end Go.Proofs.YtldmpcnpgjnddaaGreatDoor
