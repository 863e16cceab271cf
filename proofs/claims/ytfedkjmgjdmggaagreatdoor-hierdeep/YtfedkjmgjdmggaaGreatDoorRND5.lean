/-
  HierDeep at some of its numbers, reckoned by the runner.
-/
import Derived.Test.YtfedkjmgjdmggaaGreatDoorRNH0
namespace Go.Proofs.YtfedkjmgjdmggaaGreatDoor
namespace Rn
theorem deep2f : evCall Tryz.prog tb ⟨some 6, some 5⟩ pl 100000 4 [.chan (some 2949122), .bool false] ⟨none, 1000⟩ yes = True := by kernel_rfl
theorem deep7t : evCall Tryz.prog tb ⟨some 6, some 5⟩ pl 100000 4 [.chan (some 2949127), .bool true] ⟨none, 1000⟩ yes = True := by kernel_rfl
theorem deep14t : evCall Tryz.prog tb ⟨some 6, some 5⟩ pl 100000 4 [.chan (some 2949134), .bool true] ⟨none, 1000⟩ yes = True := by kernel_rfl
theorem deep21t : evCall Tryz.prog tb ⟨some 6, some 5⟩ pl 100000 4 [.chan (some 2949141), .bool true] ⟨none, 1000⟩ yes = True := by kernel_rfl
theorem deep23f : evCall Tryz.prog tb ⟨some 6, some 5⟩ pl 100000 4 [.chan (some 2949143), .bool false] ⟨none, 1000⟩ yes = True := by kernel_rfl
theorem deep28t : evCall Tryz.prog tb ⟨some 6, some 5⟩ pl 100000 4 [.chan (some 2949148), .bool true] ⟨none, 1000⟩ yes = True := by kernel_rfl
theorem deep36f : evCall Tryz.prog tb ⟨some 6, some 5⟩ pl 100000 4 [.chan (some 2949156), .bool false] ⟨none, 1000⟩ yes = True := by kernel_rfl
theorem deep36t : evCall Tryz.prog tb ⟨some 6, some 5⟩ pl 100000 4 [.chan (some 2949156), .bool true] ⟨none, 1000⟩ yes = True := by kernel_rfl
theorem deep43f : evCall Tryz.prog tb ⟨some 6, some 5⟩ pl 100000 4 [.chan (some 2949163), .bool false] ⟨none, 1000⟩ yes = True := by kernel_rfl
end Rn
end Go.Proofs.YtfedkjmgjdmggaaGreatDoor
