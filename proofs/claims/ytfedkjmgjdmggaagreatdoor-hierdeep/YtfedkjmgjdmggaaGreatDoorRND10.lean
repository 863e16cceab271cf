/-
  HierDeep at some of its numbers, reckoned by the runner.
-/
import Derived.Test.YtfedkjmgjdmggaaGreatDoorRNH0
namespace Go.Proofs.YtfedkjmgjdmggaaGreatDoor
namespace Rn
theorem deep0t : evCall Tryz.prog tb ⟨some 6, some 5⟩ pl 100000 4 [.chan (some 2949120), .bool true] ⟨none, 1000⟩ yes = True := by kernel_rfl
theorem deep6f : evCall Tryz.prog tb ⟨some 6, some 5⟩ pl 100000 4 [.chan (some 2949126), .bool false] ⟨none, 1000⟩ yes = True := by kernel_rfl
theorem deep16t : evCall Tryz.prog tb ⟨some 6, some 5⟩ pl 100000 4 [.chan (some 2949136), .bool true] ⟨none, 1000⟩ yes = True := by kernel_rfl
theorem deep18f : evCall Tryz.prog tb ⟨some 6, some 5⟩ pl 100000 4 [.chan (some 2949138), .bool false] ⟨none, 1000⟩ yes = True := by kernel_rfl
theorem deep27t : evCall Tryz.prog tb ⟨some 6, some 5⟩ pl 100000 4 [.chan (some 2949147), .bool true] ⟨none, 1000⟩ yes = True := by kernel_rfl
theorem deep31f : evCall Tryz.prog tb ⟨some 6, some 5⟩ pl 100000 4 [.chan (some 2949151), .bool false] ⟨none, 1000⟩ yes = True := by kernel_rfl
theorem deep32t : evCall Tryz.prog tb ⟨some 6, some 5⟩ pl 100000 4 [.chan (some 2949152), .bool true] ⟨none, 1000⟩ yes = True := by kernel_rfl
theorem deep38f : evCall Tryz.prog tb ⟨some 6, some 5⟩ pl 100000 4 [.chan (some 2949158), .bool false] ⟨none, 1000⟩ yes = True := by kernel_rfl
theorem deep42t : evCall Tryz.prog tb ⟨some 6, some 5⟩ pl 100000 4 [.chan (some 2949162), .bool true] ⟨none, 1000⟩ yes = True := by kernel_rfl
end Rn
end Go.Proofs.YtfedkjmgjdmggaaGreatDoor
