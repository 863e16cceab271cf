/-
  HierDeep at some of its numbers, reckoned by the runner.
-/
import Derived.Test.YtfedkjmgjdmggaaGreatDoorRNH0
namespace Go.Proofs.YtfedkjmgjdmggaaGreatDoor
namespace Rn
theorem deep1t : evCall Tryz.prog tb ⟨some 6, some 5⟩ pl 100000 4 [.chan (some 2949121), .bool true] ⟨none, 1000⟩ yes = True := by kernel_rfl
theorem deep12t : evCall Tryz.prog tb ⟨some 6, some 5⟩ pl 100000 4 [.chan (some 2949132), .bool true] ⟨none, 1000⟩ yes = True := by kernel_rfl
theorem deep17t : evCall Tryz.prog tb ⟨some 6, some 5⟩ pl 100000 4 [.chan (some 2949137), .bool true] ⟨none, 1000⟩ yes = True := by kernel_rfl
theorem deep20f : evCall Tryz.prog tb ⟨some 6, some 5⟩ pl 100000 4 [.chan (some 2949140), .bool false] ⟨none, 1000⟩ yes = True := by kernel_rfl
theorem deep23t : evCall Tryz.prog tb ⟨some 6, some 5⟩ pl 100000 4 [.chan (some 2949143), .bool true] ⟨none, 1000⟩ yes = True := by kernel_rfl
theorem deep31t : evCall Tryz.prog tb ⟨some 6, some 5⟩ pl 100000 4 [.chan (some 2949151), .bool true] ⟨none, 1000⟩ yes = True := by kernel_rfl
theorem deep33f : evCall Tryz.prog tb ⟨some 6, some 5⟩ pl 100000 4 [.chan (some 2949153), .bool false] ⟨none, 1000⟩ yes = True := by kernel_rfl
theorem deep38t : evCall Tryz.prog tb ⟨some 6, some 5⟩ pl 100000 4 [.chan (some 2949158), .bool true] ⟨none, 1000⟩ yes = True := by kernel_rfl
theorem deep40f : evCall Tryz.prog tb ⟨some 6, some 5⟩ pl 100000 4 [.chan (some 2949160), .bool false] ⟨none, 1000⟩ yes = True := by kernel_rfl
end Rn
end Go.Proofs.YtfedkjmgjdmggaaGreatDoor
