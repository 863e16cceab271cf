/-
  HierDeep at some of its numbers, reckoned by the runner.
-/
import Derived.Test.YtfedkjmgjdmggaaGreatDoorRNH0
namespace Go.Proofs.YtfedkjmgjdmggaaGreatDoor
namespace Rn
theorem deep1f : evCall Tryz.prog tb ⟨some 6, some 5⟩ pl 100000 4 [.chan (some 2949121), .bool false] ⟨none, 1000⟩ yes = True := by kernel_rfl
theorem deep9t : evCall Tryz.prog tb ⟨some 6, some 5⟩ pl 100000 4 [.chan (some 2949129), .bool true] ⟨none, 1000⟩ yes = True := by kernel_rfl
theorem deep14f : evCall Tryz.prog tb ⟨some 6, some 5⟩ pl 100000 4 [.chan (some 2949134), .bool false] ⟨none, 1000⟩ yes = True := by kernel_rfl
theorem deep17f : evCall Tryz.prog tb ⟨some 6, some 5⟩ pl 100000 4 [.chan (some 2949137), .bool false] ⟨none, 1000⟩ yes = True := by kernel_rfl
theorem deep19t : evCall Tryz.prog tb ⟨some 6, some 5⟩ pl 100000 4 [.chan (some 2949139), .bool true] ⟨none, 1000⟩ yes = True := by kernel_rfl
theorem deep24t : evCall Tryz.prog tb ⟨some 6, some 5⟩ pl 100000 4 [.chan (some 2949144), .bool true] ⟨none, 1000⟩ yes = True := by kernel_rfl
theorem deep27f : evCall Tryz.prog tb ⟨some 6, some 5⟩ pl 100000 4 [.chan (some 2949147), .bool false] ⟨none, 1000⟩ yes = True := by kernel_rfl
theorem deep28f : evCall Tryz.prog tb ⟨some 6, some 5⟩ pl 100000 4 [.chan (some 2949148), .bool false] ⟨none, 1000⟩ yes = True := by kernel_rfl
theorem deep40t : evCall Tryz.prog tb ⟨some 6, some 5⟩ pl 100000 4 [.chan (some 2949160), .bool true] ⟨none, 1000⟩ yes = True := by kernel_rfl
end Rn
end Go.Proofs.YtfedkjmgjdmggaaGreatDoor
