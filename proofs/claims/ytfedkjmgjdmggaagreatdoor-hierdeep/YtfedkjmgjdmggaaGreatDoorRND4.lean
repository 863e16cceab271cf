/-
  HierDeep at some of its numbers, reckoned by the runner.
-/
import Derived.Test.YtfedkjmgjdmggaaGreatDoorRNH0
namespace Go.Proofs.YtfedkjmgjdmggaaGreatDoor
namespace Rn
theorem deep2t : evCall Tryz.prog tb ⟨some 6, some 5⟩ pl 100000 4 [.chan (some 2949122), .bool true] ⟨none, 1000⟩ yes = True := by kernel_rfl
theorem deep3f : evCall Tryz.prog tb ⟨some 6, some 5⟩ pl 100000 4 [.chan (some 2949123), .bool false] ⟨none, 1000⟩ yes = True := by kernel_rfl
theorem deep12f : evCall Tryz.prog tb ⟨some 6, some 5⟩ pl 100000 4 [.chan (some 2949132), .bool false] ⟨none, 1000⟩ yes = True := by kernel_rfl
theorem deep13t : evCall Tryz.prog tb ⟨some 6, some 5⟩ pl 100000 4 [.chan (some 2949133), .bool true] ⟨none, 1000⟩ yes = True := by kernel_rfl
theorem deep20t : evCall Tryz.prog tb ⟨some 6, some 5⟩ pl 100000 4 [.chan (some 2949140), .bool true] ⟨none, 1000⟩ yes = True := by kernel_rfl
theorem deep24f : evCall Tryz.prog tb ⟨some 6, some 5⟩ pl 100000 4 [.chan (some 2949144), .bool false] ⟨none, 1000⟩ yes = True := by kernel_rfl
theorem deep35t : evCall Tryz.prog tb ⟨some 6, some 5⟩ pl 100000 4 [.chan (some 2949155), .bool true] ⟨none, 1000⟩ yes = True := by kernel_rfl
theorem deep37f : evCall Tryz.prog tb ⟨some 6, some 5⟩ pl 100000 4 [.chan (some 2949157), .bool false] ⟨none, 1000⟩ yes = True := by kernel_rfl
theorem deep44f : evCall Tryz.prog tb ⟨some 6, some 5⟩ pl 100000 4 [.chan (some 2949164), .bool false] ⟨none, 1000⟩ yes = True := by kernel_rfl
end Rn
end Go.Proofs.YtfedkjmgjdmggaaGreatDoor
