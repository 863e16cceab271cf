/-
  HierDeep at some of its numbers, reckoned by the runner.
-/
import Derived.Test.YtfedkjmgjdmggaaGreatDoorRNH0
namespace Go.Proofs.YtfedkjmgjdmggaaGreatDoor
namespace Rn
theorem deep5t : evCall Tryz.prog tb ⟨some 6, some 5⟩ pl 100000 4 [.chan (some 2949125), .bool true] ⟨none, 1000⟩ yes = True := by kernel_rfl
theorem deep7f : evCall Tryz.prog tb ⟨some 6, some 5⟩ pl 100000 4 [.chan (some 2949127), .bool false] ⟨none, 1000⟩ yes = True := by kernel_rfl
theorem deep8t : evCall Tryz.prog tb ⟨some 6, some 5⟩ pl 100000 4 [.chan (some 2949128), .bool true] ⟨none, 1000⟩ yes = True := by kernel_rfl
theorem deep22f : evCall Tryz.prog tb ⟨some 6, some 5⟩ pl 100000 4 [.chan (some 2949142), .bool false] ⟨none, 1000⟩ yes = True := by kernel_rfl
theorem deep22t : evCall Tryz.prog tb ⟨some 6, some 5⟩ pl 100000 4 [.chan (some 2949142), .bool true] ⟨none, 1000⟩ yes = True := by kernel_rfl
theorem deep29t : evCall Tryz.prog tb ⟨some 6, some 5⟩ pl 100000 4 [.chan (some 2949149), .bool true] ⟨none, 1000⟩ yes = True := by kernel_rfl
theorem deep35f : evCall Tryz.prog tb ⟨some 6, some 5⟩ pl 100000 4 [.chan (some 2949155), .bool false] ⟨none, 1000⟩ yes = True := by kernel_rfl
theorem deep37t : evCall Tryz.prog tb ⟨some 6, some 5⟩ pl 100000 4 [.chan (some 2949157), .bool true] ⟨none, 1000⟩ yes = True := by kernel_rfl
theorem deep42f : evCall Tryz.prog tb ⟨some 6, some 5⟩ pl 100000 4 [.chan (some 2949162), .bool false] ⟨none, 1000⟩ yes = True := by kernel_rfl
end Rn
end Go.Proofs.YtfedkjmgjdmggaaGreatDoor
