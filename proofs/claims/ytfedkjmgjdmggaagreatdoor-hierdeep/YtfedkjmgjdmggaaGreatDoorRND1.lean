/-
  HierDeep at some of its numbers, reckoned by the runner.
-/
import Derived.Test.YtfedkjmgjdmggaaGreatDoorRNH0
namespace Go.Proofs.YtfedkjmgjdmggaaGreatDoor
namespace Rn
theorem deep4f : evCall Tryz.prog tb ⟨some 6, some 5⟩ pl 100000 4 [.chan (some 2949124), .bool false] ⟨none, 1000⟩ yes = True := by kernel_rfl
theorem deep6t : evCall Tryz.prog tb ⟨some 6, some 5⟩ pl 100000 4 [.chan (some 2949126), .bool true] ⟨none, 1000⟩ yes = True := by kernel_rfl
theorem deep9f : evCall Tryz.prog tb ⟨some 6, some 5⟩ pl 100000 4 [.chan (some 2949129), .bool false] ⟨none, 1000⟩ yes = True := by kernel_rfl
theorem deep16f : evCall Tryz.prog tb ⟨some 6, some 5⟩ pl 100000 4 [.chan (some 2949136), .bool false] ⟨none, 1000⟩ yes = True := by kernel_rfl
theorem deep25f : evCall Tryz.prog tb ⟨some 6, some 5⟩ pl 100000 4 [.chan (some 2949145), .bool false] ⟨none, 1000⟩ yes = True := by kernel_rfl
theorem deep25t : evCall Tryz.prog tb ⟨some 6, some 5⟩ pl 100000 4 [.chan (some 2949145), .bool true] ⟨none, 1000⟩ yes = True := by kernel_rfl
theorem deep30f : evCall Tryz.prog tb ⟨some 6, some 5⟩ pl 100000 4 [.chan (some 2949150), .bool false] ⟨none, 1000⟩ yes = True := by kernel_rfl
theorem deep33t : evCall Tryz.prog tb ⟨some 6, some 5⟩ pl 100000 4 [.chan (some 2949153), .bool true] ⟨none, 1000⟩ yes = True := by kernel_rfl
theorem deep43t : evCall Tryz.prog tb ⟨some 6, some 5⟩ pl 100000 4 [.chan (some 2949163), .bool true] ⟨none, 1000⟩ yes = True := by kernel_rfl
end Rn
end Go.Proofs.YtfedkjmgjdmggaaGreatDoor
