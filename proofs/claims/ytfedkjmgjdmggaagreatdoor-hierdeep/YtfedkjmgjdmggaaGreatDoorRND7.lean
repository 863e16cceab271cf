/-
  HierDeep at some of its numbers, reckoned by the runner.
-/
import Derived.Test.YtfedkjmgjdmggaaGreatDoorRNH0
namespace Go.Proofs.YtfedkjmgjdmggaaGreatDoor
namespace Rn
theorem deep4t : evCall Tryz.prog tb ⟨some 6, some 5⟩ pl 100000 4 [.chan (some 2949124), .bool true] ⟨none, 1000⟩ yes = True := by kernel_rfl
theorem deep5f : evCall Tryz.prog tb ⟨some 6, some 5⟩ pl 100000 4 [.chan (some 2949125), .bool false] ⟨none, 1000⟩ yes = True := by kernel_rfl
theorem deep10f : evCall Tryz.prog tb ⟨some 6, some 5⟩ pl 100000 4 [.chan (some 2949130), .bool false] ⟨none, 1000⟩ yes = True := by kernel_rfl
theorem deep15f : evCall Tryz.prog tb ⟨some 6, some 5⟩ pl 100000 4 [.chan (some 2949135), .bool false] ⟨none, 1000⟩ yes = True := by kernel_rfl
theorem deep15t : evCall Tryz.prog tb ⟨some 6, some 5⟩ pl 100000 4 [.chan (some 2949135), .bool true] ⟨none, 1000⟩ yes = True := by kernel_rfl
theorem deep21f : evCall Tryz.prog tb ⟨some 6, some 5⟩ pl 100000 4 [.chan (some 2949141), .bool false] ⟨none, 1000⟩ yes = True := by kernel_rfl
theorem deep30t : evCall Tryz.prog tb ⟨some 6, some 5⟩ pl 100000 4 [.chan (some 2949150), .bool true] ⟨none, 1000⟩ yes = True := by kernel_rfl
theorem deep34f : evCall Tryz.prog tb ⟨some 6, some 5⟩ pl 100000 4 [.chan (some 2949154), .bool false] ⟨none, 1000⟩ yes = True := by kernel_rfl
theorem deep41f : evCall Tryz.prog tb ⟨some 6, some 5⟩ pl 100000 4 [.chan (some 2949161), .bool false] ⟨none, 1000⟩ yes = True := by kernel_rfl
end Rn
end Go.Proofs.YtfedkjmgjdmggaaGreatDoor
