/-
  HierDeep at some of its numbers, reckoned by the runner.
-/
import Derived.Test.YtfedkjmgjdmggaaGreatDoorRNH0
namespace Go.Proofs.YtfedkjmgjdmggaaGreatDoor
namespace Rn
theorem deep0f : evCall Tryz.prog tb ⟨some 6, some 5⟩ pl 100000 4 [.chan (some 2949120), .bool false] ⟨none, 1000⟩ yes = True := by kernel_rfl
theorem deep8f : evCall Tryz.prog tb ⟨some 6, some 5⟩ pl 100000 4 [.chan (some 2949128), .bool false] ⟨none, 1000⟩ yes = True := by kernel_rfl
theorem deep11f : evCall Tryz.prog tb ⟨some 6, some 5⟩ pl 100000 4 [.chan (some 2949131), .bool false] ⟨none, 1000⟩ yes = True := by kernel_rfl
theorem deep11t : evCall Tryz.prog tb ⟨some 6, some 5⟩ pl 100000 4 [.chan (some 2949131), .bool true] ⟨none, 1000⟩ yes = True := by kernel_rfl
theorem deep26f : evCall Tryz.prog tb ⟨some 6, some 5⟩ pl 100000 4 [.chan (some 2949146), .bool false] ⟨none, 1000⟩ yes = True := by kernel_rfl
theorem deep29f : evCall Tryz.prog tb ⟨some 6, some 5⟩ pl 100000 4 [.chan (some 2949149), .bool false] ⟨none, 1000⟩ yes = True := by kernel_rfl
theorem deep34t : evCall Tryz.prog tb ⟨some 6, some 5⟩ pl 100000 4 [.chan (some 2949154), .bool true] ⟨none, 1000⟩ yes = True := by kernel_rfl
theorem deep41t : evCall Tryz.prog tb ⟨some 6, some 5⟩ pl 100000 4 [.chan (some 2949161), .bool true] ⟨none, 1000⟩ yes = True := by kernel_rfl
theorem deep44t : evCall Tryz.prog tb ⟨some 6, some 5⟩ pl 100000 4 [.chan (some 2949164), .bool true] ⟨none, 1000⟩ yes = True := by kernel_rfl
end Rn
end Go.Proofs.YtfedkjmgjdmggaaGreatDoor
