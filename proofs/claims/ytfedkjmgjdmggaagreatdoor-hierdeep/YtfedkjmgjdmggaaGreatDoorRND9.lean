/-
  HierDeep at some of its numbers, reckoned by the runner.
-/
import Derived.Test.YtfedkjmgjdmggaaGreatDoorRNH0
namespace Go.Proofs.YtfedkjmgjdmggaaGreatDoor
namespace Rn
theorem deep3t : evCall Tryz.prog tb ⟨some 6, some 5⟩ pl 100000 4 [.chan (some 2949123), .bool true] ⟨none, 1000⟩ yes = True := by kernel_rfl
theorem deep10t : evCall Tryz.prog tb ⟨some 6, some 5⟩ pl 100000 4 [.chan (some 2949130), .bool true] ⟨none, 1000⟩ yes = True := by kernel_rfl
theorem deep13f : evCall Tryz.prog tb ⟨some 6, some 5⟩ pl 100000 4 [.chan (some 2949133), .bool false] ⟨none, 1000⟩ yes = True := by kernel_rfl
theorem deep18t : evCall Tryz.prog tb ⟨some 6, some 5⟩ pl 100000 4 [.chan (some 2949138), .bool true] ⟨none, 1000⟩ yes = True := by kernel_rfl
theorem deep19f : evCall Tryz.prog tb ⟨some 6, some 5⟩ pl 100000 4 [.chan (some 2949139), .bool false] ⟨none, 1000⟩ yes = True := by kernel_rfl
theorem deep26t : evCall Tryz.prog tb ⟨some 6, some 5⟩ pl 100000 4 [.chan (some 2949146), .bool true] ⟨none, 1000⟩ yes = True := by kernel_rfl
theorem deep32f : evCall Tryz.prog tb ⟨some 6, some 5⟩ pl 100000 4 [.chan (some 2949152), .bool false] ⟨none, 1000⟩ yes = True := by kernel_rfl
theorem deep39f : evCall Tryz.prog tb ⟨some 6, some 5⟩ pl 100000 4 [.chan (some 2949159), .bool false] ⟨none, 1000⟩ yes = True := by kernel_rfl
theorem deep39t : evCall Tryz.prog tb ⟨some 6, some 5⟩ pl 100000 4 [.chan (some 2949159), .bool true] ⟨none, 1000⟩ yes = True := by kernel_rfl
end Rn
end Go.Proofs.YtfedkjmgjdmggaaGreatDoor
