/-
  HierRules at each of its nine kinds, reckoned by the runner.
-/
import Derived.Test.YtfedkjmgjdmggaaGreatDoorRNH0
namespace Go.Proofs.YtfedkjmgjdmggaaGreatDoor
namespace Rn
theorem rules0 : evCall Tryz.prog tb ⟨some 6, some 5⟩ pl 100000 3 [.chan (some 589824)] ⟨none, 1000⟩ yes = True := by kernel_rfl
theorem rules1 : evCall Tryz.prog tb ⟨some 6, some 5⟩ pl 100000 3 [.chan (some 589825)] ⟨none, 1000⟩ yes = True := by kernel_rfl
theorem rules2 : evCall Tryz.prog tb ⟨some 6, some 5⟩ pl 100000 3 [.chan (some 589826)] ⟨none, 1000⟩ yes = True := by kernel_rfl
theorem rules3 : evCall Tryz.prog tb ⟨some 6, some 5⟩ pl 100000 3 [.chan (some 589827)] ⟨none, 1000⟩ yes = True := by kernel_rfl
theorem rules4 : evCall Tryz.prog tb ⟨some 6, some 5⟩ pl 100000 3 [.chan (some 589828)] ⟨none, 1000⟩ yes = True := by kernel_rfl
theorem rules5 : evCall Tryz.prog tb ⟨some 6, some 5⟩ pl 100000 3 [.chan (some 589829)] ⟨none, 1000⟩ yes = True := by kernel_rfl
theorem rules6 : evCall Tryz.prog tb ⟨some 6, some 5⟩ pl 100000 3 [.chan (some 589830)] ⟨none, 1000⟩ yes = True := by kernel_rfl
theorem rules7 : evCall Tryz.prog tb ⟨some 6, some 5⟩ pl 100000 3 [.chan (some 589831)] ⟨none, 1000⟩ yes = True := by kernel_rfl
theorem rules8 : evCall Tryz.prog tb ⟨some 6, some 5⟩ pl 100000 3 [.chan (some 589832)] ⟨none, 1000⟩ yes = True := by kernel_rfl
end Rn
end Go.Proofs.YtfedkjmgjdmggaaGreatDoor
