/-
  The table and the plans of this program, tested.
-/
import Derived.Test.YtllbjkeahafleaaGreatDoorRNL
import Derived.Test.YtllbjkeahafleaaGreatDoorRN27
import Derived.Test.YtllbjkeahafleaaGreatDoorRNTab
import Derived.Test.YtllbjkeahafleaaGreatDoorRNPlan
import Derived.Test.YtllbjkeahafleaaGreatDoorProg
namespace Go.Proofs.YtllbjkeahafleaaGreatDoor
namespace Rn
theorem tab_ok : tabTest Tryz.prog W tb 1 0 = true := by kernel_rfl
theorem names_ok : namesTest Tryz.prog.funcs.toList = true := by kernel_rfl
theorem mixed_ok : Tryz.prog.follows .mixedOrders = true := by kernel_rfl
theorem size_ok : Nat.ble Tryz.prog.funcs.size (37 * 15) = true := by kernel_rfl
theorem plans0 : legalFuncs pl (part Tryz.prog 37 0) (37 * 0) = true := by kernel_rfl
theorem plans1 : legalFuncs pl (part Tryz.prog 37 1) (37 * 1) = true := by kernel_rfl
theorem plans2 : legalFuncs pl (part Tryz.prog 37 2) (37 * 2) = true := by kernel_rfl
theorem plans3 : legalFuncs pl (part Tryz.prog 37 3) (37 * 3) = true := by kernel_rfl
theorem plans4 : legalFuncs pl (part Tryz.prog 37 4) (37 * 4) = true := by kernel_rfl
theorem plans5 : legalFuncs pl (part Tryz.prog 37 5) (37 * 5) = true := by kernel_rfl
theorem plans6 : legalFuncs pl (part Tryz.prog 37 6) (37 * 6) = true := by kernel_rfl
theorem plans7 : legalFuncs pl (part Tryz.prog 37 7) (37 * 7) = true := by kernel_rfl
theorem plans8 : legalFuncs pl (part Tryz.prog 37 8) (37 * 8) = true := by kernel_rfl
theorem plans9 : legalFuncs pl (part Tryz.prog 37 9) (37 * 9) = true := by kernel_rfl
theorem plans10 : legalFuncs pl (part Tryz.prog 37 10) (37 * 10) = true := by kernel_rfl
theorem plans11 : legalFuncs pl (part Tryz.prog 37 11) (37 * 11) = true := by kernel_rfl
theorem plans12 : legalFuncs pl (part Tryz.prog 37 12) (37 * 12) = true := by kernel_rfl
theorem plans13 : legalFuncs pl (part Tryz.prog 37 13) (37 * 13) = true := by kernel_rfl
theorem plans14 : legalFuncs pl (part Tryz.prog 37 14) (37 * 14) = true := by kernel_rfl
end Rn
end Go.Proofs.YtllbjkeahafleaaGreatDoor
