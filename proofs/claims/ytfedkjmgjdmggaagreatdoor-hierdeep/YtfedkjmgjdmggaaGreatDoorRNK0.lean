/-
  The table and the plans of this program.
-/
import Derived.Test.YtfedkjmgjdmggaaGreatDoorRN27
import Derived.Test.YtfedkjmgjdmggaaGreatDoorRNTab
import Derived.Test.YtfedkjmgjdmggaaGreatDoorRNPlan
import Derived.Test.YtfedkjmgjdmggaaGreatDoorProg
namespace Go.Proofs.YtfedkjmgjdmggaaGreatDoor
namespace Rn
theorem tab_ok : tabTest Tryz.prog W tb 1 0 = true := by kernel_rfl
theorem names_ok : namesTest Tryz.prog.funcs.toList = true := by kernel_rfl
theorem mixed_ok : Tryz.prog.follows .mixedOrders = true := by kernel_rfl
theorem plans_ok : legalFuncs pl Tryz.prog.funcs.toList 0 = true := by kernel_rfl
theorem tok : TOK Tryz.prog tb := tok_of tab_ok names_ok mixed_ok
theorem pok : PlansOK Tryz.prog pl := legalFuncs_ok plans_ok
end Rn
end Go.Proofs.YtfedkjmgjdmggaaGreatDoor
