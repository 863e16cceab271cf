/-
  A new row without elements. No conditions.
-/
import Derived.Test.YtemjhlhioeopnabDoorIKnown
import Derived.Test.YtemjhlhioeopnabDoorIAll
import Derived.Test.YtemjhlhioeopnabDoorIPure
namespace Go.Proofs.YtemjhlhioeopnabDoor
open Go.RowKit

/-- A new row without elements. -/
theorem rows_made (w : World) (e : TypeId) (k : Nat) {b : Nat} (hb : b = w.heap.size) : (w.alloc (.cells #[] e)).ownsRow w.heap.size e k (.slice (some ⟨b, 0, none⟩) 0 0) 0 [] := by
  subst hb
  exact World.ownsRow_made w #[] 0 (Nat.le_refl _) (by decide) (by simp)

end Go.Proofs.YtemjhlhioeopnabDoor
