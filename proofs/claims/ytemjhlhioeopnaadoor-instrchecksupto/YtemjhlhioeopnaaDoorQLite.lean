/-
  Signatures made, one behind the other; a type in a new block. No conditions.
-/
import Derived.Test.YtemjhlhioeopnaaDoorDSig
import Derived.Test.YtemjhlhioeopnaaDoorDApp
namespace Go.Proofs.YtemjhlhioeopnaaDoor
open Go.RowKit

theorem ts_one (w : World) (t : Ty) (u : TypeId) : TS (w.alloc (.cells #[.int .i64 t.1, .string (str t.2)] u)) (some ⟨w.heap.size, 0, none⟩) [t] w.heap.size := by
  refine .inr ⟨0, rfl, fun j hj => ?_⟩
  have : j = 0 := by simp at hj; omega
  subst this
  exact ⟨by rw [cell_new]; rfl, by rw [cell_new]; rfl⟩

theorem sig_new (w : World) (v : Value) (void : Bool) (d : Int) (n : List UInt8) : SigAt (w.alloc (.cells #[v, .bool void, .int .i64 d, .string (str n)] 92)) w.heap.size v void (d, n) :=
  ⟨by rw [cell_new]; rfl, by rw [cell_new]; rfl, by rw [cell_new]; rfl, by rw [cell_new]; rfl, frozen_new _ _ _ _, frozen_new _ _ _ _, frozen_new _ _ _ _, frozen_new _ _ _ _⟩

/-- Two signatures made. -/
theorem sig_new2 (w : World) (v : Value) (void : Bool) (d : Int) (n : List UInt8) :
    SigAt ((w.alloc (.cells #[.slice none 0 0, .bool false, .int .i64 0, .string ⟨#[]⟩] 92)).alloc (.cells #[v, .bool void, .int .i64 d, .string (str n)] 92)) w.heap.size (.slice none 0 0) false (0, []) ∧
    SigAt ((w.alloc (.cells #[.slice none 0 0, .bool false, .int .i64 0, .string ⟨#[]⟩] 92)).alloc (.cells #[v, .bool void, .int .i64 d, .string (str n)] 92)) (w.heap.size + 1) v void (d, n) := by
  have s1 := sig_new w (.slice none 0 0) false 0 []
  have s2 := sig_new (w.alloc (.cells #[.slice none 0 0, .bool false, .int .i64 0, .string ⟨#[]⟩] 92)) v void d n
  rw [World.size_alloc] at s2
  exact ⟨s1.only ((Only.refl [] _).alloc _) (by simp), s2⟩

end Go.Proofs.YtemjhlhioeopnaaDoor
