/-
  Two signatures made one behind the other. No conditions.
-/
import Derived.Test.YtcdjddakdlflmaaQPlain
namespace Go.Proofs.Ytcdjddakdlflmaa
open Go.RowKit

/-- Two signatures made. -/
theorem sig_new2 (w : World) (v : Value) (void : Bool) (d : Int) (n : List UInt8) :
    SigAt ((w.alloc (.cells #[.slice none 0 0, .bool false, .int .i64 0, .string ⟨#[]⟩] 43)).alloc (.cells #[v, .bool void, .int .i64 d, .string (str n)] 43)) w.heap.size (.slice none 0 0) false (0, []) ∧
    SigAt ((w.alloc (.cells #[.slice none 0 0, .bool false, .int .i64 0, .string ⟨#[]⟩] 43)).alloc (.cells #[v, .bool void, .int .i64 d, .string (str n)] 43)) (w.heap.size + 1) v void (d, n) := by
  have s1 := sig_new w (.slice none 0 0) false 0 []
  have s2 := sig_new (w.alloc (.cells #[.slice none 0 0, .bool false, .int .i64 0, .string ⟨#[]⟩] 43)) v void d n
  rw [World.size_alloc] at s2
  exact ⟨s1.only ((Only.refl [] _).alloc _) (by simp), s2⟩

end Go.Proofs.Ytcdjddakdlflmaa
