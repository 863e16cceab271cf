/-
  What the second program's readers and writers need besides. No conditions.
-/
import Derived.Test.YtmghmmkjcgopaaaGKnown
namespace Go.Proofs.Ytmghmmkjcgopaaa
open Go.RowKit

theorem Only.drewN {S : List Nat} {a w : World} (h : Only S a w) (n : Nat) : Only S a (w.drewN n) := ⟨h.os, h.tape, h.output, h.size, h.block⟩

/-- What Bytes(n) does to a reader. -/
def rBytes (s : List UInt8 × Nat × Int) (n : Int) : List UInt8 × (List UInt8 × Nat × Int) :=
  if n < 0 then ([], s.1, s.2.1, if s.2.2 = 0 then 1 else s.2.2) else rTake s n.toNat

theorem rTake_fst_le (s : List UInt8 × Nat × Int) (m : Nat) : (rTake s m).1.length ≤ s.1.length := by
  unfold rTake
  split
  · split <;> simp; omega
  · simp

end Go.Proofs.Ytmghmmkjcgopaaa
