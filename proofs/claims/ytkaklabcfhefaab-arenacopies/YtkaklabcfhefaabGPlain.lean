/-
  Bytes, numbers, bools as cells. No conditions.
-/
import Derived.Test.YtkaklabcfhefaabIRow
namespace Go.Proofs.Ytkaklabcfhefaab
open Go.RowKit

/-- Bytes as cells; numbers; bools. -/
def bcs (l : List UInt8) : List Value := l.map fun b => Value.int .u8 (b.toNat : Int)
def ics (l : List Int) : List Value := l.map fun x => Value.int .i64 x
def lcs (l : List Bool) : List Value := l.map fun x => Value.bool x

theorem bcs_length (l : List UInt8) : (bcs l).length = l.length * 1 := by simp [bcs]
theorem bcs_append (a b : List UInt8) : bcs (a ++ b) = bcs a ++ bcs b := by simp [bcs]
theorem bcs_one (l : List UInt8) : ∀ u ∈ bcs l, u.oneCell' = true := by
  intro u hu
  simp [bcs] at hu
  obtain ⟨b, _, rfl⟩ := hu
  rfl
theorem bcs_get (l : List UInt8) (j : Nat) (h : j < l.length) : (bcs l)[j]? = some (.int .u8 (l[j].toNat : Int)) := by simp [bcs, h]
theorem bcs_take (l : List UInt8) (n : Nat) : (bcs l).take n = bcs (l.take n) := by simp [bcs, List.map_take]
theorem ics_length (l : List Int) : (ics l).length = l.length * 1 := by simp [ics]
theorem ics_append (a b : List Int) : ics (a ++ b) = ics a ++ ics b := by simp [ics]
theorem ics_one (l : List Int) : ∀ u ∈ ics l, u.oneCell' = true := by
  intro u hu
  simp [ics] at hu
  obtain ⟨b, _, rfl⟩ := hu
  rfl
theorem ics_get (l : List Int) (j : Nat) (h : j < l.length) : (ics l)[j]? = some (.int .i64 l[j]) := by simp [ics, h]
theorem lcs_length (l : List Bool) : (lcs l).length = l.length * 1 := by simp [lcs]
theorem lcs_get (l : List Bool) (j : Nat) (h : j < l.length) : (lcs l)[j]? = some (.bool l[j]) := by simp [lcs, h]

end Go.Proofs.Ytkaklabcfhefaab
