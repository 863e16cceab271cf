/-
  The contract of the second program's Decode. No conditions beyond the code's own shape.
-/
import Derived.Test.YtemjhlhioeopnabDoorIDec
namespace Go.Proofs.YtemjhlhioeopnabDoor
open Go.RowKit

/-- An instruction in a block of its own that may be written. -/
structure InW (w : World) (b : Nat) (i : In) : Prop where
  at_ : InAt w b 0 i
  fr : ∀ j, w.frozen? ⟨b, j, none⟩ = false

theorem inW_new (w : World) (a op n s : Int) (t : TypeId) : InW (w.alloc (.cells #[.int .i64 a, .int .i64 op, .int .i64 n, .int .i64 s] t)) w.heap.size (a, op, n, s) := ⟨inAt_new w a op n s t, fun _ => frozen_new _ _ _ _⟩

theorem InW.only {w w' : World} {S : List Nat} {b : Nat} {i : In} (h : InW w b i) (ho : Only S w w') (hb : b ∉ S) : InW w' b i :=
  ⟨h.at_.only ho hb, fun j => by rw [ho.frozen h.at_.lt hb]; exact h.fr j⟩

theorem InW.put2 {w : World} {b : Nat} {i : In} (h : InW w b i) (x : Int) : InW (w.setCell ⟨b, 2, none⟩ (.int .i64 x)) b (i.1, i.2.1, x, i.2.2.2) := by
  obtain ⟨⟨c0, c1, c2, c3⟩, f⟩ := h
  simp only [Nat.zero_add] at c1 c2 c3
  refine ⟨⟨?_, ?_, ?_, ?_⟩, fun j => by rw [frozen_setCell]; exact f j⟩
  · rw [cell_setCell_ne _ _ (by simp)]; exact c0
  · rw [Nat.zero_add, cell_setCell_ne _ _ (by simp)]; exact c1
  · rw [Nat.zero_add]; exact cell_setCell_same _ _ c2
  · rw [Nat.zero_add, cell_setCell_ne _ _ (by simp)]; exact c3

theorem InW.put {w : World} {b : Nat} {i : In} (h : InW w b i) (a op n s : Int) :
    InW ((((w.setCell ⟨b, 0, none⟩ (.int .i64 a)).setCell ⟨b, 1, none⟩ (.int .i64 op)).setCell ⟨b, 2, none⟩ (.int .i64 n)).setCell ⟨b, 3, none⟩ (.int .i64 s)) b (a, op, n, s) := by
  obtain ⟨⟨c0, c1, c2, c3⟩, f⟩ := h
  simp only [Nat.zero_add] at c1 c2 c3
  refine ⟨⟨?_, ?_, ?_, ?_⟩, fun j => by rw [frozen_setCell, frozen_setCell, frozen_setCell, frozen_setCell]; exact f j⟩
  · rw [cell_setCell_ne _ _ (by simp), cell_setCell_ne _ _ (by simp), cell_setCell_ne _ _ (by simp)]
    exact cell_setCell_same _ _ c0
  · rw [Nat.zero_add, cell_setCell_ne _ _ (by simp), cell_setCell_ne _ _ (by simp)]
    exact cell_setCell_same _ _ (by rw [cell_setCell_ne _ _ (by simp)]; exact c1)
  · rw [Nat.zero_add, cell_setCell_ne _ _ (by simp)]
    exact cell_setCell_same _ _ (by rw [cell_setCell_ne _ _ (by simp), cell_setCell_ne _ _ (by simp)]; exact c2)
  · rw [Nat.zero_add]
    exact cell_setCell_same _ _ (by rw [cell_setCell_ne _ _ (by simp), cell_setCell_ne _ _ (by simp), cell_setCell_ne _ _ (by simp)]; exact c3)

theorem InW.drew {w : World} {b : Nat} {i : In} (h : InW w b i) : InW w.drew b i := h.only (Only.refl [] w).drew (by simp)

/-- Four cells of a new block written. -/
theorem Only.put4 {w w' : World} (h : Only [] w w') {b : Nat} (hb : w.heap.size ≤ b) (x y z t : Value) : Only [] w ((((w'.setCell ⟨b, 0, none⟩ x).setCell ⟨b, 1, none⟩ y).setCell ⟨b, 2, none⟩ z).setCell ⟨b, 3, none⟩ t) :=
  (((h.setCell (.inr hb) x).setCell (.inr hb) y).setCell (.inr hb) z).setCell (.inr hb) t

end Go.Proofs.YtemjhlhioeopnabDoor