/-
  What the proof leans on, part 11 of 23. The conditions stand in each theorem.
-/
import Derived.Test.YtildemmkhndhjaaGreatDoorB10
import Derived.Test.YtildemmkhndhjaaGreatDoorB01
namespace Go.Proofs.YtildemmkhndhjaaGreatDoor
open Go.RowKit

/-- The six cells of a class's block. -/
structure Cl6 (w : World) (b : Nat) (v0 v1 v2 v3 v4 v5 : Value) : Prop where
  c0 : w.cell? ⟨b, 0, none⟩ = some v0
  c1 : w.cell? ⟨b, 1, none⟩ = some v1
  c2 : w.cell? ⟨b, 2, none⟩ = some v2
  c3 : w.cell? ⟨b, 3, none⟩ = some v3
  c4 : w.cell? ⟨b, 4, none⟩ = some v4
  c5 : w.cell? ⟨b, 5, none⟩ = some v5
  f0 : w.frozen? ⟨b, 0, none⟩ = false
  f1 : w.frozen? ⟨b, 1, none⟩ = false
  f2 : w.frozen? ⟨b, 2, none⟩ = false
  f3 : w.frozen? ⟨b, 3, none⟩ = false
  f4 : w.frozen? ⟨b, 4, none⟩ = false
  f5 : w.frozen? ⟨b, 5, none⟩ = false

theorem Cl6.only {w w' : World} {S : List Nat} {b : Nat} {v0 v1 v2 v3 v4 v5 : Value} (h : Cl6 w b v0 v1 v2 v3 v4 v5) (ho : Only S w w') (hb : b ∉ S) : Cl6 w' b v0 v1 v2 v3 v4 v5 := by
  have hl := World.block_lt_of_cell? w _ h.c0
  exact ⟨(ho.cell (p := ⟨b, 0, none⟩) hl hb).trans h.c0, (ho.cell (p := ⟨b, 1, none⟩) hl hb).trans h.c1, (ho.cell (p := ⟨b, 2, none⟩) hl hb).trans h.c2, (ho.cell (p := ⟨b, 3, none⟩) hl hb).trans h.c3, (ho.cell (p := ⟨b, 4, none⟩) hl hb).trans h.c4, (ho.cell (p := ⟨b, 5, none⟩) hl hb).trans h.c5, (ho.frozen (p := ⟨b, 0, none⟩) hl hb).trans h.f0, (ho.frozen (p := ⟨b, 1, none⟩) hl hb).trans h.f1, (ho.frozen (p := ⟨b, 2, none⟩) hl hb).trans h.f2, (ho.frozen (p := ⟨b, 3, none⟩) hl hb).trans h.f3, (ho.frozen (p := ⟨b, 4, none⟩) hl hb).trans h.f4, (ho.frozen (p := ⟨b, 5, none⟩) hl hb).trans h.f5⟩

theorem cl6_new (w : World) (v0 v1 v2 v3 v4 v5 : Value) (t : TypeId) : Cl6 (w.alloc (.cells #[v0, v1, v2, v3, v4, v5] t)) w.heap.size v0 v1 v2 v3 v4 v5 :=
  ⟨by rw [cell_new]; rfl, by rw [cell_new]; rfl, by rw [cell_new]; rfl, by rw [cell_new]; rfl, by rw [cell_new]; rfl, by rw [cell_new]; rfl, frozen_new _ _ _ _, frozen_new _ _ _ _, frozen_new _ _ _ _, frozen_new _ _ _ _, frozen_new _ _ _ _, frozen_new _ _ _ _⟩

theorem Cl6.put0 {w : World} {b : Nat} {v0 v1 v2 v3 v4 v5 : Value} (h : Cl6 w b v0 v1 v2 v3 v4 v5) (u : Value) : Cl6 (w.setCell ⟨b, 0, none⟩ u) b u v1 v2 v3 v4 v5 :=
  ⟨cell_setCell_same _ _ h.c0, (cell_setCell_ne _ _ (by simp)).trans h.c1, (cell_setCell_ne _ _ (by simp)).trans h.c2, (cell_setCell_ne _ _ (by simp)).trans h.c3, (cell_setCell_ne _ _ (by simp)).trans h.c4, (cell_setCell_ne _ _ (by simp)).trans h.c5, (frozen_setCell _ _ _ _).trans h.f0, (frozen_setCell _ _ _ _).trans h.f1, (frozen_setCell _ _ _ _).trans h.f2, (frozen_setCell _ _ _ _).trans h.f3, (frozen_setCell _ _ _ _).trans h.f4, (frozen_setCell _ _ _ _).trans h.f5⟩

theorem Cl6.put1 {w : World} {b : Nat} {v0 v1 v2 v3 v4 v5 : Value} (h : Cl6 w b v0 v1 v2 v3 v4 v5) (u : Value) : Cl6 (w.setCell ⟨b, 1, none⟩ u) b v0 u v2 v3 v4 v5 :=
  ⟨(cell_setCell_ne _ _ (by simp)).trans h.c0, cell_setCell_same _ _ h.c1, (cell_setCell_ne _ _ (by simp)).trans h.c2, (cell_setCell_ne _ _ (by simp)).trans h.c3, (cell_setCell_ne _ _ (by simp)).trans h.c4, (cell_setCell_ne _ _ (by simp)).trans h.c5, (frozen_setCell _ _ _ _).trans h.f0, (frozen_setCell _ _ _ _).trans h.f1, (frozen_setCell _ _ _ _).trans h.f2, (frozen_setCell _ _ _ _).trans h.f3, (frozen_setCell _ _ _ _).trans h.f4, (frozen_setCell _ _ _ _).trans h.f5⟩

theorem Cl6.put2 {w : World} {b : Nat} {v0 v1 v2 v3 v4 v5 : Value} (h : Cl6 w b v0 v1 v2 v3 v4 v5) (u : Value) : Cl6 (w.setCell ⟨b, 2, none⟩ u) b v0 v1 u v3 v4 v5 :=
  ⟨(cell_setCell_ne _ _ (by simp)).trans h.c0, (cell_setCell_ne _ _ (by simp)).trans h.c1, cell_setCell_same _ _ h.c2, (cell_setCell_ne _ _ (by simp)).trans h.c3, (cell_setCell_ne _ _ (by simp)).trans h.c4, (cell_setCell_ne _ _ (by simp)).trans h.c5, (frozen_setCell _ _ _ _).trans h.f0, (frozen_setCell _ _ _ _).trans h.f1, (frozen_setCell _ _ _ _).trans h.f2, (frozen_setCell _ _ _ _).trans h.f3, (frozen_setCell _ _ _ _).trans h.f4, (frozen_setCell _ _ _ _).trans h.f5⟩

theorem Cl6.put3 {w : World} {b : Nat} {v0 v1 v2 v3 v4 v5 : Value} (h : Cl6 w b v0 v1 v2 v3 v4 v5) (u : Value) : Cl6 (w.setCell ⟨b, 3, none⟩ u) b v0 v1 v2 u v4 v5 :=
  ⟨(cell_setCell_ne _ _ (by simp)).trans h.c0, (cell_setCell_ne _ _ (by simp)).trans h.c1, (cell_setCell_ne _ _ (by simp)).trans h.c2, cell_setCell_same _ _ h.c3, (cell_setCell_ne _ _ (by simp)).trans h.c4, (cell_setCell_ne _ _ (by simp)).trans h.c5, (frozen_setCell _ _ _ _).trans h.f0, (frozen_setCell _ _ _ _).trans h.f1, (frozen_setCell _ _ _ _).trans h.f2, (frozen_setCell _ _ _ _).trans h.f3, (frozen_setCell _ _ _ _).trans h.f4, (frozen_setCell _ _ _ _).trans h.f5⟩

theorem Cl6.put4 {w : World} {b : Nat} {v0 v1 v2 v3 v4 v5 : Value} (h : Cl6 w b v0 v1 v2 v3 v4 v5) (u : Value) : Cl6 (w.setCell ⟨b, 4, none⟩ u) b v0 v1 v2 v3 u v5 :=
  ⟨(cell_setCell_ne _ _ (by simp)).trans h.c0, (cell_setCell_ne _ _ (by simp)).trans h.c1, (cell_setCell_ne _ _ (by simp)).trans h.c2, (cell_setCell_ne _ _ (by simp)).trans h.c3, cell_setCell_same _ _ h.c4, (cell_setCell_ne _ _ (by simp)).trans h.c5, (frozen_setCell _ _ _ _).trans h.f0, (frozen_setCell _ _ _ _).trans h.f1, (frozen_setCell _ _ _ _).trans h.f2, (frozen_setCell _ _ _ _).trans h.f3, (frozen_setCell _ _ _ _).trans h.f4, (frozen_setCell _ _ _ _).trans h.f5⟩

theorem Cl6.put5 {w : World} {b : Nat} {v0 v1 v2 v3 v4 v5 : Value} (h : Cl6 w b v0 v1 v2 v3 v4 v5) (u : Value) : Cl6 (w.setCell ⟨b, 5, none⟩ u) b v0 v1 v2 v3 v4 u :=
  ⟨(cell_setCell_ne _ _ (by simp)).trans h.c0, (cell_setCell_ne _ _ (by simp)).trans h.c1, (cell_setCell_ne _ _ (by simp)).trans h.c2, (cell_setCell_ne _ _ (by simp)).trans h.c3, (cell_setCell_ne _ _ (by simp)).trans h.c4, cell_setCell_same _ _ h.c5, (frozen_setCell _ _ _ _).trans h.f0, (frozen_setCell _ _ _ _).trans h.f1, (frozen_setCell _ _ _ _).trans h.f2, (frozen_setCell _ _ _ _).trans h.f3, (frozen_setCell _ _ _ _).trans h.f4, (frozen_setCell _ _ _ _).trans h.f5⟩

theorem Cl6.put {w : World} {b : Nat} {v0 v1 v2 v3 v4 v5 : Value} (h : Cl6 w b v0 v1 v2 v3 v4 v5) (u0 u1 u2 u3 u4 u5 : Value) : Cl6 ((((((w.setCell ⟨b, 0, none⟩ u0).setCell ⟨b, 1, none⟩ u1).setCell ⟨b, 2, none⟩ u2).setCell ⟨b, 3, none⟩ u3).setCell ⟨b, 4, none⟩ u4).setCell ⟨b, 5, none⟩ u5) b u0 u1 u2 u3 u4 u5 ∧ Only [b] w ((((((w.setCell ⟨b, 0, none⟩ u0).setCell ⟨b, 1, none⟩ u1).setCell ⟨b, 2, none⟩ u2).setCell ⟨b, 3, none⟩ u3).setCell ⟨b, 4, none⟩ u4).setCell ⟨b, 5, none⟩ u5) :=
  ⟨((((((h.put0 _).put1 _).put2 _).put3 _).put4 _).put5 _), (((((((Only.refl [b] w).setCell (.inl (by simp)) _).setCell (.inl (by simp)) _).setCell (.inl (by simp)) _).setCell (.inl (by simp)) _).setCell (.inl (by simp)) _).setCell (.inl (by simp)) _)⟩

/-- The two cells of a module's block. -/
structure Mo2 (w : World) (b : Nat) (v0 v1 : Value) : Prop where
  c0 : w.cell? ⟨b, 0, none⟩ = some v0
  c1 : w.cell? ⟨b, 1, none⟩ = some v1
  f0 : w.frozen? ⟨b, 0, none⟩ = false
  f1 : w.frozen? ⟨b, 1, none⟩ = false

theorem Mo2.only {w w' : World} {S : List Nat} {b : Nat} {v0 v1 : Value} (h : Mo2 w b v0 v1) (ho : Only S w w') (hb : b ∉ S) : Mo2 w' b v0 v1 := by
  have hl := World.block_lt_of_cell? w _ h.c0
  exact ⟨(ho.cell (p := ⟨b, 0, none⟩) hl hb).trans h.c0, (ho.cell (p := ⟨b, 1, none⟩) hl hb).trans h.c1, (ho.frozen (p := ⟨b, 0, none⟩) hl hb).trans h.f0, (ho.frozen (p := ⟨b, 1, none⟩) hl hb).trans h.f1⟩

theorem mo2_new (w : World) (v0 v1 : Value) (t : TypeId) : Mo2 (w.alloc (.cells #[v0, v1] t)) w.heap.size v0 v1 :=
  ⟨by rw [cell_new]; rfl, by rw [cell_new]; rfl, frozen_new _ _ _ _, frozen_new _ _ _ _⟩

theorem Mo2.put0 {w : World} {b : Nat} {v0 v1 : Value} (h : Mo2 w b v0 v1) (u : Value) : Mo2 (w.setCell ⟨b, 0, none⟩ u) b u v1 :=
  ⟨cell_setCell_same _ _ h.c0, (cell_setCell_ne _ _ (by simp)).trans h.c1, (frozen_setCell _ _ _ _).trans h.f0, (frozen_setCell _ _ _ _).trans h.f1⟩

theorem Mo2.put1 {w : World} {b : Nat} {v0 v1 : Value} (h : Mo2 w b v0 v1) (u : Value) : Mo2 (w.setCell ⟨b, 1, none⟩ u) b v0 u :=
  ⟨(cell_setCell_ne _ _ (by simp)).trans h.c0, cell_setCell_same _ _ h.c1, (frozen_setCell _ _ _ _).trans h.f0, (frozen_setCell _ _ _ _).trans h.f1⟩

theorem Mo2.put {w : World} {b : Nat} {v0 v1 : Value} (h : Mo2 w b v0 v1) (u0 u1 : Value) : Mo2 ((w.setCell ⟨b, 0, none⟩ u0).setCell ⟨b, 1, none⟩ u1) b u0 u1 ∧ Only [b] w ((w.setCell ⟨b, 0, none⟩ u0).setCell ⟨b, 1, none⟩ u1) :=
  ⟨((h.put0 _).put1 _), (((Only.refl [b] w).setCell (.inl (by simp)) _).setCell (.inl (by simp)) _)⟩

end Go.Proofs.YtildemmkhndhjaaGreatDoor
namespace Go.Proofs.YtildemmkhndhjaaGreatDoor
open Go.RowKit

/-- The ten cells of a method's block. -/
structure Me10 (w : World) (b : Nat) (v0 v1 v2 v3 v4 v5 v6 v7 v8 v9 : Value) : Prop where
  c0 : w.cell? ⟨b, 0, none⟩ = some v0
  c1 : w.cell? ⟨b, 1, none⟩ = some v1
  c2 : w.cell? ⟨b, 2, none⟩ = some v2
  c3 : w.cell? ⟨b, 3, none⟩ = some v3
  c4 : w.cell? ⟨b, 4, none⟩ = some v4
  c5 : w.cell? ⟨b, 5, none⟩ = some v5
  c6 : w.cell? ⟨b, 6, none⟩ = some v6
  c7 : w.cell? ⟨b, 7, none⟩ = some v7
  c8 : w.cell? ⟨b, 8, none⟩ = some v8
  c9 : w.cell? ⟨b, 9, none⟩ = some v9
  f0 : w.frozen? ⟨b, 0, none⟩ = false
  f1 : w.frozen? ⟨b, 1, none⟩ = false
  f2 : w.frozen? ⟨b, 2, none⟩ = false
  f3 : w.frozen? ⟨b, 3, none⟩ = false
  f4 : w.frozen? ⟨b, 4, none⟩ = false
  f5 : w.frozen? ⟨b, 5, none⟩ = false
  f6 : w.frozen? ⟨b, 6, none⟩ = false
  f7 : w.frozen? ⟨b, 7, none⟩ = false
  f8 : w.frozen? ⟨b, 8, none⟩ = false
  f9 : w.frozen? ⟨b, 9, none⟩ = false

theorem Me10.only {w w' : World} {S : List Nat} {b : Nat} {v0 v1 v2 v3 v4 v5 v6 v7 v8 v9 : Value} (h : Me10 w b v0 v1 v2 v3 v4 v5 v6 v7 v8 v9) (ho : Only S w w') (hb : b ∉ S) : Me10 w' b v0 v1 v2 v3 v4 v5 v6 v7 v8 v9 := by
  have hl := World.block_lt_of_cell? w _ h.c0
  exact ⟨(ho.cell (p := ⟨b, 0, none⟩) hl hb).trans h.c0, (ho.cell (p := ⟨b, 1, none⟩) hl hb).trans h.c1, (ho.cell (p := ⟨b, 2, none⟩) hl hb).trans h.c2, (ho.cell (p := ⟨b, 3, none⟩) hl hb).trans h.c3, (ho.cell (p := ⟨b, 4, none⟩) hl hb).trans h.c4, (ho.cell (p := ⟨b, 5, none⟩) hl hb).trans h.c5, (ho.cell (p := ⟨b, 6, none⟩) hl hb).trans h.c6, (ho.cell (p := ⟨b, 7, none⟩) hl hb).trans h.c7, (ho.cell (p := ⟨b, 8, none⟩) hl hb).trans h.c8, (ho.cell (p := ⟨b, 9, none⟩) hl hb).trans h.c9,
    (ho.frozen (p := ⟨b, 0, none⟩) hl hb).trans h.f0, (ho.frozen (p := ⟨b, 1, none⟩) hl hb).trans h.f1, (ho.frozen (p := ⟨b, 2, none⟩) hl hb).trans h.f2, (ho.frozen (p := ⟨b, 3, none⟩) hl hb).trans h.f3, (ho.frozen (p := ⟨b, 4, none⟩) hl hb).trans h.f4, (ho.frozen (p := ⟨b, 5, none⟩) hl hb).trans h.f5, (ho.frozen (p := ⟨b, 6, none⟩) hl hb).trans h.f6, (ho.frozen (p := ⟨b, 7, none⟩) hl hb).trans h.f7, (ho.frozen (p := ⟨b, 8, none⟩) hl hb).trans h.f8, (ho.frozen (p := ⟨b, 9, none⟩) hl hb).trans h.f9⟩

theorem me10_new (w : World) (v0 v1 v2 v3 v4 v5 v6 v7 v8 v9 : Value) (t : TypeId) : Me10 (w.alloc (.cells #[v0, v1, v2, v3, v4, v5, v6, v7, v8, v9] t)) w.heap.size v0 v1 v2 v3 v4 v5 v6 v7 v8 v9 :=
  ⟨by rw [cell_new]; rfl, by rw [cell_new]; rfl, by rw [cell_new]; rfl, by rw [cell_new]; rfl, by rw [cell_new]; rfl, by rw [cell_new]; rfl, by rw [cell_new]; rfl, by rw [cell_new]; rfl, by rw [cell_new]; rfl, by rw [cell_new]; rfl, frozen_new _ _ _ _, frozen_new _ _ _ _, frozen_new _ _ _ _, frozen_new _ _ _ _, frozen_new _ _ _ _, frozen_new _ _ _ _, frozen_new _ _ _ _, frozen_new _ _ _ _, frozen_new _ _ _ _, frozen_new _ _ _ _⟩

theorem Me10.put0 {w : World} {b : Nat} {v0 v1 v2 v3 v4 v5 v6 v7 v8 v9 : Value} (h : Me10 w b v0 v1 v2 v3 v4 v5 v6 v7 v8 v9) (u : Value) : Me10 (w.setCell ⟨b, 0, none⟩ u) b u v1 v2 v3 v4 v5 v6 v7 v8 v9 :=
  ⟨cell_setCell_same _ _ h.c0, (cell_setCell_ne _ _ (by simp)).trans h.c1, (cell_setCell_ne _ _ (by simp)).trans h.c2, (cell_setCell_ne _ _ (by simp)).trans h.c3, (cell_setCell_ne _ _ (by simp)).trans h.c4, (cell_setCell_ne _ _ (by simp)).trans h.c5, (cell_setCell_ne _ _ (by simp)).trans h.c6, (cell_setCell_ne _ _ (by simp)).trans h.c7, (cell_setCell_ne _ _ (by simp)).trans h.c8, (cell_setCell_ne _ _ (by simp)).trans h.c9, (frozen_setCell _ _ _ _).trans h.f0, (frozen_setCell _ _ _ _).trans h.f1, (frozen_setCell _ _ _ _).trans h.f2, (frozen_setCell _ _ _ _).trans h.f3, (frozen_setCell _ _ _ _).trans h.f4, (frozen_setCell _ _ _ _).trans h.f5, (frozen_setCell _ _ _ _).trans h.f6, (frozen_setCell _ _ _ _).trans h.f7, (frozen_setCell _ _ _ _).trans h.f8, (frozen_setCell _ _ _ _).trans h.f9⟩

theorem Me10.put1 {w : World} {b : Nat} {v0 v1 v2 v3 v4 v5 v6 v7 v8 v9 : Value} (h : Me10 w b v0 v1 v2 v3 v4 v5 v6 v7 v8 v9) (u : Value) : Me10 (w.setCell ⟨b, 1, none⟩ u) b v0 u v2 v3 v4 v5 v6 v7 v8 v9 :=
  ⟨(cell_setCell_ne _ _ (by simp)).trans h.c0, cell_setCell_same _ _ h.c1, (cell_setCell_ne _ _ (by simp)).trans h.c2, (cell_setCell_ne _ _ (by simp)).trans h.c3, (cell_setCell_ne _ _ (by simp)).trans h.c4, (cell_setCell_ne _ _ (by simp)).trans h.c5, (cell_setCell_ne _ _ (by simp)).trans h.c6, (cell_setCell_ne _ _ (by simp)).trans h.c7, (cell_setCell_ne _ _ (by simp)).trans h.c8, (cell_setCell_ne _ _ (by simp)).trans h.c9, (frozen_setCell _ _ _ _).trans h.f0, (frozen_setCell _ _ _ _).trans h.f1, (frozen_setCell _ _ _ _).trans h.f2, (frozen_setCell _ _ _ _).trans h.f3, (frozen_setCell _ _ _ _).trans h.f4, (frozen_setCell _ _ _ _).trans h.f5, (frozen_setCell _ _ _ _).trans h.f6, (frozen_setCell _ _ _ _).trans h.f7, (frozen_setCell _ _ _ _).trans h.f8, (frozen_setCell _ _ _ _).trans h.f9⟩

theorem Me10.put2 {w : World} {b : Nat} {v0 v1 v2 v3 v4 v5 v6 v7 v8 v9 : Value} (h : Me10 w b v0 v1 v2 v3 v4 v5 v6 v7 v8 v9) (u : Value) : Me10 (w.setCell ⟨b, 2, none⟩ u) b v0 v1 u v3 v4 v5 v6 v7 v8 v9 :=
  ⟨(cell_setCell_ne _ _ (by simp)).trans h.c0, (cell_setCell_ne _ _ (by simp)).trans h.c1, cell_setCell_same _ _ h.c2, (cell_setCell_ne _ _ (by simp)).trans h.c3, (cell_setCell_ne _ _ (by simp)).trans h.c4, (cell_setCell_ne _ _ (by simp)).trans h.c5, (cell_setCell_ne _ _ (by simp)).trans h.c6, (cell_setCell_ne _ _ (by simp)).trans h.c7, (cell_setCell_ne _ _ (by simp)).trans h.c8, (cell_setCell_ne _ _ (by simp)).trans h.c9, (frozen_setCell _ _ _ _).trans h.f0, (frozen_setCell _ _ _ _).trans h.f1, (frozen_setCell _ _ _ _).trans h.f2, (frozen_setCell _ _ _ _).trans h.f3, (frozen_setCell _ _ _ _).trans h.f4, (frozen_setCell _ _ _ _).trans h.f5, (frozen_setCell _ _ _ _).trans h.f6, (frozen_setCell _ _ _ _).trans h.f7, (frozen_setCell _ _ _ _).trans h.f8, (frozen_setCell _ _ _ _).trans h.f9⟩

theorem Me10.put3 {w : World} {b : Nat} {v0 v1 v2 v3 v4 v5 v6 v7 v8 v9 : Value} (h : Me10 w b v0 v1 v2 v3 v4 v5 v6 v7 v8 v9) (u : Value) : Me10 (w.setCell ⟨b, 3, none⟩ u) b v0 v1 v2 u v4 v5 v6 v7 v8 v9 :=
  ⟨(cell_setCell_ne _ _ (by simp)).trans h.c0, (cell_setCell_ne _ _ (by simp)).trans h.c1, (cell_setCell_ne _ _ (by simp)).trans h.c2, cell_setCell_same _ _ h.c3, (cell_setCell_ne _ _ (by simp)).trans h.c4, (cell_setCell_ne _ _ (by simp)).trans h.c5, (cell_setCell_ne _ _ (by simp)).trans h.c6, (cell_setCell_ne _ _ (by simp)).trans h.c7, (cell_setCell_ne _ _ (by simp)).trans h.c8, (cell_setCell_ne _ _ (by simp)).trans h.c9, (frozen_setCell _ _ _ _).trans h.f0, (frozen_setCell _ _ _ _).trans h.f1, (frozen_setCell _ _ _ _).trans h.f2, (frozen_setCell _ _ _ _).trans h.f3, (frozen_setCell _ _ _ _).trans h.f4, (frozen_setCell _ _ _ _).trans h.f5, (frozen_setCell _ _ _ _).trans h.f6, (frozen_setCell _ _ _ _).trans h.f7, (frozen_setCell _ _ _ _).trans h.f8, (frozen_setCell _ _ _ _).trans h.f9⟩

theorem Me10.put4 {w : World} {b : Nat} {v0 v1 v2 v3 v4 v5 v6 v7 v8 v9 : Value} (h : Me10 w b v0 v1 v2 v3 v4 v5 v6 v7 v8 v9) (u : Value) : Me10 (w.setCell ⟨b, 4, none⟩ u) b v0 v1 v2 v3 u v5 v6 v7 v8 v9 :=
  ⟨(cell_setCell_ne _ _ (by simp)).trans h.c0, (cell_setCell_ne _ _ (by simp)).trans h.c1, (cell_setCell_ne _ _ (by simp)).trans h.c2, (cell_setCell_ne _ _ (by simp)).trans h.c3, cell_setCell_same _ _ h.c4, (cell_setCell_ne _ _ (by simp)).trans h.c5, (cell_setCell_ne _ _ (by simp)).trans h.c6, (cell_setCell_ne _ _ (by simp)).trans h.c7, (cell_setCell_ne _ _ (by simp)).trans h.c8, (cell_setCell_ne _ _ (by simp)).trans h.c9, (frozen_setCell _ _ _ _).trans h.f0, (frozen_setCell _ _ _ _).trans h.f1, (frozen_setCell _ _ _ _).trans h.f2, (frozen_setCell _ _ _ _).trans h.f3, (frozen_setCell _ _ _ _).trans h.f4, (frozen_setCell _ _ _ _).trans h.f5, (frozen_setCell _ _ _ _).trans h.f6, (frozen_setCell _ _ _ _).trans h.f7, (frozen_setCell _ _ _ _).trans h.f8, (frozen_setCell _ _ _ _).trans h.f9⟩

theorem Me10.put5 {w : World} {b : Nat} {v0 v1 v2 v3 v4 v5 v6 v7 v8 v9 : Value} (h : Me10 w b v0 v1 v2 v3 v4 v5 v6 v7 v8 v9) (u : Value) : Me10 (w.setCell ⟨b, 5, none⟩ u) b v0 v1 v2 v3 v4 u v6 v7 v8 v9 :=
  ⟨(cell_setCell_ne _ _ (by simp)).trans h.c0, (cell_setCell_ne _ _ (by simp)).trans h.c1, (cell_setCell_ne _ _ (by simp)).trans h.c2, (cell_setCell_ne _ _ (by simp)).trans h.c3, (cell_setCell_ne _ _ (by simp)).trans h.c4, cell_setCell_same _ _ h.c5, (cell_setCell_ne _ _ (by simp)).trans h.c6, (cell_setCell_ne _ _ (by simp)).trans h.c7, (cell_setCell_ne _ _ (by simp)).trans h.c8, (cell_setCell_ne _ _ (by simp)).trans h.c9, (frozen_setCell _ _ _ _).trans h.f0, (frozen_setCell _ _ _ _).trans h.f1, (frozen_setCell _ _ _ _).trans h.f2, (frozen_setCell _ _ _ _).trans h.f3, (frozen_setCell _ _ _ _).trans h.f4, (frozen_setCell _ _ _ _).trans h.f5, (frozen_setCell _ _ _ _).trans h.f6, (frozen_setCell _ _ _ _).trans h.f7, (frozen_setCell _ _ _ _).trans h.f8, (frozen_setCell _ _ _ _).trans h.f9⟩

theorem Me10.put6 {w : World} {b : Nat} {v0 v1 v2 v3 v4 v5 v6 v7 v8 v9 : Value} (h : Me10 w b v0 v1 v2 v3 v4 v5 v6 v7 v8 v9) (u : Value) : Me10 (w.setCell ⟨b, 6, none⟩ u) b v0 v1 v2 v3 v4 v5 u v7 v8 v9 :=
  ⟨(cell_setCell_ne _ _ (by simp)).trans h.c0, (cell_setCell_ne _ _ (by simp)).trans h.c1, (cell_setCell_ne _ _ (by simp)).trans h.c2, (cell_setCell_ne _ _ (by simp)).trans h.c3, (cell_setCell_ne _ _ (by simp)).trans h.c4, (cell_setCell_ne _ _ (by simp)).trans h.c5, cell_setCell_same _ _ h.c6, (cell_setCell_ne _ _ (by simp)).trans h.c7, (cell_setCell_ne _ _ (by simp)).trans h.c8, (cell_setCell_ne _ _ (by simp)).trans h.c9, (frozen_setCell _ _ _ _).trans h.f0, (frozen_setCell _ _ _ _).trans h.f1, (frozen_setCell _ _ _ _).trans h.f2, (frozen_setCell _ _ _ _).trans h.f3, (frozen_setCell _ _ _ _).trans h.f4, (frozen_setCell _ _ _ _).trans h.f5, (frozen_setCell _ _ _ _).trans h.f6, (frozen_setCell _ _ _ _).trans h.f7, (frozen_setCell _ _ _ _).trans h.f8, (frozen_setCell _ _ _ _).trans h.f9⟩

theorem Me10.put7 {w : World} {b : Nat} {v0 v1 v2 v3 v4 v5 v6 v7 v8 v9 : Value} (h : Me10 w b v0 v1 v2 v3 v4 v5 v6 v7 v8 v9) (u : Value) : Me10 (w.setCell ⟨b, 7, none⟩ u) b v0 v1 v2 v3 v4 v5 v6 u v8 v9 :=
  ⟨(cell_setCell_ne _ _ (by simp)).trans h.c0, (cell_setCell_ne _ _ (by simp)).trans h.c1, (cell_setCell_ne _ _ (by simp)).trans h.c2, (cell_setCell_ne _ _ (by simp)).trans h.c3, (cell_setCell_ne _ _ (by simp)).trans h.c4, (cell_setCell_ne _ _ (by simp)).trans h.c5, (cell_setCell_ne _ _ (by simp)).trans h.c6, cell_setCell_same _ _ h.c7, (cell_setCell_ne _ _ (by simp)).trans h.c8, (cell_setCell_ne _ _ (by simp)).trans h.c9, (frozen_setCell _ _ _ _).trans h.f0, (frozen_setCell _ _ _ _).trans h.f1, (frozen_setCell _ _ _ _).trans h.f2, (frozen_setCell _ _ _ _).trans h.f3, (frozen_setCell _ _ _ _).trans h.f4, (frozen_setCell _ _ _ _).trans h.f5, (frozen_setCell _ _ _ _).trans h.f6, (frozen_setCell _ _ _ _).trans h.f7, (frozen_setCell _ _ _ _).trans h.f8, (frozen_setCell _ _ _ _).trans h.f9⟩

theorem Me10.put8 {w : World} {b : Nat} {v0 v1 v2 v3 v4 v5 v6 v7 v8 v9 : Value} (h : Me10 w b v0 v1 v2 v3 v4 v5 v6 v7 v8 v9) (u : Value) : Me10 (w.setCell ⟨b, 8, none⟩ u) b v0 v1 v2 v3 v4 v5 v6 v7 u v9 :=
  ⟨(cell_setCell_ne _ _ (by simp)).trans h.c0, (cell_setCell_ne _ _ (by simp)).trans h.c1, (cell_setCell_ne _ _ (by simp)).trans h.c2, (cell_setCell_ne _ _ (by simp)).trans h.c3, (cell_setCell_ne _ _ (by simp)).trans h.c4, (cell_setCell_ne _ _ (by simp)).trans h.c5, (cell_setCell_ne _ _ (by simp)).trans h.c6, (cell_setCell_ne _ _ (by simp)).trans h.c7, cell_setCell_same _ _ h.c8, (cell_setCell_ne _ _ (by simp)).trans h.c9, (frozen_setCell _ _ _ _).trans h.f0, (frozen_setCell _ _ _ _).trans h.f1, (frozen_setCell _ _ _ _).trans h.f2, (frozen_setCell _ _ _ _).trans h.f3, (frozen_setCell _ _ _ _).trans h.f4, (frozen_setCell _ _ _ _).trans h.f5, (frozen_setCell _ _ _ _).trans h.f6, (frozen_setCell _ _ _ _).trans h.f7, (frozen_setCell _ _ _ _).trans h.f8, (frozen_setCell _ _ _ _).trans h.f9⟩

theorem Me10.put9 {w : World} {b : Nat} {v0 v1 v2 v3 v4 v5 v6 v7 v8 v9 : Value} (h : Me10 w b v0 v1 v2 v3 v4 v5 v6 v7 v8 v9) (u : Value) : Me10 (w.setCell ⟨b, 9, none⟩ u) b v0 v1 v2 v3 v4 v5 v6 v7 v8 u :=
  ⟨(cell_setCell_ne _ _ (by simp)).trans h.c0, (cell_setCell_ne _ _ (by simp)).trans h.c1, (cell_setCell_ne _ _ (by simp)).trans h.c2, (cell_setCell_ne _ _ (by simp)).trans h.c3, (cell_setCell_ne _ _ (by simp)).trans h.c4, (cell_setCell_ne _ _ (by simp)).trans h.c5, (cell_setCell_ne _ _ (by simp)).trans h.c6, (cell_setCell_ne _ _ (by simp)).trans h.c7, (cell_setCell_ne _ _ (by simp)).trans h.c8, cell_setCell_same _ _ h.c9, (frozen_setCell _ _ _ _).trans h.f0, (frozen_setCell _ _ _ _).trans h.f1, (frozen_setCell _ _ _ _).trans h.f2, (frozen_setCell _ _ _ _).trans h.f3, (frozen_setCell _ _ _ _).trans h.f4, (frozen_setCell _ _ _ _).trans h.f5, (frozen_setCell _ _ _ _).trans h.f6, (frozen_setCell _ _ _ _).trans h.f7, (frozen_setCell _ _ _ _).trans h.f8, (frozen_setCell _ _ _ _).trans h.f9⟩

theorem Me10.put {w : World} {b : Nat} {v0 v1 v2 v3 v4 v5 v6 v7 v8 v9 : Value} (h : Me10 w b v0 v1 v2 v3 v4 v5 v6 v7 v8 v9) (u0 u1 u2 u3 u4 u5 u6 u7 u8 u9 : Value) : Me10 ((((((((((w.setCell ⟨b, 0, none⟩ u0).setCell ⟨b, 1, none⟩ u1).setCell ⟨b, 2, none⟩ u2).setCell ⟨b, 3, none⟩ u3).setCell ⟨b, 4, none⟩ u4).setCell ⟨b, 5, none⟩ u5).setCell ⟨b, 6, none⟩ u6).setCell ⟨b, 7, none⟩ u7).setCell ⟨b, 8, none⟩ u8).setCell ⟨b, 9, none⟩ u9) b u0 u1 u2 u3 u4 u5 u6 u7 u8 u9 ∧ Only [b] w ((((((((((w.setCell ⟨b, 0, none⟩ u0).setCell ⟨b, 1, none⟩ u1).setCell ⟨b, 2, none⟩ u2).setCell ⟨b, 3, none⟩ u3).setCell ⟨b, 4, none⟩ u4).setCell ⟨b, 5, none⟩ u5).setCell ⟨b, 6, none⟩ u6).setCell ⟨b, 7, none⟩ u7).setCell ⟨b, 8, none⟩ u8).setCell ⟨b, 9, none⟩ u9) :=
  ⟨((((((((((h.put0 _).put1 _).put2 _).put3 _).put4 _).put5 _).put6 _).put7 _).put8 _).put9 _), (((((((((((Only.refl [b] w).setCell (.inl (by simp)) _).setCell (.inl (by simp)) _).setCell (.inl (by simp)) _).setCell (.inl (by simp)) _).setCell (.inl (by simp)) _).setCell (.inl (by simp)) _).setCell (.inl (by simp)) _).setCell (.inl (by simp)) _).setCell (.inl (by simp)) _).setCell (.inl (by simp)) _)⟩

end Go.Proofs.YtildemmkhndhjaaGreatDoor
namespace Go.Proofs.YtildemmkhndhjaaGreatDoor
open Go.RowKit Go.Extern.Stop Go.Stop Go.Extern

theorem typeOfE (v : Value) (w : World) : (ReflectliteType.typeOf #[.iface 63 v]).run Tryz.prog w = .ok (.iface 172 (.agg #[.pointer (some ⟨5, 63, none⟩)])) w := by kernel_rfl
theorem assignEP (w : World) : (ReflectliteType.relation "AssignableTo" ReflectliteType.assignableTo #[.agg #[.pointer (some ⟨5, 63, none⟩)], .iface 172 (.agg #[.pointer (some ⟨5, 66, none⟩)])]).run Tryz.prog w = .ok (.bool false) w := by kernel_rfl
theorem assignEE (w : World) : (ReflectliteType.relation "AssignableTo" ReflectliteType.assignableTo #[.agg #[.pointer (some ⟨5, 63, none⟩)], .iface 172 (.agg #[.pointer (some ⟨5, 63, none⟩)])]).run Tryz.prog w = .ok (.bool true) w := by kernel_rfl
theorem compE (w : World) : ((ReflectliteType.method fun t => do Rtype.noPackHeld "Comparable" t; (fun a => Value.bool a.comparable) <$> typeInfo t) #[.agg #[.pointer (some ⟨5, 63, none⟩)]]).run Tryz.prog w = .ok (.bool true) w := by kernel_rfl
theorem assE_As (v : Value) (w : World) : (Instr.typeAssert (.iface 63 v) 48 208 true).run Tryz.prog w = .ok (.tuple #[.nilIface, .bool false]) w := run_typeAssert_lacksB Tryz.underlying208 (by kernel_rfl) (by kernel_rfl) v _ w
theorem assE_U1 (v : Value) (w : World) : (Instr.typeAssert (.iface 63 v) 48 177 true).run Tryz.prog w = .ok (.tuple #[.nilIface, .bool false]) w := run_typeAssert_lacksB Tryz.underlying177 (by kernel_rfl) (by kernel_rfl) v _ w
theorem assE_U2 (v : Value) (w : World) : (Instr.typeAssert (.iface 63 v) 48 178 true).run Tryz.prog w = .ok (.tuple #[.nilIface, .bool false]) w := run_typeAssert_lacksB Tryz.underlying178 (by kernel_rfl) (by kernel_rfl) v _ w
theorem assB_Is (v : Value) (w : World) : (Instr.typeAssert (.iface 66 v) 48 174 true).run Tryz.prog w = .ok (.tuple #[.nilIface, .bool false]) w := run_typeAssert_lacksB Tryz.underlying174 (by kernel_rfl) (by kernel_rfl) v _ w
theorem assB_U1 (v : Value) (w : World) : (Instr.typeAssert (.iface 66 v) 48 177 true).run Tryz.prog w = .ok (.tuple #[.iface 66 v, .bool true]) w := run_typeAssert_hasB Tryz.underlying177 (by kernel_rfl) v _ w
theorem mUnwrap (v : Value) (w : World) : (Go.method 464 66 v "Unwrap").run Tryz.prog w = .ok (255, v) w := by kernel_rfl
theorem mError (v : Value) (w : World) : (Go.method 464 66 v "Error").run Tryz.prog w = .ok (254, v) w := by kernel_rfl

set_option maxHeartbeats 4000000 in
/-- errors.As of a bare number at a variable of *Bad: false. -/
theorem as_miss (e : Int) (t : Addr) (w : World) (hg : Ety w) :
    Calls Tryz.prog 28 #[.iface 63 (.int .i64 e), .iface 81 (.pointer (some t))] w fun ev w' => ev = .returned (.bool false) ∧ Only [] w w' := by
  have hlt := hg.lt
  unfold Ety at hg
  have y_x66 := @run_callFunc_extern Tryz.prog 65 _ (fun args => ReflectliteValue.unpack (args.getD 0 (.tuple #[]))) Tryz.func65 (by kernel_rfl) (by kernel_rfl) (by kernel_rfl) (by kernel_rfl)
  have y_x67 := @run_callFunc_extern Tryz.prog 66 _ (ReflectliteValue.methodAny (ReflectliteValue.valueError "reflectlite.Value.Type" 0) (fun t _ _ _ => ReflectliteType.toType t)) Tryz.func66 (by kernel_rfl) (by kernel_rfl) (by kernel_rfl) (by kernel_rfl)
  have y_x68 := @run_callFunc_extern Tryz.prog 67 _ (ReflectliteValue.method (ReflectliteValue.valueError "reflectlite.Value.IsNil" 0) ReflectliteValue.isNil) Tryz.func67 (by kernel_rfl) (by kernel_rfl) (by kernel_rfl) (by kernel_rfl)
  have y_xKind := @run_callFunc_extern Tryz.prog 251 _ (ReflectliteType.abiMethod fun t => do pure (.int .u8 (← Rtype.kind t))) Tryz.func251 (by kernel_rfl) (by kernel_rfl) (by kernel_rfl) (by kernel_rfl)
  have y_xElem := @run_callFunc_extern Tryz.prog 276 _ (ReflectliteType.method ReflectliteType.elem) Tryz.func276 (by kernel_rfl) (by kernel_rfl) (by kernel_rfl) (by kernel_rfl)
  have y_xImpl := @run_callFunc_extern Tryz.prog 277 _ (ReflectliteType.relation "Implements" ReflectliteType.implements_) Tryz.func277 (by kernel_rfl) (by kernel_rfl) (by kernel_rfl) (by kernel_rfl)
  have y_xTypeOf := @run_callFunc_extern Tryz.prog 43 _ ReflectliteType.typeOf Tryz.func43 (by kernel_rfl) (by kernel_rfl) (by kernel_rfl) (by kernel_rfl)
  have y_xAssign := @run_callFunc_extern Tryz.prog 274 _ (ReflectliteType.relation "AssignableTo" ReflectliteType.assignableTo) Tryz.func274 (by kernel_rfl) (by kernel_rfl) (by kernel_rfl) (by kernel_rfl)
  have y_xVElem := @run_callFunc_extern Tryz.prog 133 _ (ReflectliteValue.method (ReflectliteValue.valueError "reflectlite.Value.Elem" 0) ReflectliteValue.elem) Tryz.func133 (by kernel_rfl) (by kernel_rfl) (by kernel_rfl) (by kernel_rfl)
  have y_xSet := @run_callFunc_extern Tryz.prog 134 _ ReflectliteValue.set Tryz.func134 (by kernel_rfl) (by kernel_rfl) (by kernel_rfl) (by kernel_rfl)
  have tO := typeOfE
  have mA := mAssign
  have a25 := assignEP
  have f6 := valueOfPP
  have f7 := typePP
  have mK := mKind
  have mE := mElem
  have mI := mImpl
  have k27 := kindPP
  have k25 := kindP
  have e27 := elemPP
  have i25 := implP
  have q1 := assE_As
  have q2 := assE_U1
  have q3 := assE_U2
  have n8 := isNilPP ⟨w.heap.size, 0, none⟩ t ((w.alloc (.cells #[.pointer (some t)] 81)).alloc (.cells #[.pointer (some ⟨5, 81, none⟩), .pointer (some ⟨w.heap.size, 0, none⟩), .int .u64 150] 131)) (by simp)
  have hg2 : ((w.alloc (.cells #[.pointer (some t)] 81)).alloc (.cells #[.pointer (some ⟨5, 81, none⟩), .pointer (some ⟨w.heap.size, 0, none⟩), .int .u64 150] 131)).cell? ⟨0, 0, none⟩ = some (.iface 172 (.agg #[.pointer (some ⟨5, 48, none⟩)])) := by
    rw [World.cell?_alloc_lt _ _ ⟨0, 0, none⟩ (by simp), World.cell?_alloc_lt _ _ ⟨0, 0, none⟩ hlt]; exact hg
  go_enter Tryz.func28, Tryz.ntmps28
  go_wp2
  refine wp_loop_rounds 1 ?_
  rw [rounds_succ]
  go_wp2
  go_ret
  exact ⟨rfl, (((Only.refl [] w).alloc _).alloc _).alloc _⟩

theorem valueOfPE (t : Addr) (w : World) : (ReflectliteValue.unpack (.iface 198 (.pointer (some t)))).run Tryz.prog w
    = .ok (.agg #[.pointer (some ⟨5, 198, none⟩), .pointer (some ⟨w.heap.size, 0, none⟩), .int .u64 150]) (w.alloc (.cells #[.pointer (some t)] 198)) := by kernel_rfl
theorem typePE (a : Addr) (w : World) : (ReflectliteValue.methodAny (ReflectliteValue.valueError "reflectlite.Value.Type" 0) (fun t _ _ _ => ReflectliteType.toType t) #[.agg #[.pointer (some ⟨5, 198, none⟩), .pointer (some a), .int .u64 150]]).run Tryz.prog w
    = .ok (.iface 172 (.agg #[.pointer (some ⟨5, 198, none⟩)])) w := by kernel_rfl
theorem kindPE (w : World) : ((ReflectliteType.abiMethod fun t => (fun a : Nat => Value.int IntKind.u8 (a : Int)) <$> Rtype.kind t) #[.pointer (some ⟨5, 198, none⟩)]).run Tryz.prog w = .ok (.int .u8 22) w := by kernel_rfl
theorem kindE (w : World) : ((ReflectliteType.abiMethod fun t => (fun a : Nat => Value.int IntKind.u8 (a : Int)) <$> Rtype.kind t) #[.pointer (some ⟨5, 63, none⟩)]).run Tryz.prog w = .ok (.int .u8 2) w := by kernel_rfl
theorem partsPE (a : Addr) (w : World) : (ReflectliteValue.parts (.agg #[.pointer (some ⟨5, 198, none⟩), .pointer (some a), .int .u64 150])).run Tryz.prog w = .ok (some (198, a, 150)) w := by kernel_rfl
theorem isNilPE (a p : Addr) (W : World) (ha : W.cell? a = some (.pointer (some p))) :
    (ReflectliteValue.method (ReflectliteValue.valueError "reflectlite.Value.IsNil" 0) ReflectliteValue.isNil #[.agg #[.pointer (some ⟨5, 198, none⟩), .pointer (some a), .int .u64 150]]).run Tryz.prog W = .ok (.bool false) W := by
  rw [rlm]
  simp only [Sem.run_bind, partsPE, Result.andThen]
  simp [ReflectliteValue.isNil, loadVar, isAgg, underlying, Tryz.underlying198, ha, Result.andThen]
theorem elemPE (w : World) : (ReflectliteType.method ReflectliteType.elem #[.agg #[.pointer (some ⟨5, 198, none⟩)]]).run Tryz.prog w = .ok (.iface 172 (.agg #[.pointer (some ⟨5, 63, none⟩)])) w := by kernel_rfl
theorem implE (w : World) : (ReflectliteType.relation "Implements" ReflectliteType.implements_ #[.agg #[.pointer (some ⟨5, 63, none⟩)], .iface 172 (.agg #[.pointer (some ⟨5, 48, none⟩)])]).run Tryz.prog w = .ok (.bool true) w := by kernel_rfl
theorem valueOfE (e : Int) (w : World) : (ReflectliteValue.unpack (.iface 63 (.int .i64 e))).run Tryz.prog w
    = .ok (.agg #[.pointer (some ⟨5, 63, none⟩), .pointer (some ⟨w.heap.size, 0, none⟩), .int .u64 130]) (w.alloc (.cells #[.int .i64 e] 63)) := by kernel_rfl
theorem elemOfPE (w : World) : (Rtype.elem? 198).run Tryz.prog w = .ok (some 63) w := by kernel_rfl
theorem mkE (p : Addr) (w : World) : (ReflectliteValue.mk 63 p ReflectliteValue.flagAddr).run Tryz.prog w = .ok (.agg #[.pointer (some ⟨5, 63, none⟩), .pointer (some p), .int .u64 386]) w := by kernel_rfl
theorem elemVPE (a p : Addr) (W : World) (ha : W.cell? a = some (.pointer (some p))) :
    (ReflectliteValue.method (ReflectliteValue.valueError "reflectlite.Value.Elem" 0) ReflectliteValue.elem #[.agg #[.pointer (some ⟨5, 198, none⟩), .pointer (some a), .int .u64 150]]).run Tryz.prog W
      = .ok (.agg #[.pointer (some ⟨5, 63, none⟩), .pointer (some p), .int .u64 386]) W := by
  rw [rlm]
  simp only [Sem.run_bind, partsPE, Result.andThen]
  simp [ReflectliteValue.elem, loadVar, isAgg, underlying, Tryz.underlying198, ha, Result.andThen, elemOfPE, mkE]
theorem partsEa (a : Addr) (w : World) : (ReflectliteValue.parts (.agg #[.pointer (some ⟨5, 63, none⟩), .pointer (some a), .int .u64 386])).run Tryz.prog w = .ok (some (63, a, 386)) w := by kernel_rfl
theorem partsE (a : Addr) (w : World) : (ReflectliteValue.parts (.agg #[.pointer (some ⟨5, 63, none⟩), .pointer (some a), .int .u64 130])).run Tryz.prog w = .ok (some (63, a, 130)) w := by kernel_rfl
theorem directE (w : World) : (Rtype.directlyAssignable 63 63).run Tryz.prog w = .ok true w := by kernel_rfl
theorem setE (ta b : Addr) (e : Int) (old : Value) (W : World) (hb : W.cell? b = some (.int .i64 e)) (ht : W.cell? ta = some old) (hf : W.frozen? ta = false) :
    (ReflectliteValue.set #[.agg #[.pointer (some ⟨5, 63, none⟩), .pointer (some ta), .int .u64 386], .agg #[.pointer (some ⟨5, 63, none⟩), .pointer (some b), .int .u64 130]]).run Tryz.prog W
      = .ok (.tuple #[]) (W.setCell ta (.int .i64 e)) := by
  rw [rls]
  simp only [Sem.run_bind, partsEa, partsE, Result.andThen]
  simp [ReflectliteValue.flagAddr, loadVar, isAgg, underlying, Tryz.underlying63, hb, Result.andThen, directE, storeVar, Value.cells, storeCells, Addr.add]
  rw [run_store Tryz.prog W ta _ _ (by rfl)]
  simp [ht, hf]

set_option maxHeartbeats 4000000 in
/-- errors.As of a bare number at a variable of its type. -/
theorem as_num (e : Int) (t : Addr) (old : Value) (w : World) (hg : Ety w) (ht0 : w.cell? t = some old) (hf0 : w.frozen? t = false) :
    Calls Tryz.prog 28 #[.iface 63 (.int .i64 e), .iface 198 (.pointer (some t))] w fun ev w' => ev = .returned (.bool true) ∧ ∃ w1, Only [] w w1 ∧ w' = w1.setCell t (.int .i64 e) := by
  have hlt := hg.lt
  unfold Ety at hg
  have y_x66 := @run_callFunc_extern Tryz.prog 65 _ (fun args => ReflectliteValue.unpack (args.getD 0 (.tuple #[]))) Tryz.func65 (by kernel_rfl) (by kernel_rfl) (by kernel_rfl) (by kernel_rfl)
  have y_x67 := @run_callFunc_extern Tryz.prog 66 _ (ReflectliteValue.methodAny (ReflectliteValue.valueError "reflectlite.Value.Type" 0) (fun t _ _ _ => ReflectliteType.toType t)) Tryz.func66 (by kernel_rfl) (by kernel_rfl) (by kernel_rfl) (by kernel_rfl)
  have y_x68 := @run_callFunc_extern Tryz.prog 67 _ (ReflectliteValue.method (ReflectliteValue.valueError "reflectlite.Value.IsNil" 0) ReflectliteValue.isNil) Tryz.func67 (by kernel_rfl) (by kernel_rfl) (by kernel_rfl) (by kernel_rfl)
  have y_xKind := @run_callFunc_extern Tryz.prog 251 _ (ReflectliteType.abiMethod fun t => do pure (.int .u8 (← Rtype.kind t))) Tryz.func251 (by kernel_rfl) (by kernel_rfl) (by kernel_rfl) (by kernel_rfl)
  have y_xElem := @run_callFunc_extern Tryz.prog 276 _ (ReflectliteType.method ReflectliteType.elem) Tryz.func276 (by kernel_rfl) (by kernel_rfl) (by kernel_rfl) (by kernel_rfl)
  have y_xImpl := @run_callFunc_extern Tryz.prog 277 _ (ReflectliteType.relation "Implements" ReflectliteType.implements_) Tryz.func277 (by kernel_rfl) (by kernel_rfl) (by kernel_rfl) (by kernel_rfl)
  have y_xTypeOf := @run_callFunc_extern Tryz.prog 43 _ ReflectliteType.typeOf Tryz.func43 (by kernel_rfl) (by kernel_rfl) (by kernel_rfl) (by kernel_rfl)
  have y_xAssign := @run_callFunc_extern Tryz.prog 274 _ (ReflectliteType.relation "AssignableTo" ReflectliteType.assignableTo) Tryz.func274 (by kernel_rfl) (by kernel_rfl) (by kernel_rfl) (by kernel_rfl)
  have y_xVElem := @run_callFunc_extern Tryz.prog 133 _ (ReflectliteValue.method (ReflectliteValue.valueError "reflectlite.Value.Elem" 0) ReflectliteValue.elem) Tryz.func133 (by kernel_rfl) (by kernel_rfl) (by kernel_rfl) (by kernel_rfl)
  have y_xSet := @run_callFunc_extern Tryz.prog 134 _ ReflectliteValue.set Tryz.func134 (by kernel_rfl) (by kernel_rfl) (by kernel_rfl) (by kernel_rfl)
  have tO := typeOfE
  have mA := mAssign
  have a25 := assignEE
  have v25 := valueOfE
  have f6 := valueOfPE
  have f7 := typePE
  have mK := mKind
  have mE := mElem
  have mI := mImpl
  have k27 := kindPE
  have k25 := kindE
  have e27 := elemPE
  have i25 := implE
  have n8 := isNilPE ⟨w.heap.size, 0, none⟩ t ((w.alloc (.cells #[.pointer (some t)] 198)).alloc (.cells #[.pointer (some ⟨5, 198, none⟩), .pointer (some ⟨w.heap.size, 0, none⟩), .int .u64 150] 131)) (by simp)
  have hg2 : ((w.alloc (.cells #[.pointer (some t)] 198)).alloc (.cells #[.pointer (some ⟨5, 198, none⟩), .pointer (some ⟨w.heap.size, 0, none⟩), .int .u64 150] 131)).cell? ⟨0, 0, none⟩ = some (.iface 172 (.agg #[.pointer (some ⟨5, 48, none⟩)])) := by
    rw [World.cell?_alloc_lt _ _ ⟨0, 0, none⟩ (by simp), World.cell?_alloc_lt _ _ ⟨0, 0, none⟩ hlt]; exact hg
  have htl : t.block < w.heap.size := World.block_lt_of_cell? w t ht0
  have el := elemVPE ⟨w.heap.size, 0, none⟩ t (((w.alloc (.cells #[.pointer (some t)] 198)).alloc (.cells #[.pointer (some ⟨5, 198, none⟩), .pointer (some ⟨w.heap.size, 0, none⟩), .int .u64 150] 131)).alloc (.cells #[.pointer (some ⟨5, 198, none⟩), .pointer (some ⟨w.heap.size, 0, none⟩), .int .u64 150] 131)) (by rw [World.cell?_alloc_lt _ _ ⟨w.heap.size, 0, none⟩ (by simp; omega)]; simp)
  have st := setE t ⟨w.heap.size + 1 + 1 + 1, 0, none⟩ e old ((((w.alloc (.cells #[.pointer (some t)] 198)).alloc (.cells #[.pointer (some ⟨5, 198, none⟩), .pointer (some ⟨w.heap.size, 0, none⟩), .int .u64 150] 131)).alloc (.cells #[.pointer (some ⟨5, 198, none⟩), .pointer (some ⟨w.heap.size, 0, none⟩), .int .u64 150] 131)).alloc (.cells #[.int .i64 e] 63))
    (by rw [World.cell?_alloc_at _ _ _ _ (by simp)]; rfl)
    (by rw [World.cell?_alloc_lt _ _ t (by simp; omega), World.cell?_alloc_lt _ _ t (by simp; omega), World.cell?_alloc_lt _ _ t (by simp; omega), World.cell?_alloc_lt _ _ t htl]; exact ht0)
    (by rw [World.frozen?_alloc_old _ _ t (by simp; omega), World.frozen?_alloc_old _ _ t (by simp; omega), World.frozen?_alloc_old _ _ t (by simp; omega), World.frozen?_alloc_old _ _ t (Nat.ne_of_lt htl)]; exact hf0)
  go_enter Tryz.func28, Tryz.ntmps28
  go_wp2
  refine wp_loop_rounds 1 ?_
  rw [rounds_succ]
  go_wp2
  go_ret
  exact ⟨rfl, _, ((((Only.refl [] w).alloc _).alloc _).alloc _).alloc _, rfl⟩

theorem unwrap_any (p : Nat) (e : Int) (w : World) (h : w.cell? ⟨p, 3, none⟩ = some (.int .i64 e)) :
    Calls Tryz.prog 255 #[.pointer (some ⟨p, 0, none⟩)] w fun ev w' => ev = .returned (.iface 63 (.int .i64 e)) ∧ w' = w := by
  go_enter Tryz.func255, Tryz.ntmps255
  go_wp2
  go_ret
  exact ⟨rfl, rfl⟩

set_option maxHeartbeats 4000000 in
/-- errors.Is of a *Bad and the number that it wraps. -/
theorem is_hit (p : Nat) (e : Int) (w : World) (h : w.cell? ⟨p, 3, none⟩ = some (.int .i64 e)) :
    Calls Tryz.prog 18 #[.iface 66 (.pointer (some ⟨p, 0, none⟩)), .iface 63 (.int .i64 e)] w fun ev w' => ev = .returned (.bool true) ∧ Only [] w w' := by
  have h10 := @run_callFunc_extern Tryz.prog 43 _ ReflectliteType.typeOf Tryz.func43 (by kernel_rfl) (by kernel_rfl) (by kernel_rfl) (by kernel_rfl)
  have hC := @run_callFunc_extern Tryz.prog 275 _ (ReflectliteType.method fun t => do Rtype.noPackHeld "Comparable" t; pure (.bool (← typeInfo t).comparable)) Tryz.func275 (by kernel_rfl) (by kernel_rfl) (by kernel_rfl) (by kernel_rfl)
  have tO := typeOfE
  have mC := mComp
  have cE := compE
  have b1 := eql_bad_errno
  have b2 := eql_errno
  have b3 := assB_Is
  have b4 := assB_U1
  have b5 := mUnwrap
  go_enter Tryz.func18, Tryz.ntmps18
  go_wp2
  refine wp_loop_rounds 2 ?_
  rw [rounds_succ]
  go_wp2
  rw [rounds_succ]
  go_wp2
  go_ret
  exact ⟨rfl, Only.refl _ _⟩

end Go.Proofs.YtildemmkhndhjaaGreatDoor
namespace Go.Proofs.YtildemmkhndhjaaGreatDoor
open Go.RowKit

/-- A Bad in block p. -/
structure BadAt (w : World) (p : Nat) (b : Bp) : Prop where
  c0 : w.cell? ⟨p, 0, none⟩ = some (.int .i64 b.1)
  c1 : w.cell? ⟨p, 1, none⟩ = some (.int .i64 b.2.1)
  c2 : w.cell? ⟨p, 2, none⟩ = some (.int .i64 b.2.2.1)
  c3 : w.cell? ⟨p, 3, none⟩ = some (.int .i64 b.2.2.2)
  f0 : w.frozen? ⟨p, 0, none⟩ = false
  f1 : w.frozen? ⟨p, 1, none⟩ = false
  f2 : w.frozen? ⟨p, 2, none⟩ = false
  f3 : w.frozen? ⟨p, 3, none⟩ = false

theorem BadAt.lt {w : World} {p : Nat} {b : Bp} (h : BadAt w p b) : p < w.heap.size := World.block_lt_of_cell? w _ h.c0

theorem BadAt.only {w w' : World} {S : List Nat} {p : Nat} {b : Bp} (h : BadAt w p b) (ho : Only S w w') (hp : p ∉ S) : BadAt w' p b :=
  ⟨(ho.cell (p := ⟨p, 0, none⟩) h.lt hp).trans h.c0, (ho.cell (p := ⟨p, 1, none⟩) h.lt hp).trans h.c1, (ho.cell (p := ⟨p, 2, none⟩) h.lt hp).trans h.c2, (ho.cell (p := ⟨p, 3, none⟩) h.lt hp).trans h.c3,
   (ho.frozen (p := ⟨p, 0, none⟩) h.lt hp).trans h.f0, (ho.frozen (p := ⟨p, 1, none⟩) h.lt hp).trans h.f1, (ho.frozen (p := ⟨p, 2, none⟩) h.lt hp).trans h.f2, (ho.frozen (p := ⟨p, 3, none⟩) h.lt hp).trans h.f3⟩

theorem bad_new (w : World) (a b c e : Int) : BadAt (w.alloc (.cells #[.int .i64 a, .int .i64 b, .int .i64 c, .int .i64 e] 68)) w.heap.size (a, b, c, e) :=
  ⟨by rw [cell_new]; rfl, by rw [cell_new]; rfl, by rw [cell_new]; rfl, by rw [cell_new]; rfl, frozen_new _ _ _ _, frozen_new _ _ _ _, frozen_new _ _ _ _, frozen_new _ _ _ _⟩

theorem BadAt.put0 {w : World} {p : Nat} {b : Bp} (h : BadAt w p b) (x : Int) : BadAt (w.setCell ⟨p, 0, none⟩ (.int .i64 x)) p (x, b.2) :=
  ⟨cell_setCell_same _ _ h.c0, by rw [cell_setCell_ne _ _ (by simp)]; exact h.c1, by rw [cell_setCell_ne _ _ (by simp)]; exact h.c2, by rw [cell_setCell_ne _ _ (by simp)]; exact h.c3,
   (frozen_setCell _ _ _ _).trans h.f0, (frozen_setCell _ _ _ _).trans h.f1, (frozen_setCell _ _ _ _).trans h.f2, (frozen_setCell _ _ _ _).trans h.f3⟩
theorem BadAt.put1 {w : World} {p : Nat} {b : Bp} (h : BadAt w p b) (x : Int) : BadAt (w.setCell ⟨p, 1, none⟩ (.int .i64 x)) p (b.1, x, b.2.2) :=
  ⟨by rw [cell_setCell_ne _ _ (by simp)]; exact h.c0, cell_setCell_same _ _ h.c1, by rw [cell_setCell_ne _ _ (by simp)]; exact h.c2, by rw [cell_setCell_ne _ _ (by simp)]; exact h.c3,
   (frozen_setCell _ _ _ _).trans h.f0, (frozen_setCell _ _ _ _).trans h.f1, (frozen_setCell _ _ _ _).trans h.f2, (frozen_setCell _ _ _ _).trans h.f3⟩
theorem BadAt.put3 {w : World} {p : Nat} {b : Bp} (h : BadAt w p b) (x : Int) : BadAt (w.setCell ⟨p, 3, none⟩ (.int .i64 x)) p (b.1, b.2.1, b.2.2.1, x) :=
  ⟨by rw [cell_setCell_ne _ _ (by simp)]; exact h.c0, by rw [cell_setCell_ne _ _ (by simp)]; exact h.c1, by rw [cell_setCell_ne _ _ (by simp)]; exact h.c2, cell_setCell_same _ _ h.c3,
   (frozen_setCell _ _ _ _).trans h.f0, (frozen_setCell _ _ _ _).trans h.f1, (frozen_setCell _ _ _ _).trans h.f2, (frozen_setCell _ _ _ _).trans h.f3⟩

/-- A bare number as an error. -/
def bareV (e : Int) : Value := if e = 0 then .nilIface else .iface 63 (.int .i64 e)
def badV (p : Nat) : Value := .iface 66 (.pointer (some ⟨p, 0, none⟩))

/-- An error that says b: none, a bare number, or a Bad in a block from B on. -/
inductive EV (w : World) (B : Nat) : Value → Bp → Prop where
  | no {b : Bp} (h : b.2.2.2 = 0) : EV w B .nilIface b
  | num {e : Int} (h : e ≠ 0) : EV w B (.iface 63 (.int .i64 e)) (0, 0, 0, e)
  | bad {b : Bp} {p : Nat} (h : b.2.2.2 ≠ 0) (hp : B ≤ p) (hb : BadAt w p b) : EV w B (badV p) b

theorem EV.bare (w : World) (B : Nat) (e : Int) : EV w B (bareV e) (0, 0, 0, e) := by
  unfold bareV
  by_cases h : e = 0
  · rw [if_pos h]
    exact .no h
  · rw [if_neg h]
    exact .num h

theorem EV.only {w w' : World} {S : List Nat} {B : Nat} {v : Value} {b : Bp} (h : EV w B v b) (ho : Only S w w') (hS : ∀ x ∈ S, x < B) : EV w' B v b := by
  cases h with
  | no h => exact .no h
  | num h => exact .num h
  | bad h hp hb => exact .bad h hp (hb.only ho fun hm => by have := hS _ hm; omega)

theorem EV.down {w : World} {B C : Nat} {v : Value} {b : Bp} (h : EV w B v b) (hC : C ≤ B) : EV w C v b := by
  cases h with
  | no h => exact .no h
  | num h => exact .num h
  | bad h hp hb => exact .bad h (by omega) hb

set_option maxHeartbeats 1000000 in
theorem placed_bad {w : World} (hg : Ety w) (p : Nat) :
    Calls Tryz.prog 56 #[badV p] w fun e w' => e = .returned (.pointer (some ⟨p, 0, none⟩)) ∧ Only [] w w' := by
  have o1 := (Only.refl [] w).alloc (.cells #[.pointer none] 66)
  have HA := hid (as_hit ⟨p, 0, none⟩ ⟨w.heap.size, 0, none⟩ (.pointer none) _ (hg.only0 o1) (by rw [cell_new]; rfl) (frozen_new _ _ _ _))
  unfold badV
  go_enter Tryz.func56, Tryz.ntmps56
  go_wp2_with fail
  refine HA.out.mono ?_
  rintro e w' ⟨rfl, w1, ho, rfl⟩
  have k1 : (w1.setCell ⟨w.heap.size, 0, none⟩ (.pointer (some ⟨p, 0, none⟩))).cell? ⟨w.heap.size, 0, none⟩ = some (.pointer (some ⟨p, 0, none⟩)) := cell_setCell_same _ _ ((ho.cell (p := ⟨w.heap.size, 0, none⟩) (by simp) (by simp)).trans (by rw [cell_new]; rfl))
  go_wp2_with fail
  go_ret
  exact ⟨rfl, (o1.next ho (by simp)).setCell (.inr (Nat.le_refl _)) _⟩

set_option maxHeartbeats 1000000 in
theorem placed_num {w : World} (hg : Ety w) (x : Int) :
    Calls Tryz.prog 56 #[.iface 63 (.int .i64 x)] w fun e w' => ∃ q, w.heap.size ≤ q ∧ e = .returned (.pointer (some ⟨q, 0, none⟩)) ∧ BadAt w' q (0, 0, 0, x) ∧ Only [] w w' := by
  have o1 := (Only.refl [] w).alloc (.cells #[.pointer none] 66)
  have HA := hid (as_miss x ⟨w.heap.size, 0, none⟩ _ (hg.only0 o1))
  go_enter Tryz.func56, Tryz.ntmps56
  go_wp2_with fail
  refine HA.out.mono ?_
  rintro e w1 ⟨rfl, ho1⟩
  have hlt : w.heap.size < w1.heap.size := Nat.lt_of_lt_of_le (by simp) ho1.size
  have c1 : w1.cell? ⟨w.heap.size, 0, none⟩ = some (.pointer none) := (ho1.cell (p := ⟨w.heap.size, 0, none⟩) (by simp) (by simp)).trans (by rw [cell_new]; rfl)
  have f1 : w1.frozen? ⟨w.heap.size, 0, none⟩ = false := (ho1.frozen (p := ⟨w.heap.size, 0, none⟩) (by simp) (by simp)).trans (frozen_new _ _ _ _)
  have hsz : (w1.setCell ⟨w.heap.size, 0, none⟩ (.pointer (some ⟨w1.heap.size, 0, none⟩))).heap.size = w1.heap.size := by simp [World.setCell]
  have o3 := ((o1.next ho1 (by simp)).setCell (p := ⟨w.heap.size, 0, none⟩) (.inr (Nat.le_refl _)) (.pointer (some ⟨w1.heap.size, 0, none⟩))).alloc (.cells #[.int .i64 0, .int .i64 0, .int .i64 0, .int .i64 0] 68)
  have k3 : ((w1.setCell ⟨w.heap.size, 0, none⟩ (.pointer (some ⟨w1.heap.size, 0, none⟩))).alloc (.cells #[.int .i64 0, .int .i64 0, .int .i64 0, .int .i64 0] 68)).cell? ⟨w.heap.size, 0, none⟩ = some (.pointer (some ⟨w1.heap.size, 0, none⟩)) := cell_alloc _ (cell_setCell_same _ _ c1)
  have B3 := bad_new (w1.setCell ⟨w.heap.size, 0, none⟩ (.pointer (some ⟨w1.heap.size, 0, none⟩))) 0 0 0 0
  rw [hsz] at B3
  replace hsz := hid hsz
  have HB := hid B3
  obtain ⟨b0, b1, b2, b3, g0, g1, g2, g3⟩ := B3
  have HN := hid (as_num x ⟨w1.heap.size, 3, none⟩ (.int .i64 0) _ (hg.only0 o3) b3 g3)
  go_wp2_with fail
  refine HN.out.mono ?_
  rintro e w4 ⟨rfl, w5, ho5, rfl⟩
  have k5 : (w5.setCell ⟨w1.heap.size, 3, none⟩ (.int .i64 x)).cell? ⟨w.heap.size, 0, none⟩ = some (.pointer (some ⟨w1.heap.size, 0, none⟩)) := by
    rw [cell_setCell_ne _ _ (by simp)]
    exact (ho5.cell (p := ⟨w.heap.size, 0, none⟩) (by have := hsz.out; simp at this ⊢; omega) (by simp)).trans k3
  go_wp2_with fail
  go_ret
  refine ⟨w1.heap.size, by omega, rfl, (HB.out.only ho5 (by simp)).put3 x, (o3.next ho5 (by simp)).setCell (.inr (by simp; omega)) _⟩

set_option maxHeartbeats 1000000 in
theorem inMember_any {w : World} (hg : Ety w) {B : Nat} (hB : B ≤ w.heap.size) {v : Value} {b : Bp} (h : EV w B v b) (he : b.2.2.2 ≠ 0) (i : Int) :
    Calls Tryz.prog 115 #[.int .i64 i, v] w fun e w' => ∃ p, B ≤ p ∧ e = .returned (badV p) ∧ BadAt w' p (b.1, i, b.2.2.1, b.2.2.2) ∧ Only [p] w w' ∧ p < w'.heap.size := by
  cases h with
  | no h => exact absurd h he
  | num h =>
    rename_i x
    have HP := hid (placed_num hg x)
    go_enter Tryz.func115, Tryz.ntmps115
    go_wp2_with (go_at_call 56; refine HP.out.mono ?_; rintro e w1 ⟨q, hq, rfl, hb, ho⟩; have HB := hid hb; obtain ⟨b0, b1, b2, b3, g0, g1, g2, g3⟩ := hb)
    go_ret
    exact ⟨q, by omega, rfl, HB.out.put1 i, (ho.mono (by simp)).setCell (.inl (by simp)) _, by simpa using HB.out.lt⟩
  | bad h hp hb =>
    rename_i p
    have HP := hid (placed_bad hg p)
    have HB := hid hb
    clear hb
    unfold badV at HP ⊢
    go_enter Tryz.func115, Tryz.ntmps115
    go_wp2_with (go_at_call 56; refine HP.out.mono ?_; rintro e w1 ⟨rfl, ho⟩; have HB1 := hid (HB.out.only ho (by simp)); obtain ⟨b0, b1, b2, b3, g0, g1, g2, g3⟩ := HB.out.only ho (by simp))
    go_ret
    exact ⟨p, hp, rfl, HB1.out.put1 i, (ho.mono (by simp)).setCell (.inl (by simp)) _, by simpa using HB1.out.lt⟩

set_option maxHeartbeats 1000000 in
theorem inClass_any {w : World} (hg : Ety w) {B : Nat} (hB : B ≤ w.heap.size) {v : Value} {b : Bp} (h : EV w B v b) (he : b.2.2.2 ≠ 0) (i : Int) :
    Calls Tryz.prog 21 #[.int .i64 i, v] w fun e w' => ∃ p, B ≤ p ∧ e = .returned (badV p) ∧ BadAt w' p (i, b.2) ∧ Only [p] w w' ∧ p < w'.heap.size := by
  cases h with
  | no h => exact absurd h he
  | num h =>
    rename_i x
    have HP := hid (placed_num hg x)
    go_enter Tryz.func21, Tryz.ntmps21
    go_wp2_with (go_at_call 56; refine HP.out.mono ?_; rintro e w1 ⟨q, hq, rfl, hb, ho⟩; have HB := hid hb; obtain ⟨b0, b1, b2, b3, g0, g1, g2, g3⟩ := hb)
    go_ret
    exact ⟨q, by omega, rfl, HB.out.put0 i, (ho.mono (by simp)).setCell (.inl (by simp)) _, by simpa using HB.out.lt⟩
  | bad h hp hb =>
    rename_i p
    have HP := hid (placed_bad hg p)
    have HB := hid hb
    clear hb
    unfold badV at HP ⊢
    go_enter Tryz.func21, Tryz.ntmps21
    go_wp2_with (go_at_call 56; refine HP.out.mono ?_; rintro e w1 ⟨rfl, ho⟩; have HB1 := hid (HB.out.only ho (by simp)); obtain ⟨b0, b1, b2, b3, g0, g1, g2, g3⟩ := HB.out.only ho (by simp))
    go_ret
    exact ⟨p, hp, rfl, HB1.out.put0 i, (ho.mono (by simp)).setCell (.inl (by simp)) _, by simpa using HB1.out.lt⟩

end Go.Proofs.YtildemmkhndhjaaGreatDoor
