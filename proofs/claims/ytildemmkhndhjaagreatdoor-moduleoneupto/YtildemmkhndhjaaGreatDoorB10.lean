/-
  What the proof leans on, part 10 of 28. The conditions stand in each theorem.
-/
import Derived.Test.YtildemmkhndhjaaGreatDoorB09
import Derived.Test.YtildemmkhndhjaaGreatDoorB03
import Derived.Test.YtildemmkhndhjaaGreatDoorB01
namespace Go.Proofs.YtildemmkhndhjaaGreatDoor
open Go.RowKit

/-- The ten cells of a method's block. -/
structure Me10 (w : World) (b : Nat) (v0 v1 v2 v3 v4 v5 v6 v7 v8 v9 : Value) : Prop where
 c0 : w.cell? ⟨b, 0, none⟩ = some v0
 c1 : w.cell? ⟨b, 1, none⟩ = some v1
 c2 : w.cell? ⟨b, 2, none⟩ = some v2
 c3 : w.cell? ⟨b, 3, none⟩ = some v3
 c4 : w.cell? ⟨b, 4, none⟩ = some v4
 c5 : w.cell? ⟨b, 5, none⟩ = some v5
 c6 : w.cell? ⟨b, 6, none⟩ = some v6
 c7 : w.cell? ⟨b, 7, none⟩ = some v7
 c8 : w.cell? ⟨b, 8, none⟩ = some v8
 c9 : w.cell? ⟨b, 9, none⟩ = some v9
 f0 : w.frozen? ⟨b, 0, none⟩ = false
 f1 : w.frozen? ⟨b, 1, none⟩ = false
 f2 : w.frozen? ⟨b, 2, none⟩ = false
 f3 : w.frozen? ⟨b, 3, none⟩ = false
 f4 : w.frozen? ⟨b, 4, none⟩ = false
 f5 : w.frozen? ⟨b, 5, none⟩ = false
 f6 : w.frozen? ⟨b, 6, none⟩ = false
 f7 : w.frozen? ⟨b, 7, none⟩ = false
 f8 : w.frozen? ⟨b, 8, none⟩ = false
 f9 : w.frozen? ⟨b, 9, none⟩ = false

theorem Me10.only {w w' : World} {S : List Nat} {b : Nat} {v0 v1 v2 v3 v4 v5 v6 v7 v8 v9 : Value} (h : Me10 w b v0 v1 v2 v3 v4 v5 v6 v7 v8 v9) (ho : Only S w w') (hb : b ∉ S) : Me10 w' b v0 v1 v2 v3 v4 v5 v6 v7 v8 v9 := by
 have hl := World.block_lt_of_cell? w _ h.c0
 exact ⟨(ho.cell (p := ⟨b, 0, none⟩) hl hb).trans h.c0, (ho.cell (p := ⟨b, 1, none⟩) hl hb).trans h.c1, (ho.cell (p := ⟨b, 2, none⟩) hl hb).trans h.c2, (ho.cell (p := ⟨b, 3, none⟩) hl hb).trans h.c3, (ho.cell (p := ⟨b, 4, none⟩) hl hb).trans h.c4, (ho.cell (p := ⟨b, 5, none⟩) hl hb).trans h.c5, (ho.cell (p := ⟨b, 6, none⟩) hl hb).trans h.c6, (ho.cell (p := ⟨b, 7, none⟩) hl hb).trans h.c7, (ho.cell (p := ⟨b, 8, none⟩) hl hb).trans h.c8, (ho.cell (p := ⟨b, 9, none⟩) hl hb).trans h.c9,
  (ho.frozen (p := ⟨b, 0, none⟩) hl hb).trans h.f0, (ho.frozen (p := ⟨b, 1, none⟩) hl hb).trans h.f1, (ho.frozen (p := ⟨b, 2, none⟩) hl hb).trans h.f2, (ho.frozen (p := ⟨b, 3, none⟩) hl hb).trans h.f3, (ho.frozen (p := ⟨b, 4, none⟩) hl hb).trans h.f4, (ho.frozen (p := ⟨b, 5, none⟩) hl hb).trans h.f5, (ho.frozen (p := ⟨b, 6, none⟩) hl hb).trans h.f6, (ho.frozen (p := ⟨b, 7, none⟩) hl hb).trans h.f7, (ho.frozen (p := ⟨b, 8, none⟩) hl hb).trans h.f8, (ho.frozen (p := ⟨b, 9, none⟩) hl hb).trans h.f9⟩

theorem me10_new (w : World) (v0 v1 v2 v3 v4 v5 v6 v7 v8 v9 : Value) (t : TypeId) : Me10 (w.alloc (.cells #[v0, v1, v2, v3, v4, v5, v6, v7, v8, v9] t)) w.heap.size v0 v1 v2 v3 v4 v5 v6 v7 v8 v9 :=
 ⟨by rw [cell_new]; rfl, by rw [cell_new]; rfl, by rw [cell_new]; rfl, by rw [cell_new]; rfl, by rw [cell_new]; rfl, by rw [cell_new]; rfl, by rw [cell_new]; rfl, by rw [cell_new]; rfl, by rw [cell_new]; rfl, by rw [cell_new]; rfl, frozen_new _ _ _ _, frozen_new _ _ _ _, frozen_new _ _ _ _, frozen_new _ _ _ _, frozen_new _ _ _ _, frozen_new _ _ _ _, frozen_new _ _ _ _, frozen_new _ _ _ _, frozen_new _ _ _ _, frozen_new _ _ _ _⟩

theorem Me10.put0 {w : World} {b : Nat} {v0 v1 v2 v3 v4 v5 v6 v7 v8 v9 : Value} (h : Me10 w b v0 v1 v2 v3 v4 v5 v6 v7 v8 v9) (u : Value) : Me10 (w.setCell ⟨b, 0, none⟩ u) b u v1 v2 v3 v4 v5 v6 v7 v8 v9 :=
 ⟨cell_setCell_same _ _ h.c0, (cell_setCell_ne _ _ (by simp)).trans h.c1, (cell_setCell_ne _ _ (by simp)).trans h.c2, (cell_setCell_ne _ _ (by simp)).trans h.c3, (cell_setCell_ne _ _ (by simp)).trans h.c4, (cell_setCell_ne _ _ (by simp)).trans h.c5, (cell_setCell_ne _ _ (by simp)).trans h.c6, (cell_setCell_ne _ _ (by simp)).trans h.c7, (cell_setCell_ne _ _ (by simp)).trans h.c8, (cell_setCell_ne _ _ (by simp)).trans h.c9, (frozen_setCell _ _ _ _).trans h.f0, (frozen_setCell _ _ _ _).trans h.f1, (frozen_setCell _ _ _ _).trans h.f2, (frozen_setCell _ _ _ _).trans h.f3, (frozen_setCell _ _ _ _).trans h.f4, (frozen_setCell _ _ _ _).trans h.f5, (frozen_setCell _ _ _ _).trans h.f6, (frozen_setCell _ _ _ _).trans h.f7, (frozen_setCell _ _ _ _).trans h.f8, (frozen_setCell _ _ _ _).trans h.f9⟩

theorem Me10.put1 {w : World} {b : Nat} {v0 v1 v2 v3 v4 v5 v6 v7 v8 v9 : Value} (h : Me10 w b v0 v1 v2 v3 v4 v5 v6 v7 v8 v9) (u : Value) : Me10 (w.setCell ⟨b, 1, none⟩ u) b v0 u v2 v3 v4 v5 v6 v7 v8 v9 :=
 ⟨(cell_setCell_ne _ _ (by simp)).trans h.c0, cell_setCell_same _ _ h.c1, (cell_setCell_ne _ _ (by simp)).trans h.c2, (cell_setCell_ne _ _ (by simp)).trans h.c3, (cell_setCell_ne _ _ (by simp)).trans h.c4, (cell_setCell_ne _ _ (by simp)).trans h.c5, (cell_setCell_ne _ _ (by simp)).trans h.c6, (cell_setCell_ne _ _ (by simp)).trans h.c7, (cell_setCell_ne _ _ (by simp)).trans h.c8, (cell_setCell_ne _ _ (by simp)).trans h.c9, (frozen_setCell _ _ _ _).trans h.f0, (frozen_setCell _ _ _ _).trans h.f1, (frozen_setCell _ _ _ _).trans h.f2, (frozen_setCell _ _ _ _).trans h.f3, (frozen_setCell _ _ _ _).trans h.f4, (frozen_setCell _ _ _ _).trans h.f5, (frozen_setCell _ _ _ _).trans h.f6, (frozen_setCell _ _ _ _).trans h.f7, (frozen_setCell _ _ _ _).trans h.f8, (frozen_setCell _ _ _ _).trans h.f9⟩

theorem Me10.put2 {w : World} {b : Nat} {v0 v1 v2 v3 v4 v5 v6 v7 v8 v9 : Value} (h : Me10 w b v0 v1 v2 v3 v4 v5 v6 v7 v8 v9) (u : Value) : Me10 (w.setCell ⟨b, 2, none⟩ u) b v0 v1 u v3 v4 v5 v6 v7 v8 v9 :=
 ⟨(cell_setCell_ne _ _ (by simp)).trans h.c0, (cell_setCell_ne _ _ (by simp)).trans h.c1, cell_setCell_same _ _ h.c2, (cell_setCell_ne _ _ (by simp)).trans h.c3, (cell_setCell_ne _ _ (by simp)).trans h.c4, (cell_setCell_ne _ _ (by simp)).trans h.c5, (cell_setCell_ne _ _ (by simp)).trans h.c6, (cell_setCell_ne _ _ (by simp)).trans h.c7, (cell_setCell_ne _ _ (by simp)).trans h.c8, (cell_setCell_ne _ _ (by simp)).trans h.c9, (frozen_setCell _ _ _ _).trans h.f0, (frozen_setCell _ _ _ _).trans h.f1, (frozen_setCell _ _ _ _).trans h.f2, (frozen_setCell _ _ _ _).trans h.f3, (frozen_setCell _ _ _ _).trans h.f4, (frozen_setCell _ _ _ _).trans h.f5, (frozen_setCell _ _ _ _).trans h.f6, (frozen_setCell _ _ _ _).trans h.f7, (frozen_setCell _ _ _ _).trans h.f8, (frozen_setCell _ _ _ _).trans h.f9⟩

theorem Me10.put3 {w : World} {b : Nat} {v0 v1 v2 v3 v4 v5 v6 v7 v8 v9 : Value} (h : Me10 w b v0 v1 v2 v3 v4 v5 v6 v7 v8 v9) (u : Value) : Me10 (w.setCell ⟨b, 3, none⟩ u) b v0 v1 v2 u v4 v5 v6 v7 v8 v9 :=
 ⟨(cell_setCell_ne _ _ (by simp)).trans h.c0, (cell_setCell_ne _ _ (by simp)).trans h.c1, (cell_setCell_ne _ _ (by simp)).trans h.c2, cell_setCell_same _ _ h.c3, (cell_setCell_ne _ _ (by simp)).trans h.c4, (cell_setCell_ne _ _ (by simp)).trans h.c5, (cell_setCell_ne _ _ (by simp)).trans h.c6, (cell_setCell_ne _ _ (by simp)).trans h.c7, (cell_setCell_ne _ _ (by simp)).trans h.c8, (cell_setCell_ne _ _ (by simp)).trans h.c9, (frozen_setCell _ _ _ _).trans h.f0, (frozen_setCell _ _ _ _).trans h.f1, (frozen_setCell _ _ _ _).trans h.f2, (frozen_setCell _ _ _ _).trans h.f3, (frozen_setCell _ _ _ _).trans h.f4, (frozen_setCell _ _ _ _).trans h.f5, (frozen_setCell _ _ _ _).trans h.f6, (frozen_setCell _ _ _ _).trans h.f7, (frozen_setCell _ _ _ _).trans h.f8, (frozen_setCell _ _ _ _).trans h.f9⟩

theorem Me10.put4 {w : World} {b : Nat} {v0 v1 v2 v3 v4 v5 v6 v7 v8 v9 : Value} (h : Me10 w b v0 v1 v2 v3 v4 v5 v6 v7 v8 v9) (u : Value) : Me10 (w.setCell ⟨b, 4, none⟩ u) b v0 v1 v2 v3 u v5 v6 v7 v8 v9 :=
 ⟨(cell_setCell_ne _ _ (by simp)).trans h.c0, (cell_setCell_ne _ _ (by simp)).trans h.c1, (cell_setCell_ne _ _ (by simp)).trans h.c2, (cell_setCell_ne _ _ (by simp)).trans h.c3, cell_setCell_same _ _ h.c4, (cell_setCell_ne _ _ (by simp)).trans h.c5, (cell_setCell_ne _ _ (by simp)).trans h.c6, (cell_setCell_ne _ _ (by simp)).trans h.c7, (cell_setCell_ne _ _ (by simp)).trans h.c8, (cell_setCell_ne _ _ (by simp)).trans h.c9, (frozen_setCell _ _ _ _).trans h.f0, (frozen_setCell _ _ _ _).trans h.f1, (frozen_setCell _ _ _ _).trans h.f2, (frozen_setCell _ _ _ _).trans h.f3, (frozen_setCell _ _ _ _).trans h.f4, (frozen_setCell _ _ _ _).trans h.f5, (frozen_setCell _ _ _ _).trans h.f6, (frozen_setCell _ _ _ _).trans h.f7, (frozen_setCell _ _ _ _).trans h.f8, (frozen_setCell _ _ _ _).trans h.f9⟩

theorem Me10.put5 {w : World} {b : Nat} {v0 v1 v2 v3 v4 v5 v6 v7 v8 v9 : Value} (h : Me10 w b v0 v1 v2 v3 v4 v5 v6 v7 v8 v9) (u : Value) : Me10 (w.setCell ⟨b, 5, none⟩ u) b v0 v1 v2 v3 v4 u v6 v7 v8 v9 :=
 ⟨(cell_setCell_ne _ _ (by simp)).trans h.c0, (cell_setCell_ne _ _ (by simp)).trans h.c1, (cell_setCell_ne _ _ (by simp)).trans h.c2, (cell_setCell_ne _ _ (by simp)).trans h.c3, (cell_setCell_ne _ _ (by simp)).trans h.c4, cell_setCell_same _ _ h.c5, (cell_setCell_ne _ _ (by simp)).trans h.c6, (cell_setCell_ne _ _ (by simp)).trans h.c7, (cell_setCell_ne _ _ (by simp)).trans h.c8, (cell_setCell_ne _ _ (by simp)).trans h.c9, (frozen_setCell _ _ _ _).trans h.f0, (frozen_setCell _ _ _ _).trans h.f1, (frozen_setCell _ _ _ _).trans h.f2, (frozen_setCell _ _ _ _).trans h.f3, (frozen_setCell _ _ _ _).trans h.f4, (frozen_setCell _ _ _ _).trans h.f5, (frozen_setCell _ _ _ _).trans h.f6, (frozen_setCell _ _ _ _).trans h.f7, (frozen_setCell _ _ _ _).trans h.f8, (frozen_setCell _ _ _ _).trans h.f9⟩

theorem Me10.put6 {w : World} {b : Nat} {v0 v1 v2 v3 v4 v5 v6 v7 v8 v9 : Value} (h : Me10 w b v0 v1 v2 v3 v4 v5 v6 v7 v8 v9) (u : Value) : Me10 (w.setCell ⟨b, 6, none⟩ u) b v0 v1 v2 v3 v4 v5 u v7 v8 v9 :=
 ⟨(cell_setCell_ne _ _ (by simp)).trans h.c0, (cell_setCell_ne _ _ (by simp)).trans h.c1, (cell_setCell_ne _ _ (by simp)).trans h.c2, (cell_setCell_ne _ _ (by simp)).trans h.c3, (cell_setCell_ne _ _ (by simp)).trans h.c4, (cell_setCell_ne _ _ (by simp)).trans h.c5, cell_setCell_same _ _ h.c6, (cell_setCell_ne _ _ (by simp)).trans h.c7, (cell_setCell_ne _ _ (by simp)).trans h.c8, (cell_setCell_ne _ _ (by simp)).trans h.c9, (frozen_setCell _ _ _ _).trans h.f0, (frozen_setCell _ _ _ _).trans h.f1, (frozen_setCell _ _ _ _).trans h.f2, (frozen_setCell _ _ _ _).trans h.f3, (frozen_setCell _ _ _ _).trans h.f4, (frozen_setCell _ _ _ _).trans h.f5, (frozen_setCell _ _ _ _).trans h.f6, (frozen_setCell _ _ _ _).trans h.f7, (frozen_setCell _ _ _ _).trans h.f8, (frozen_setCell _ _ _ _).trans h.f9⟩

theorem Me10.put7 {w : World} {b : Nat} {v0 v1 v2 v3 v4 v5 v6 v7 v8 v9 : Value} (h : Me10 w b v0 v1 v2 v3 v4 v5 v6 v7 v8 v9) (u : Value) : Me10 (w.setCell ⟨b, 7, none⟩ u) b v0 v1 v2 v3 v4 v5 v6 u v8 v9 :=
 ⟨(cell_setCell_ne _ _ (by simp)).trans h.c0, (cell_setCell_ne _ _ (by simp)).trans h.c1, (cell_setCell_ne _ _ (by simp)).trans h.c2, (cell_setCell_ne _ _ (by simp)).trans h.c3, (cell_setCell_ne _ _ (by simp)).trans h.c4, (cell_setCell_ne _ _ (by simp)).trans h.c5, (cell_setCell_ne _ _ (by simp)).trans h.c6, cell_setCell_same _ _ h.c7, (cell_setCell_ne _ _ (by simp)).trans h.c8, (cell_setCell_ne _ _ (by simp)).trans h.c9, (frozen_setCell _ _ _ _).trans h.f0, (frozen_setCell _ _ _ _).trans h.f1, (frozen_setCell _ _ _ _).trans h.f2, (frozen_setCell _ _ _ _).trans h.f3, (frozen_setCell _ _ _ _).trans h.f4, (frozen_setCell _ _ _ _).trans h.f5, (frozen_setCell _ _ _ _).trans h.f6, (frozen_setCell _ _ _ _).trans h.f7, (frozen_setCell _ _ _ _).trans h.f8, (frozen_setCell _ _ _ _).trans h.f9⟩

theorem Me10.put8 {w : World} {b : Nat} {v0 v1 v2 v3 v4 v5 v6 v7 v8 v9 : Value} (h : Me10 w b v0 v1 v2 v3 v4 v5 v6 v7 v8 v9) (u : Value) : Me10 (w.setCell ⟨b, 8, none⟩ u) b v0 v1 v2 v3 v4 v5 v6 v7 u v9 :=
 ⟨(cell_setCell_ne _ _ (by simp)).trans h.c0, (cell_setCell_ne _ _ (by simp)).trans h.c1, (cell_setCell_ne _ _ (by simp)).trans h.c2, (cell_setCell_ne _ _ (by simp)).trans h.c3, (cell_setCell_ne _ _ (by simp)).trans h.c4, (cell_setCell_ne _ _ (by simp)).trans h.c5, (cell_setCell_ne _ _ (by simp)).trans h.c6, (cell_setCell_ne _ _ (by simp)).trans h.c7, cell_setCell_same _ _ h.c8, (cell_setCell_ne _ _ (by simp)).trans h.c9, (frozen_setCell _ _ _ _).trans h.f0, (frozen_setCell _ _ _ _).trans h.f1, (frozen_setCell _ _ _ _).trans h.f2, (frozen_setCell _ _ _ _).trans h.f3, (frozen_setCell _ _ _ _).trans h.f4, (frozen_setCell _ _ _ _).trans h.f5, (frozen_setCell _ _ _ _).trans h.f6, (frozen_setCell _ _ _ _).trans h.f7, (frozen_setCell _ _ _ _).trans h.f8, (frozen_setCell _ _ _ _).trans h.f9⟩

theorem Me10.put9 {w : World} {b : Nat} {v0 v1 v2 v3 v4 v5 v6 v7 v8 v9 : Value} (h : Me10 w b v0 v1 v2 v3 v4 v5 v6 v7 v8 v9) (u : Value) : Me10 (w.setCell ⟨b, 9, none⟩ u) b v0 v1 v2 v3 v4 v5 v6 v7 v8 u :=
 ⟨(cell_setCell_ne _ _ (by simp)).trans h.c0, (cell_setCell_ne _ _ (by simp)).trans h.c1, (cell_setCell_ne _ _ (by simp)).trans h.c2, (cell_setCell_ne _ _ (by simp)).trans h.c3, (cell_setCell_ne _ _ (by simp)).trans h.c4, (cell_setCell_ne _ _ (by simp)).trans h.c5, (cell_setCell_ne _ _ (by simp)).trans h.c6, (cell_setCell_ne _ _ (by simp)).trans h.c7, (cell_setCell_ne _ _ (by simp)).trans h.c8, cell_setCell_same _ _ h.c9, (frozen_setCell _ _ _ _).trans h.f0, (frozen_setCell _ _ _ _).trans h.f1, (frozen_setCell _ _ _ _).trans h.f2, (frozen_setCell _ _ _ _).trans h.f3, (frozen_setCell _ _ _ _).trans h.f4, (frozen_setCell _ _ _ _).trans h.f5, (frozen_setCell _ _ _ _).trans h.f6, (frozen_setCell _ _ _ _).trans h.f7, (frozen_setCell _ _ _ _).trans h.f8, (frozen_setCell _ _ _ _).trans h.f9⟩

theorem Me10.put {w : World} {b : Nat} {v0 v1 v2 v3 v4 v5 v6 v7 v8 v9 : Value} (h : Me10 w b v0 v1 v2 v3 v4 v5 v6 v7 v8 v9) (u0 u1 u2 u3 u4 u5 u6 u7 u8 u9 : Value) : Me10 ((((((((((w.setCell ⟨b, 0, none⟩ u0).setCell ⟨b, 1, none⟩ u1).setCell ⟨b, 2, none⟩ u2).setCell ⟨b, 3, none⟩ u3).setCell ⟨b, 4, none⟩ u4).setCell ⟨b, 5, none⟩ u5).setCell ⟨b, 6, none⟩ u6).setCell ⟨b, 7, none⟩ u7).setCell ⟨b, 8, none⟩ u8).setCell ⟨b, 9, none⟩ u9) b u0 u1 u2 u3 u4 u5 u6 u7 u8 u9 ∧ Only [b] w ((((((((((w.setCell ⟨b, 0, none⟩ u0).setCell ⟨b, 1, none⟩ u1).setCell ⟨b, 2, none⟩ u2).setCell ⟨b, 3, none⟩ u3).setCell ⟨b, 4, none⟩ u4).setCell ⟨b, 5, none⟩ u5).setCell ⟨b, 6, none⟩ u6).setCell ⟨b, 7, none⟩ u7).setCell ⟨b, 8, none⟩ u8).setCell ⟨b, 9, none⟩ u9) :=
 ⟨((((((((((h.put0 _).put1 _).put2 _).put3 _).put4 _).put5 _).put6 _).put7 _).put8 _).put9 _), (((((((((((Only.refl [b] w).setCell (.inl (by simp)) _).setCell (.inl (by simp)) _).setCell (.inl (by simp)) _).setCell (.inl (by simp)) _).setCell (.inl (by simp)) _).setCell (.inl (by simp)) _).setCell (.inl (by simp)) _).setCell (.inl (by simp)) _).setCell (.inl (by simp)) _).setCell (.inl (by simp)) _)⟩

def bpV (b : Bp) : Value := .agg #[.int .i64 b.1, .int .i64 b.2.1, .int .i64 b.2.2.1, .int .i64 b.2.2.2]

/-- The four cells of a Bad's block. -/
structure B4 (w : World) (b : Nat) (v0 v1 v2 v3 : Value) : Prop where
 c0 : w.cell? ⟨b, 0, none⟩ = some v0
 c1 : w.cell? ⟨b, 1, none⟩ = some v1
 c2 : w.cell? ⟨b, 2, none⟩ = some v2
 c3 : w.cell? ⟨b, 3, none⟩ = some v3
 f0 : w.frozen? ⟨b, 0, none⟩ = false
 f1 : w.frozen? ⟨b, 1, none⟩ = false
 f2 : w.frozen? ⟨b, 2, none⟩ = false
 f3 : w.frozen? ⟨b, 3, none⟩ = false

theorem B4.only {w w' : World} {S : List Nat} {b : Nat} {v0 v1 v2 v3 : Value} (h : B4 w b v0 v1 v2 v3) (ho : Only S w w') (hb : b ∉ S) : B4 w' b v0 v1 v2 v3 := by
 have hl := World.block_lt_of_cell? w _ h.c0
 exact ⟨(ho.cell (p := ⟨b, 0, none⟩) hl hb).trans h.c0, (ho.cell (p := ⟨b, 1, none⟩) hl hb).trans h.c1, (ho.cell (p := ⟨b, 2, none⟩) hl hb).trans h.c2, (ho.cell (p := ⟨b, 3, none⟩) hl hb).trans h.c3, (ho.frozen (p := ⟨b, 0, none⟩) hl hb).trans h.f0, (ho.frozen (p := ⟨b, 1, none⟩) hl hb).trans h.f1, (ho.frozen (p := ⟨b, 2, none⟩) hl hb).trans h.f2, (ho.frozen (p := ⟨b, 3, none⟩) hl hb).trans h.f3⟩

theorem b4_new (w : World) (v0 v1 v2 v3 : Value) (t : TypeId) : B4 (w.alloc (.cells #[v0, v1, v2, v3] t)) w.heap.size v0 v1 v2 v3 :=
 ⟨by rw [cell_new]; rfl, by rw [cell_new]; rfl, by rw [cell_new]; rfl, by rw [cell_new]; rfl, frozen_new _ _ _ _, frozen_new _ _ _ _, frozen_new _ _ _ _, frozen_new _ _ _ _⟩

theorem B4.put0 {w : World} {b : Nat} {v0 v1 v2 v3 : Value} (h : B4 w b v0 v1 v2 v3) (u : Value) : B4 (w.setCell ⟨b, 0, none⟩ u) b u v1 v2 v3 :=
 ⟨cell_setCell_same _ _ h.c0, (cell_setCell_ne _ _ (by simp)).trans h.c1, (cell_setCell_ne _ _ (by simp)).trans h.c2, (cell_setCell_ne _ _ (by simp)).trans h.c3, (frozen_setCell _ _ _ _).trans h.f0, (frozen_setCell _ _ _ _).trans h.f1, (frozen_setCell _ _ _ _).trans h.f2, (frozen_setCell _ _ _ _).trans h.f3⟩

theorem B4.put1 {w : World} {b : Nat} {v0 v1 v2 v3 : Value} (h : B4 w b v0 v1 v2 v3) (u : Value) : B4 (w.setCell ⟨b, 1, none⟩ u) b v0 u v2 v3 :=
 ⟨(cell_setCell_ne _ _ (by simp)).trans h.c0, cell_setCell_same _ _ h.c1, (cell_setCell_ne _ _ (by simp)).trans h.c2, (cell_setCell_ne _ _ (by simp)).trans h.c3, (frozen_setCell _ _ _ _).trans h.f0, (frozen_setCell _ _ _ _).trans h.f1, (frozen_setCell _ _ _ _).trans h.f2, (frozen_setCell _ _ _ _).trans h.f3⟩

theorem B4.put2 {w : World} {b : Nat} {v0 v1 v2 v3 : Value} (h : B4 w b v0 v1 v2 v3) (u : Value) : B4 (w.setCell ⟨b, 2, none⟩ u) b v0 v1 u v3 :=
 ⟨(cell_setCell_ne _ _ (by simp)).trans h.c0, (cell_setCell_ne _ _ (by simp)).trans h.c1, cell_setCell_same _ _ h.c2, (cell_setCell_ne _ _ (by simp)).trans h.c3, (frozen_setCell _ _ _ _).trans h.f0, (frozen_setCell _ _ _ _).trans h.f1, (frozen_setCell _ _ _ _).trans h.f2, (frozen_setCell _ _ _ _).trans h.f3⟩

theorem B4.put3 {w : World} {b : Nat} {v0 v1 v2 v3 : Value} (h : B4 w b v0 v1 v2 v3) (u : Value) : B4 (w.setCell ⟨b, 3, none⟩ u) b v0 v1 v2 u :=
 ⟨(cell_setCell_ne _ _ (by simp)).trans h.c0, (cell_setCell_ne _ _ (by simp)).trans h.c1, (cell_setCell_ne _ _ (by simp)).trans h.c2, cell_setCell_same _ _ h.c3, (frozen_setCell _ _ _ _).trans h.f0, (frozen_setCell _ _ _ _).trans h.f1, (frozen_setCell _ _ _ _).trans h.f2, (frozen_setCell _ _ _ _).trans h.f3⟩

theorem B4.put {w : World} {b : Nat} {v0 v1 v2 v3 : Value} (h : B4 w b v0 v1 v2 v3) (u0 u1 u2 u3 : Value) : B4 ((((w.setCell ⟨b, 0, none⟩ u0).setCell ⟨b, 1, none⟩ u1).setCell ⟨b, 2, none⟩ u2).setCell ⟨b, 3, none⟩ u3) b u0 u1 u2 u3 ∧ Only [b] w ((((w.setCell ⟨b, 0, none⟩ u0).setCell ⟨b, 1, none⟩ u1).setCell ⟨b, 2, none⟩ u2).setCell ⟨b, 3, none⟩ u3) :=
 ⟨((((h.put0 _).put1 _).put2 _).put3 _), (((((Only.refl [b] w).setCell (.inl (by simp)) _).setCell (.inl (by simp)) _).setCell (.inl (by simp)) _).setCell (.inl (by simp)) _)⟩

theorem BS.of_rs {w : World} {ao : Option Addr} {l : List UInt8} {d : Nat} (h : RS w ao (bcs l) d) : BS w ao l d := by
 rcases h with h | ⟨off, ha, hc⟩
 ·left
  cases l with
  | nil => rfl
  | cons t l => simp [bcs] at h
 ·exact .inr ⟨off, ha, fun j hj => hc j _ (bcs_get l j hj)⟩

/-- Of the old blocks only some from B on have turned, none of L. -/
def Lo (L : List Nat) (B : Nat) (w w' : World) : Prop := ∃ S, Only S w w' ∧ ∀ x, x ∈ S → B ≤ x ∧ x ∉ L

theorem Lo.of0 {L : List Nat} {B : Nat} {w w' : World} (h : Only [] w w') : Lo L B w w' := ⟨[], h, by simp⟩

theorem Lo.trans {L : List Nat} {B : Nat} {a b c : World} (h : Lo L B a b) (k : Lo L B b c) : Lo L B a c := by
 obtain ⟨S, h1, h2⟩ := h
 obtain ⟨T, k1, k2⟩ := k
 refine ⟨S ++ T, (h1.mono (fun x hx => .inl (List.mem_append_left _ hx))).trans k1 (fun x hx => .inl (List.mem_append_right _ hx)), fun x hx => ?_⟩
 rcases List.mem_append.1 hx with hx | hx
 ·exact h2 x hx
 ·exact k2 x hx

theorem Lo.sub {L L' : List Nat} {B : Nat} {w w' : World} (h : Lo L B w w') (hs : ∀ x, x ∈ L' → x ∈ L) : Lo L' B w w' := by
 obtain ⟨S, h1, h2⟩ := h
 exact ⟨S, h1, fun x hx => ⟨(h2 x hx).1, fun hl => (h2 x hx).2 (hs x hl)⟩⟩

theorem Lo.tail {L : List Nat} {b B : Nat} {w w' : World} (h : Lo (b :: L) B w w') : Lo L B w w' := h.sub fun _ hx => List.mem_cons_of_mem _ hx

theorem Lo.only {L : List Nat} {B : Nat} {w0 w w' : World} (h : Lo L B w w') (h0 : Only [] w0 w) (hB : w0.heap.size ≤ B) : Only [] w0 w' := by
 obtain ⟨S, h1, h2⟩ := h
 exact h0.next h1 fun x hx => Nat.le_trans hB (h2 x hx).1

theorem Cl6.lo {L : List Nat} {B : Nat} {w w' : World} {b : Nat} {v0 v1 v2 v3 v4 v5 : Value} (h : Cl6 w b v0 v1 v2 v3 v4 v5) (k : Lo L B w w') (hb : b ∈ L) : Cl6 w' b v0 v1 v2 v3 v4 v5 := by
 obtain ⟨S, h1, h2⟩ := k
 exact h.only h1 fun hx => (h2 b hx).2 hb

theorem Me10.lo {L : List Nat} {B : Nat} {w w' : World} {b : Nat} {v0 v1 v2 v3 v4 v5 v6 v7 v8 v9 : Value} (h : Me10 w b v0 v1 v2 v3 v4 v5 v6 v7 v8 v9) (k : Lo L B w w') (hb : b ∈ L) : Me10 w' b v0 v1 v2 v3 v4 v5 v6 v7 v8 v9 := by
 obtain ⟨S, h1, h2⟩ := k
 exact h.only h1 fun hx => (h2 b hx).2 hb

theorem Mo2.lo {L : List Nat} {B : Nat} {w w' : World} {b : Nat} {v0 v1 : Value} (h : Mo2 w b v0 v1) (k : Lo L B w w') (hb : b ∈ L) : Mo2 w' b v0 v1 := by
 obtain ⟨S, h1, h2⟩ := k
 exact h.only h1 fun hx => (h2 b hx).2 hb

theorem B4.lo {L : List Nat} {B : Nat} {w w' : World} {b : Nat} {v0 v1 v2 v3 : Value} (h : B4 w b v0 v1 v2 v3) (k : Lo L B w w') (hb : b ∈ L) : B4 w' b v0 v1 v2 v3 := by
 obtain ⟨S, h1, h2⟩ := k
 exact h.only h1 fun hx => (h2 b hx).2 hb

theorem SlV.lo {L : List Nat} {B : Nat} {w w' : World} {v : Value} {n : Nat} {cs : List Value} (h : SlV w (· < B) v n cs) (k : Lo L B w w') : SlV w' (· < B) v n cs := by
 obtain ⟨S, h1, h2⟩ := k
 exact h.only h1 fun d hd hx => by have := (h2 d hx).1; omega

/-- The second writer, at block y: at most K bytes; the blocks of L are not its own. -/
def XS (w : World) (B y K : Nat) (L : List Nat) : Prop := ∃ g s, XWE w B y g s ∧ s.1.length ≤ K ∧ y ∉ L ∧ g ∉ L ∧ ∀ b, b ∈ L → b < w.heap.size

theorem XS.mono {w : World} {B y K K' : Nat} {L : List Nat} (h : XS w B y K L) (hK : K ≤ K') : XS w B y K' L := by
 obtain ⟨g, s, h1, h2, h3⟩ := h
 exact ⟨g, s, h1, Nat.le_trans h2 hK, h3⟩

theorem XS.only0 {w w' : World} {B y K : Nat} {L : List Nat} (h : XS w B y K L) (ho : Only [] w w') : XS w' B y K L := by
 obtain ⟨g, s, h1, h2, h3, h4, h5⟩ := h
 exact ⟨g, s, h1.only ho (by simp) (by simp), h2, h3, h4, fun b hb => Nat.lt_of_lt_of_le (h5 b hb) ho.size⟩

theorem XS.alloc {w : World} {B y K : Nat} {L : List Nat} (h : XS w B y K L) (o : Obj) : XS (w.alloc o) B y K (w.heap.size :: L) := by
 obtain ⟨g, s, h1, h2, h3, h4, h5⟩ := h
 have hl := h1.lt
 refine ⟨g, s, h1.only ((Only.refl [] w).alloc o) (by simp) (by simp), h2, ?_, ?_, fun b hb => ?_⟩
 ·simp only [List.mem_cons, not_or]
  exact ⟨by omega, h3⟩
 ·simp only [List.mem_cons, not_or]
  exact ⟨by omega, h4⟩
 ·rw [World.size_alloc]
  rcases List.mem_cons.1 hb with rfl | hb
  ·omega
  ·have := h5 b hb
   omega

theorem XS.sub {w : World} {B y K : Nat} {L L' : List Nat} (h : XS w B y K L) (hs : ∀ x, x ∈ L' → x ∈ L) : XS w B y K L' := by
 obtain ⟨g, s, h1, h2, h3, h4, h5⟩ := h
 exact ⟨g, s, h1, h2, fun hl => h3 (hs _ hl), fun hl => h4 (hs _ hl), fun b hb => h5 b (hs b hb)⟩

theorem XS.tail {w : World} {B y K b : Nat} {L : List Nat} (h : XS w B y K (b :: L)) : XS w B y K L := h.sub fun _ hx => List.mem_cons_of_mem _ hx

theorem xs_of {w w' : World} {B y g K' : Nat} {L : List Nat} {s s' : List UInt8 × Int} (hx : XWE w B y g s) (hy : y ∉ L) (hg : g ∉ L) (hb : ∀ b, b ∈ L → b < w.heap.size) (ht : XTo w B y g w' s') (hK : s'.1.length ≤ K') : XS w' B y K' L ∧ Lo L B w w' := by
 have hl := hx.lt
 obtain ⟨g', h1, h2, h3⟩ := ht
 refine ⟨⟨g', s', h1, hK, hy, ?_, fun b h => Nat.lt_of_lt_of_le (hb b h) h3.size⟩, [y, g], h3, fun x hx => ?_⟩
 ·rcases h2 with rfl | h2
  ·exact hg
  ·intro h
   have := hb _ h
   omega
 ·rcases List.mem_cons.1 hx with rfl | hx
  ·exact ⟨by omega, hy⟩
  ·obtain rfl := List.mem_singleton.1 hx
   exact ⟨by omega, hg⟩

/-- What a call of the writer did: so many bytes more at most. -/
def XP (w : World) (B y K : Nat) (L : List Nat) (e : Ending) (w' : World) : Prop := e = .returned (.tuple #[]) ∧ XS w' B y K L ∧ Lo L B w w'

theorem xs_u1 {w : World} {B y K : Nat} {L : List Nat} (h : XS w B y K L) (v : Int) (hK : K + 1 ≤ 211106232532992) :
  Calls Tryz.prog 90 #[.pointer (some ⟨y, 0, none⟩), .int .i64 v] w (XP w B y (K + 1) L) := by
 obtain ⟨g, s, h1, h2, h3, h4, h5⟩ := h
 refine (xwu1_any h1 v (by omega)).mono ?_
 rintro e w' ⟨rfl, ht⟩
 have := wOne_len 1 s v
 exact ⟨rfl, xs_of h1 h3 h4 h5 ht (by omega)⟩

theorem xs_u2 {w : World} {B y K : Nat} {L : List Nat} (h : XS w B y K L) (v : Int) (hK : K + 2 ≤ 211106232532992) :
  Calls Tryz.prog 88 #[.pointer (some ⟨y, 0, none⟩), .int .i64 v] w (XP w B y (K + 2) L) := by
 obtain ⟨g, s, h1, h2, h3, h4, h5⟩ := h
 refine (xwu2_any h1 v (by omega)).mono ?_
 rintro e w' ⟨rfl, ht⟩
 have := wOne_len 2 s v
 exact ⟨rfl, xs_of h1 h3 h4 h5 ht (by omega)⟩

theorem xs_n8 {w : World} {B y K : Nat} {L : List Nat} (h : XS w B y K L) (v : Int) (hK : K + 8 ≤ 211106232532992) :
  Calls Tryz.prog 147 #[.pointer (some ⟨y, 0, none⟩), .int .i64 v] w (XP w B y (K + 8) L) := by
 obtain ⟨g, s, h1, h2, h3, h4, h5⟩ := h
 refine (xn8w_any h1 v (by omega)).mono ?_
 rintro e w' ⟨rfl, ht⟩
 have := wN8_len s [v]
 simp only [List.length_singleton] at this
 exact ⟨rfl, xs_of h1 h3 h4 h5 ht (by omega)⟩

theorem xs_text {w : World} {B y K : Nat} {L : List Nat} (h : XS w B y K L) (l : List UInt8) (hl : l.length ≤ 9223372036854775807) (hK : K + 256 ≤ 211106232532992) :
  Calls Tryz.prog 91 #[.pointer (some ⟨y, 0, none⟩), .string (str l)] w (XP w B y (K + 256) L) := by
 obtain ⟨g, s, h1, h2, h3, h4, h5⟩ := h
 refine (xtextw_any h1 (str l) (by rw [str_size]; exact hl) (by omega)).mono ?_
 rintro e w' ⟨rfl, ht⟩
 have := wTx1_len s (str l)
 exact ⟨rfl, xs_of h1 h3 h4 h5 ht (by omega)⟩

theorem xs_bytes {w : World} {B y K : Nat} {L : List Nat} (h : XS w B y K L) {ao : Option Addr} {l : List UInt8} {d cap : Nat} (hB : RS w ao (bcs l) d) (hn : ao = none → cap = 0) (hK : K + l.length ≤ 211106232532992) :
  Calls Tryz.prog 87 #[.pointer (some ⟨y, 0, none⟩), .slice ao l.length cap] w (XP w B y (K + l.length) L) := by
 obtain ⟨g, s, h1, h2, h3, h4, h5⟩ := h
 refine (xbytesw_any h1 (BS.of_rs hB) hn (by omega)).mono ?_
 rintro e w' ⟨rfl, ht⟩
 have := wPut_len s l
 exact ⟨rfl, xs_of h1 h3 h4 h5 ht (by omega)⟩

theorem neq_hd (a b : Hd) (w : World) : (binOp .neq 46 (hdV a) (hdV b)).run Tryz.prog w = .ok (.bool (!decide (a = b))) w := by
 obtain ⟨k, t, n, x⟩ := a
 obtain ⟨k', t', n', x'⟩ := b
 have hS : Tryz.prog.underlying 46 = some (.struct (Tryz.prog.fieldsOf 46)) := by kernel_rfl
 have hp : Tryz.prog.stoodInHeld 46 = false := by kernel_rfl
 simp only [hdV]
 rw [run_neq_struct, show (10000 : Nat) = 9999 + 1 from rfl, run_equalIn_agg w 9999 46 _ _ hS hp]
 simp only [Program.fieldsOf, Tryz.underlying46]
 go_simp
 simp only [str_toList]
 by_cases h1 : k = k' <;> by_cases h2 : t = t' <;> by_cases h3 : n = n' <;> by_cases h4 : x = x' <;> simp [h1, h2, h3, h4]

theorem equalIn_type (m : Nat) (d d' : Int) (n n' : List UInt8) (w : World) : (Op.equalIn (m + 2) 35 (.agg #[.int .i64 d, .string (str n)]) (.agg #[.int .i64 d', .string (str n')])).run Tryz.prog w = .ok (decide (((d, n) : Ty) = (d', n'))) w := by
 have hS : Tryz.prog.underlying 35 = some (.struct (Tryz.prog.fieldsOf 35)) := by kernel_rfl
 have hp : Tryz.prog.stoodInHeld 35 = false := by kernel_rfl
 rw [run_equalIn_agg w (m + 1) 35 _ _ hS hp]
 simp only [Program.fieldsOf, Tryz.underlying35]
 go_simp
 simp only [str_toList]
 by_cases h1 : d = d' <;> by_cases h2 : n = n' <;> simp [h1, h2]

theorem equalIn_fd (m : Nat) (a b : Fd) (w : World) : (Op.equalIn (m + 3) 44 (fdV a) (fdV b)).run Tryz.prog w = .ok (decide (a = b)) w := by
 obtain ⟨k, t, n, x⟩ := a
 obtain ⟨k', t', n', x'⟩ := b
 have hS : Tryz.prog.underlying 44 = some (.struct (Tryz.prog.fieldsOf 44)) := by kernel_rfl
 have hp : Tryz.prog.stoodInHeld 44 = false := by kernel_rfl
 have hT := equalIn_type m n n' x x'
 simp only [fdV]
 rw [run_equalIn_agg w (m + 2) 44 _ _ hS hp]
 simp only [Program.fieldsOf, Tryz.underlying44]
 go_simp
 simp only [str_toList]
 by_cases h1 : k = k' <;> by_cases h2 : t = t' <;> by_cases h3 : n = n' <;> by_cases h4 : x = x' <;> simp [h1, h2, h3, h4]

theorem neq_fd (a b : Fd) (w : World) : (binOp .neq 44 (fdV a) (fdV b)).run Tryz.prog w = .ok (.bool (!decide (a = b))) w := by
 have h := equalIn_fd 9997 a b w
 unfold fdV at h ⊢
 rw [run_neq_struct, h]
 rfl

/-- Bytes as a text. -/
theorem RS.conv {w : World} {ao : Option Addr} {bs : List UInt8} {d : Nat} (h : RS w ao (bcs bs) d) (cap : Nat) : (convert 38 9 (.slice ao bs.length cap)).run Tryz.prog w = .ok (.string (str bs)) w := by
 cases ao with
 | none =>
  have h0 := h.none_nil
  have : bs = [] := by simpa [bcs] using h0
  subst this
  simp [convert, run_underlying Tryz.underlying38, run_underlying Tryz.underlying9, go_sem, str, Conv.bytesToString]
  rfl
 | some a =>
  exact run_convert_bytes_back w 38 9 5 a cap bs Tryz.underlying38 Tryz.underlying5 Tryz.underlying9 (fun j hj => h.cells j _ (bcs_get bs j hj))

set_option maxHeartbeats 400000 in
set_option maxRecDepth 100000 in
theorem rsame_any {w : World} {ao bo : Option Addr} {l m : List Ty} {d k cap bap : Nat} (hT : TS w ao l d) (hM : TS w bo m k) (hl : l.length ≤ 9223372036854775807) (v u : Bool) (s t : Ty) :
    Calls Tryz.prog 145 #[sigV (.slice ao l.length cap) v s, sigV (.slice bo m.length bap) u t] w fun e w' => e = .returned (.bool (sameR (l, v, s) (m, u, t))) ∧ Only [] w w' := by
  have hq := neq_type s t
  have hst : ∃ b, b = decide (s = t) := ⟨_, rfl⟩
  obtain ⟨b, hb⟩ := hst
  rw [← hb] at hq
  replace hb := hid hb
  obtain ⟨d0, n0⟩ := s
  obtain ⟨d1, n1⟩ := t
  simp only [tyV] at hq
  simp only [sigV]
  have o1 := ((Only.refl [] w).alloc (.cells #[.slice ao l.length cap, .bool v, .int .i64 d0, .string (str n0)] 37)).alloc (.cells #[.slice bo m.length bap, .bool u, .int .i64 d1, .string (str n1)] 37)
  have hfin : Hid (sameR (l, v, (d0, n0)) (m, u, (d1, n1)) = (decide (v = u) && (b && decide (l = m)))) := by
    rw [hb.out]
    unfold Hid sameR
    by_cases h1 : l = m <;> by_cases h2 : v = u <;> by_cases h3 : ((d0, n0) : Ty) = (d1, n1) <;> simp [h1, h2, h3]
  have hno : (v = u ∧ b = true ∧ l.length = m.length) ∨ ¬ (v = u ∧ b = true ∧ l.length = m.length) := Classical.em _
  rcases hno with ⟨rfl, rfl, hlm⟩ | hno
  · have SA := hid ((sig_new w (.slice ao l.length cap) v d0 n0).only ((Only.refl [] _).alloc (.cells #[.slice bo m.length bap, .bool v, .int .i64 d1, .string (str n1)] 37)) (by simp))
    have SB := sig_new (w.alloc (.cells #[.slice ao l.length cap, .bool v, .int .i64 d0, .string (str n0)] 37)) (.slice bo m.length bap) v d1 n1
    rw [World.size_alloc] at SB
    rw [← hlm] at SB o1 SA ⊢
    replace SB := hid SB
    replace hlm := hid hlm
    simp only [Bool.not_true] at hq
    go_enter Tryz.func145, Tryz.ntmps145
    go_wp2
    go_loopw [5] (fun i wr => ∃ j : Nat, j ≤ l.length ∧ i = .int .i64 (j : Int) ∧ l.take j = m.take j ∧ SigAt wr w.heap.size (.slice ao l.length cap) v (d0, n0) ∧ SigAt wr (w.heap.size + 1) (.slice bo l.length bap) v (d1, n1) ∧ Only [] w wr) (fun i _ => l.length - (intOf i).toNat)
    case atStart => exact ⟨0, by omega, rfl, by simp, SA.out, SB.out, o1⟩
    case round =>
      obtain ⟨j, hj, rfl, hpre, hSA, hSB, hor⟩ := hrel
      clear SA SB o1
      replace hSA := hid hSA
      replace hSB := hid hSB
      obtain ⟨a0, a1, a2, a3, _, _, _, _⟩ := hSA.out
      obtain ⟨e0, e1, e2, e3, _, _, _, _⟩ := hSB.out
      by_cases hlt : j < l.length
      · have g2 : ((j : Int) < (l.length : Int)) := by omega
        have hne : l ≠ [] := by intro e; simp [e] at hlt
        have hlt2 : j < m.length := by rw [← hlm.out]; exact hlt
        have hne2 : m ≠ [] := by intro e; simp [e] at hlt2
        rcases hT.only hor (by simp) with h | ⟨off, rfl, hc⟩
        · exact absurd h hne
        rcases hM.only hor (by simp) with h | ⟨off2, rfl, hc2⟩
        · exact absurd h hne2
        obtain ⟨y0, y1⟩ := hc j hlt
        obtain ⟨z0, z1⟩ := hc2 j hlt2
        clear hc hc2 hT hM
        have hnx : l[j] = m[j] → l.take (j + 1) = m.take (j + 1) := by
          intro e
          rw [List.take_succ_eq_append_getElem hlt, List.take_succ_eq_append_getElem hlt2, hpre, e]
        have hno : l[j] ≠ m[j] → l ≠ m := by
          intro e1 e2
          apply e1
          simp [e2]
        have hqt := neq_type l[j] m[j]
        generalize l[j] = s at *
        generalize m[j] = t at *
        obtain ⟨sd, sn⟩ := s
        obtain ⟨td, tn⟩ := t
        simp only [tyV] at hqt
        clear hpre hne hne2 hlt2 hq
        by_cases hs : (sd, sn) = (td, tn)
        · have hnx := hid (hnx hs)
          simp only [hs, decide_true, Bool.not_true] at hqt
          clear hs hno
          go_wp2_with fail
          go_region
          go_wp2
          exact ⟨⟨j + 1, by omega, by go_num, hnx.out, hSA.out.only (Only.refl [] _).drew (by simp), hSB.out.only (Only.refl [] _).drew (by simp), hor.drew⟩, by simp [intOf]; omega⟩
        · have e1 : Hid (decide (l = m) = false) := by simp [Hid, hno hs]
          simp only [hs, decide_false, Bool.not_false] at hqt
          clear hs hno hnx
          go_wp2_with fail
          go_region
          go_wp2
          go_ret
          exact ⟨by rw [hfin.out, e1.out]; simp, hor.drew⟩
      · have g2 : ¬ ((j : Int) < (l.length : Int)) := by omega
        obtain rfl : j = l.length := by omega
        have e1 : Hid (decide (l = m) = true) := by
          rw [List.take_of_length_le (Nat.le_refl _), List.take_of_length_le (by rw [hlm.out]; exact Nat.le_refl _)] at hpre
          simp [Hid, hpre]
        clear hpre
        go_wp2
        go_ret
        exact ⟨by rw [hfin.out, e1.out]; simp, hor⟩
  · have e0 : Hid (sameR (l, v, (d0, n0)) (m, u, (d1, n1)) = false) := by
      unfold Hid
      rw [hfin.out]
      by_cases h1 : v = u
      · by_cases h2 : b = true
        · have h3 : l ≠ m := fun e => hno ⟨h1, h2, by rw [e]⟩
          simp [h3]
        · simp [h2]
      · simp [h1]
    rw [e0.out]
    by_cases h1 : v = u
    · subst h1
      by_cases h2 : b = true
      · subst h2
        have h3 : ¬ ((l.length : Int) = (m.length : Int)) := fun e => hno ⟨rfl, rfl, by omega⟩
        have g3 : ((l.length : Int) == (m.length : Int)) = false := by simpa using h3
        simp only [Bool.not_true] at hq
        clear hno h3
        go_enter Tryz.func145, Tryz.ntmps145
        go_wp2
        go_ret
        exact ⟨rfl, o1⟩
      · have h3 : b = false := by simpa using h2
        subst h3
        simp only [Bool.not_false] at hq
        clear hno h2
        go_enter Tryz.func145, Tryz.ntmps145
        go_wp2
        go_ret
        exact ⟨rfl, o1⟩
    · have h3 : (v == u) = false := by simpa using h1
      clear hno
      cases v <;> cases u
      all_goals first
        | exact absurd rfl h1
        | (clear h1 h3
           go_enter Tryz.func145, Tryz.ntmps145
           go_wp2
           go_ret
           exact ⟨rfl, o1⟩)

end Go.Proofs.YtildemmkhndhjaaGreatDoor
namespace Go.Proofs.YtildemmkhndhjaaGreatDoor
open Go.RowKit Go.Extern.Stop Go.Stop Go.Extern

theorem typeOfE (v : Value) (w : World) : (ReflectliteType.typeOf #[.iface 63 v]).run Tryz.prog w = .ok (.iface 172 (.agg #[.pointer (some ⟨5, 63, none⟩)])) w := by kernel_rfl
theorem assignEP (w : World) : (ReflectliteType.relation "AssignableTo" ReflectliteType.assignableTo #[.agg #[.pointer (some ⟨5, 63, none⟩)], .iface 172 (.agg #[.pointer (some ⟨5, 66, none⟩)])]).run Tryz.prog w = .ok (.bool false) w := by kernel_rfl
theorem assignEE (w : World) : (ReflectliteType.relation "AssignableTo" ReflectliteType.assignableTo #[.agg #[.pointer (some ⟨5, 63, none⟩)], .iface 172 (.agg #[.pointer (some ⟨5, 63, none⟩)])]).run Tryz.prog w = .ok (.bool true) w := by kernel_rfl
theorem compE (w : World) : ((ReflectliteType.method fun t => do Rtype.noPackHeld "Comparable" t; (fun a => Value.bool a.comparable) <$> typeInfo t) #[.agg #[.pointer (some ⟨5, 63, none⟩)]]).run Tryz.prog w = .ok (.bool true) w := by kernel_rfl
theorem assE_As (v : Value) (w : World) : (Instr.typeAssert (.iface 63 v) 48 208 true).run Tryz.prog w = .ok (.tuple #[.nilIface, .bool false]) w := run_typeAssert_lacksB Tryz.underlying208 (by kernel_rfl) (by kernel_rfl) v _ w
theorem assE_U1 (v : Value) (w : World) : (Instr.typeAssert (.iface 63 v) 48 177 true).run Tryz.prog w = .ok (.tuple #[.nilIface, .bool false]) w := run_typeAssert_lacksB Tryz.underlying177 (by kernel_rfl) (by kernel_rfl) v _ w
theorem assE_U2 (v : Value) (w : World) : (Instr.typeAssert (.iface 63 v) 48 178 true).run Tryz.prog w = .ok (.tuple #[.nilIface, .bool false]) w := run_typeAssert_lacksB Tryz.underlying178 (by kernel_rfl) (by kernel_rfl) v _ w
theorem assB_Is (v : Value) (w : World) : (Instr.typeAssert (.iface 66 v) 48 174 true).run Tryz.prog w = .ok (.tuple #[.nilIface, .bool false]) w := run_typeAssert_lacksB Tryz.underlying174 (by kernel_rfl) (by kernel_rfl) v _ w
theorem assB_U1 (v : Value) (w : World) : (Instr.typeAssert (.iface 66 v) 48 177 true).run Tryz.prog w = .ok (.tuple #[.iface 66 v, .bool true]) w := run_typeAssert_hasB Tryz.underlying177 (by kernel_rfl) v _ w
theorem mUnwrap (v : Value) (w : World) : (Go.method 464 66 v "Unwrap").run Tryz.prog w = .ok (255, v) w := by kernel_rfl
set_option maxHeartbeats 4000000 in
/-- errors.As of a bare number at a variable of *Bad: false. -/
theorem as_miss (e : Int) (t : Addr) (w : World) (hg : Ety w) :
  Calls Tryz.prog 28 #[.iface 63 (.int .i64 e), .iface 81 (.pointer (some t))] w fun ev w' => ev = .returned (.bool false) ∧ Only [] w w' := by
 have hlt := hg.lt
 unfold Ety at hg
 have y_x66 := @run_callFunc_extern Tryz.prog 65 _ (fun args => ReflectliteValue.unpack (args.getD 0 (.tuple #[]))) Tryz.func65 (by kernel_rfl) (by kernel_rfl) (by kernel_rfl) (by kernel_rfl)
 have y_x67 := @run_callFunc_extern Tryz.prog 66 _ (ReflectliteValue.methodAny (ReflectliteValue.valueError "reflectlite.Value.Type" 0) (fun t _ _ _ => ReflectliteType.toType t)) Tryz.func66 (by kernel_rfl) (by kernel_rfl) (by kernel_rfl) (by kernel_rfl)
 have y_x68 := @run_callFunc_extern Tryz.prog 67 _ (ReflectliteValue.method (ReflectliteValue.valueError "reflectlite.Value.IsNil" 0) ReflectliteValue.isNil) Tryz.func67 (by kernel_rfl) (by kernel_rfl) (by kernel_rfl) (by kernel_rfl)
 have y_xKind := @run_callFunc_extern Tryz.prog 251 _ (ReflectliteType.abiMethod fun t => do pure (.int .u8 (← Rtype.kind t))) Tryz.func251 (by kernel_rfl) (by kernel_rfl) (by kernel_rfl) (by kernel_rfl)
 have y_xElem := @run_callFunc_extern Tryz.prog 276 _ (ReflectliteType.method ReflectliteType.elem) Tryz.func276 (by kernel_rfl) (by kernel_rfl) (by kernel_rfl) (by kernel_rfl)
 have y_xImpl := @run_callFunc_extern Tryz.prog 277 _ (ReflectliteType.relation "Implements" ReflectliteType.implements_) Tryz.func277 (by kernel_rfl) (by kernel_rfl) (by kernel_rfl) (by kernel_rfl)
 have y_xTypeOf := @run_callFunc_extern Tryz.prog 43 _ ReflectliteType.typeOf Tryz.func43 (by kernel_rfl) (by kernel_rfl) (by kernel_rfl) (by kernel_rfl)
 have y_xAssign := @run_callFunc_extern Tryz.prog 274 _ (ReflectliteType.relation "AssignableTo" ReflectliteType.assignableTo) Tryz.func274 (by kernel_rfl) (by kernel_rfl) (by kernel_rfl) (by kernel_rfl)
 have y_xVElem := @run_callFunc_extern Tryz.prog 133 _ (ReflectliteValue.method (ReflectliteValue.valueError "reflectlite.Value.Elem" 0) ReflectliteValue.elem) Tryz.func133 (by kernel_rfl) (by kernel_rfl) (by kernel_rfl) (by kernel_rfl)
 have y_xSet := @run_callFunc_extern Tryz.prog 134 _ ReflectliteValue.set Tryz.func134 (by kernel_rfl) (by kernel_rfl) (by kernel_rfl) (by kernel_rfl)
 have tO := typeOfE
 have mA := mAssign
 have a25 := assignEP
 have f6 := valueOfPP
 have f7 := typePP
 have mK := mKind
 have mE := mElem
 have mI := mImpl
 have k27 := kindPP
 have k25 := kindP
 have e27 := elemPP
 have i25 := implP
 have q1 := assE_As
 have q2 := assE_U1
 have q3 := assE_U2
 have n8 := isNilPP ⟨w.heap.size, 0, none⟩ t ((w.alloc (.cells #[.pointer (some t)] 81)).alloc (.cells #[.pointer (some ⟨5, 81, none⟩), .pointer (some ⟨w.heap.size, 0, none⟩), .int .u64 150] 131)) (by simp)
 have hg2 : ((w.alloc (.cells #[.pointer (some t)] 81)).alloc (.cells #[.pointer (some ⟨5, 81, none⟩), .pointer (some ⟨w.heap.size, 0, none⟩), .int .u64 150] 131)).cell? ⟨0, 0, none⟩ = some (.iface 172 (.agg #[.pointer (some ⟨5, 48, none⟩)])) := by
  rw [World.cell?_alloc_lt _ _ ⟨0, 0, none⟩ (by simp), World.cell?_alloc_lt _ _ ⟨0, 0, none⟩ hlt]; exact hg
 go_enter Tryz.func28, Tryz.ntmps28
 go_wp2
 refine wp_loop_rounds 1 ?_
 rw [rounds_succ]
 go_wp2
 go_ret
 exact ⟨rfl, (((Only.refl [] w).alloc _).alloc _).alloc _⟩

theorem valueOfPE (t : Addr) (w : World) : (ReflectliteValue.unpack (.iface 198 (.pointer (some t)))).run Tryz.prog w
  = .ok (.agg #[.pointer (some ⟨5, 198, none⟩), .pointer (some ⟨w.heap.size, 0, none⟩), .int .u64 150]) (w.alloc (.cells #[.pointer (some t)] 198)) := by kernel_rfl
theorem typePE (a : Addr) (w : World) : (ReflectliteValue.methodAny (ReflectliteValue.valueError "reflectlite.Value.Type" 0) (fun t _ _ _ => ReflectliteType.toType t) #[.agg #[.pointer (some ⟨5, 198, none⟩), .pointer (some a), .int .u64 150]]).run Tryz.prog w
  = .ok (.iface 172 (.agg #[.pointer (some ⟨5, 198, none⟩)])) w := by kernel_rfl
theorem kindPE (w : World) : ((ReflectliteType.abiMethod fun t => (fun a : Nat => Value.int IntKind.u8 (a : Int)) <$> Rtype.kind t) #[.pointer (some ⟨5, 198, none⟩)]).run Tryz.prog w = .ok (.int .u8 22) w := by kernel_rfl
theorem kindE (w : World) : ((ReflectliteType.abiMethod fun t => (fun a : Nat => Value.int IntKind.u8 (a : Int)) <$> Rtype.kind t) #[.pointer (some ⟨5, 63, none⟩)]).run Tryz.prog w = .ok (.int .u8 2) w := by kernel_rfl
theorem partsPE (a : Addr) (w : World) : (ReflectliteValue.parts (.agg #[.pointer (some ⟨5, 198, none⟩), .pointer (some a), .int .u64 150])).run Tryz.prog w = .ok (some (198, a, 150)) w := by kernel_rfl
theorem isNilPE (a p : Addr) (W : World) (ha : W.cell? a = some (.pointer (some p))) :
  (ReflectliteValue.method (ReflectliteValue.valueError "reflectlite.Value.IsNil" 0) ReflectliteValue.isNil #[.agg #[.pointer (some ⟨5, 198, none⟩), .pointer (some a), .int .u64 150]]).run Tryz.prog W = .ok (.bool false) W := by
 rw [rlm]
 simp only [Sem.run_bind, partsPE, Result.andThen]
 simp [ReflectliteValue.isNil, loadVar, isAgg, underlying, Tryz.underlying198, ha, Result.andThen]
theorem elemPE (w : World) : (ReflectliteType.method ReflectliteType.elem #[.agg #[.pointer (some ⟨5, 198, none⟩)]]).run Tryz.prog w = .ok (.iface 172 (.agg #[.pointer (some ⟨5, 63, none⟩)])) w := by kernel_rfl
theorem implE (w : World) : (ReflectliteType.relation "Implements" ReflectliteType.implements_ #[.agg #[.pointer (some ⟨5, 63, none⟩)], .iface 172 (.agg #[.pointer (some ⟨5, 48, none⟩)])]).run Tryz.prog w = .ok (.bool true) w := by kernel_rfl
theorem valueOfE (e : Int) (w : World) : (ReflectliteValue.unpack (.iface 63 (.int .i64 e))).run Tryz.prog w
  = .ok (.agg #[.pointer (some ⟨5, 63, none⟩), .pointer (some ⟨w.heap.size, 0, none⟩), .int .u64 130]) (w.alloc (.cells #[.int .i64 e] 63)) := by kernel_rfl
theorem elemOfPE (w : World) : (Rtype.elem? 198).run Tryz.prog w = .ok (some 63) w := by kernel_rfl
theorem mkE (p : Addr) (w : World) : (ReflectliteValue.mk 63 p ReflectliteValue.flagAddr).run Tryz.prog w = .ok (.agg #[.pointer (some ⟨5, 63, none⟩), .pointer (some p), .int .u64 386]) w := by kernel_rfl
theorem elemVPE (a p : Addr) (W : World) (ha : W.cell? a = some (.pointer (some p))) :
  (ReflectliteValue.method (ReflectliteValue.valueError "reflectlite.Value.Elem" 0) ReflectliteValue.elem #[.agg #[.pointer (some ⟨5, 198, none⟩), .pointer (some a), .int .u64 150]]).run Tryz.prog W
   = .ok (.agg #[.pointer (some ⟨5, 63, none⟩), .pointer (some p), .int .u64 386]) W := by
 rw [rlm]
 simp only [Sem.run_bind, partsPE, Result.andThen]
 simp [ReflectliteValue.elem, loadVar, isAgg, underlying, Tryz.underlying198, ha, Result.andThen, elemOfPE, mkE]
theorem partsEa (a : Addr) (w : World) : (ReflectliteValue.parts (.agg #[.pointer (some ⟨5, 63, none⟩), .pointer (some a), .int .u64 386])).run Tryz.prog w = .ok (some (63, a, 386)) w := by kernel_rfl
theorem partsE (a : Addr) (w : World) : (ReflectliteValue.parts (.agg #[.pointer (some ⟨5, 63, none⟩), .pointer (some a), .int .u64 130])).run Tryz.prog w = .ok (some (63, a, 130)) w := by kernel_rfl
theorem directE (w : World) : (Rtype.directlyAssignable 63 63).run Tryz.prog w = .ok true w := by kernel_rfl
theorem setE (ta b : Addr) (e : Int) (old : Value) (W : World) (hb : W.cell? b = some (.int .i64 e)) (ht : W.cell? ta = some old) (hf : W.frozen? ta = false) :
  (ReflectliteValue.set #[.agg #[.pointer (some ⟨5, 63, none⟩), .pointer (some ta), .int .u64 386], .agg #[.pointer (some ⟨5, 63, none⟩), .pointer (some b), .int .u64 130]]).run Tryz.prog W
   = .ok (.tuple #[]) (W.setCell ta (.int .i64 e)) := by
 rw [rls]
 simp only [Sem.run_bind, partsEa, partsE, Result.andThen]
 simp [ReflectliteValue.flagAddr, loadVar, isAgg, underlying, Tryz.underlying63, hb, Result.andThen, directE, storeVar, Value.cells, storeCells, Addr.add]
 rw [run_store Tryz.prog W ta _ _ (by rfl)]
 simp [ht, hf]

set_option maxHeartbeats 4000000 in
/-- errors.As of a bare number at a variable of its type. -/
theorem as_num (e : Int) (t : Addr) (old : Value) (w : World) (hg : Ety w) (ht0 : w.cell? t = some old) (hf0 : w.frozen? t = false) :
  Calls Tryz.prog 28 #[.iface 63 (.int .i64 e), .iface 198 (.pointer (some t))] w fun ev w' => ev = .returned (.bool true) ∧ ∃ w1, Only [] w w1 ∧ w' = w1.setCell t (.int .i64 e) := by
 have hlt := hg.lt
 unfold Ety at hg
 have y_x66 := @run_callFunc_extern Tryz.prog 65 _ (fun args => ReflectliteValue.unpack (args.getD 0 (.tuple #[]))) Tryz.func65 (by kernel_rfl) (by kernel_rfl) (by kernel_rfl) (by kernel_rfl)
 have y_x67 := @run_callFunc_extern Tryz.prog 66 _ (ReflectliteValue.methodAny (ReflectliteValue.valueError "reflectlite.Value.Type" 0) (fun t _ _ _ => ReflectliteType.toType t)) Tryz.func66 (by kernel_rfl) (by kernel_rfl) (by kernel_rfl) (by kernel_rfl)
 have y_x68 := @run_callFunc_extern Tryz.prog 67 _ (ReflectliteValue.method (ReflectliteValue.valueError "reflectlite.Value.IsNil" 0) ReflectliteValue.isNil) Tryz.func67 (by kernel_rfl) (by kernel_rfl) (by kernel_rfl) (by kernel_rfl)
 have y_xKind := @run_callFunc_extern Tryz.prog 251 _ (ReflectliteType.abiMethod fun t => do pure (.int .u8 (← Rtype.kind t))) Tryz.func251 (by kernel_rfl) (by kernel_rfl) (by kernel_rfl) (by kernel_rfl)
 have y_xElem := @run_callFunc_extern Tryz.prog 276 _ (ReflectliteType.method ReflectliteType.elem) Tryz.func276 (by kernel_rfl) (by kernel_rfl) (by kernel_rfl) (by kernel_rfl)
 have y_xImpl := @run_callFunc_extern Tryz.prog 277 _ (ReflectliteType.relation "Implements" ReflectliteType.implements_) Tryz.func277 (by kernel_rfl) (by kernel_rfl) (by kernel_rfl) (by kernel_rfl)
 have y_xTypeOf := @run_callFunc_extern Tryz.prog 43 _ ReflectliteType.typeOf Tryz.func43 (by kernel_rfl) (by kernel_rfl) (by kernel_rfl) (by kernel_rfl)
 have y_xAssign := @run_callFunc_extern Tryz.prog 274 _ (ReflectliteType.relation "AssignableTo" ReflectliteType.assignableTo) Tryz.func274 (by kernel_rfl) (by kernel_rfl) (by kernel_rfl) (by kernel_rfl)
 have y_xVElem := @run_callFunc_extern Tryz.prog 133 _ (ReflectliteValue.method (ReflectliteValue.valueError "reflectlite.Value.Elem" 0) ReflectliteValue.elem) Tryz.func133 (by kernel_rfl) (by kernel_rfl) (by kernel_rfl) (by kernel_rfl)
 have y_xSet := @run_callFunc_extern Tryz.prog 134 _ ReflectliteValue.set Tryz.func134 (by kernel_rfl) (by kernel_rfl) (by kernel_rfl) (by kernel_rfl)
 have tO := typeOfE
 have mA := mAssign
 have a25 := assignEE
 have v25 := valueOfE
 have f6 := valueOfPE
 have f7 := typePE
 have mK := mKind
 have mE := mElem
 have mI := mImpl
 have k27 := kindPE
 have k25 := kindE
 have e27 := elemPE
 have i25 := implE
 have n8 := isNilPE ⟨w.heap.size, 0, none⟩ t ((w.alloc (.cells #[.pointer (some t)] 198)).alloc (.cells #[.pointer (some ⟨5, 198, none⟩), .pointer (some ⟨w.heap.size, 0, none⟩), .int .u64 150] 131)) (by simp)
 have hg2 : ((w.alloc (.cells #[.pointer (some t)] 198)).alloc (.cells #[.pointer (some ⟨5, 198, none⟩), .pointer (some ⟨w.heap.size, 0, none⟩), .int .u64 150] 131)).cell? ⟨0, 0, none⟩ = some (.iface 172 (.agg #[.pointer (some ⟨5, 48, none⟩)])) := by
  rw [World.cell?_alloc_lt _ _ ⟨0, 0, none⟩ (by simp), World.cell?_alloc_lt _ _ ⟨0, 0, none⟩ hlt]; exact hg
 have htl : t.block < w.heap.size := World.block_lt_of_cell? w t ht0
 have el := elemVPE ⟨w.heap.size, 0, none⟩ t (((w.alloc (.cells #[.pointer (some t)] 198)).alloc (.cells #[.pointer (some ⟨5, 198, none⟩), .pointer (some ⟨w.heap.size, 0, none⟩), .int .u64 150] 131)).alloc (.cells #[.pointer (some ⟨5, 198, none⟩), .pointer (some ⟨w.heap.size, 0, none⟩), .int .u64 150] 131)) (by rw [World.cell?_alloc_lt _ _ ⟨w.heap.size, 0, none⟩ (by simp; omega)]; simp)
 have st := setE t ⟨w.heap.size + 1 + 1 + 1, 0, none⟩ e old ((((w.alloc (.cells #[.pointer (some t)] 198)).alloc (.cells #[.pointer (some ⟨5, 198, none⟩), .pointer (some ⟨w.heap.size, 0, none⟩), .int .u64 150] 131)).alloc (.cells #[.pointer (some ⟨5, 198, none⟩), .pointer (some ⟨w.heap.size, 0, none⟩), .int .u64 150] 131)).alloc (.cells #[.int .i64 e] 63))
  (by rw [World.cell?_alloc_at _ _ _ _ (by simp)]; rfl)
  (by rw [World.cell?_alloc_lt _ _ t (by simp; omega), World.cell?_alloc_lt _ _ t (by simp; omega), World.cell?_alloc_lt _ _ t (by simp; omega), World.cell?_alloc_lt _ _ t htl]; exact ht0)
  (by rw [World.frozen?_alloc_old _ _ t (by simp; omega), World.frozen?_alloc_old _ _ t (by simp; omega), World.frozen?_alloc_old _ _ t (by simp; omega), World.frozen?_alloc_old _ _ t (Nat.ne_of_lt htl)]; exact hf0)
 go_enter Tryz.func28, Tryz.ntmps28
 go_wp2
 refine wp_loop_rounds 1 ?_
 rw [rounds_succ]
 go_wp2
 go_ret
 exact ⟨rfl, _, ((((Only.refl [] w).alloc _).alloc _).alloc _).alloc _, rfl⟩

set_option maxHeartbeats 4000000 in
/-- errors.Is of a *Bad and the number that it wraps. -/
theorem is_hit (p : Nat) (e : Int) (w : World) (h : w.cell? ⟨p, 3, none⟩ = some (.int .i64 e)) :
  Calls Tryz.prog 18 #[.iface 66 (.pointer (some ⟨p, 0, none⟩)), .iface 63 (.int .i64 e)] w fun ev w' => ev = .returned (.bool true) ∧ Only [] w w' := by
 have h10 := @run_callFunc_extern Tryz.prog 43 _ ReflectliteType.typeOf Tryz.func43 (by kernel_rfl) (by kernel_rfl) (by kernel_rfl) (by kernel_rfl)
 have hC := @run_callFunc_extern Tryz.prog 275 _ (ReflectliteType.method fun t => do Rtype.noPackHeld "Comparable" t; pure (.bool (← typeInfo t).comparable)) Tryz.func275 (by kernel_rfl) (by kernel_rfl) (by kernel_rfl) (by kernel_rfl)
 have tO := typeOfE
 have mC := mComp
 have cE := compE
 have b1 := eql_bad_errno
 have b2 := eql_errno
 have b3 := assB_Is
 have b4 := assB_U1
 have b5 := mUnwrap
 go_enter Tryz.func18, Tryz.ntmps18
 go_wp2
 refine wp_loop_rounds 2 ?_
 rw [rounds_succ]
 go_wp2
 rw [rounds_succ]
 go_wp2
 go_ret
 exact ⟨rfl, Only.refl _ _⟩

end Go.Proofs.YtildemmkhndhjaaGreatDoor
