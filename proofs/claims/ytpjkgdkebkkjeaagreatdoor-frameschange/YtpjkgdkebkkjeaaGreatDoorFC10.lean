/-
  The contract of the second program's Swap. A row has at most a million places.
-/
import Derived.Test.YtpjkgdkebkkjeaaGreatDoorFC9
import Derived.Deep.RegionHeld3
import Derived.Deep.MidRow
namespace Go.Proofs.YtpjkgdkebkkjeaaGreatDoor
open Go.RowKit

/-- Boxes of a frame, of what is put for what, and the place of the answer. -/
structure SwB (w W : World) (s a b : Vt) (vl vs : Value) : Prop where
  fr : FrB W w.heap.size s vl vs
  fa : VtAt W (w.heap.size + 1) 0 a
  fb : VtAt W (w.heap.size + 2) 0 b
  fz : FrB W (w.heap.size + 3) (0, 0, [], 0) (.slice none 0 0) (.slice none 0 0)
  only : Only [] w W
  size : w.heap.size + 4 ≤ W.heap.size
theorem SwB.zero {w W W' : World} {s a b : Vt} {vl vs : Value} (h : SwB w W s a b vl vs) (ho : Only [] W W') : SwB w W' s a b vl vs :=
  ⟨h.fr.only ho (by simp), h.fa.only ho (by simp), h.fb.only ho (by simp), h.fz.only ho (by simp), h.only.trans ho (by simp), Nat.le_trans h.size ho.size⟩
theorem swB_new (w : World) (s a b : Vt) (vl vs : Value) : SwB w ((((w.alloc (.cells #[.int .i64 s.1, .int .i64 s.2.1, .string (str s.2.2.1), .int .i64 s.2.2.2, vl, vs] 28)).alloc (.cells #[.int .i64 a.1, .int .i64 a.2.1, .string (str a.2.2.1), .int .i64 a.2.2.2] 25)).alloc (.cells #[.int .i64 b.1, .int .i64 b.2.1, .string (str b.2.2.1), .int .i64 b.2.2.2] 25)).alloc (.cells #[.int .i64 0, .int .i64 0, .string ⟨#[]⟩, .int .i64 0, .slice none 0 0, .slice none 0 0] 28)) s a b vl vs := by
  refine ⟨(frB_new w s _ _ _).only ((((Only.refl [] _).alloc _).alloc _).alloc _) (by simp), ?_, ?_, ?_, ((((Only.refl [] w).alloc _).alloc _).alloc _).alloc _, by simp⟩
  · refine VtAt.only (w := (w.alloc (.cells #[.int .i64 s.1, .int .i64 s.2.1, .string (str s.2.2.1), .int .i64 s.2.2.2, vl, vs] 28)).alloc (.cells #[.int .i64 a.1, .int .i64 a.2.1, .string (str a.2.2.1), .int .i64 a.2.2.2] 25)) ?_ (((Only.refl [] _).alloc _).alloc _) (by simp)
    rw [show w.heap.size + 1 = (w.alloc (.cells #[.int .i64 s.1, .int .i64 s.2.1, .string (str s.2.2.1), .int .i64 s.2.2.2, vl, vs] 28)).heap.size by simp]
    exact ⟨by rw [cell_new]; rfl, by rw [cell_new]; rfl, by rw [cell_new]; rfl, by rw [cell_new]; rfl⟩
  · refine VtAt.only (w := ((w.alloc (.cells #[.int .i64 s.1, .int .i64 s.2.1, .string (str s.2.2.1), .int .i64 s.2.2.2, vl, vs] 28)).alloc (.cells #[.int .i64 a.1, .int .i64 a.2.1, .string (str a.2.2.1), .int .i64 a.2.2.2] 25)).alloc (.cells #[.int .i64 b.1, .int .i64 b.2.1, .string (str b.2.2.1), .int .i64 b.2.2.2] 25)) ?_ ((Only.refl [] _).alloc _) (by simp)
    rw [show w.heap.size + 2 = ((w.alloc (.cells #[.int .i64 s.1, .int .i64 s.2.1, .string (str s.2.2.1), .int .i64 s.2.2.2, vl, vs] 28)).alloc (.cells #[.int .i64 a.1, .int .i64 a.2.1, .string (str a.2.2.1), .int .i64 a.2.2.2] 25)).heap.size by simp]
    exact ⟨by rw [cell_new]; rfl, by rw [cell_new]; rfl, by rw [cell_new]; rfl, by rw [cell_new]; rfl⟩
  · rw [show w.heap.size + 3 = (((w.alloc (.cells #[.int .i64 s.1, .int .i64 s.2.1, .string (str s.2.2.1), .int .i64 s.2.2.2, vl, vs] 28)).alloc (.cells #[.int .i64 a.1, .int .i64 a.2.1, .string (str a.2.2.1), .int .i64 a.2.2.2] 25)).alloc (.cells #[.int .i64 b.1, .int .i64 b.2.1, .string (str b.2.2.1), .int .i64 b.2.2.2] 25)).heap.size by simp]
    exact frB_new _ (0, 0, [], 0) _ _ _

/-- Behind the making of the new frame: where it lies. -/
structure SwC (w W : World) (s a b : Vt) (vl vs : Value) (ll ls : List Vt) (g : Nat) (v1 v2 : Value) : Prop where
  base : SwB w W s a b vl vs
  fr : FrB W g s v1 v2
  r1 : OwV W (w.heap.size + 4) v1 (ll.map (swV a b))
  r2 : OwV W (w.heap.size + 4) v2 (ls.map (swV a b))
  ge : w.heap.size + 4 ≤ g
  n1 : v1.ownBlock ≠ some g
  n2 : v2.ownBlock ≠ some g

theorem SwB.only1 {w W W' : World} {s a b : Vt} {vl vs : Value} {g : Nat} (h : SwB w W s a b vl vs) (ho : Only [g] W W') (hg : w.heap.size + 4 ≤ g) : SwB w W' s a b vl vs :=
  ⟨h.fr.only ho (by simp; omega), h.fa.only ho (by simp; omega), h.fb.only ho (by simp; omega), h.fz.only ho (by simp; omega), h.only.next ho (fun x hx => by simp at hx; omega), Nat.le_trans h.size ho.size⟩
theorem swC_put {w w2 : World} {s a b z : Vt} {vl vs x y v1 v2 : Value} {ll ls : List Vt} {g : Nat} (K : SwB w w2 s a b vl vs) (hz : FrB w2 g z x y) (r1 : OwV w2 (w.heap.size + 4) v1 (ll.map (swV a b))) (r2 : OwV w2 (w.heap.size + 4) v2 (ls.map (swV a b))) (ge : w.heap.size + 4 ≤ g) (n1 : v1.ownBlock ≠ some g) (n2 : v2.ownBlock ≠ some g) :
    SwC w ((((((w2.setCell ⟨g, 0, none⟩ (.int .i64 s.1)).setCell ⟨g, 1, none⟩ (.int .i64 s.2.1)).setCell ⟨g, 2, none⟩ (.string (str s.2.2.1))).setCell ⟨g, 3, none⟩ (.int .i64 s.2.2.2)).setCell ⟨g, 4, none⟩ v1).setCell ⟨g, 5, none⟩ v2) s a b vl vs ll ls g v1 v2 := by
  obtain ⟨T, oT⟩ := hz.put s v1 v2
  exact ⟨K.only1 oT ge, T, rows_only r1 oT fun k hk hm => n1 (by simp at hm; rw [← hm]; exact hk), rows_only r2 oT fun k hk hm => n2 (by simp at hm; rw [← hm]; exact hk), ge, n1, n2⟩
theorem swC_new {w w2 : World} {s a b : Vt} {vl vs v1 v2 : Value} {ll ls : List Vt} (K : SwB w w2 s a b vl vs) (r1 : OwV w2 (w.heap.size + 4) v1 (ll.map (swV a b))) (r2 : OwV w2 (w.heap.size + 4) v2 (ls.map (swV a b))) :
    SwC w (w2.alloc (.cells #[.int .i64 s.1, .int .i64 s.2.1, .string (str s.2.2.1), .int .i64 s.2.2.2, v1, v2] 28)) s a b vl vs ll ls w2.heap.size v1 v2 := by
  have ho := (Only.refl [] w2).alloc (.cells #[.int .i64 s.1, .int .i64 s.2.1, .string (str s.2.2.1), .int .i64 s.2.2.2, v1, v2] 28)
  exact ⟨K.zero ho, frB_new _ _ _ _ _, rows_only r1 ho (by simp), rows_only r2 ho (by simp), K.size, fun h => by have := (own_block r1 h).2; omega, fun h => by have := (own_block r2 h).2; omega⟩

theorem keep1s {w w' : World} {a : Addr} {v : Value} (h : w.cell? a = some v) (ho : Only [] w w') : w'.cell? a = some v := by
  rw [ho.cell (World.block_lt_of_cell? _ _ h) (by simp)]
  exact h
theorem keepW {w0 w w' : World} {a0 a1 a2 a3 a4 a5 a6 a7 a8 a9 a10 a11 a12 a13 : Addr} {v0 v1 v2 v3 v4 v5 v6 v7 v8 v9 v10 v11 v12 v13 : Value} (h : w.cell? a0 = some v0 ∧ w.cell? a1 = some v1 ∧ w.cell? a2 = some v2 ∧ w.cell? a3 = some v3 ∧ w.cell? a4 = some v4 ∧ w.cell? a5 = some v5 ∧ w.cell? a6 = some v6 ∧ w.cell? a7 = some v7 ∧ w.cell? a8 = some v8 ∧ w.cell? a9 = some v9 ∧ w.cell? a10 = some v10 ∧ w.cell? a11 = some v11 ∧ w.cell? a12 = some v12 ∧ w.cell? a13 = some v13 ∧ Only [] w0 w) (ho : Only [] w w') : w'.cell? a0 = some v0 ∧ w'.cell? a1 = some v1 ∧ w'.cell? a2 = some v2 ∧ w'.cell? a3 = some v3 ∧ w'.cell? a4 = some v4 ∧ w'.cell? a5 = some v5 ∧ w'.cell? a6 = some v6 ∧ w'.cell? a7 = some v7 ∧ w'.cell? a8 = some v8 ∧ w'.cell? a9 = some v9 ∧ w'.cell? a10 = some v10 ∧ w'.cell? a11 = some v11 ∧ w'.cell? a12 = some v12 ∧ w'.cell? a13 = some v13 ∧ Only [] w0 w' :=
  ⟨keep1s h.1 ho, keep1s h.2.1 ho, keep1s h.2.2.1 ho, keep1s h.2.2.2.1 ho, keep1s h.2.2.2.2.1 ho, keep1s h.2.2.2.2.2.1 ho, keep1s h.2.2.2.2.2.2.1 ho, keep1s h.2.2.2.2.2.2.2.1 ho, keep1s h.2.2.2.2.2.2.2.2.1 ho, keep1s h.2.2.2.2.2.2.2.2.2.1 ho, keep1s h.2.2.2.2.2.2.2.2.2.2.1 ho, keep1s h.2.2.2.2.2.2.2.2.2.2.2.1 ho, keep1s h.2.2.2.2.2.2.2.2.2.2.2.2.1 ho, keep1s h.2.2.2.2.2.2.2.2.2.2.2.2.2.1 ho, h.2.2.2.2.2.2.2.2.2.2.2.2.2.2.trans ho (by simp)⟩

theorem sLast {w0 w : World} {a0 a1 a2 a3 a4 a5 a6 a7 a8 a9 a10 a11 a12 a13 : Addr} {v0 v1 v2 v3 v4 v5 v6 v7 v8 v9 v10 v11 v12 v13 : Value} (h : w.cell? a0 = some v0 ∧ w.cell? a1 = some v1 ∧ w.cell? a2 = some v2 ∧ w.cell? a3 = some v3 ∧ w.cell? a4 = some v4 ∧ w.cell? a5 = some v5 ∧ w.cell? a6 = some v6 ∧ w.cell? a7 = some v7 ∧ w.cell? a8 = some v8 ∧ w.cell? a9 = some v9 ∧ w.cell? a10 = some v10 ∧ w.cell? a11 = some v11 ∧ w.cell? a12 = some v12 ∧ w.cell? a13 = some v13 ∧ Only [] w0 w) : Only [] w0 w := h.2.2.2.2.2.2.2.2.2.2.2.2.2.2
theorem keep2s {w w' : World} {g : Nat} {a : Addr} {v : Value} (h : w.cell? a = some v) (ho : Only [g] w w') (hg : a.block < g) : w'.cell? a = some v := by
  rw [ho.cell (World.block_lt_of_cell? _ _ h) (by simp; omega)]
  exact h
theorem keepP {w w2 : World} {s a b t z : Vt} {vl vs x y v1 v2 : Value} {g : Nat} (h : w2.cell? ⟨w.heap.size, 0, none⟩ = some (.int .i64 s.1) ∧ w2.cell? ⟨w.heap.size, 1, none⟩ = some (.int .i64 s.2.1) ∧ w2.cell? ⟨w.heap.size, 2, none⟩ = some (.string (str s.2.2.1)) ∧ w2.cell? ⟨w.heap.size, 3, none⟩ = some (.int .i64 s.2.2.2) ∧ w2.cell? ⟨w.heap.size, 4, none⟩ = some (vl) ∧ w2.cell? ⟨w.heap.size, 5, none⟩ = some (vs) ∧ w2.cell? ⟨(w.heap.size + 1), 0, none⟩ = some (.int .i64 a.1) ∧ w2.cell? ⟨(w.heap.size + 1), 1, none⟩ = some (.int .i64 a.2.1) ∧ w2.cell? ⟨(w.heap.size + 1), 2, none⟩ = some (.string (str a.2.2.1)) ∧ w2.cell? ⟨(w.heap.size + 1), 3, none⟩ = some (.int .i64 a.2.2.2) ∧ w2.cell? ⟨(w.heap.size + 2), 0, none⟩ = some (.int .i64 b.1) ∧ w2.cell? ⟨(w.heap.size + 2), 1, none⟩ = some (.int .i64 b.2.1) ∧ w2.cell? ⟨(w.heap.size + 2), 2, none⟩ = some (.string (str b.2.2.1)) ∧ w2.cell? ⟨(w.heap.size + 2), 3, none⟩ = some (.int .i64 b.2.2.2) ∧ Only [] w w2) (Z : FrB w2 g z x y) (hg : w.heap.size + 4 ≤ g) :
    (fun W => W.cell? ⟨w.heap.size, 0, none⟩ = some (.int .i64 s.1) ∧ W.cell? ⟨w.heap.size, 1, none⟩ = some (.int .i64 s.2.1) ∧ W.cell? ⟨w.heap.size, 2, none⟩ = some (.string (str s.2.2.1)) ∧ W.cell? ⟨w.heap.size, 3, none⟩ = some (.int .i64 s.2.2.2) ∧ W.cell? ⟨w.heap.size, 4, none⟩ = some (vl) ∧ W.cell? ⟨w.heap.size, 5, none⟩ = some (vs) ∧ W.cell? ⟨(w.heap.size + 1), 0, none⟩ = some (.int .i64 a.1) ∧ W.cell? ⟨(w.heap.size + 1), 1, none⟩ = some (.int .i64 a.2.1) ∧ W.cell? ⟨(w.heap.size + 1), 2, none⟩ = some (.string (str a.2.2.1)) ∧ W.cell? ⟨(w.heap.size + 1), 3, none⟩ = some (.int .i64 a.2.2.2) ∧ W.cell? ⟨(w.heap.size + 2), 0, none⟩ = some (.int .i64 b.1) ∧ W.cell? ⟨(w.heap.size + 2), 1, none⟩ = some (.int .i64 b.2.1) ∧ W.cell? ⟨(w.heap.size + 2), 2, none⟩ = some (.string (str b.2.2.1)) ∧ W.cell? ⟨(w.heap.size + 2), 3, none⟩ = some (.int .i64 b.2.2.2) ∧ Only [] w W) ((((((w2.setCell ⟨g, 0, none⟩ (.int .i64 t.1)).setCell ⟨g, 1, none⟩ (.int .i64 t.2.1)).setCell ⟨g, 2, none⟩ (.string (str t.2.2.1))).setCell ⟨g, 3, none⟩ (.int .i64 t.2.2.2)).setCell ⟨g, 4, none⟩ v1).setCell ⟨g, 5, none⟩ v2) := by
  obtain ⟨T, oT⟩ := Z.put t v1 v2
  obtain ⟨h0, h1, h2, h3, h4, h5, h6, h7, h8, h9, h10, h11, h12, h13, hO⟩ := h
  refine ⟨keep2s h0 oT ?_, keep2s h1 oT ?_, keep2s h2 oT ?_, keep2s h3 oT ?_, keep2s h4 oT ?_, keep2s h5 oT ?_, keep2s h6 oT ?_, keep2s h7 oT ?_, keep2s h8 oT ?_, keep2s h9 oT ?_, keep2s h10 oT ?_, keep2s h11 oT ?_, keep2s h12 oT ?_, keep2s h13 oT ?_, hO.next oT (fun x hx => by simp at hx; omega)⟩
  all_goals (simp only []; omega)

theorem there6 {w : World} {g : Nat} {z : Vt} {x y : Value} (h : FrB w g z x y) : w.there g 0 6 := fun j hj => by
  rw [Nat.zero_add]
  refine ⟨?_, h.f0 j⟩
  rcases (by omega : j = 0 ∨ j = 1 ∨ j = 2 ∨ j = 3 ∨ j = 4 ∨ j = 5) with rfl | rfl | rfl | rfl | rfl | rfl
  · rw [h.c0]; rfl
  · rw [h.c1]; rfl
  · rw [h.c2]; rfl
  · rw [h.c3]; rfl
  · rw [h.c4]; rfl
  · rw [h.c5]; rfl
/-- A frame is stored whole. -/
theorem store6 {w : World} {g : Nat} {z s : Vt} {x y : Value} (h : FrB w g z x y) (v1 v2 : Value) (h1 : v1.oneCell' = true) (h2 : v2.oneCell' = true) :
    ∃ W, (Instr.storeAt 28 (.pointer (some ⟨g, 0, none⟩)) (.agg #[.int .i64 s.1, .int .i64 s.2.1, .string (str s.2.2.1), .int .i64 s.2.2.2, v1, v2])).run Tryz.prog w = .ok () W ∧ FrB W g s v1 v2 ∧ Only [g] w W := by
  obtain ⟨T, o⟩ := h.put s v1 v2
  refine ⟨_, run_storeAt_mid w g 0 28 #[.int .i64 s.1, .int .i64 s.2.1, .string (str s.2.2.1), .int .i64 s.2.2.2, v1, v2] (fun j hj => ?_) (by kernel_rfl) (by rw [Array.all_eq_true_iff_forall_mem]; intro v hv; simp at hv; rcases hv with rfl | rfl | rfl | rfl | rfl | rfl <;> first | rfl | assumption), T, o⟩
  have hj' : j < 6 := hj
  rw [Nat.zero_add]
  refine ⟨?_, h.f0 j⟩
  rcases (by omega : j = 0 ∨ j = 1 ∨ j = 2 ∨ j = 3 ∨ j = 4 ∨ j = 5) with rfl | rfl | rfl | rfl | rfl | rfl
  · rw [h.c0]; rfl
  · rw [h.c1]; rfl
  · rw [h.c2]; rfl
  · rw [h.c3]; rfl
  · rw [h.c4]; rfl
  · rw [h.c5]; rfl
theorem keepG {f g : Nat} {W0 w w' : World} {s a b : Vt} {vl vs : Value} (h : (fun w' => w'.cell? ⟨f, 0, none⟩ = some (.int .i64 s.1) ∧ w'.cell? ⟨f, 1, none⟩ = some (.int .i64 s.2.1) ∧ w'.cell? ⟨f, 2, none⟩ = some (.string (str s.2.2.1)) ∧ w'.cell? ⟨f, 3, none⟩ = some (.int .i64 s.2.2.2) ∧ w'.cell? ⟨f, 4, none⟩ = some (vl) ∧ w'.cell? ⟨f, 5, none⟩ = some (vs) ∧ w'.cell? ⟨f + 1, 0, none⟩ = some (.int .i64 a.1) ∧ w'.cell? ⟨f + 1, 1, none⟩ = some (.int .i64 a.2.1) ∧ w'.cell? ⟨f + 1, 2, none⟩ = some (.string (str a.2.2.1)) ∧ w'.cell? ⟨f + 1, 3, none⟩ = some (.int .i64 a.2.2.2) ∧ w'.cell? ⟨f + 1 + 1, 0, none⟩ = some (.int .i64 b.1) ∧ w'.cell? ⟨f + 1 + 1, 1, none⟩ = some (.int .i64 b.2.1) ∧ w'.cell? ⟨f + 1 + 1, 2, none⟩ = some (.string (str b.2.2.1)) ∧ w'.cell? ⟨f + 1 + 1, 3, none⟩ = some (.int .i64 b.2.2.2) ∧ Only [] W0 w') w) (ho : Only [g] w w') (hg : f + 2 < g) (hz : W0.heap.size ≤ g) : (fun w' => w'.cell? ⟨f, 0, none⟩ = some (.int .i64 s.1) ∧ w'.cell? ⟨f, 1, none⟩ = some (.int .i64 s.2.1) ∧ w'.cell? ⟨f, 2, none⟩ = some (.string (str s.2.2.1)) ∧ w'.cell? ⟨f, 3, none⟩ = some (.int .i64 s.2.2.2) ∧ w'.cell? ⟨f, 4, none⟩ = some (vl) ∧ w'.cell? ⟨f, 5, none⟩ = some (vs) ∧ w'.cell? ⟨f + 1, 0, none⟩ = some (.int .i64 a.1) ∧ w'.cell? ⟨f + 1, 1, none⟩ = some (.int .i64 a.2.1) ∧ w'.cell? ⟨f + 1, 2, none⟩ = some (.string (str a.2.2.1)) ∧ w'.cell? ⟨f + 1, 3, none⟩ = some (.int .i64 a.2.2.2) ∧ w'.cell? ⟨f + 1 + 1, 0, none⟩ = some (.int .i64 b.1) ∧ w'.cell? ⟨f + 1 + 1, 1, none⟩ = some (.int .i64 b.2.1) ∧ w'.cell? ⟨f + 1 + 1, 2, none⟩ = some (.string (str b.2.2.1)) ∧ w'.cell? ⟨f + 1 + 1, 3, none⟩ = some (.int .i64 b.2.2.2) ∧ Only [] W0 w') w' := by
  obtain ⟨h0, h1, h2, h3, h4, h5, h6, h7, h8, h9, h10, h11, h12, h13, hO⟩ := h
  refine ⟨keep2s h0 ho ?_, keep2s h1 ho ?_, keep2s h2 ho ?_, keep2s h3 ho ?_, keep2s h4 ho ?_, keep2s h5 ho ?_, keep2s h6 ho ?_, keep2s h7 ho ?_, keep2s h8 ho ?_, keep2s h9 ho ?_, keep2s h10 ho ?_, keep2s h11 ho ?_, keep2s h12 ho ?_, keep2s h13 ho ?_, hO.next ho (fun x hx => by simp at hx; omega)⟩
  all_goals (simp only []; omega)
theorem undrew {S : List Nat} {W w1 : World} (h : Only S W.drew w1) : Only S W w1 := ⟨h.os, h.tape, h.output, h.size, h.block⟩
theorem z2_new {w1 w2 : World} (q2 : Only [] (w1.alloc (.cells #[.int .i64 0, .int .i64 0, .string ⟨#[]⟩, .int .i64 0, .slice none 0 0, .slice none 0 0] 28)) w2) : FrB w2 w1.heap.size (0, 0, [], 0) (.slice none 0 0) (.slice none 0 0) :=
  (frB_new w1 (0, 0, [], 0) (.slice none 0 0) (.slice none 0 0) 28).only q2 (by simp)
theorem z1_new (w : World) {w1 : World} {A B C D : Obj} (q1 : Only [] (((((w.alloc A).alloc B).alloc C).alloc D).alloc (.cells #[.int .i64 0, .int .i64 0, .string ⟨#[]⟩, .int .i64 0, .slice none 0 0, .slice none 0 0] 28)) w1) : FrB w1 (w.heap.size + 1 + 1 + 1 + 1) (0, 0, [], 0) (.slice none 0 0) (.slice none 0 0) := by
  have h := z2_new q1
  simpa using h
theorem z_cells {w : World} {g : Nat} (h : FrB w g (0, 0, [], 0) (.slice none 0 0) (.slice none 0 0)) : w.cell? ⟨g, 0, none⟩ = some (.int .i64 0) ∧ w.cell? ⟨g, 1, none⟩ = some (.int .i64 0) ∧ w.cell? ⟨g, 2, none⟩ = some (.string ⟨#[]⟩) ∧ w.cell? ⟨g, 3, none⟩ = some (.int .i64 0) ∧ w.cell? ⟨g, 4, none⟩ = some (.slice none 0 0) ∧ w.cell? ⟨g, 5, none⟩ = some (.slice none 0 0) ∧ w.frozen? ⟨g, 0, none⟩ = false ∧ w.frozen? ⟨g, 1, none⟩ = false ∧ w.frozen? ⟨g, 2, none⟩ = false ∧ w.frozen? ⟨g, 3, none⟩ = false ∧ w.frozen? ⟨g, 4, none⟩ = false ∧ w.frozen? ⟨g, 5, none⟩ = false :=
  ⟨h.c0, h.c1, h.c2, h.c3, h.c4, h.c5, h.f0 0, h.f0 1, h.f0 2, h.f0 3, h.f0 4, h.f0 5⟩

set_option maxHeartbeats 4000000 in
set_option maxRecDepth 100000 in
theorem rSwap_any {w : World} (s a b : Vt) {ll ls : List Vt} {vl vs : Value} (hl : Rd w vl ll) (hs : Rd w vs ls) (n1 : ll.length ≤ 1000000) (n2 : ls.length ≤ 1000000) :
    Calls Tryz.prog 12 #[frV s vl vs, vtV a, vtV b] w (NewF w (swV a b s) (ll.map (swV a b)) (ls.map (swV a b))) := by
  obtain ⟨ao, ac, rfl⟩ := hl.shape
  obtain ⟨so, sc, rfl⟩ := hs.shape
  have H1 := hid (fun W (hW : Only [] w W) => swapped_any a b (hl.only0 hW) n1)
  have H2 := hid (fun W (hW : Only [] w W) => swapped_any a b (hs.only0 hW) n2)
  clear hl hs
  have hB := hid (swB_new w s a b (.slice ao ll.length ac) (.slice so ls.length sc))
  obtain ⟨c0, c1, c2, c3, c4, c5, -⟩ := hB.out.fr
  obtain ⟨a0, a1, a2, a3⟩ := hB.out.fa
  obtain ⟨b0, b1, b2, b3⟩ := hB.out.fb
  simp only [Nat.zero_add] at a1 a2 a3 b1 b2 b3
  unfold vtV at H1 H2 ⊢
  simp only [frV]
  go_enter Tryz.func12, Tryz.ntmps12
  go_upto_region 1 with fail
  go_cut [7] (fun s7 wx => ∃ g v1 v2, s7 = .pointer (some ⟨g, 0, none⟩) ∧ Hid (SwC w wx s a b (.slice ao ll.length ac) (.slice so ls.length sc) ll ls g v1 v2))
  case first =>
    obtain ⟨W0, hW0⟩ : ∃ W0, W0 = ((((w.alloc (.cells #[.int .i64 s.1, .int .i64 s.2.1, .string (str s.2.2.1), .int .i64 s.2.2.2, .slice ao ll.length ac, .slice so ls.length sc] 28)).alloc (.cells #[.int .i64 a.1, .int .i64 a.2.1, .string (str a.2.2.1), .int .i64 a.2.2.2] 25)).alloc (.cells #[.int .i64 b.1, .int .i64 b.2.1, .string (str b.2.2.1), .int .i64 b.2.2.2] 25)).alloc (.cells #[.int .i64 0, .int .i64 0, .string ⟨#[]⟩, .int .i64 0, .slice none 0 0, .slice none 0 0] 28)) := ⟨_, rfl⟩
    have hsz : W0.heap.size = w.heap.size + 1 + 1 + 1 + 1 := by rw [hW0]; simp
    rw [← hW0] at hB c0 c1 c2 c3 c4 c5 a0 a1 a2 a3 b0 b1 b2 b3 ⊢
    clear hW0
    have G1 := hid (fun W (hW : Only [] W0 W) => H1.out W (hB.out.only.trans hW (by simp)))
    have G2 := hid (fun W (hW : Only [] W0 W) => H2.out W (hB.out.only.trans hW (by simp)))
    clear H1 H2
    rw [show w.heap.size + 2 = w.heap.size + 1 + 1 from rfl] at b0 b1 b2 b3
    generalize hf : w.heap.size = f at c0 c1 c2 c3 c4 c5 a0 a1 a2 a3 b0 b1 b2 b3 hsz ⊢
    replace hsz := hid hsz
    replace hf := hid hf
    have S0 := hid (show (fun w' => w'.cell? ⟨f, 0, none⟩ = some (.int .i64 s.1) ∧ w'.cell? ⟨f, 1, none⟩ = some (.int .i64 s.2.1) ∧ w'.cell? ⟨f, 2, none⟩ = some (.string (str s.2.2.1)) ∧ w'.cell? ⟨f, 3, none⟩ = some (.int .i64 s.2.2.2) ∧ w'.cell? ⟨f, 4, none⟩ = some (.slice ao ll.length ac) ∧ w'.cell? ⟨f, 5, none⟩ = some (.slice so ls.length sc) ∧ w'.cell? ⟨f + 1, 0, none⟩ = some (.int .i64 a.1) ∧ w'.cell? ⟨f + 1, 1, none⟩ = some (.int .i64 a.2.1) ∧ w'.cell? ⟨f + 1, 2, none⟩ = some (.string (str a.2.2.1)) ∧ w'.cell? ⟨f + 1, 3, none⟩ = some (.int .i64 a.2.2.2) ∧ w'.cell? ⟨f + 1 + 1, 0, none⟩ = some (.int .i64 b.1) ∧ w'.cell? ⟨f + 1 + 1, 1, none⟩ = some (.int .i64 b.2.1) ∧ w'.cell? ⟨f + 1 + 1, 2, none⟩ = some (.string (str b.2.2.1)) ∧ w'.cell? ⟨f + 1 + 1, 3, none⟩ = some (.int .i64 b.2.2.2) ∧ Only [] W0 w') W0 from ⟨c0, c1, c2, c3, c4, c5, a0, a1, a2, a3, b0, b1, b2, b3, Only.refl [] W0⟩)
    clear c0 c1 c2 c3 c4 c5 a0 a1 a2 a3 b0 b1 b2 b3
    refine wp_region_held_drew (S := (fun w' => w'.cell? ⟨f, 0, none⟩ = some (.int .i64 s.1) ∧ w'.cell? ⟨f, 1, none⟩ = some (.int .i64 s.2.1) ∧ w'.cell? ⟨f, 2, none⟩ = some (.string (str s.2.2.1)) ∧ w'.cell? ⟨f, 3, none⟩ = some (.int .i64 s.2.2.2) ∧ w'.cell? ⟨f, 4, none⟩ = some (.slice ao ll.length ac) ∧ w'.cell? ⟨f, 5, none⟩ = some (.slice so ls.length sc) ∧ w'.cell? ⟨f + 1, 0, none⟩ = some (.int .i64 a.1) ∧ w'.cell? ⟨f + 1, 1, none⟩ = some (.int .i64 a.2.1) ∧ w'.cell? ⟨f + 1, 2, none⟩ = some (.string (str a.2.2.1)) ∧ w'.cell? ⟨f + 1, 3, none⟩ = some (.int .i64 a.2.2.2) ∧ w'.cell? ⟨f + 1 + 1, 0, none⟩ = some (.int .i64 b.1) ∧ w'.cell? ⟨f + 1 + 1, 1, none⟩ = some (.int .i64 b.2.1) ∧ w'.cell? ⟨f + 1 + 1, 2, none⟩ = some (.string (str b.2.2.1)) ∧ w'.cell? ⟨f + 1 + 1, 3, none⟩ = some (.int .i64 b.2.2.2) ∧ Only [] W0 w')) (by kernel_rfl) ?hSb (fun hHeld => ?restb)
    case hSb => exact keepW S0.out ((Only.refl [] _).drew)
    refine wpAnyH_take (i := 0) (v := ?vq1) rfl (by kernel_rfl) (by kernel_rfl) (by kernel_rfl) (fun _ _ _ h => h) (Or.inl ⟨by kernel_rfl, ?hyq1⟩) (by assumption) ?restq1
    case hyq1 =>
      intro w hSw
      try dsimp only at hSw
      go_simp
      try with_reducible rfl
    refine wpAnyH_take (i := 1) (v := ?vq2) rfl (by kernel_rfl) (by kernel_rfl) (by kernel_rfl) (fun _ _ _ h => h) (Or.inl ⟨by kernel_rfl, ?hyq2⟩) (by assumption) ?restq2
    case hyq2 =>
      intro w hSw
      try dsimp only at hSw
      go_simp
      try with_reducible rfl
    refine wpAnyH_take (i := 2) (v := ?vq3) rfl (by kernel_rfl) (by kernel_rfl) (by kernel_rfl) (fun _ _ _ h => h) (Or.inl ⟨by kernel_rfl, ?hyq3⟩) (by assumption) ?restq3
    case hyq3 =>
      intro w hSw
      try dsimp only at hSw
      go_simp
      try with_reducible rfl
    refine wpAnyH_take (i := 3) (v := ?vq4) rfl (by kernel_rfl) (by kernel_rfl) (by kernel_rfl) (fun _ _ _ h => h) (Or.inl ⟨by kernel_rfl, ?hyq4⟩) (by assumption) ?restq4
    case hyq4 =>
      intro w hSw
      try dsimp only at hSw
      go_simp
      try with_reducible rfl
    refine wpAnyH_take (i := 4) (v := ?vq5) rfl (by kernel_rfl) (by kernel_rfl) (by kernel_rfl) (fun _ _ _ h => h) (Or.inl ⟨by kernel_rfl, ?hyq5⟩) (by assumption) ?restq5
    case hyq5 =>
      intro w hSw
      try dsimp only at hSw
      go_simp
      try with_reducible rfl
    refine wpAnyH_take (i := 5) (v := ?vq6) rfl (by kernel_rfl) (by kernel_rfl) (by kernel_rfl) (fun _ _ _ h => h) (Or.inl ⟨by kernel_rfl, ?hyq6⟩) (by assumption) ?restq6
    case hyq6 =>
      intro w hSw
      try dsimp only at hSw
      go_simp
      try with_reducible rfl
    refine wpAnyH_take (i := 7) (v := ?vq7) rfl (by kernel_rfl) (by kernel_rfl) (by kernel_rfl) (fun _ _ _ h => h) (Or.inl ⟨by kernel_rfl, ?hyq7⟩) (by assumption) ?restq7
    case hyq7 =>
      intro w hSw
      try dsimp only at hSw
      go_simp
      try with_reducible rfl
    refine wpAnyH_take (i := 8) (v := ?vq8) rfl (by kernel_rfl) (by kernel_rfl) (by kernel_rfl) (fun _ _ _ h => h) (Or.inl ⟨by kernel_rfl, ?hyq8⟩) (by assumption) ?restq8
    case hyq8 =>
      intro w hSw
      try dsimp only at hSw
      go_simp
      try with_reducible rfl
    refine wpAnyH_take (i := 9) (v := ?vq9) rfl (by kernel_rfl) (by kernel_rfl) (by kernel_rfl) (fun _ _ _ h => h) (Or.inl ⟨by kernel_rfl, ?hyq9⟩) (by assumption) ?restq9
    case hyq9 =>
      intro w hSw
      try dsimp only at hSw
      go_simp
      try with_reducible rfl
    refine wpAnyH_take (i := 10) (v := ?vq10) rfl (by kernel_rfl) (by kernel_rfl) (by kernel_rfl) (fun _ _ _ h => h) (Or.inl ⟨by kernel_rfl, ?hyq10⟩) (by assumption) ?restq10
    case hyq10 =>
      intro w hSw
      try dsimp only at hSw
      go_simp
      try with_reducible rfl
    refine wpAnyH_ready (rs := [6, 13]) (by kernel_rfl) (by simp) ?_
    refine AllReadyH.cons rfl (fun K hK => ?_) (AllReadyH.cons rfl (fun K hK => ?_) AllReadyH.nil)
    · go_simp
      go_at_call 24
      refine (G1.out _ ((Only.refl [] _).drew)).mono ?_
      rintro e w1 ⟨v1, rfl, r1, q1⟩
      obtain ⟨p1, k1, rfl⟩ := rows_slice r1
      simp only [List.length_map]
      have S1 := hid (keepW (keepW S0.out ((Only.refl [] _).drew)) q1)
      have O1 := hid (sLast S1.out)
      replace r1 := hid r1
      replace q1 := hid q1
      go_wp2_with fail
      refine hK.out _ _ ?hSq11 (fun hHeld => ?restq11)
      case hSq11 => exact S1.out
      clear hK K hHeld
      refine wpAnyH_ready (rs := [11, 13]) (by kernel_rfl) (by simp) ?_
      refine AllReadyH.cons rfl (fun K hK => ?_) (AllReadyH.cons rfl (fun K hK => ?_) AllReadyH.nil)
      · go_simp
        go_at_call 24
        refine (G2.out _ O1.out).mono ?_
        rintro e w2 ⟨v2, rfl, r2, q2⟩
        obtain ⟨p2, k2, rfl⟩ := rows_slice r2
        simp only [List.length_map]
        have S2 := hid (keepW S1.out q2)
        have O2 := hid (sLast S2.out)
        replace r2 := hid r2
        replace q2 := hid q2
        go_wp2_with fail
        refine hK.out _ _ ?hSq12 (fun hHeld => ?restq12)
        case hSq12 => exact S2.out
        clear hK K hHeld
        refine wpAnyH_take (i := 12) (v := ?vq13) rfl (by kernel_rfl) (by kernel_rfl) (by kernel_rfl) (fun _ _ _ h => h) (Or.inl ⟨by kernel_rfl, ?hyq13⟩) (by assumption) ?restq13
        case hyq13 =>
          intro w hSw
          try dsimp only at hSw
          go_simp
          try with_reducible rfl
        refine wpAnyH_ready (rs := [13]) (by kernel_rfl) (by simp) ?_
        refine AllReadyH.cons rfl (fun K hK => ?_) AllReadyH.nil
        go_simp
        refine hK.out _ _ ?hSq14 (fun hHeld => ?restq14)
        case hSq14 => exact keepW S2.out ((Only.refl [] _).alloc _)
        clear hK K hHeld
        refine wpAnyH_ready (rs := [14]) (by kernel_rfl) (by simp) ?_
        refine AllReadyH.cons rfl (fun K hK => ?_) AllReadyH.nil
        go_simp
        refine hK.out _ _ ?hSq15 (fun hHeld => ?restq15)
        case hSq15 => exact keepW S2.out ((Only.refl [] _).alloc _)
        clear hK K hHeld
        refine wpAnyH_done (by kernel_rfl) ?_ _
        have x1 := r1.out
        have x2 := r2.out
        simp only [List.length_map] at x1 x2
        have hs1 := O1.out.size
        have hs2 := hsz.out
        obtain rfl := hf.out
        have hB2 := hid (hB.out.zero O2.out)
        have R1 := hid (rows_only (rows_mono (C := w.heap.size + 4) x1 (show w.heap.size + 4 ≤ W0.heap.size by omega)) (q2.out) (by simp))
        have R2 := hid (rows_mono (C := w.heap.size + 4) x2 (by omega))
        have E := hid (swC_new hB2.out R1.out R2.out)
        clear hs1 hs2 x1 x2
        try clear hs4
        go_wp2
        go_meet
        exact ⟨w2.heap.size, .slice p1 ll.length k1, .slice p2 ls.length k2, rfl, E⟩
      · go_simp
        refine hK.out _ _ ?hSq16 (fun hHeld => ?restq16)
        case hSq16 => exact keepW S1.out ((Only.refl [] _).alloc _)
        clear hK K hHeld
        refine wpAnyH_ready (rs := [11]) (by kernel_rfl) (by simp) ?_
        refine AllReadyH.cons rfl (fun K hK => ?_) AllReadyH.nil
        go_simp
        go_at_call 24
        refine (G2.out _ (O1.out.alloc _)).mono ?_
        rintro e w2 ⟨v2, rfl, r2, q2⟩
        obtain ⟨p2, k2, rfl⟩ := rows_slice r2
        simp only [List.length_map]
        have S2 := hid (keepW (keepW S1.out ((Only.refl [] _).alloc _)) q2)
        have O2 := hid (sLast S2.out)
        replace r2 := hid r2
        replace q2 := hid q2
        go_wp2_with fail
        refine hK.out _ _ ?hSq17 (fun hHeld => ?restq17)
        case hSq17 => exact S2.out
        clear hK K hHeld
        have Z := hid (z2_new q2.out)
        refine wpAnyH_take (i := 12) (v := ?vq18) rfl (by kernel_rfl) (by kernel_rfl) (by kernel_rfl) (fun _ _ _ h => h) (Or.inl ⟨by kernel_rfl, ?hyq18⟩) (by assumption) ?restq18
        case hyq18 =>
          intro w hSw
          try dsimp only at hSw
          go_simp
          try with_reducible rfl
        refine wpAnyH_ready (rs := [14]) (by kernel_rfl) (by simp) ?_
        refine AllReadyH.cons rfl (fun K hK => ?_) AllReadyH.nil
        try rw [if_pos (by kernel_rfl)]
        refine wp_store_mid 28 (.tmp 7) (.tmp 20) rfl w1.heap.size 0 #[.int .i64 s.1, .int .i64 s.2.1, .string (str s.2.2.1), .int .i64 s.2.2.2, .slice p1 ll.length k1, .slice p2 ls.length k2] rfl rfl (there6 Z.out) (by kernel_rfl) (by simp [Value.oneCell']) ?_
        go_simp
        obtain ⟨T6, o6⟩ := Z.out.put s (.slice p1 ll.length k1) (.slice p2 ls.length k2)
        refine hK.out _ _ ?hSq19 (fun hHeld => ?restq19)
        case hSq19 => exact keepG S2.out o6 (by have := hsz.out; have := O1.out.size; omega) (by have := O1.out.size; omega)
        clear hK K hHeld
        refine wpAnyH_done (by kernel_rfl) ?_ _
        have x1 := r1.out
        have x2 := r2.out
        simp only [List.length_map] at x1 x2
        have hs1 := O1.out.size
        have hs2 := hsz.out
        obtain rfl := hf.out
        have hB2 := hid (hB.out.zero O2.out)
        have R1 := hid (rows_only (rows_mono (C := w.heap.size + 4) x1 (show w.heap.size + 4 ≤ W0.heap.size by omega)) (((Only.refl [] w1).alloc _).trans q2.out (by simp)) (by simp))
        have R2 := hid (rows_mono (C := w.heap.size + 4) x2 (show w.heap.size + 4 ≤ (w1.alloc _).heap.size by rw [World.size_alloc]; omega))
        have E := hid (swC_put hB2.out Z.out R1.out R2.out (by omega) (fun h => by have := (own_block x1 h).2; omega) (fun h => by have h9 := (own_block x2 h).1; rw [World.size_alloc] at h9; omega))
        clear hs1 hs2 x1 x2
        try clear hs4
        go_wp2
        go_meet
        exact ⟨w1.heap.size, .slice p1 ll.length k1, .slice p2 ls.length k2, rfl, E⟩
    · go_simp
      refine hK.out _ _ ?hSq20 (fun hHeld => ?restq20)
      case hSq20 => exact keepW S0.out (((Only.refl [] _).alloc _).drew)
      clear hK K hHeld
      refine wpAnyH_ready (rs := [6]) (by kernel_rfl) (by simp) ?_
      refine AllReadyH.cons rfl (fun K hK => ?_) AllReadyH.nil
      go_simp
      go_at_call 24
      refine (G1.out _ (((Only.refl [] _).alloc _).drew)).mono ?_
      rintro e w1 ⟨v1, rfl, r1, q1⟩
      obtain ⟨p1, k1, rfl⟩ := rows_slice r1
      simp only [List.length_map]
      have S1 := hid (keepW (keepW S0.out (((Only.refl [] _).alloc _).drew)) q1)
      have O1 := hid (sLast S1.out)
      replace r1 := hid r1
      replace q1 := hid q1
      go_wp2_with fail
      refine hK.out _ _ ?hSq21 (fun hHeld => ?restq21)
      case hSq21 => exact S1.out
      clear hK K hHeld
      have Z1 := hid (z2_new (undrew q1.out))
      refine wpAnyH_ready (rs := [11]) (by kernel_rfl) (by simp) ?_
      refine AllReadyH.cons rfl (fun K hK => ?_) AllReadyH.nil
      go_simp
      go_at_call 24
      refine (G2.out _ O1.out).mono ?_
      rintro e w2 ⟨v2, rfl, r2, q2⟩
      obtain ⟨p2, k2, rfl⟩ := rows_slice r2
      simp only [List.length_map]
      have S2 := hid (keepW S1.out q2)
      have O2 := hid (sLast S2.out)
      replace r2 := hid r2
      replace q2 := hid q2
      go_wp2_with fail
      refine hK.out _ _ ?hSq22 (fun hHeld => ?restq22)
      case hSq22 => exact S2.out
      clear hK K hHeld
      have Z := hid (Z1.out.only q2.out (by simp))
      refine wpAnyH_take (i := 12) (v := ?vq23) rfl (by kernel_rfl) (by kernel_rfl) (by kernel_rfl) (fun _ _ _ h => h) (Or.inl ⟨by kernel_rfl, ?hyq23⟩) (by assumption) ?restq23
      case hyq23 =>
        intro w hSw
        try dsimp only at hSw
        go_simp
        try with_reducible rfl
      refine wpAnyH_ready (rs := [14]) (by kernel_rfl) (by simp) ?_
      refine AllReadyH.cons rfl (fun K hK => ?_) AllReadyH.nil
      try rw [if_pos (by kernel_rfl)]
      refine wp_store_mid 28 (.tmp 7) (.tmp 20) rfl W0.heap.size 0 #[.int .i64 s.1, .int .i64 s.2.1, .string (str s.2.2.1), .int .i64 s.2.2.2, .slice p1 ll.length k1, .slice p2 ls.length k2] rfl rfl (there6 Z.out) (by kernel_rfl) (by simp [Value.oneCell']) ?_
      go_simp
      obtain ⟨T6, o6⟩ := Z.out.put s (.slice p1 ll.length k1) (.slice p2 ls.length k2)
      refine hK.out _ _ ?hSq24 (fun hHeld => ?restq24)
      case hSq24 => exact keepG S2.out o6 (by have := hsz.out; have := O1.out.size; omega) (by have := O1.out.size; omega)
      clear hK K hHeld
      have hs4 : W0.heap.size + 1 ≤ w1.heap.size := by have h9 := (undrew q1.out).size; rw [World.size_alloc] at h9; exact h9
      refine wpAnyH_done (by kernel_rfl) ?_ _
      have x1 := r1.out
      have x2 := r2.out
      simp only [List.length_map] at x1 x2
      have hs1 := O1.out.size
      have hs2 := hsz.out
      obtain rfl := hf.out
      have hB2 := hid (hB.out.zero O2.out)
      have R1 := hid (rows_only (rows_mono (C := w.heap.size + 4) x1 (show w.heap.size + 4 ≤ (W0.alloc _).heap.size by rw [World.size_alloc]; omega)) (q2.out) (by simp))
      have R2 := hid (rows_mono (C := w.heap.size + 4) x2 (by omega))
      have E := hid (swC_put hB2.out Z.out R1.out R2.out (by omega) (fun h => by have h9 : (W0.alloc _).heap.size ≤ W0.heap.size := (own_block x1 h).1; rw [World.size_alloc] at h9; omega) (fun h => by have := (own_block x2 h).1; omega))
      clear hs1 hs2 x1 x2
      try clear hs4
      go_wp2
      go_meet
      exact ⟨W0.heap.size, .slice p1 ll.length k1, .slice p2 ls.length k2, rfl, E⟩
  case rest =>
    obtain ⟨g, v1, v2, rfl, hC⟩ := hcut
    obtain ⟨p1, k1, rfl⟩ := rows_slice hC.out.r1
    obtain ⟨p2, k2, rfl⟩ := rows_slice hC.out.r2
    clear hB c0 c1 c2 c3 c4 c5 a0 a1 a2 a3 b0 b1 b2 b3 H1 H2
    have HE := fun w => eq_vt s a w
    unfold vtV at HE
    obtain ⟨c0, c1, c2, c3, c4, c5, -⟩ := hC.out.base.fr
    obtain ⟨a0, a1, a2, a3⟩ := hC.out.base.fa
    obtain ⟨b0, b1, b2, b3⟩ := hC.out.base.fb
    simp only [Nat.zero_add] at a1 a2 a3 b1 b2 b3
    have hge := hC.out.ge
    have hZ : Hid (FrB wc (w.heap.size + 1 + 1 + 1) (0, 0, [], 0) (.slice none 0 0) (.slice none 0 0)) := hid hC.out.base.fz
    by_cases e : s = a
    · have hs : swV a b s = b := if_pos e
      replace hs := hid hs
      have F6 : Hid (FrB ((((wc.setCell ⟨g, 0, none⟩ (.int .i64 b.1)).setCell ⟨g, 1, none⟩ (.int .i64 b.2.1)).setCell ⟨g, 2, none⟩ (.string (str b.2.2.1))).setCell ⟨g, 3, none⟩ (.int .i64 b.2.2.2)) g b _ _) := hid (hC.out.fr.self b)
      have o6 : Hid (Only [g] wc ((((wc.setCell ⟨g, 0, none⟩ (.int .i64 b.1)).setCell ⟨g, 1, none⟩ (.int .i64 b.2.1)).setCell ⟨g, 2, none⟩ (.string (str b.2.2.1))).setCell ⟨g, 3, none⟩ (.int .i64 b.2.2.2))) := hid (set4_only wc g 0 b)
      have Z6 : Hid (FrB ((((wc.setCell ⟨g, 0, none⟩ (.int .i64 b.1)).setCell ⟨g, 1, none⟩ (.int .i64 b.2.1)).setCell ⟨g, 2, none⟩ (.string (str b.2.2.1))).setCell ⟨g, 3, none⟩ (.int .i64 b.2.2.2)) (w.heap.size + 1 + 1 + 1) _ _ _) := hid (hC.out.base.fz.only o6.out (by simp; omega))
      have r1 := hid (rows_only hC.out.r1 o6.out fun k hk hm => hC.out.n1 (by simp at hm; rw [← hm]; exact hk))
      have r2 := hid (rows_only hC.out.r2 o6.out fun k hk hm => hC.out.n2 (by simp at hm; rw [← hm]; exact hk))
      have O6 := hid (hC.out.base.only.next o6.out (fun x hx => by simp at hx; omega))
      obtain ⟨g0, g1, g2, g3, g4, g5, gf⟩ := hC.out.fr
      have h0 := gf 0
      have h1 := gf 1
      have h2 := gf 2
      have h3 := gf 3
      clear gf
      obtain ⟨m0, m1, m2, m3, m4, m5, -⟩ := F6.out
      obtain ⟨z0, z1, z2, z3, z4, z5, y0, y1, y2, y3, y4, y5⟩ := z_cells Z6.out
      simp only [e, decide_true] at HE
      go_wp2
      obtain ⟨T, oT⟩ := Z6.out.put b (.slice p1 ll.length k1) (.slice p2 ls.length k2)
      obtain ⟨d0, d1, d2, d3, d4, d5, _⟩ := T
      refine bodyPost_ret (v := frV b (.slice p1 ll.length k1) (.slice p2 ls.length k2)) (by simp [results, Tryz.results12, go_sem, d0, d1, d2, d3, d4, d5, frV]) rfl ?_
      have x1 := r1.out
      have y1 := OwV.rd (rows_only x1 oT fun k hk hm => by
        have := (own_block x1 hk).1
        simp at hm
        omega)
      rw [List.length_map] at y1
      have x2 := r2.out
      have y2 := OwV.rd (rows_only x2 oT fun k hk hm => by
        have := (own_block x2 hk).1
        simp at hm
        omega)
      rw [List.length_map] at y2
      refine ⟨.slice p1 ll.length k1, .slice p2 ls.length k2, by rw [hs.out], y1, y2, O6.out.next oT (fun x hx => by simp at hx; omega)⟩
    · have hs : swV a b s = s := if_neg e
      replace hs := hid hs
      obtain ⟨g0, g1, g2, g3, g4, g5, -⟩ := hC.out.fr
      obtain ⟨z0, z1, z2, z3, z4, z5, y0, y1, y2, y3, y4, y5⟩ := z_cells hZ.out
      simp only [e, decide_false] at HE
      go_wp2
      obtain ⟨T, oT⟩ := hZ.out.put s (.slice p1 ll.length k1) (.slice p2 ls.length k2)
      obtain ⟨d0, d1, d2, d3, d4, d5, _⟩ := T
      refine bodyPost_ret (v := frV s (.slice p1 ll.length k1) (.slice p2 ls.length k2)) (by simp [results, Tryz.results12, go_sem, d0, d1, d2, d3, d4, d5, frV]) rfl ?_
      have x1 := hC.out.r1
      have y1 := OwV.rd (rows_only x1 oT fun k hk hm => by
        have := (own_block x1 hk).1
        simp at hm
        omega)
      rw [List.length_map] at y1
      have x2 := hC.out.r2
      have y2 := OwV.rd (rows_only x2 oT fun k hk hm => by
        have := (own_block x2 hk).1
        simp at hm
        omega)
      rw [List.length_map] at y2
      refine ⟨.slice p1 ll.length k1, .slice p2 ls.length k2, by rw [hs.out], y1, y2, hC.out.base.only.next oT (fun x hx => by simp at hx; omega)⟩

end Go.Proofs.YtpjkgdkebkkjeaaGreatDoor
