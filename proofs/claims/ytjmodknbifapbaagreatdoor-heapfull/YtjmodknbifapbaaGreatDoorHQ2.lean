/-
  The contracts of heap's small parts: sizes, New, Bytes, Count, room. No conditions beyond the bounds of a law's own.
-/
import Derived.Test.YtjmodknbifapbaaGreatDoorHQ1
import Derived.Test.YtjmodknbifapbaaGreatDoorIRow
import Derived.Deep.RegionHeld3
import Derived.BigQuiet
import Derived.Handy
import Derived.Carry
namespace Go.Proofs.YtjmodknbifapbaaGreatDoor
open Go.RowKit

theorem sizeOf_any {w : World} {k : Nat} (hk : k ≤ 65536) : Calls Tryz.prog 49 #[.int .i64 (k : Int)] w fun e w' => e = .returned (.int .i64 (16 + 8 * (k : Int))) ∧ w' = w := by
  go_enter Tryz.func49, Tryz.ntmps49
  go_wp2
  go_ret
  exact ⟨rfl, rfl⟩

theorem size_any {w : World} {ao : Option Addr} {k c : Nat} (hk : k ≤ 65536) : Calls Tryz.prog 257 #[.slice ao k c] w fun e w' => e = .returned (.int .i64 (16 + 8 * (k : Int))) ∧ w' = w := by
  go_enter Tryz.func257, Tryz.ntmps257
  go_wp2_with fail
  go_at_call 49
  refine (sizeOf_any hk).mono ?_
  rintro e w' ⟨rfl, rfl⟩
  go_wp2
  go_ret
  exact ⟨rfl, rfl⟩

/-- A heap in block g: its world, so many objects, so many bytes that it may give out, that it gave out. -/
structure HeapAt (w : World) (B g : Nat) (p : Value) (n : Nat) (most given : Int) (v : Value) (xs : List Value) : Prop where
  c0 : w.cell? ⟨g, 0, none⟩ = some p
  c2 : w.cell? ⟨g, 2, none⟩ = some v
  c3 : w.cell? ⟨g, 3, none⟩ = some (.int .i64 most)
  c4 : w.cell? ⟨g, 4, none⟩ = some (.int .i64 given)
  f2 : w.frozen? ⟨g, 2, none⟩ = false
  f4 : w.frozen? ⟨g, 4, none⟩ = false
  own : w.ownsRow B 75 1 v n xs
  other : ∀ b, v.ownBlock = some b → b ≠ g
  base : B ≤ g

theorem HeapAt.lt {w : World} {B g : Nat} {p : Value} {n : Nat} {most given : Int} {v : Value} {xs : List Value} (h : HeapAt w B g p n most given v xs) : g < w.heap.size := World.block_lt_of_cell? w _ h.c0
theorem HeapAt.only {w w' : World} {B g : Nat} {p : Value} {n : Nat} {most given : Int} {v : Value} {xs : List Value} (h : HeapAt w B g p n most given v xs) (ho : Only [] w w') : HeapAt w' B g p n most given v xs := by
  have hl := h.lt
  exact ⟨(ho.cell (p := ⟨g, 0, none⟩) hl (by simp)).trans h.c0, (ho.cell (p := ⟨g, 2, none⟩) hl (by simp)).trans h.c2, (ho.cell (p := ⟨g, 3, none⟩) hl (by simp)).trans h.c3, (ho.cell (p := ⟨g, 4, none⟩) hl (by simp)).trans h.c4, (ho.frozen (p := ⟨g, 2, none⟩) hl (by simp)).trans h.f2, (ho.frozen (p := ⟨g, 4, none⟩) hl (by simp)).trans h.f4, rows_only h.own ho (by simp), h.other, h.base⟩

theorem heap_new (w : World) {B : Nat} (p m : Value) (most : Int) (hB : B ≤ w.heap.size) : HeapAt (w.alloc (.cells #[p, m, .slice none 0 0, .int .i64 most, .int .i64 0] 63)) B w.heap.size p 0 most 0 (.slice none 0 0) [] :=
  ⟨by rw [cell_new]; rfl, by rw [cell_new]; rfl, by rw [cell_new]; rfl, by rw [cell_new]; rfl, frozen_new _ _ _ _, frozen_new _ _ _ _, ⟨rfl, .inl ⟨rfl, rfl⟩⟩, (fun b hb => by cases hb), hB⟩
theorem hnew_any (w : World) (a : Addr) (most : Int) : Calls Tryz.prog 6 #[.pointer (some a), .int .i64 most] w fun e w' => ∃ g, e = .returned (.pointer (some ⟨g, 0, none⟩)) ∧ HeapAt w' w.heap.size g (.pointer (some a)) 0 most 0 (.slice none 0 0) [] ∧ Only [] w w' := by
  go_enter Tryz.func6, Tryz.ntmps6
  go_wp2
  rw [run_makeMap]
  go_wp2
  go_ret
  refine ⟨_, rfl, ?_, ((Only.refl [] w).alloc _).alloc _⟩
  have h := heap_new (w.alloc (.map #[] 0)) (B := w.heap.size) (.pointer (some a)) (.map (some w.heap.size)) most (by simp)
  rw [World.size_alloc] at h
  exact h

theorem bytes_any {w : World} {B g : Nat} {p : Value} {n : Nat} {most given : Int} {v : Value} {xs : List Value} (h : HeapAt w B g p n most given v xs) : Calls Tryz.prog 8 #[.pointer (some ⟨g, 0, none⟩)] w fun e w' => e = .returned (.int .i64 given) ∧ w' = w := by
  have c4 := h.c4
  go_enter Tryz.func8, Tryz.ntmps8
  go_wp2
  go_ret
  exact ⟨rfl, rfl⟩

theorem count_any {w : World} {B g : Nat} {p : Value} {n : Nat} {most given : Int} {v : Value} {xs : List Value} (h : HeapAt w B g p n most given v xs) : Calls Tryz.prog 9 #[.pointer (some ⟨g, 0, none⟩)] w fun e w' => e = .returned (.int .i64 (n : Int)) ∧ w' = w := by
  obtain ⟨ao, cap, rfl⟩ := rows_slice h.own
  have c2 := h.c2
  go_enter Tryz.func9, Tryz.ntmps9
  go_wp2
  go_ret
  exact ⟨rfl, rfl⟩

theorem room_any {w : World} {B g : Nat} {p : Value} {n k : Nat} {most given : Int} {v : Value} {xs : List Value} (h : HeapAt w B g p n most given v xs) (hk : k ≤ 65536) (h1 : -10000 ≤ most) (h2 : most ≤ 10000) (h3 : 0 ≤ given) (h4 : given ≤ 10000) :
    Calls Tryz.prog 22 #[.pointer (some ⟨g, 0, none⟩), .int .i64 (k : Int)] w fun e w' => e = .returned (.bool (decide (16 + 8 * (k : Int) ≤ most - given))) ∧ Only [] w w' := by
  have c3 := h.c3
  have c4 := h.c4
  clear h
  have HS : Hid (∀ w : World, Calls Tryz.prog 49 #[.int .i64 (k : Int)] w fun e w' => e = .returned (.int .i64 (16 + 8 * (k : Int))) ∧ w' = w) := hid fun _ => sizeOf_any hk
  go_enter Tryz.func22, Tryz.ntmps22
  go_wp2
  go_quiet (first | (go_at_call 49; refine Calls.quiet_of_same (HS.out _)) | fail)
  go_wp2
  go_ret
  exact ⟨by first | kernel_rfl | rfl | simp [Act.put], ⟨rfl, rfl, rfl, Nat.le_refl _, fun _ _ _ => rfl⟩⟩

end Go.Proofs.YtjmodknbifapbaaGreatDoor
