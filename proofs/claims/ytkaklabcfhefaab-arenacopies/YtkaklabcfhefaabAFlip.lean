/-
  The contracts of an arena's empty, Flip. No conditions beyond the receiver's own shape.
-/
import Derived.Test.YtkaklabcfhefaabAMore
import Derived.Deep.RegionHeld3
import Derived.Deep.DeepCutAuto
namespace Go.Proofs.Ytkaklabcfhefaab
open Go.RowKit

set_option linter.unusedSimpArgs false

section
variable {w : World} {N : Nat → Prop} {a : Nat}

theorem slice_none_u (ao : Option Addr) (n cap : Nat) (w : World) : (Instr.slice 28 (.slice ao n cap) none (some (.int .i64 0)) none).run Try.prog w = .ok (.slice ao 0 cap) w := by
  obtain ⟨i0, hi, hz0, hz1, hz2⟩ := info_parts info5
  simp [Instr.slice, run_underlying Try.underlying28, Instr.sliceBounds, run_sliceBound, sizeOf, typeInfo, hi]
  cases ao <;> simp [Addr.add]
theorem slice_none_b (ao : Option Addr) (n cap : Nat) (w : World) : (Instr.slice 29 (.slice ao n cap) none (some (.int .i64 0)) none).run Try.prog w = .ok (.slice ao 0 cap) w := by
  obtain ⟨i0, hi, hz0, hz1, hz2⟩ := info_parts infoB
  simp [Instr.slice, run_underlying Try.underlying29, Instr.sliceBounds, run_sliceBound, sizeOf, typeInfo, hi]
  cases ao <;> simp [Addr.add]

/-- Six cells of a block put, in either order. -/
theorem six_put {t : TypeId} {y0 y1 y2 y3 y4 y5 v6 : Value} (blk : w.heap[a]? = some (.cells #[y0, y1, y2, y3, y4, y5, v6] t (0, 0))) (x0 x1 x2 x3 x4 x5 : Value) :
    ((((((((w.setCell ⟨a, 0, none⟩ x0).setCell ⟨a, 1, none⟩ x1).setCell ⟨a, 2, none⟩ x2).setCell ⟨a, 3, none⟩ x3).setCell ⟨a, 4, none⟩ x4).setCell ⟨a, 5, none⟩ x5).drew).heap[a]? = some (.cells #[x0, x1, x2, x3, x4, x5, v6] t (0, 0)) ∧
    Only [a] w ((((((((w.setCell ⟨a, 0, none⟩ x0).setCell ⟨a, 1, none⟩ x1).setCell ⟨a, 2, none⟩ x2).setCell ⟨a, 3, none⟩ x3).setCell ⟨a, 4, none⟩ x4).setCell ⟨a, 5, none⟩ x5).drew)) ∧
    (((((((w.setCell ⟨a, 0, none⟩ x0).setCell ⟨a, 1, none⟩ x1).setCell ⟨a, 2, none⟩ x2).setCell ⟨a, 3, none⟩ x3).setCell ⟨a, 4, none⟩ x4).setCell ⟨a, 5, none⟩ x5).drew).heap.size = w.heap.size) := by
  have b0 : (w.setCell ⟨a, 0, none⟩ x0).heap[a]? = some (.cells #[x0, y1, y2, y3, y4, y5, v6] t (0, 0)) := heap_setCell_same w a 0 _ _ x0 blk
  have b1 : ((w.setCell ⟨a, 0, none⟩ x0).setCell ⟨a, 1, none⟩ x1).heap[a]? = some (.cells #[x0, x1, y2, y3, y4, y5, v6] t (0, 0)) := heap_setCell_same (w.setCell ⟨a, 0, none⟩ x0) a 1 _ _ x1 b0
  have b2 : (((w.setCell ⟨a, 0, none⟩ x0).setCell ⟨a, 1, none⟩ x1).setCell ⟨a, 2, none⟩ x2).heap[a]? = some (.cells #[x0, x1, x2, y3, y4, y5, v6] t (0, 0)) := heap_setCell_same ((w.setCell ⟨a, 0, none⟩ x0).setCell ⟨a, 1, none⟩ x1) a 2 _ _ x2 b1
  have b3 : ((((w.setCell ⟨a, 0, none⟩ x0).setCell ⟨a, 1, none⟩ x1).setCell ⟨a, 2, none⟩ x2).setCell ⟨a, 3, none⟩ x3).heap[a]? = some (.cells #[x0, x1, x2, x3, y4, y5, v6] t (0, 0)) := heap_setCell_same (((w.setCell ⟨a, 0, none⟩ x0).setCell ⟨a, 1, none⟩ x1).setCell ⟨a, 2, none⟩ x2) a 3 _ _ x3 b2
  have b4 : (((((w.setCell ⟨a, 0, none⟩ x0).setCell ⟨a, 1, none⟩ x1).setCell ⟨a, 2, none⟩ x2).setCell ⟨a, 3, none⟩ x3).setCell ⟨a, 4, none⟩ x4).heap[a]? = some (.cells #[x0, x1, x2, x3, x4, y5, v6] t (0, 0)) := heap_setCell_same ((((w.setCell ⟨a, 0, none⟩ x0).setCell ⟨a, 1, none⟩ x1).setCell ⟨a, 2, none⟩ x2).setCell ⟨a, 3, none⟩ x3) a 4 _ _ x4 b3
  have b5 : ((((((w.setCell ⟨a, 0, none⟩ x0).setCell ⟨a, 1, none⟩ x1).setCell ⟨a, 2, none⟩ x2).setCell ⟨a, 3, none⟩ x3).setCell ⟨a, 4, none⟩ x4).setCell ⟨a, 5, none⟩ x5).heap[a]? = some (.cells #[x0, x1, x2, x3, x4, x5, v6] t (0, 0)) := heap_setCell_same (((((w.setCell ⟨a, 0, none⟩ x0).setCell ⟨a, 1, none⟩ x1).setCell ⟨a, 2, none⟩ x2).setCell ⟨a, 3, none⟩ x3).setCell ⟨a, 4, none⟩ x4) a 5 _ _ x5 b4
  have hd : ∀ W : World, W.drew.heap = W.heap := fun _ => rfl
  refine ⟨by rw [hd]; exact b5, ?_, by rw [hd]; simp⟩
  exact Only.drew (((((((Only.refl [a] w).setCell (.inl (by simp)) _).setCell (.inl (by simp)) _).setCell (.inl (by simp)) _).setCell (.inl (by simp)) _).setCell (.inl (by simp)) _).setCell (.inl (by simp)) _)

theorem two_put {t : TypeId} {x0 y1 y2 x3 x4 x5 x6 : Value} (blk : w.heap[a]? = some (.cells #[x0, y1, y2, x3, x4, x5, x6] t (0, 0))) (x1 x2 : Value) :
    ((w.setCell ⟨a, 1, none⟩ x1).setCell ⟨a, 2, none⟩ x2).drew.heap[a]? = some (.cells #[x0, x1, x2, x3, x4, x5, x6] t (0, 0)) ∧ Only [a] w ((w.setCell ⟨a, 1, none⟩ x1).setCell ⟨a, 2, none⟩ x2).drew ∧ ((w.setCell ⟨a, 1, none⟩ x1).setCell ⟨a, 2, none⟩ x2).drew.heap.size = w.heap.size := by
  have b1 : (w.setCell ⟨a, 1, none⟩ x1).heap[a]? = some (.cells #[x0, x1, y2, x3, x4, x5, x6] t (0, 0)) := heap_setCell_same w a 1 _ _ x1 blk
  have b2 : ((w.setCell ⟨a, 1, none⟩ x1).setCell ⟨a, 2, none⟩ x2).heap[a]? = some (.cells #[x0, x1, x2, x3, x4, x5, x6] t (0, 0)) := heap_setCell_same _ a 2 _ _ x2 b1
  have hd : ∀ W : World, W.drew.heap = W.heap := fun _ => rfl
  refine ⟨by rw [hd]; exact b2, ?_, by rw [hd]; simp⟩
  exact Only.drew (((Only.refl [a] w).setCell (.inl (by simp)) _).setCell (.inl (by simp)) _)

theorem two_put' {t : TypeId} {x0 y1 y2 x3 x4 x5 x6 : Value} (blk : w.heap[a]? = some (.cells #[x0, y1, y2, x3, x4, x5, x6] t (0, 0))) (x1 x2 : Value) :
    ((w.setCell ⟨a, 2, none⟩ x2).setCell ⟨a, 1, none⟩ x1).drew.heap[a]? = some (.cells #[x0, x1, x2, x3, x4, x5, x6] t (0, 0)) ∧ Only [a] w ((w.setCell ⟨a, 2, none⟩ x2).setCell ⟨a, 1, none⟩ x1).drew ∧ ((w.setCell ⟨a, 2, none⟩ x2).setCell ⟨a, 1, none⟩ x1).drew.heap.size = w.heap.size := by
  have b1 : (w.setCell ⟨a, 2, none⟩ x2).heap[a]? = some (.cells #[x0, y1, x2, x3, x4, x5, x6] t (0, 0)) := heap_setCell_same w a 2 _ _ x2 blk
  have b2 : ((w.setCell ⟨a, 2, none⟩ x2).setCell ⟨a, 1, none⟩ x1).heap[a]? = some (.cells #[x0, x1, x2, x3, x4, x5, x6] t (0, 0)) := heap_setCell_same _ a 1 _ _ x1 b1
  have hd : ∀ W : World, W.drew.heap = W.heap := fun _ => rfl
  refine ⟨by rw [hd]; exact b2, ?_, by rw [hd]; simp⟩
  exact Only.drew (((Only.refl [a] w).setCell (.inl (by simp)) _).setCell (.inl (by simp)) _)

set_option maxHeartbeats 2000000 in
theorem empty_raw {ab ah : Option Addr} {n1 n2 p1 p2 : Nat} {x0 x3 x4 x5 x6 : Value} (blk : w.heap[a]? = some (.cells #[x0, .slice ab n1 p1, .slice ah n2 p2, x3, x4, x5, x6] 34 (0, 0))) :
    Calls Try.prog 27 #[.pointer (some ⟨a, 0, none⟩)] w fun e w' => e = .returned (.tuple #[]) ∧ w'.heap[a]? = some (.cells #[x0, .slice ab 0 p1, .slice ah 0 p2, x3, x4, x5, x6] 34 (0, 0)) ∧ Only [a] w w' ∧ w'.heap.size = w.heap.size := by
  have c1 : w.cell? ⟨a, 1, none⟩ = some _ := cell_of_row w a 1 _ _ (0, 0) blk
  have c2 : w.cell? ⟨a, 2, none⟩ = some _ := cell_of_row w a 2 _ _ (0, 0) blk
  have f1 : w.frozen? ⟨a, 1, none⟩ = false := frozen_of_row w a 1 _ _ blk
  have f2 : w.frozen? ⟨a, 2, none⟩ = false := frozen_of_row w a 2 _ _ blk
  have k1 := slice_none_u ab n1 p1
  have k2 := slice_none_b ah n2 p2
  have H := hid blk
  clear blk
  go_enter Try.func27, Try.ntmps27
  go_wp2
  go_region
  all_goals
    go_wp2
    go_end0
    first
    | exact ⟨rfl, two_put H.out _ _⟩
    | exact ⟨rfl, two_put' H.out _ _⟩

set_option maxHeartbeats 2000000 in
theorem flip_raw {m : Int} {ab ah kb kh : Option Addr} {n1 n2 n4 n5 p1 p2 p4 p5 : Nat} {v6 : Value} (blk : w.heap[a]? = some (.cells #[.int .i64 m, .slice ab n1 p1, .slice ah n2 p2, .int .i64 m, .slice kb n4 p4, .slice kh n5 p5, v6] 34 (0, 0))) :
    Calls Try.prog 12 #[.pointer (some ⟨a, 0, none⟩)] w fun e w' => e = .returned (.tuple #[]) ∧ w'.heap[a]? = some (.cells #[.int .i64 m, .slice kb 0 p4, .slice kh 0 p5, .int .i64 m, .slice ab n1 p1, .slice ah n2 p2, .map (some w.heap.size)] 34 (0, 0)) ∧ w'.heap[w.heap.size]? = some (.map #[] 0) ∧ Only [a] w w' := by
  have c0 : w.cell? ⟨a, 0, none⟩ = some _ := cell_of_row w a 0 _ _ (0, 0) blk
  have c1 : w.cell? ⟨a, 1, none⟩ = some _ := cell_of_row w a 1 _ _ (0, 0) blk
  have c2 : w.cell? ⟨a, 2, none⟩ = some _ := cell_of_row w a 2 _ _ (0, 0) blk
  have c3 : w.cell? ⟨a, 3, none⟩ = some _ := cell_of_row w a 3 _ _ (0, 0) blk
  have c4 : w.cell? ⟨a, 4, none⟩ = some _ := cell_of_row w a 4 _ _ (0, 0) blk
  have c5 : w.cell? ⟨a, 5, none⟩ = some _ := cell_of_row w a 5 _ _ (0, 0) blk
  have c6 : w.cell? ⟨a, 6, none⟩ = some _ := cell_of_row w a 6 _ _ (0, 0) blk
  have f : ∀ j, w.frozen? ⟨a, j, none⟩ = false := fun j => frozen_of_row w a j _ _ blk
  go_enter Try.func12, Try.ntmps12
  go_upto_region 0 with fail
  go_cut [] (fun wx => wx.heap[a]? = some (.cells #[.int .i64 m, .slice kb n4 p4, .slice kh n5 p5, .int .i64 m, .slice ab n1 p1, .slice ah n2 p2, v6] 34 (0, 0)) ∧ Only [a] w wx ∧ wx.heap.size = w.heap.size)
  case first =>
    go_wp2
    go_region
    all_goals
      go_wp2
      go_meet
      exact six_put blk _ _ _ _ _ _
  case rest =>
    obtain ⟨hb, ho, hsz⟩ := hcut
    have HE := hid (empty_raw hb)
    have hmm := @run_makeMap Try.prog 32
    clear c0 c1 c2 c3 c4 c5 c6 f
    go_wp2_with (go_at_call 27; refine HE.out.mono ?_; rintro e w1 ⟨rfl, hb1, ho1, hs1⟩; have f6 : w1.frozen? ⟨a, 6, none⟩ = false := frozen_of_row w1 a 6 _ _ hb1; have g6 : (w1.alloc (.map #[] 0)).frozen? ⟨a, 6, none⟩ = false := (frozen_alloc _ (Array.getElem?_eq_some_iff.1 hb1).1).trans f6; have c6 : (w1.alloc (.map #[] 0)).cell? ⟨a, 6, none⟩ = some _ := cell_alloc _ (cell_of_row w1 a 6 _ _ (0, 0) hb1))
    go_end0
    have hz : w1.heap.size = w.heap.size := hs1.trans hsz
    have al : a < w1.heap.size := (Array.getElem?_eq_some_iff.1 hb1).1
    have q1 : (w1.alloc (.map #[] 0)).heap[a]? = _ := (Below.heap_alloc w1 _ a al).trans hb1
    have q2 := heap_setCell_same _ a 6 _ _ (.map (some w.heap.size)) q1
    have q3 : (w1.alloc (.map #[] 0)).heap[w1.heap.size]? = some (.map #[] 0) := heap_alloc_new w1 _
    refine ⟨rfl, q2, ?_, ((ho.trans ho1 (by simp)).alloc _).setCell (.inl (by simp)) _⟩
    rw [Below.heap_setCell _ _ _ _ (by simp; omega), ← hz]
    exact q3
end
end Go.Proofs.Ytkaklabcfhefaab
