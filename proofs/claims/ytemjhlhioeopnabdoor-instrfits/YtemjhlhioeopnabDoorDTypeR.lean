/-
  The contract of Type: what is read of whatever text. No conditions.
-/
import Derived.Test.YtemjhlhioeopnabDoorDFirst
import Derived.Test.YtemjhlhioeopnabDoorDRow
namespace Go.Proofs.YtemjhlhioeopnabDoor
open Go.RowKit

def typeR (l : List UInt8) : Ty × Int := match firstP 0 l with | some (t, []) => (t, 0) | _ => ((0, []), 15)

set_option maxHeartbeats 1000000 in
theorem type_any (l : List UInt8) (hl : l.length ≤ 9223372036854775807) (w : World) : Calls Tryd.prog 28 #[.string (str l)] w fun e w' => e = .returned (.tuple #[tyV (typeR l).1, .int .i64 (typeR l).2]) ∧ Only [] w w' := by
  have HF := hid (first_any l hl (w.alloc (.cells #[.int .i64 0, .string ⟨#[]⟩] 62)))
  cases hp : firstP 0 l with
  | none =>
    have e1 : firstR l = ((0, []), [], false) := by simp [firstR, hp]
    have e2 : typeR l = ((0, []), 15) := by simp [typeR, hp]
    rw [e1] at HF
    rw [e2]
    simp only [tyV] at HF ⊢
    go_enter Tryd.func28, Tryd.ntmps28
    go_wp2_with fail
    refine HF.out.mono ?_
    rintro e w1 ⟨rfl, ho1⟩
    have c0 : w1.cell? ⟨w.heap.size, 0, none⟩ = some (.int .i64 0) := by rw [ho1.cell (by simp) (by simp)]; simp
    have c1 : w1.cell? ⟨w.heap.size, 1, none⟩ = some (.string ⟨#[]⟩) := by rw [ho1.cell (by simp) (by simp)]; simp
    have f0 : w1.frozen? ⟨w.heap.size, 0, none⟩ = false := by rw [ho1.frozen (by simp) (by simp)]; simp
    have f1 : w1.frozen? ⟨w.heap.size, 1, none⟩ = false := by rw [ho1.frozen (by simp) (by simp)]; simp
    have hsz := ho1.size
    simp at hsz
    have o1 := ((Only.refl [] w).alloc (.cells #[.int .i64 0, .string ⟨#[]⟩] 62)).next ho1 (by simp)
    have c0' : ∀ o, (w1.alloc o).cell? ⟨w.heap.size, 0, none⟩ = some (.int .i64 0) := fun o => cell_alloc o c0
    have c1' : ∀ o, (w1.alloc o).cell? ⟨w.heap.size, 1, none⟩ = some (.string ⟨#[]⟩) := fun o => cell_alloc o c1
    have f0' : ∀ o, (w1.alloc o).frozen? ⟨w.heap.size, 0, none⟩ = false := fun o => by rw [frozen_alloc o (show w.heap.size < w1.heap.size by omega)]; exact f0
    have f1' : ∀ o, (w1.alloc o).frozen? ⟨w.heap.size, 1, none⟩ = false := fun o => by rw [frozen_alloc o (show w.heap.size < w1.heap.size by omega)]; exact f1
    go_wp2
    obtain ⟨d0, d1⟩ := put2 (.int .i64 0) (.string ⟨#[]⟩) (c0' (.cells #[.int .i64 0, .string (str [])] 62)) (c1' _) (by omega)
    refine bodyPost_ret (v := .tuple #[.agg #[.int .i64 0, .string ⟨#[]⟩], .int .i64 15]) (by simp [results, Tryd.results28, go_sem, d0, d1]) rfl ⟨rfl, ((o1.alloc _).setCell (.inr (by simp)) _).setCell (.inr (by simp)) _⟩
  | some x =>
    obtain ⟨t, r⟩ := x
    have e1 : firstR l = (t, r, true) := by simp [firstR, hp]
    have e2 : typeR l = if r = [] then (t, 0) else ((0, []), 15) := by
      simp only [typeR, hp]
      cases r <;> simp
    rw [e1] at HF
    rw [e2]
    have ht := str_toList r
    have HP := hid hp
    clear hp
    by_cases hr : r = []
    · subst hr
      obtain ⟨d, n⟩ := t
      simp only [tyV, if_true] at HF ⊢
      go_enter Tryd.func28, Tryd.ntmps28
      go_wp2_with fail
      refine HF.out.mono ?_
      rintro e w1 ⟨rfl, ho1⟩
      have c0 : w1.cell? ⟨w.heap.size, 0, none⟩ = some (.int .i64 0) := by rw [ho1.cell (by simp) (by simp)]; simp
      have c1 : w1.cell? ⟨w.heap.size, 1, none⟩ = some (.string ⟨#[]⟩) := by rw [ho1.cell (by simp) (by simp)]; simp
      have f0 : w1.frozen? ⟨w.heap.size, 0, none⟩ = false := by rw [ho1.frozen (by simp) (by simp)]; simp
      have f1 : w1.frozen? ⟨w.heap.size, 1, none⟩ = false := by rw [ho1.frozen (by simp) (by simp)]; simp
      have hsz := ho1.size
      simp at hsz
      have o1 := ((Only.refl [] w).alloc (.cells #[.int .i64 0, .string ⟨#[]⟩] 62)).next ho1 (by simp)
      have c0' : ∀ o, (w1.alloc o).cell? ⟨w.heap.size, 0, none⟩ = some (.int .i64 0) := fun o => cell_alloc o c0
      have c1' : ∀ o, (w1.alloc o).cell? ⟨w.heap.size, 1, none⟩ = some (.string ⟨#[]⟩) := fun o => cell_alloc o c1
      have f0' : ∀ o, (w1.alloc o).frozen? ⟨w.heap.size, 0, none⟩ = false := fun o => by rw [frozen_alloc o (show w.heap.size < w1.heap.size by omega)]; exact f0
      have f1' : ∀ o, (w1.alloc o).frozen? ⟨w.heap.size, 1, none⟩ = false := fun o => by rw [frozen_alloc o (show w.heap.size < w1.heap.size by omega)]; exact f1
      go_wp2
      obtain ⟨d0, d1⟩ := put2 (.int .i64 d) (.string (str n)) (c0' (.cells #[.int .i64 d, .string (str n)] 62)) (c1' _) (by omega)
      refine bodyPost_ret (v := .tuple #[.agg #[.int .i64 d, .string (str n)], .int .i64 0]) (by simp [results, Tryd.results28, go_sem, d0, d1]) rfl ⟨rfl, ((o1.alloc _).setCell (.inr (by simp)) _).setCell (.inr (by simp)) _⟩
    · have hri : r.isEmpty = false := by simpa using hr
      obtain ⟨d, n⟩ := t
      simp only [tyV, hr, if_false] at HF ⊢
      go_enter Tryd.func28, Tryd.ntmps28
      go_wp2_with fail
      refine HF.out.mono ?_
      rintro e w1 ⟨rfl, ho1⟩
      have c0 : w1.cell? ⟨w.heap.size, 0, none⟩ = some (.int .i64 0) := by rw [ho1.cell (by simp) (by simp)]; simp
      have c1 : w1.cell? ⟨w.heap.size, 1, none⟩ = some (.string ⟨#[]⟩) := by rw [ho1.cell (by simp) (by simp)]; simp
      have f0 : w1.frozen? ⟨w.heap.size, 0, none⟩ = false := by rw [ho1.frozen (by simp) (by simp)]; simp
      have f1 : w1.frozen? ⟨w.heap.size, 1, none⟩ = false := by rw [ho1.frozen (by simp) (by simp)]; simp
      have hsz := ho1.size
      simp at hsz
      have o1 := ((Only.refl [] w).alloc (.cells #[.int .i64 0, .string ⟨#[]⟩] 62)).next ho1 (by simp)
      have c0' : ∀ o, (w1.alloc o).cell? ⟨w.heap.size, 0, none⟩ = some (.int .i64 0) := fun o => cell_alloc o c0
      have c1' : ∀ o, (w1.alloc o).cell? ⟨w.heap.size, 1, none⟩ = some (.string ⟨#[]⟩) := fun o => cell_alloc o c1
      have f0' : ∀ o, (w1.alloc o).frozen? ⟨w.heap.size, 0, none⟩ = false := fun o => by rw [frozen_alloc o (show w.heap.size < w1.heap.size by omega)]; exact f0
      have f1' : ∀ o, (w1.alloc o).frozen? ⟨w.heap.size, 1, none⟩ = false := fun o => by rw [frozen_alloc o (show w.heap.size < w1.heap.size by omega)]; exact f1
      go_wp2
      obtain ⟨d0, d1⟩ := put2 (.int .i64 0) (.string ⟨#[]⟩) (c0' (.cells #[.int .i64 d, .string (str n)] 62)) (c1' _) (by omega)
      refine bodyPost_ret (v := .tuple #[.agg #[.int .i64 0, .string ⟨#[]⟩], .int .i64 15]) (by simp [results, Tryd.results28, go_sem, d0, d1]) rfl ⟨rfl, ((o1.alloc _).setCell (.inr (by simp)) _).setCell (.inr (by simp)) _⟩

end Go.Proofs.YtemjhlhioeopnabDoor
