/-
  The contract of TypeText: a type's text, or what is wrong with the type. No conditions.
-/
import Derived.Test.YtcdjddakdlflmabDTexts
namespace Go.Proofs.Ytcdjddakdlflmab
open Go.RowKit

/-- A type's text, if it is one. -/
def ttR (t : Ty) : List UInt8 := if tyCheck t = 0 then tyText t else []

theorem name_len {n : List UInt8} (h : nameOK n = true) : n.length ≤ 32 := by
  unfold nameOK at h
  simp at h
  omega

theorem check_fit {t : Ty} (h : tyCheck t = 0) : Fit t := by
  obtain ⟨d, n⟩ := t
  obtain ⟨h1, h2⟩ := check_bounds h
  refine ⟨h1, h2, ?_⟩
  simp only [tyCheck] at h
  split at h
  · omega
  · split at h
    · omega
    · rename_i h4
      by_cases hz : n = []
      · subst hz
        simp
      · have : nameOK n = true := by
          cases hn : nameOK n with
          | true => rfl
          | false => exact absurd ⟨hz, hn⟩ h4
        exact name_len this

/-- A block that holds one type is a row of one type. -/
theorem ts_one (w : World) (t : Ty) (u : TypeId) : TS (w.alloc (.cells #[.int .i64 t.1, .string (str t.2)] u)) (some ⟨w.heap.size, 0, none⟩) [t] w.heap.size := by
  refine .inr ⟨0, rfl, fun j hj => ?_⟩
  have : j = 0 := by simp at hj; omega
  subst this
  exact ⟨by rw [cell_new]; rfl, by rw [cell_new]; rfl⟩

set_option maxHeartbeats 400000 in
set_option maxRecDepth 100000 in
theorem typeText_any (t : Ty) (hl : t.2.length ≤ 9223372036854775807) (w : World) : Calls Try.prog 31 #[tyV t] w fun e w' => e = .returned (.tuple #[.string (str (ttR t)), .int .i64 (tyCheck t)]) ∧ Only [] w w' := by
  obtain ⟨d, n⟩ := t
  have ho := (Only.refl [] w).alloc (.cells #[.int .i64 d, .string (str n)] 31)
  have HC := hid (check_any (d, n) hl (w.alloc (.cells #[.int .i64 d, .string (str n)] 31)))
  by_cases h : tyCheck (d, n) = 0
  · have hf := check_fit h
    have e1 : ttR (d, n) = tyText (d, n) := by simp [ttR, h]
    rw [e1, h]
    rw [h] at HC
    simp only [tyV] at HC ⊢
    go_enter Try.func31, Try.ntmps31
    go_wp2_with fail
    refine HC.out.mono ?_
    rintro e w1 ⟨rfl, ho1⟩
    have c0 : w1.cell? ⟨w.heap.size, 0, none⟩ = some (.int .i64 d) := by rw [ho1.cell (by simp) (by simp), cell_new]; rfl
    have c1 : w1.cell? ⟨w.heap.size, 1, none⟩ = some (.string (str n)) := by rw [ho1.cell (by simp) (by simp), cell_new]; rfl
    have HT := texts_any (cap := 1) (ts_one w1 (d, n) 31) (by intro t ht; simp at ht; subst ht; exact hf) (by simp)
    simp only [tyTexts, List.append_nil, List.length_cons, List.length_nil] at HT
    have HT := hid HT
    go_wp2_with fail
    refine HT.out.mono ?_
    rintro e w2 ⟨rfl, ho2⟩
    go_wp2
    go_ret2
    exact ⟨rfl, ((ho.next ho1 (by simp)).alloc _).next ho2 (by simp)⟩
  · have hne : ¬ (tyCheck (d, n) = 0) := h
    have e1 : ttR (d, n) = [] := by simp [ttR, h]
    rw [e1]
    generalize tyCheck (d, n) = e at *
    simp only [tyV] at HC ⊢
    go_enter Try.func31, Try.ntmps31
    go_wp2_with fail
    refine HC.out.mono ?_
    rintro e w1 ⟨rfl, ho1⟩
    go_wp2
    go_ret2
    exact ⟨rfl, ho.next ho1 (by simp)⟩

end Go.Proofs.Ytcdjddakdlflmab
