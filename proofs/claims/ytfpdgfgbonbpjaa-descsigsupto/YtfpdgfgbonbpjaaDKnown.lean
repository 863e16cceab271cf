/-
  The contract of known, the chapter's first example: it answers true. No conditions.
-/
import Derived.Test.YtfpdgfgbonbpjaaDSig
namespace Go.Proofs.Ytfpdgfgbonbpjaa
open Go.RowKit

set_option maxHeartbeats 1000000 in
set_option maxRecDepth 100000 in
theorem known_any (w : World) : Calls Try.prog 12 #[] w fun e w' => e = .returned (.bool true) ∧ Only [] w w' := by
  have HT := type_any [91, 91, 76, 78, 111, 100, 101, 59] (by decide) w
  have e1 : typeR [91, 91, 76, 78, 111, 100, 101, 59] = ((2, [78, 111, 100, 101]), 0) := by decide
  rw [e1] at HT
  simp only [str, tyV] at HT
  have HT := hid HT
  go_enter Try.func12, Try.ntmps12
  go_wp2_with fail
  refine HT.out.mono ?_
  rintro e w1 ⟨rfl, ho1⟩
  have HS := sig_any [40, 73, 91, 73, 76, 65, 59, 41, 86] (by decide) (w1.alloc (.cells #[.int .i64 2, .string ⟨[78, 111, 100, 101].toArray⟩] 23))
  have e2 : sigR [40, 73, 91, 73, 76, 65, 59, 41, 86] = (([(0, []), (1, []), (0, [65])], true, (0, [])), 0) := by decide
  rw [e2] at HS
  simp only [str, sigV] at HS
  have HS := hid HS
  go_wp2_with fail
  refine HS.out.mono ?_
  rintro e w2 ⟨v, rfl, hown, ho2⟩
  obtain ⟨ao, cap, rfl⟩ := own_slice hown
  have c0 : ∀ o, (w2.alloc o).cell? ⟨w1.heap.size, 0, none⟩ = some (.int .i64 2) := fun o => cell_alloc o (by rw [ho2.cell (by simp) (by simp), cell_new]; rfl)
  have c1 : ∀ o, (w2.alloc o).cell? ⟨w1.heap.size, 1, none⟩ = some (.string ⟨#[78, 111, 100, 101]⟩) := fun o => cell_alloc o (by rw [ho2.cell (by simp) (by simp), cell_new]; rfl)
  have hq := eq_type (2, [78, 111, 100, 101]) (2, [78, 111, 100, 101])
  simp only [tyV, str] at hq
  go_wp2
  go_ret
  refine ⟨by simp, ?_⟩
  exact (((ho1.alloc _).next ho2 (by simp))).alloc _

end Go.Proofs.Ytfpdgfgbonbpjaa
