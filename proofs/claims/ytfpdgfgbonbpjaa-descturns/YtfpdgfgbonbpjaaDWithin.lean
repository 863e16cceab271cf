/-
  The contract of within: a number from 0 to n - 1. The second number is more than 0 and less than 1000.
-/
import Derived.Test.YtfpdgfgbonbpjaaDSig
namespace Go.Proofs.Ytfpdgfgbonbpjaa
open Go.RowKit

theorem within_any (a n : Int) (hn : 0 < n ∧ n < 1000) (w : World) : Calls Try.prog 38 #[.int .i64 a, .int .i64 n] w fun e w' => e = .returned (.int .i64 (a % n)) ∧ w' = w := by
  have hz : ¬ (n = 0) := by omega
  have hm : ¬ (n = -1) := by omega
  have b1 := Int.tmod_lt_of_pos a hn.1
  have b2 : -n < a.tmod n := Int.lt_tmod_of_pos a hn.1
  by_cases h : a.tmod n < 0
  · have e : a % n = a.tmod n + n := by
      have q := @Int.emod_eq_tmod a n
      have e0 := Int.emod_nonneg a (by omega : n ≠ 0)
      have e1 : (n.natAbs : Int) = n := Int.natAbs_of_nonneg (by omega)
      split at q
      · omega
      · omega
    go_enter Try.func38, Try.ntmps38
    go_wp2
    go_ret
    first
      | exact ⟨rfl, rfl⟩
      | (rw [e]; exact ⟨rfl, rfl⟩)
  · have e : a % n = a.tmod n := by
      have q := @Int.emod_eq_tmod a n
      have e0 := Int.emod_lt_of_pos a hn.1
      have e1 : (n.natAbs : Int) = n := Int.natAbs_of_nonneg (by omega)
      split at q
      · omega
      · omega
    go_enter Try.func38, Try.ntmps38
    go_wp2
    go_ret
    first
      | exact ⟨rfl, rfl⟩
      | (rw [e]; exact ⟨rfl, rfl⟩)

end Go.Proofs.Ytfpdgfgbonbpjaa
