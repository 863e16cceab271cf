/-
  The contract of right: may an item be written? No conditions.
-/
import Derived.Test.YtgnbimoebaagfabEnc
namespace Go.Proofs.Ytgnbimoebaagfab
open Go.RowKit

theorem right_any (it : Itm) (w : World) (hl : it.bs.length ≤ 9223372036854775807) :
    Calls Try.prog 8 #[.agg #[.int .i64 it.kind, .int .i64 it.n, .slice it.bo it.bs.length it.bcap]] w fun e w' => e = .returned (.bool (rightB it)) ∧ Only [] w w' := by
  obtain ⟨k, n, bo, bs, bcap, bd⟩ := it
  simp only at hl ⊢
  have oa := hid ((Only.refl [] w).alloc (.cells #[.int .i64 k, .int .i64 n, .slice bo bs.length bcap] 29))
  by_cases k1 : k = 1
  · subst k1
    by_cases h0 : 0 ≤ n
    · by_cases h1 : n < 256
      · have e : rightB ⟨1, n, bo, bs, bcap, bd⟩ = true := by simp [rightB, h0, h1]
        rw [e]
        clear e
        go_enter Try.func8, Try.ntmps8
        go_wp2
        go_ret
        exact ⟨rfl, oa.out⟩
      · have e : rightB ⟨1, n, bo, bs, bcap, bd⟩ = false := by simp [rightB]; omega
        rw [e]
        clear e
        go_enter Try.func8, Try.ntmps8
        go_wp2
        go_ret
        exact ⟨rfl, oa.out⟩
    · have e : rightB ⟨1, n, bo, bs, bcap, bd⟩ = false := by simp [rightB]; omega
      rw [e]
      clear e
      go_enter Try.func8, Try.ntmps8
      go_wp2
      go_ret
      exact ⟨rfl, oa.out⟩
  by_cases k2 : k = 2
  · subst k2
    clear k1
    by_cases h0 : 0 ≤ n
    · by_cases h1 : n < 65536
      · have e : rightB ⟨2, n, bo, bs, bcap, bd⟩ = true := by simp [rightB, h0, h1]
        rw [e]
        clear e
        go_enter Try.func8, Try.ntmps8
        go_wp2
        go_ret
        exact ⟨rfl, oa.out⟩
      · have e : rightB ⟨2, n, bo, bs, bcap, bd⟩ = false := by simp [rightB]; omega
        rw [e]
        clear e
        go_enter Try.func8, Try.ntmps8
        go_wp2
        go_ret
        exact ⟨rfl, oa.out⟩
    · have e : rightB ⟨2, n, bo, bs, bcap, bd⟩ = false := by simp [rightB]; omega
      rw [e]
      clear e
      go_enter Try.func8, Try.ntmps8
      go_wp2
      go_ret
      exact ⟨rfl, oa.out⟩
  by_cases k5 : k = 5
  · subst k5
    clear k1 k2
    have e : rightB ⟨5, n, bo, bs, bcap, bd⟩ = decide (bs.length < 256) := by simp [rightB]
    rw [e]
    clear e
    by_cases h1 : bs.length < 256
    · have g1 : ((bs.length : Int) < 256) := by omega
      go_enter Try.func8, Try.ntmps8
      go_wp2
      go_ret
      exact ⟨by simp [h1], oa.out⟩
    · have g1 : ¬ ((bs.length : Int) < 256) := by omega
      go_enter Try.func8, Try.ntmps8
      go_wp2
      go_ret
      exact ⟨by simp, oa.out⟩
  have e : rightB ⟨k, n, bo, bs, bcap, bd⟩ = decide (k = 3 ∨ k = 4) := by simp [rightB, k1, k2, k5]
  rw [e]
  clear e
  have b1 : (k == 1) = false := by simpa using k1
  have b2 : (k == 2) = false := by simpa using k2
  have b5 : (k == 5) = false := by simpa using k5
  clear k1 k2 k5
  by_cases k3 : k = 3
  · subst k3
    go_enter Try.func8, Try.ntmps8
    go_wp2
    go_ret
    exact ⟨by simp, oa.out⟩
  have b3 : (k == 3) = false := by simpa using k3
  by_cases k4 : k = 4
  · subst k4
    clear k3
    go_enter Try.func8, Try.ntmps8
    go_wp2
    go_ret
    exact ⟨by simp, oa.out⟩
  have b4 : (k == 4) = false := by simpa using k4
  have e : decide (k = 3 ∨ k = 4) = false := by simp [k3, k4]
  rw [e]
  clear k3 k4 e
  go_enter Try.func8, Try.ntmps8
  go_wp2
  go_ret
  exact ⟨rfl, oa.out⟩

end Go.Proofs.Ytgnbimoebaagfab
