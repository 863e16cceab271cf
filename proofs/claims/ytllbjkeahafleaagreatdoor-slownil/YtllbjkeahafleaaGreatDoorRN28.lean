/-
  The end: what the runner has followed of a call, the machine does; what was there is as it was.
-/
import Derived.Test.YtllbjkeahafleaaGreatDoorRN27
import Derived.Below
set_option linter.unusedSimpArgs false
namespace Go.Proofs.YtllbjkeahafleaaGreatDoor
namespace Rn
open Go.RowKit

section
variable {P : Program} {B : Tb} {O : Ov} {G : Plans}

theorem wr_none {φ : Fi} (w : World) (hφ : ∀ r, 1000 ≤ r → φ r = none) (hg : GlOK φ := by exact GlOK.none) : WR B φ ⟨none, 1000, 0⟩ w :=
  ⟨(fun r o h => by cases h), (fun r r' o o' s _ h => by cases h), hφ, (fun r o h => by cases h), by show 1000 ≤ MOST + 1; simp only [MOST]; omega, Nat.le_refl _, hg⟩
theorem st_below {φ φ' : Fi} {h' : Hp} {w w' : World} (hst : St φ ⟨none, 1000, 0⟩ w φ' h' w') : Below w.heap.size w w' :=
  ⟨hst.sm.1, hst.sm.2.1, hst.sm.2.2, hst.size, fun k hk => hst.keep k hk fun r o s h => by cases h⟩

/-- A call that the runner has followed. -/
theorem ran {f g : Nat} {args args' : List Value} (hB : TOK P B) (hG : PlansOK P G) (hO : OvOK P B O) (w : World) (hargs : All2 (VR fun _ => none) args args') {T : Prop} (hk0 : evCall P B O G f g args ⟨none, 1000, 0⟩ yes = T) (hT : T) :
    Calls P g args'.toArray w fun e w' => e = .returned (.bool true) ∧ Below w.heap.size w w' := by
  have hk : evCall P B O G f g args ⟨none, 1000, 0⟩ yes := Eq.mpr hk0 hT
  refine ((callN_ok hB hG (evCode_ok hB hG hO f [] [] trivial)).run (φ := fun _ => none) (wr_none w fun _ _ => rfl) trivial hargs hk).mono ?_
  rintro e w' ⟨φ', h', v, v', rfl, h1, h2, h3, h4⟩
  refine ⟨?_, st_below h3⟩
  unfold yes at h4
  split at h4
  · have : v' = .bool true := h1.inv
    rw [this]
  · exact h4.elim

/-- A number, by what is left of it. -/
theorem mark_vr {φ : Fi} {x : Int} {n c : Nat} (h1 : -9223372036854775808 ≤ x) (h2 : x < 9223372036854775808) (hc : c < MK) (hl : left x n = (c : Int)) : VR φ (.chan (some (n * MK + c))) (.int .i64 x) := by
  refine VR.mk (v := .chan (some (n * MK + c))) ⟨x, rfl, h1, h2, ?_⟩
  have e1 : (n * MK + c) / MK = n := by simp only [MK] at hc ⊢; omega
  have e2 : (n * MK + c) % MK = c := by simp only [MK] at hc ⊢; omega
  rw [e1, e2]
  exact hl
theorem left_lt {x : Int} {n : Nat} (hn : 0 < n) : ∃ c : Nat, c < n ∧ left x n = (c : Int) := by
  have hn' : (0 : Int) < n := by omega
  have h1 : x.tmod n < n := Int.tmod_lt_of_pos x hn'
  have h2 : -(n : Int) < x.tmod n := by
    rcases (show x < 0 ∨ 0 ≤ x by omega) with hx | hx
    · have := Int.tmod_lt_of_pos (-x) hn'
      rw [Int.neg_tmod] at this
      omega
    · have := Int.tmod_nonneg (n : Int) hx
      omega
  unfold left
  split
  · exact ⟨(x.tmod n + n).toNat, by omega, by omega⟩
  · exact ⟨(x.tmod n).toNat, by omega, by omega⟩
end

end Rn
end Go.Proofs.YtllbjkeahafleaaGreatDoor
