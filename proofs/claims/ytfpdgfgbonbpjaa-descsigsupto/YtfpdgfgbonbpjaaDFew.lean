/-
  The contract of few. No conditions.
-/
import Derived.Test.YtfpdgfgbonbpjaaDSig
namespace Go.Proofs.Ytfpdgfgbonbpjaa
open Go.RowKit

theorem few_any (ao : Option Addr) (n cap : Nat) (v : Bool) (t : Ty) (w : World) : Calls Try.prog 26 #[sigV (.slice ao n cap) v t] w fun e w' => e = .returned (.bool (decide (n < 100))) ∧ Only [] w w' := by
  obtain ⟨d0, n0⟩ := t
  simp only [sigV]
  have e1 : Hid (decide (n < 100) = decide ((n : Int) < 100)) := decide_eq_decide.2 (by omega)
  rw [e1.out]
  go_enter Try.func26, Try.ntmps26
  go_wp2
  go_ret
  exact ⟨by simp, (Only.refl [] w).alloc _⟩

end Go.Proofs.Ytfpdgfgbonbpjaa
