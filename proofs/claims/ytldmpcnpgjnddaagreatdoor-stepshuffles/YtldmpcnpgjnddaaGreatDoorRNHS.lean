/-
  What is known of calls, with a number that is gone through case by case.
-/
import Derived.Test.YtldmpcnpgjnddaaGreatDoorRNH9
import Derived.Test.YtldmpcnpgjnddaaGreatDoorRN31
import Derived.Test.YtldmpcnpgjnddaaGreatDoorRNKS
namespace Go.Proofs.YtldmpcnpgjnddaaGreatDoor
namespace Rn
open Go.RowKit

theorem ov_split : OvOK Tryz.prog tb ⟨none, some 5, none, 0, [], [(6, split3K), (12, kindK)]⟩ := {
  ex := fun g f h => by
    simp only [findX] at h
    split at h
    · rename_i hb
      have := Nat.eq_of_beq_eq_true hb
      subst this
      cases h
      exact split3K_ok (has_body (by kernel_rfl)) fun x n w _ _ h1 h2 => within_left x n w h1 h2
    · split at h
      · rename_i hb
        have := Nat.eq_of_beq_eq_true hb
        subst this
        cases h
        exact kindK_ok kind_ok
      · cases h
  wi := fun g hg => by cases hg
  cc := fun g hg => by cases hg
  kn := ov_kind.kn }

end Rn
end Go.Proofs.YtldmpcnpgjnddaaGreatDoor
