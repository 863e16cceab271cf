/-
  The table and the plans of this program.
-/
import Derived.Test.YtllbjkeahafleaaGreatDoorRNK0
namespace Go.Proofs.YtllbjkeahafleaaGreatDoor
namespace Rn
theorem tok : TOK Tryz.prog tb := tok_of tab_ok names_ok mixed_ok
theorem parts_ok (P : Program) (h0 : legalFuncs pl (part P 37 0) (37 * 0) = true) (h1 : legalFuncs pl (part P 37 1) (37 * 1) = true) (h2 : legalFuncs pl (part P 37 2) (37 * 2) = true) (h3 : legalFuncs pl (part P 37 3) (37 * 3) = true) (h4 : legalFuncs pl (part P 37 4) (37 * 4) = true) (h5 : legalFuncs pl (part P 37 5) (37 * 5) = true) (h6 : legalFuncs pl (part P 37 6) (37 * 6) = true) (h7 : legalFuncs pl (part P 37 7) (37 * 7) = true) (h8 : legalFuncs pl (part P 37 8) (37 * 8) = true) (h9 : legalFuncs pl (part P 37 9) (37 * 9) = true) (h10 : legalFuncs pl (part P 37 10) (37 * 10) = true) (h11 : legalFuncs pl (part P 37 11) (37 * 11) = true) (h12 : legalFuncs pl (part P 37 12) (37 * 12) = true) (h13 : legalFuncs pl (part P 37 13) (37 * 13) = true) (h14 : legalFuncs pl (part P 37 14) (37 * 14) = true) : ∀ k, k < 15 → legalFuncs pl (part P 37 k) (37 * k) = true
  | 0, _ => h0
  | 1, _ => h1
  | 2, _ => h2
  | 3, _ => h3
  | 4, _ => h4
  | 5, _ => h5
  | 6, _ => h6
  | 7, _ => h7
  | 8, _ => h8
  | 9, _ => h9
  | 10, _ => h10
  | 11, _ => h11
  | 12, _ => h12
  | 13, _ => h13
  | 14, _ => h14
  | k + 15, hk => absurd hk (by omega)
theorem pok : PlansOK Tryz.prog pl := plans_of (P := Tryz.prog) (G := pl) (n := 37) (m := 15) (Nat.succ_pos _) (Nat.le_of_ble_eq_true size_ok) (parts_ok Tryz.prog plans0 plans1 plans2 plans3 plans4 plans5 plans6 plans7 plans8 plans9 plans10 plans11 plans12 plans13 plans14)
end Rn
end Go.Proofs.YtllbjkeahafleaaGreatDoor
