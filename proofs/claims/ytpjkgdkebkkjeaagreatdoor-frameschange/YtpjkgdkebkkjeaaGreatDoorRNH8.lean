/-
  known of chapter 8's statements answers true.
-/
import Derived.Test.YtpjkgdkebkkjeaaGreatDoorRNKP
namespace Go.Proofs.YtpjkgdkebkkjeaaGreatDoor
namespace Rn
open Go.RowKit

theorem known_run : evCall Tryz.prog tb ⟨none, none, none, 0, [], []⟩ pl 100000 4 [] ⟨none, 1000, 0⟩ yes = True := by kernel_rfl
theorem ov_none : OvOK Tryz.prog tb ⟨none, none, none, 0, [], []⟩ := {
  ex := fun g f h => by cases h
  wi := fun g hg => by cases hg
  cc := fun g hg => by cases hg
  kn := fun g hg => by cases hg }
theorem known_any (w : World) : Calls Tryz.prog 4 #[] w fun e w' => e = .returned (.bool true) ∧ Below w.heap.size w w' :=
  ran (P := Tryz.prog) (B := tb) (G := pl) (f := 100000) (g := 4) (args := []) (args' := []) tok pok ov_none w (show All2 (VR fun _ => none) ([] : List Value) ([] : List Value) from rfl) known_run trivial

end Rn
end Go.Proofs.YtpjkgdkebkkjeaaGreatDoor
