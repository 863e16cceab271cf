/-
  What is known of within0, of known and of a builder's copyCheck holds.
-/
import Derived.Test.YtialppfpbgaanaaGreatDoorROKP
import Derived.Test.YtialppfpbgaanaaGreatDoorROW10
import Derived.Test.YtialppfpbgaanaaGreatDoorROB
namespace Go.Proofs.YtialppfpbgaanaaGreatDoor
namespace Rn
open Go.RowKit

theorem known_run : evCall Tryz.prog tb ⟨none, none, some 351, 408, [], []⟩ pl 100000 9 [] ⟨none, 1000, 0⟩ yes = True := by kernel_rfl
theorem ov_none : OvOK Tryz.prog tb ⟨none, none, some 351, 408, [], []⟩ := {
  ex := fun g f h => by cases h
  wi := fun g hg => by cases hg
  cc := fun g hg => by cases hg; exact cc_ok
  kn := fun g hg => by cases hg }
theorem known_any (w : World) : Calls Tryz.prog 9 #[] w fun e w' => e = .returned (.bool true) ∧ Below w.heap.size w w' :=
  ran (P := Tryz.prog) (B := tb) (G := pl) (f := 100000) (g := 9) (args := []) (args' := []) tok pok ov_none w (show All2 (VR fun _ => none) ([] : List Value) ([] : List Value) from rfl) known_run trivial
theorem has_body {g : Nat} (h : (match Tryz.prog.funcs[g]? with | some f => f.body.isSome | none => false) = true) : ∃ fn c, Tryz.prog.funcs[g]? = some fn ∧ fn.body = some c := by
  split at h
  · rename_i f hf
    obtain ⟨c, hc⟩ := Option.isSome_iff_exists.1 h
    exact ⟨f, c, hf, hc⟩
  · cases h
theorem ov_ok : OvOK Tryz.prog tb ⟨some 10, some 9, some 351, 408, [(106, false), (107, false)], []⟩ := {
  ex := fun g f h => by cases h
  wi := fun g hg => by
    cases hg
    exact ⟨has_body (by kernel_rfl), fun x n w _ _ h1 h2 => within_left x n w h1 h2⟩
  cc := fun g hg => by cases hg; exact cc_ok
  kn := fun g hg => by
    cases hg
    refine ⟨has_body (by kernel_rfl), fun w => (known_any w).mono ?_⟩
    rintro e w' ⟨h1, h2⟩
    exact ⟨h1, h2.size, h2.block, h2.os, h2.tape, h2.output⟩ }

end Rn
end Go.Proofs.YtialppfpbgaanaaGreatDoor
