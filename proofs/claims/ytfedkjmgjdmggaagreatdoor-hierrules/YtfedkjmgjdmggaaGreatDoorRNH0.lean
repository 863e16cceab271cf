/-
  What is known of within and of known holds.
-/
import Derived.Test.YtfedkjmgjdmggaaGreatDoorRNK0
import Derived.Test.YtfedkjmgjdmggaaGreatDoorRNW6
namespace Go.Proofs.YtfedkjmgjdmggaaGreatDoor
namespace Rn
open Go.RowKit

theorem known_run : evCall Tryz.prog tb ⟨none, none⟩ pl 100000 5 [] ⟨none, 1000⟩ yes = True := by kernel_rfl
theorem ov_none : OvOK Tryz.prog ⟨none, none⟩ := ⟨(fun _ h => by cases h), (fun _ h => by cases h)⟩
theorem known_any (w : World) : Calls Tryz.prog 5 #[] w fun e w' => e = .returned (.bool true) ∧ Below w.heap.size w w' :=
  ran (P := Tryz.prog) (B := tb) (O := ⟨none, none⟩) (G := pl) (f := 100000) (g := 5) (args := []) (args' := []) tok pok ov_none w (show All2 (VR fun _ => none) ([] : List Value) ([] : List Value) from rfl) known_run
theorem has_body {g : Nat} (h : (match Tryz.prog.funcs[g]? with | some f => f.body.isSome | none => false) = true) : ∃ fn c, Tryz.prog.funcs[g]? = some fn ∧ fn.body = some c := by
  split at h
  · rename_i f hf
    obtain ⟨c, hc⟩ := Option.isSome_iff_exists.1 h
    exact ⟨f, c, hf, hc⟩
  · cases h
theorem ov_ok : OvOK Tryz.prog ⟨some 6, some 5⟩ := {
  wi := fun g hg => by
    cases hg
    exact ⟨has_body (by kernel_rfl), fun x n w _ _ h1 h2 => within_left x n w h1 h2⟩
  kn := fun g hg => by
    cases hg
    refine ⟨has_body (by kernel_rfl), fun w => (known_any w).mono ?_⟩
    rintro e w' ⟨h1, h2⟩
    exact ⟨h1, h2.size, h2.block, h2.os, h2.tape, h2.output⟩ }

end Rn
end Go.Proofs.YtfedkjmgjdmggaaGreatDoor
