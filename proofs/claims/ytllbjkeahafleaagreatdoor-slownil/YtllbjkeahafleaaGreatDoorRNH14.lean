/-
  What is known of within, of known, of a builder's copyCheck holds.
-/
import Derived.Test.YtllbjkeahafleaaGreatDoorRNG
import Derived.Test.YtllbjkeahafleaaGreatDoorRNW14
import Derived.Test.YtllbjkeahafleaaGreatDoorRNB
import Derived.Test.YtllbjkeahafleaaGreatDoorRNIdx
set_option linter.unusedSimpArgs false
namespace Go.Proofs.YtllbjkeahafleaaGreatDoor
namespace Rn
open Go.RowKit

theorem known_run : evCall Tryz.prog tb ⟨none, none, some 367, 517, [], []⟩ pl 100000 4 [] hpG yes = True := by kernel_rfl
theorem ov_none : OvOK Tryz.prog tb ⟨none, none, some 367, 517, [], []⟩ := {
  ex := fun g f h => by cases h
  wi := fun g hg => by cases hg
  cc := fun g hg => by cases hg; exact cc_ok
  kn := fun g hg => by cases hg }
theorem known_any (w : World) (hg : Gl w) : Calls Tryz.prog 4 #[] w fun e w' => e = .returned (.bool true) ∧ Below w.heap.size w w' :=
  ranG (f := 100000) (g := 4) (args := []) (args' := []) (zs := []) ov_none hg (show All2 (VR (placeG [])) ([] : List Value) ([] : List Value) from rfl) known_run trivial
theorem has_body {g : Nat} (h : (match Tryz.prog.funcs[g]? with | some f => f.body.isSome | none => false) = true) : ∃ fn c, Tryz.prog.funcs[g]? = some fn ∧ fn.body = some c := by
  split at h
  · rename_i f hf
    obtain ⟨c, hc⟩ := Option.isSome_iff_exists.1 h
    exact ⟨f, c, hf, hc⟩
  · cases h
theorem ov14 : OvOK Tryz.prog tb ⟨some 9, none, some 367, 517, [(119, false), (120, false)], [(4, knownK), (325, indexK)]⟩ := {
  ex := fun g f h => by
    simp only [findX] at h
    split at h
    · rename_i hb
      have := Nat.eq_of_beq_eq_true hb
      subst this
      cases h
      exact knownK_ok (has_body (by kernel_rfl)) known_any
    · split at h
      · rename_i hb
        have := Nat.eq_of_beq_eq_true hb
        subst this
        cases h
        exact indexK_ok (has_body (by kernel_rfl))
      · cases h
  wi := fun g hg => by
    cases hg
    exact ⟨has_body (by kernel_rfl), fun x n w _ _ h1 h2 => within_left x n w h1 h2⟩
  cc := fun g hg => by cases hg; exact cc_ok
  kn := fun g hg => by cases hg }
/-- A number that is handed in, as a symbol. -/
theorem numG_vr {z : Int} {zs : List Int} (hz : -9223372036854775808 ≤ z ∧ z < 9223372036854775808) : VR (placeG (z :: zs)) (.complex .f32 1010 0) (.int .i64 z) :=
  VR.mk (v := .complex .f32 1010 0) ⟨encZ z, rfl, sym_all hz, (sym_num hz (.inl rfl)).symm⟩
theorem numG1_vr {y z : Int} {zs : List Int} (hz : -9223372036854775808 ≤ z ∧ z < 9223372036854775808) : VR (placeG (y :: z :: zs)) (.complex .f32 1011 0) (.int .i64 z) :=
  VR.mk (v := .complex .f32 1011 0) ⟨encZ z, rfl, sym_all hz, (sym_num hz (.inl rfl)).symm⟩
theorem numG2_vr {x y z : Int} {zs : List Int} (hz : -9223372036854775808 ≤ z ∧ z < 9223372036854775808) : VR (placeG (x :: y :: z :: zs)) (.complex .f32 1012 0) (.int .i64 z) :=
  VR.mk (v := .complex .f32 1012 0) ⟨encZ z, rfl, sym_all hz, (sym_num hz (.inl rfl)).symm⟩

end Rn
end Go.Proofs.YtllbjkeahafleaaGreatDoor
