/-
  What is known of within, of known and of kind holds.
-/
import Derived.Test.YtldmpcnpgjnddaaGreatDoorRNKP
import Derived.Test.YtldmpcnpgjnddaaGreatDoorRNW9
import Derived.Test.YtldmpcnpgjnddaaGreatDoorRN30
namespace Go.Proofs.YtldmpcnpgjnddaaGreatDoor
namespace Rn
open Go.RowKit

theorem known_run : evCall Tryz.prog tb ⟨none, none, none, 0, [], []⟩ pl 100000 5 [] ⟨none, 1000, 0⟩ yes = True := by kernel_rfl
theorem ov_none : OvOK Tryz.prog tb ⟨none, none, none, 0, [], []⟩ := {
  ex := fun g f h => by cases h
  wi := fun g hg => by cases hg
  cc := fun g hg => by cases hg
  kn := fun g hg => by cases hg }
theorem known_any (w : World) : Calls Tryz.prog 5 #[] w fun e w' => e = .returned (.bool true) ∧ Below w.heap.size w w' :=
  ran (P := Tryz.prog) (B := tb) (G := pl) (f := 100000) (g := 5) (args := []) (args' := []) tok pok ov_none w (show All2 (VR fun _ => none) ([] : List Value) ([] : List Value) from rfl) known_run trivial
theorem has_body {g : Nat} (h : (match Tryz.prog.funcs[g]? with | some f => f.body.isSome | none => false) = true) : ∃ fn c, Tryz.prog.funcs[g]? = some fn ∧ fn.body = some c := by
  split at h
  · rename_i f hf
    obtain ⟨c, hc⟩ := Option.isSome_iff_exists.1 h
    exact ⟨f, c, hf, hc⟩
  · cases h
theorem ov_wi : OvOK Tryz.prog tb ⟨some 6, none, none, 0, [], []⟩ := {
  ex := fun g f h => by cases h
  wi := fun g hg => by
    cases hg
    exact ⟨has_body (by kernel_rfl), fun x n w _ _ h1 h2 => within_left x n w h1 h2⟩
  cc := fun g hg => by cases hg
  kn := fun g hg => by cases hg }
theorem kind_run0 : evCall Tryz.prog tb ⟨some 6, none, none, 0, [], []⟩ pl 100000 12 [.chan (some 524288)] ⟨none, 1000, 0⟩ (tells (.agg ⟨kcells 0⟩)) = True := by kernel_rfl
theorem kind_run1 : evCall Tryz.prog tb ⟨some 6, none, none, 0, [], []⟩ pl 100000 12 [.chan (some 524289)] ⟨none, 1000, 0⟩ (tells (.agg ⟨kcells 1⟩)) = True := by kernel_rfl
theorem kind_run2 : evCall Tryz.prog tb ⟨some 6, none, none, 0, [], []⟩ pl 100000 12 [.chan (some 524290)] ⟨none, 1000, 0⟩ (tells (.agg ⟨kcells 2⟩)) = True := by kernel_rfl
theorem kind_run3 : evCall Tryz.prog tb ⟨some 6, none, none, 0, [], []⟩ pl 100000 12 [.chan (some 524291)] ⟨none, 1000, 0⟩ (tells (.agg ⟨kcells 3⟩)) = True := by kernel_rfl
theorem kind_run4 : evCall Tryz.prog tb ⟨some 6, none, none, 0, [], []⟩ pl 100000 12 [.chan (some 524292)] ⟨none, 1000, 0⟩ (tells (.agg ⟨kcells 4⟩)) = True := by kernel_rfl
theorem kind_run5 : evCall Tryz.prog tb ⟨some 6, none, none, 0, [], []⟩ pl 100000 12 [.chan (some 524293)] ⟨none, 1000, 0⟩ (tells (.agg ⟨kcells 5⟩)) = True := by kernel_rfl
theorem kind_run6 : evCall Tryz.prog tb ⟨some 6, none, none, 0, [], []⟩ pl 100000 12 [.chan (some 524294)] ⟨none, 1000, 0⟩ (tells (.agg ⟨kcells 6⟩)) = True := by kernel_rfl
theorem kind_run7 : evCall Tryz.prog tb ⟨some 6, none, none, 0, [], []⟩ pl 100000 12 [.chan (some 524295)] ⟨none, 1000, 0⟩ (tells (.agg ⟨kcells 7⟩)) = True := by kernel_rfl
theorem kind_ok : KindOK Tryz.prog 12 := {
  body := has_body (by kernel_rfl)
  run := fun x c w h1 h2 hc hl => by
    have fin : ∀ c, c < MK → left x (8 : Nat) = (c : Int) → evCall Tryz.prog tb ⟨some 6, none, none, 0, [], []⟩ pl 100000 12 [.chan (some (8 * MK + c))] ⟨none, 1000, 0⟩ (tells (.agg ⟨kcells c⟩)) = True →
        Calls Tryz.prog 12 #[.int .i64 x] w fun e w' => e = .returned (.agg ⟨kcells c⟩) ∧ Below w.heap.size w w' := fun c hc hl hk =>
      ranV (args := [.chan (some (8 * MK + c))]) (args' := [.int .i64 x]) tok pok ov_wi w (show All2 (VR fun _ => none) _ _ from ⟨mark_vr h1 h2 hc hl, rfl⟩) hk fun φ v hv => kcells_only hv
    match c, hc, hl with
    | 0, _, hl => exact fin 0 (by decide) hl kind_run0
    | 1, _, hl => exact fin 1 (by decide) hl kind_run1
    | 2, _, hl => exact fin 2 (by decide) hl kind_run2
    | 3, _, hl => exact fin 3 (by decide) hl kind_run3
    | 4, _, hl => exact fin 4 (by decide) hl kind_run4
    | 5, _, hl => exact fin 5 (by decide) hl kind_run5
    | 6, _, hl => exact fin 6 (by decide) hl kind_run6
    | 7, _, hl => exact fin 7 (by decide) hl kind_run7
    | c + 8, hc, _ => exact absurd hc (by omega) }
theorem ov_kind : OvOK Tryz.prog tb ⟨some 6, some 5, none, 0, [], [(12, kindK)]⟩ := {
  ex := fun g f h => by
    simp only [findX] at h
    split at h
    · rename_i hb
      have := Nat.eq_of_beq_eq_true hb
      subst this
      cases h
      exact kindK_ok kind_ok
    · cases h
  wi := ov_wi.wi
  cc := fun g hg => by cases hg
  kn := fun g hg => by
    cases hg
    refine ⟨has_body (by kernel_rfl), fun w => (known_any w).mono ?_⟩
    rintro e w' ⟨h1, h2⟩
    exact ⟨h1, h2.size, h2.block, h2.os, h2.tape, h2.output⟩ }
theorem int_size : ∀ i, tget W tb 3 = some i → i.size = 1 := fun i h => by
  have e : tget W tb 3 = some ty3 := by kernel_rfl
  rw [e] at h
  cases h
  rfl

end Rn
end Go.Proofs.YtldmpcnpgjnddaaGreatDoor
