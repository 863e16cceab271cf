/-
  The contracts of Check, Number, Object, Element: what each answers of whatever type. No conditions.
-/
import Derived.Test.YtemjhlhioeopnabDoorDName
import Derived.Laws.StructEq
namespace Go.Proofs.YtemjhlhioeopnabDoor
open Go.RowKit

/-- A type: its dimensions, its name. -/
abbrev Ty := Int × List UInt8
def tyV (t : Ty) : Value := .agg #[.int .i64 t.1, .string (str t.2)]
def tyCheck (t : Ty) : Int := if t.1 < 0 ∨ 8 < t.1 then 1 else if t.2 ≠ [] ∧ nameOK t.2 = false then 14 else 0
def tyObject (t : Ty) : Bool := decide (tyCheck t = 0) && !decide (t = (0, []))
def tyElement (t : Ty) : Ty × Bool := if tyCheck t = 0 ∧ t.1 ≠ 0 then ((t.1 - 1, t.2), true) else ((0, []), false)

theorem eq_type (a b : Ty) (w : World) : (binOp .eql 62 (tyV a) (tyV b)).run Tryd.prog w = .ok (.bool (decide (a = b))) w := by
  obtain ⟨d, n⟩ := a
  obtain ⟨d', n'⟩ := b
  have hS : Tryd.prog.underlying 62 = some (.struct (Tryd.prog.fieldsOf 62)) := by kernel_rfl
  have hp : Tryd.prog.stoodInHeld 62 = false := by kernel_rfl
  simp only [tyV]
  rw [run_eql_struct, show (10000 : Nat) = 9999 + 1 from rfl, run_equalIn_agg w 9999 62 _ _ hS hp]
  simp only [Program.fieldsOf, Tryd.underlying62]
  go_simp
  simp only [str_toList]
  by_cases h1 : d = d' <;> by_cases h2 : n = n' <;> simp [h1, h2]

theorem neq_type (a b : Ty) (w : World) : (binOp .neq 62 (tyV a) (tyV b)).run Tryd.prog w = .ok (.bool (!decide (a = b))) w := by
  obtain ⟨d, n⟩ := a
  obtain ⟨d', n'⟩ := b
  have hS : Tryd.prog.underlying 62 = some (.struct (Tryd.prog.fieldsOf 62)) := by kernel_rfl
  have hp : Tryd.prog.stoodInHeld 62 = false := by kernel_rfl
  simp only [tyV]
  rw [run_neq_struct, show (10000 : Nat) = 9999 + 1 from rfl, run_equalIn_agg w 9999 62 _ _ hS hp]
  simp only [Program.fieldsOf, Tryd.underlying62]
  go_simp
  simp only [str_toList]
  by_cases h1 : d = d' <;> by_cases h2 : n = n' <;> simp [h1, h2]

theorem ty_zero : tyV (0, []) = .agg #[.int .i64 0, .string ⟨#[]⟩] := rfl

theorem number_any (t : Ty) (w : World) : Calls Tryd.prog 30 #[tyV t] w fun e w' => e = .returned (.bool (decide (t = (0, [])))) ∧ Only [] w w' := by
  have hq := eq_type t (0, [])
  obtain ⟨d, n⟩ := t
  rw [ty_zero] at hq
  simp only [tyV] at hq ⊢
  have ho := (Only.refl [] w).alloc (.cells #[.int .i64 d, .string (str n)] 62)
  go_enter Tryd.func30, Tryd.ntmps30
  go_wp2
  go_ret
  exact ⟨by simp, ho⟩

theorem check_bounds {d : Int} {n : List UInt8} (hc : tyCheck (d, n) = 0) : 0 ≤ d ∧ d ≤ 8 := by
  simp only [tyCheck] at hc
  split at hc
  · omega
  · omega

end Go.Proofs.YtemjhlhioeopnabDoor