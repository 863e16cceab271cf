/-
  The contracts of Check, Number, Object, Element: what each answers of whatever type. No conditions.
-/
import Derived.Test.YtcdjddakdlflmabDName
import Derived.Laws.StructEq
namespace Go.Proofs.Ytcdjddakdlflmab
open Go.RowKit

/-- A type: its dimensions, its name. -/
abbrev Ty := Int × List UInt8
def tyV (t : Ty) : Value := .agg #[.int .i64 t.1, .string (str t.2)]
def tyCheck (t : Ty) : Int := if t.1 < 0 ∨ 8 < t.1 then 1 else if t.2 ≠ [] ∧ nameOK t.2 = false then 14 else 0
def tyObject (t : Ty) : Bool := decide (tyCheck t = 0) && !decide (t = (0, []))
def tyElement (t : Ty) : Ty × Bool := if tyCheck t = 0 ∧ t.1 ≠ 0 then ((t.1 - 1, t.2), true) else ((0, []), false)

set_option maxHeartbeats 400000 in
theorem check_any (t : Ty) (hl : t.2.length ≤ 9223372036854775807) (w : World) : Calls Try.prog 50 #[tyV t] w fun e w' => e = .returned (.int .i64 (tyCheck t)) ∧ Only [] w w' := by
  obtain ⟨d, n⟩ := t
  simp only [tyV]
  have ho := (Only.refl [] w).alloc (.cells #[.int .i64 d, .string (str n)] 31)
  have HN := hid (name_any n hl (w.alloc (.cells #[.int .i64 d, .string (str n)] 31)))
  have ht := str_toList n
  by_cases h1 : d < 0
  · go_enter Try.func50, Try.ntmps50
    go_wp2
    go_ret
    exact ⟨by simp [tyCheck, h1], ho⟩
  by_cases h2 : 8 < d
  · go_enter Try.func50, Try.ntmps50
    go_wp2
    go_ret
    exact ⟨by simp [tyCheck, h2], ho⟩
  by_cases h3 : n = []
  · subst h3
    go_enter Try.func50, Try.ntmps50
    go_wp2_with (go_at_call 28; refine HN.out.mono ?_; rintro e w' ⟨rfl, rfl⟩)
    go_ret
    exact ⟨by simp [tyCheck, h1, h2], ho⟩
  have hi : n.isEmpty = false := by simpa using h3
  cases h4 : nameOK n with
  | true =>
    rw [h4] at HN
    go_enter Try.func50, Try.ntmps50
    go_wp2_with (go_at_call 28; refine HN.out.mono ?_; rintro e w' ⟨rfl, rfl⟩)
    go_ret
    exact ⟨by simp [tyCheck, h1, h2, h4], ho⟩
  | false =>
    rw [h4] at HN
    go_enter Try.func50, Try.ntmps50
    go_wp2_with (go_at_call 28; refine HN.out.mono ?_; rintro e w' ⟨rfl, rfl⟩)
    go_ret
    exact ⟨by simp [tyCheck, h1, h2, h3, h4], ho⟩

theorem eq_type (a b : Ty) (w : World) : (binOp .eql 31 (tyV a) (tyV b)).run Try.prog w = .ok (.bool (decide (a = b))) w := by
  obtain ⟨d, n⟩ := a
  obtain ⟨d', n'⟩ := b
  have hS : Try.prog.underlying 31 = some (.struct (Try.prog.fieldsOf 31)) := by kernel_rfl
  have hp : Try.prog.stoodInHeld 31 = false := by kernel_rfl
  simp only [tyV]
  rw [run_eql_struct, show (10000 : Nat) = 9999 + 1 from rfl, run_equalIn_agg w 9999 31 _ _ hS hp]
  simp only [Program.fieldsOf, Try.underlying31]
  go_simp
  simp only [str_toList]
  by_cases h1 : d = d' <;> by_cases h2 : n = n' <;> simp [h1, h2]

theorem neq_type (a b : Ty) (w : World) : (binOp .neq 31 (tyV a) (tyV b)).run Try.prog w = .ok (.bool (!decide (a = b))) w := by
  obtain ⟨d, n⟩ := a
  obtain ⟨d', n'⟩ := b
  have hS : Try.prog.underlying 31 = some (.struct (Try.prog.fieldsOf 31)) := by kernel_rfl
  have hp : Try.prog.stoodInHeld 31 = false := by kernel_rfl
  simp only [tyV]
  rw [run_neq_struct, show (10000 : Nat) = 9999 + 1 from rfl, run_equalIn_agg w 9999 31 _ _ hS hp]
  simp only [Program.fieldsOf, Try.underlying31]
  go_simp
  simp only [str_toList]
  by_cases h1 : d = d' <;> by_cases h2 : n = n' <;> simp [h1, h2]

theorem ty_zero : tyV (0, []) = .agg #[.int .i64 0, .string ⟨#[]⟩] := rfl

theorem check_bounds {d : Int} {n : List UInt8} (hc : tyCheck (d, n) = 0) : 0 ≤ d ∧ d ≤ 8 := by
  simp only [tyCheck] at hc
  split at hc
  · omega
  · omega

end Go.Proofs.Ytcdjddakdlflmab