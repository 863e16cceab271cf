/-
  The contracts of place's methods and of a reader's take: what each call answers and what it leaves in memory. No conditions beyond the receiver's own shape.
-/
import Derived.Test.YtmghmmkjcgopaaaCBase
namespace Go.Proofs.Ytmghmmkjcgopaaa
open Go.RowKit

theorem fine_any (r : Nat) (x : Int) (w : World) (h1 : w.cell? ⟨r, 1, none⟩ = some (.int .i64 x)) :
    Calls Try.prog 36 #[.pointer (some ⟨r, 0, none⟩)] w fun e w' => e = .returned (.bool (x == 0)) ∧ w = w' := by
  go_enter Try.func36, Try.ntmps36
  go_wp2
  go_ret
  exact ⟨rfl, rfl⟩

theorem fail_new (r : Nat) (x : Int) (w : World) (h1 : w.cell? ⟨r, 1, none⟩ = some (.int .i64 0)) (f1 : w.frozen? ⟨r, 1, none⟩ = false) :
    Calls Try.prog 43 #[.pointer (some ⟨r, 0, none⟩), .int .i64 x] w fun e w' => e = .returned (.tuple #[]) ∧ w.setCell ⟨r, 1, none⟩ (.int .i64 x) = w' := by
  go_enter Try.func43, Try.ntmps43
  go_wp2_with (go_at_call 36; refine (fine_any r 0 _ (by assumption)).mono ?_; rintro e w' ⟨rfl, rfl⟩)
  go_end0
  exact ⟨rfl, rfl⟩

theorem fail_old (r : Nat) (x y : Int) (w : World) (hy : (y == 0) = false) (h1 : w.cell? ⟨r, 1, none⟩ = some (.int .i64 y)) :
    Calls Try.prog 43 #[.pointer (some ⟨r, 0, none⟩), .int .i64 x] w fun e w' => e = .returned (.tuple #[]) ∧ w = w' := by
  go_enter Try.func43, Try.ntmps43
  go_wp2_with (go_at_call 36; refine (fine_any r y _ (by assumption)).mono ?_; rintro e w' ⟨rfl, rfl⟩)
  go_end0
  exact ⟨rfl, rfl⟩

theorem move_any (r n m : Nat) (w : World) (h0 : w.cell? ⟨r, 0, none⟩ = some (.int .i64 (n : Int))) (f0 : w.frozen? ⟨r, 0, none⟩ = false) (hb : n + m ≤ 9223372036854775807) :
    Calls Try.prog 46 #[.pointer (some ⟨r, 0, none⟩), .int .i64 (m : Int)] w fun e w' => e = .returned (.tuple #[]) ∧ w.setCell ⟨r, 0, none⟩ (.int .i64 ((n + m : Nat) : Int)) = w' := by
  go_enter Try.func46, Try.ntmps46
  go_wp2
  go_end0
  exact ⟨rfl, by simp⟩

end Go.Proofs.Ytmghmmkjcgopaaa
