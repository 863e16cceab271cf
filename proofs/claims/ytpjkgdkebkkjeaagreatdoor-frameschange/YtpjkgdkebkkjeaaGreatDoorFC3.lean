/-
  The contracts of frames' reached, Reached, replace, Swap. A row has at most eight million places.
-/
import Derived.Test.YtpjkgdkebkkjeaaGreatDoorFC2
import Derived.BigQuiet
namespace Go.Proofs.YtpjkgdkebkkjeaaGreatDoor
open Go.RowKit

set_option maxRecDepth 100000 in
theorem freached_any (s : Vt) (ao so : Option Addr) (n m ac sc : Nat) (w : World) :
    Calls Tryz.prog 23 #[frV s (.slice ao n ac) (.slice so m sc)] w fun e w' => e = .returned (.bool (s.1 != 0)) ∧ Only [] w w' := by
  have o1 := (Only.refl [] w).alloc (.cells #[.int .i64 s.1, .int .i64 s.2.1, .string (str s.2.2.1), .int .i64 s.2.2.2, .slice ao n ac, .slice so m sc] 45)
  obtain ⟨c0, _, _, _, _, _, _⟩ := frB_new w s (.slice ao n ac) (.slice so m sc) 45
  simp only [frV]
  go_enter Tryz.func23, Tryz.ntmps23
  go_wp2
  go_ret
  exact ⟨rfl, o1⟩

set_option maxRecDepth 100000 in
theorem fReached_any (s : Vt) (ao so : Option Addr) (n m ac sc : Nat) (w : World) :
    Calls Tryz.prog 10 #[frV s (.slice ao n ac) (.slice so m sc)] w fun e w' => e = .returned (.bool (s.1 != 0)) ∧ Only [] w w' := by
  have o1 := hid ((Only.refl [] w).alloc (.cells #[.int .i64 s.1, .int .i64 s.2.1, .string (str s.2.2.1), .int .i64 s.2.2.2, .slice ao n ac, .slice so m sc] 28))
  obtain ⟨c0, c1, c2, c3, c4, c5, _⟩ := frB_new w s (.slice ao n ac) (.slice so m sc) 28
  have H := hid (freached_any s ao so n m ac sc)
  simp only [frV] at H ⊢
  go_enter Tryz.func10, Tryz.ntmps10
  go_wp2_with (go_at_call 23; refine (H.out _).mono ?_; rintro e w1 ⟨rfl, q1⟩)
  go_ret
  exact ⟨rfl, o1.out.trans q1 (by simp)⟩

end Go.Proofs.YtpjkgdkebkkjeaaGreatDoor
