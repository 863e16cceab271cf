/-
  The contracts of rowOf, Size, and of the second program's Jumps and Size. No conditions.
-/
import Derived.Test.YtemjhlhioeopnabDoorIPlain
namespace Go.Proofs.YtemjhlhioeopnabDoor
open Go.RowKit

theorem rowI_plain {op : Int} (h0 : 0 ≤ op) (h1 : op ≤ 45) (h2 : ¬ (op = 3)) (h3 : ¬ (op = 4)) (h4 : ¬ (op = 1)) (h5 : op < 19 ∨ 24 < op) (h6 : op < 25 ∨ 30 < op) (h7 : op < 36 ∨ 41 < op) : rowI op = 1 := by
  unfold rowI
  repeat' split
  all_goals omega

set_option maxHeartbeats 800000 in
set_option maxRecDepth 100000 in
theorem row_any (op : Int) (w : World) : Calls Tryd.prog 17 #[.int .i64 op] w fun e w' => e = .returned (.int .i64 (rowI op)) ∧ w' = w := by
  by_cases hs : op = 3 ∨ op = 4 ∨ op = 1 ∨ op = 19 ∨ op = 20 ∨ op = 21 ∨ op = 22 ∨ op = 23 ∨ op = 24 ∨ op = 25 ∨ op = 26 ∨ op = 27 ∨ op = 28 ∨ op = 29 ∨ op = 30 ∨ op = 36 ∨ op = 37 ∨ op = 38 ∨ op = 39 ∨ op = 40 ∨ op = 41
  · rcases hs with rfl | rfl | rfl | rfl | rfl | rfl | rfl | rfl | rfl | rfl | rfl | rfl | rfl | rfl | rfl | rfl | rfl | rfl | rfl | rfl | rfl
    all_goals
      go_enter Tryd.func17, Tryd.ntmps17
      go_wp2
      go_ret
      exact ⟨rfl, rfl⟩
  · simp only [not_or] at hs
    obtain ⟨n3, n4, n1, n19, n20, n21, n22, n23, n24, n25, n26, n27, n28, n29, n30, n36, n37, n38, n39, n40, n41⟩ := hs
    by_cases h0 : op < 0
    · have e1 : rowI op = 0 := by unfold rowI; rw [if_pos (by omega)]
      rw [e1]
      clear e1
      go_enter Tryd.func17, Tryd.ntmps17
      go_wp2
      go_ret
      exact ⟨rfl, rfl⟩
    · by_cases h1 : 45 < op
      · have e1 : rowI op = 0 := by unfold rowI; rw [if_pos (by omega)]
        rw [e1]
        clear e1
        go_enter Tryd.func17, Tryd.ntmps17
        go_wp2
        go_ret
        exact ⟨rfl, rfl⟩
      · have e1 : rowI op = 1 := rowI_plain (by omega) (by omega) n3 n4 n1 (by omega) (by omega) (by omega)
        rw [e1]
        clear e1
        go_enter Tryd.func17, Tryd.ntmps17
        go_wp2
        go_ret
        exact ⟨rfl, rfl⟩

set_option maxHeartbeats 400000 in
set_option maxRecDepth 100000 in
theorem size_any (op : Int) (w : World) : Calls Tryd.prog 11 #[.int .i64 op] w fun e w' => e = .returned (.int .i64 (sizeN op : Int)) ∧ w' = w := by
  have HR := row_any op w
  have hc := row_cases op
  generalize rowI op = r at *
  generalize sizeN op = s at *
  replace HR := hid HR
  rcases hc with ⟨rfl, rfl⟩ | ⟨rfl, rfl⟩ | ⟨rfl, rfl⟩ | ⟨h3, h8, rfl⟩
  · go_enter Tryd.func11, Tryd.ntmps11
    go_wp2_with (go_at_call 17; refine HR.out.mono ?_; rintro e w' ⟨rfl, rfl⟩)
    go_ret
    exact ⟨rfl, rfl⟩
  · go_enter Tryd.func11, Tryd.ntmps11
    go_wp2_with (go_at_call 17; refine HR.out.mono ?_; rintro e w' ⟨rfl, rfl⟩)
    go_ret
    exact ⟨rfl, rfl⟩
  · go_enter Tryd.func11, Tryd.ntmps11
    go_wp2_with (go_at_call 17; refine HR.out.mono ?_; rintro e w' ⟨rfl, rfl⟩)
    go_ret
    exact ⟨rfl, rfl⟩
  · rcases (by omega : r = 3 ∨ r = 4 ∨ r = 5 ∨ r = 6 ∨ r = 7 ∨ r = 8) with rfl | rfl | rfl | rfl | rfl | rfl
    all_goals
      go_enter Tryd.func11, Tryd.ntmps11
      go_wp2_with (go_at_call 17; refine HR.out.mono ?_; rintro e w' ⟨rfl, rfl⟩)
      go_ret
      exact ⟨rfl, rfl⟩

def jumpsI (op : Int) : Bool := decide (19 ≤ op) && decide (op ≤ 24)

end Go.Proofs.YtemjhlhioeopnabDoor