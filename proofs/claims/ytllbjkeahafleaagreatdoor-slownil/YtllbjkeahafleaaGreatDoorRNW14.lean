/-
  The contract of within: what is left of a number by another one, from 0 on.
-/
import Derived.Test.YtllbjkeahafleaaGreatDoorRN28
import Derived.Test.YtllbjkeahafleaaGreatDoorProg
import Derived.Tactics
namespace Go.Proofs.YtllbjkeahafleaaGreatDoor
open Go.RowKit

theorem within_left (x : Int) (n : Nat) (w : World) (hn0 : 0 < n) (hn1 : n < 1000000000) :
    Calls Tryz.prog 9 #[.int .i64 x, .int .i64 n] w fun e w' => e = .returned (.int .i64 (Rn.left x n)) ∧ w'.heap = w.heap ∧ Rn.Sm w w' := by
  obtain ⟨m, hm⟩ : ∃ m : Int, m = n := ⟨_, rfl⟩
  rw [← hm]
  have hn : 0 < m ∧ m < 1000000000 := by omega
  clear hm hn0 hn1
  have hz : ¬ (m = 0) := by omega
  have hmm : ¬ (m = -1) := by omega
  have b1 := Int.tmod_lt_of_pos x hn.1
  have b2 : -m < x.tmod m := Int.lt_tmod_of_pos x hn.1
  by_cases h : x.tmod m < 0
  · have e : Rn.left x m = x.tmod m + m := if_pos h
    rw [e]
    go_enter Tryz.func9, Tryz.ntmps9
    go_wp2
    go_ret
    have hwr : (x.tmod m + m + 9223372036854775808) % 18446744073709551616 - 9223372036854775808 = x.tmod m + m := by omega
    refine ⟨?_, rfl, Rn.Sm.refl _⟩
    show Ending.returned (.int .i64 ((x.tmod m + m + 9223372036854775808) % 18446744073709551616 - 9223372036854775808)) = _
    rw [hwr]
  · have e : Rn.left x m = x.tmod m := if_neg h
    rw [e]
    go_enter Tryz.func9, Tryz.ntmps9
    go_wp2
    go_ret
    exact ⟨rfl, rfl, Rn.Sm.refl _⟩

end Go.Proofs.YtllbjkeahafleaaGreatDoor
