/-
  The contract of SameWords, at lists that are the same. No conditions beyond the arguments' own shape.
-/
import Derived.Test.YtkaklabcfhefaabAHelp
namespace Go.Proofs.Ytkaklabcfhefaab
open Go.RowKit

set_option maxHeartbeats 1000000 in
theorem same_any {w : World} {ao bo : Option Addr} {l : List Int} {n d e ca cb : Nat} (ha : RS w ao (ics l) d) (hb : RS w bo (ics l) e) (hn : l.length = n) (hl : n ≤ 1000000) :
    Calls Try.prog 18 #[.slice ao n ca, .slice bo n cb] w fun e w' => e = .returned (.bool true) ∧ ∃ k, w' = w.drewN k := by
  have HA := hid ha
  have HB := hid hb
  clear ha hb
  go_enter Try.func18, Try.ntmps18
  go_wp2
  go_loopw [5] (fun i wr => ∃ k : Nat, k ≤ n ∧ i = .int .i64 (k : Int) ∧ ∃ m, wr = w.drewN m) (fun i _ => n - (intOf i).toNat)
  case atStart => exact ⟨0, Nat.zero_le _, rfl, 0, rfl⟩
  case round =>
    obtain ⟨k, hk, rfl, m, rfl⟩ := hrel
    by_cases hlt : k < n
    · obtain ⟨o1, rfl, h1⟩ := HA.out.at (j := k) (by rw [ics_length]; omega)
      obtain ⟨o2, rfl, h2⟩ := HB.out.at (j := k) (by rw [ics_length]; omega)
      have c1 := h1 k _ (ics_get _ k (by omega))
      have c2 := h2 k _ (ics_get _ k (by omega))
      clear h1 h2
      have i1 : (k : Int) < (n : Int) := by omega
      have hkl : k < l.length := by omega
      generalize l[k] = y at *
      go_wp2
      go_quiet (fail)
      go_wp2
      exact ⟨⟨k + 1, hlt, by go_num, _, by first | rfl | exact World.drewN_drewN _ _ _⟩, by simp [intOf]; omega⟩
    · have i1 : ¬ (k : Int) < (n : Int) := by omega
      go_wp2
      go_ret
      exact ⟨rfl, m, rfl⟩

end Go.Proofs.Ytkaklabcfhefaab
