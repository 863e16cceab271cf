/-
  HierRules answers true at whatever number.
-/
import Derived.Test.YtfedkjmgjdmggaaGreatDoorRNR1
namespace Go.Proofs.YtfedkjmgjdmggaaGreatDoor
namespace Rn
open Go.RowKit

theorem rules_walk (w : World) (x : Int) (h1 : -9223372036854775808 ≤ x) (h2 : x < 9223372036854775808) : Calls Tryz.prog 3 #[.int .i64 x] w fun e w' => e = .returned (.bool true) ∧ Below w.heap.size w w' := by
  obtain ⟨c, hc, hl⟩ := left_lt (x := x) (n := 9) (by omega)
  have fin : ∀ (c : Nat) (hc : c < MK) (hl : left x (9 : Nat) = (c : Int)) (hk : evCall Tryz.prog tb ⟨some 6, some 5⟩ pl 100000 3 [.chan (some (9 * MK + c))] ⟨none, 1000⟩ yes = True),
      Calls Tryz.prog 3 #[.int .i64 x] w fun e w' => e = .returned (.bool true) ∧ Below w.heap.size w w' := fun c hc hl hk =>
    ran (args := [.chan (some (9 * MK + c))]) (args' := [.int .i64 x]) tok pok ov_ok w (show All2 (VR fun _ => none) _ _ from ⟨mark_vr h1 h2 hc hl, rfl⟩) hk
  match c, hc, hl with
  | 0, _, hl => exact fin 0 (by decide) hl rules0
  | 1, _, hl => exact fin 1 (by decide) hl rules1
  | 2, _, hl => exact fin 2 (by decide) hl rules2
  | 3, _, hl => exact fin 3 (by decide) hl rules3
  | 4, _, hl => exact fin 4 (by decide) hl rules4
  | 5, _, hl => exact fin 5 (by decide) hl rules5
  | 6, _, hl => exact fin 6 (by decide) hl rules6
  | 7, _, hl => exact fin 7 (by decide) hl rules7
  | 8, _, hl => exact fin 8 (by decide) hl rules8
  | c + 9, hc, _ => omega

end Rn
end Go.Proofs.YtfedkjmgjdmggaaGreatDoor
