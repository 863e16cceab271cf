/-
  SlowNil answers true at whatever arguments.
-/
import Derived.Test.YtllbjkeahafleaaGreatDoorQN1
import Derived.Test.YtllbjkeahafleaaGreatDoorQN2
import Derived.Test.YtllbjkeahafleaaGreatDoorQN3
namespace Go.Proofs.YtllbjkeahafleaaGreatDoor
namespace Rn
open Go.RowKit

theorem nil_walk (w : World) (hg : Gl w) (x0 : Int) (l0 : -9223372036854775808 ≤ x0) (u0 : x0 < 9223372036854775808) : Calls Tryz.prog 3 #[.int .i64 x0] w fun e w' => e = .returned (.bool true) ∧ Below w.heap.size w w' := by
  obtain ⟨c0, hc0, hl0⟩ := left_lt (x := x0) (n := 12) (by omega)
  have fin : ∀ (c0 : Nat) (hc0 : c0 < MK) (hl0 : left x0 (12 : Nat) = (c0 : Int)) (T : Prop) (hk : evCall Tryz.prog tb ⟨some 9, none, some 367, 517, [(119, false), (120, false)], [(4, knownK), (325, indexK)]⟩ pl 100000 3 [.chan (some (12 * MK + c0))] hpG yes = T) (hT : T),
      Calls Tryz.prog 3 #[.int .i64 x0] w fun e w' => e = .returned (.bool true) ∧ Below w.heap.size w w' := fun c0 hc0 hl0 T hk hT =>
    ranG (args := [.chan (some (12 * MK + c0))]) (args' := [.int .i64 x0]) (zs := []) ov14 hg (show All2 (VR (placeG [])) _ _ from ⟨mark_vr l0 u0 hc0 hl0, rfl⟩) hk hT
  match c0, hc0, hl0 with
  | 0, _, hl0 =>
    exact fin 0 (by decide) hl0 _ nil_0 (by simp only [and_self])
  | 1, _, hl0 =>
    exact fin 1 (by decide) hl0 _ nil_1 (by simp only [and_self])
  | 2, _, hl0 =>
    exact fin 2 (by decide) hl0 _ nil_2 (by simp only [and_self])
  | 3, _, hl0 =>
    exact fin 3 (by decide) hl0 _ nil_3 (by simp only [and_self])
  | 4, _, hl0 =>
    exact fin 4 (by decide) hl0 _ nil_4 (by simp only [and_self])
  | 5, _, hl0 =>
    exact fin 5 (by decide) hl0 _ nil_5 (by simp only [and_self])
  | 6, _, hl0 =>
    exact fin 6 (by decide) hl0 _ nil_6 (by simp only [and_self])
  | 7, _, hl0 =>
    exact fin 7 (by decide) hl0 _ nil_7 (by simp only [and_self])
  | 8, _, hl0 =>
    exact fin 8 (by decide) hl0 _ nil_8 (by simp only [and_self])
  | 9, _, hl0 =>
    exact fin 9 (by decide) hl0 _ nil_9 (by simp only [and_self])
  | 10, _, hl0 =>
    exact fin 10 (by decide) hl0 _ nil_10 (by simp only [and_self])
  | 11, _, hl0 =>
    exact fin 11 (by decide) hl0 _ nil_11 (by simp only [and_self])
  | c + 12, hc, _ => exact absurd hc (by omega)

end Rn
end Go.Proofs.YtllbjkeahafleaaGreatDoor
