/-
  HierDeep answers true at whatever number, and whether it is a circle or not.
-/
import Derived.Test.YtfedkjmgjdmggaaGreatDoorRND1
import Derived.Test.YtfedkjmgjdmggaaGreatDoorRND2
import Derived.Test.YtfedkjmgjdmggaaGreatDoorRND3
import Derived.Test.YtfedkjmgjdmggaaGreatDoorRND4
import Derived.Test.YtfedkjmgjdmggaaGreatDoorRND5
import Derived.Test.YtfedkjmgjdmggaaGreatDoorRND6
import Derived.Test.YtfedkjmgjdmggaaGreatDoorRND7
import Derived.Test.YtfedkjmgjdmggaaGreatDoorRND8
import Derived.Test.YtfedkjmgjdmggaaGreatDoorRND9
import Derived.Test.YtfedkjmgjdmggaaGreatDoorRND10
namespace Go.Proofs.YtfedkjmgjdmggaaGreatDoor
namespace Rn
open Go.RowKit

theorem deep_walk (w : World) (x : Int) (h1 : -9223372036854775808 ≤ x) (h2 : x < 9223372036854775808) (b : Bool) : Calls Tryz.prog 4 #[.int .i64 x, .bool b] w fun e w' => e = .returned (.bool true) ∧ Below w.heap.size w w' := by
  obtain ⟨c, hc, hl⟩ := left_lt (x := x) (n := 45) (by omega)
  have fin : ∀ (b : Bool) (c : Nat) (hc : c < MK) (hl : left x (45 : Nat) = (c : Int)) (hk : evCall Tryz.prog tb ⟨some 6, some 5⟩ pl 100000 4 [.chan (some (45 * MK + c)), .bool b] ⟨none, 1000⟩ yes = True),
      Calls Tryz.prog 4 #[.int .i64 x, .bool b] w fun e w' => e = .returned (.bool true) ∧ Below w.heap.size w w' := fun b c hc hl hk =>
    ran (args := [.chan (some (45 * MK + c)), .bool b]) (args' := [.int .i64 x, .bool b]) tok pok ov_ok w (show All2 (VR fun _ => none) _ _ from ⟨mark_vr h1 h2 hc hl, bool_vr, rfl⟩) hk
  cases b with
  | false =>
    match c, hc, hl with
    | 0, _, hl => exact fin false 0 (by decide) hl deep0f
    | 1, _, hl => exact fin false 1 (by decide) hl deep1f
    | 2, _, hl => exact fin false 2 (by decide) hl deep2f
    | 3, _, hl => exact fin false 3 (by decide) hl deep3f
    | 4, _, hl => exact fin false 4 (by decide) hl deep4f
    | 5, _, hl => exact fin false 5 (by decide) hl deep5f
    | 6, _, hl => exact fin false 6 (by decide) hl deep6f
    | 7, _, hl => exact fin false 7 (by decide) hl deep7f
    | 8, _, hl => exact fin false 8 (by decide) hl deep8f
    | 9, _, hl => exact fin false 9 (by decide) hl deep9f
    | 10, _, hl => exact fin false 10 (by decide) hl deep10f
    | 11, _, hl => exact fin false 11 (by decide) hl deep11f
    | 12, _, hl => exact fin false 12 (by decide) hl deep12f
    | 13, _, hl => exact fin false 13 (by decide) hl deep13f
    | 14, _, hl => exact fin false 14 (by decide) hl deep14f
    | 15, _, hl => exact fin false 15 (by decide) hl deep15f
    | 16, _, hl => exact fin false 16 (by decide) hl deep16f
    | 17, _, hl => exact fin false 17 (by decide) hl deep17f
    | 18, _, hl => exact fin false 18 (by decide) hl deep18f
    | 19, _, hl => exact fin false 19 (by decide) hl deep19f
    | 20, _, hl => exact fin false 20 (by decide) hl deep20f
    | 21, _, hl => exact fin false 21 (by decide) hl deep21f
    | 22, _, hl => exact fin false 22 (by decide) hl deep22f
    | 23, _, hl => exact fin false 23 (by decide) hl deep23f
    | 24, _, hl => exact fin false 24 (by decide) hl deep24f
    | 25, _, hl => exact fin false 25 (by decide) hl deep25f
    | 26, _, hl => exact fin false 26 (by decide) hl deep26f
    | 27, _, hl => exact fin false 27 (by decide) hl deep27f
    | 28, _, hl => exact fin false 28 (by decide) hl deep28f
    | 29, _, hl => exact fin false 29 (by decide) hl deep29f
    | 30, _, hl => exact fin false 30 (by decide) hl deep30f
    | 31, _, hl => exact fin false 31 (by decide) hl deep31f
    | 32, _, hl => exact fin false 32 (by decide) hl deep32f
    | 33, _, hl => exact fin false 33 (by decide) hl deep33f
    | 34, _, hl => exact fin false 34 (by decide) hl deep34f
    | 35, _, hl => exact fin false 35 (by decide) hl deep35f
    | 36, _, hl => exact fin false 36 (by decide) hl deep36f
    | 37, _, hl => exact fin false 37 (by decide) hl deep37f
    | 38, _, hl => exact fin false 38 (by decide) hl deep38f
    | 39, _, hl => exact fin false 39 (by decide) hl deep39f
    | 40, _, hl => exact fin false 40 (by decide) hl deep40f
    | 41, _, hl => exact fin false 41 (by decide) hl deep41f
    | 42, _, hl => exact fin false 42 (by decide) hl deep42f
    | 43, _, hl => exact fin false 43 (by decide) hl deep43f
    | 44, _, hl => exact fin false 44 (by decide) hl deep44f
    | c + 45, hc, _ => omega
  | true =>
    match c, hc, hl with
    | 0, _, hl => exact fin true 0 (by decide) hl deep0t
    | 1, _, hl => exact fin true 1 (by decide) hl deep1t
    | 2, _, hl => exact fin true 2 (by decide) hl deep2t
    | 3, _, hl => exact fin true 3 (by decide) hl deep3t
    | 4, _, hl => exact fin true 4 (by decide) hl deep4t
    | 5, _, hl => exact fin true 5 (by decide) hl deep5t
    | 6, _, hl => exact fin true 6 (by decide) hl deep6t
    | 7, _, hl => exact fin true 7 (by decide) hl deep7t
    | 8, _, hl => exact fin true 8 (by decide) hl deep8t
    | 9, _, hl => exact fin true 9 (by decide) hl deep9t
    | 10, _, hl => exact fin true 10 (by decide) hl deep10t
    | 11, _, hl => exact fin true 11 (by decide) hl deep11t
    | 12, _, hl => exact fin true 12 (by decide) hl deep12t
    | 13, _, hl => exact fin true 13 (by decide) hl deep13t
    | 14, _, hl => exact fin true 14 (by decide) hl deep14t
    | 15, _, hl => exact fin true 15 (by decide) hl deep15t
    | 16, _, hl => exact fin true 16 (by decide) hl deep16t
    | 17, _, hl => exact fin true 17 (by decide) hl deep17t
    | 18, _, hl => exact fin true 18 (by decide) hl deep18t
    | 19, _, hl => exact fin true 19 (by decide) hl deep19t
    | 20, _, hl => exact fin true 20 (by decide) hl deep20t
    | 21, _, hl => exact fin true 21 (by decide) hl deep21t
    | 22, _, hl => exact fin true 22 (by decide) hl deep22t
    | 23, _, hl => exact fin true 23 (by decide) hl deep23t
    | 24, _, hl => exact fin true 24 (by decide) hl deep24t
    | 25, _, hl => exact fin true 25 (by decide) hl deep25t
    | 26, _, hl => exact fin true 26 (by decide) hl deep26t
    | 27, _, hl => exact fin true 27 (by decide) hl deep27t
    | 28, _, hl => exact fin true 28 (by decide) hl deep28t
    | 29, _, hl => exact fin true 29 (by decide) hl deep29t
    | 30, _, hl => exact fin true 30 (by decide) hl deep30t
    | 31, _, hl => exact fin true 31 (by decide) hl deep31t
    | 32, _, hl => exact fin true 32 (by decide) hl deep32t
    | 33, _, hl => exact fin true 33 (by decide) hl deep33t
    | 34, _, hl => exact fin true 34 (by decide) hl deep34t
    | 35, _, hl => exact fin true 35 (by decide) hl deep35t
    | 36, _, hl => exact fin true 36 (by decide) hl deep36t
    | 37, _, hl => exact fin true 37 (by decide) hl deep37t
    | 38, _, hl => exact fin true 38 (by decide) hl deep38t
    | 39, _, hl => exact fin true 39 (by decide) hl deep39t
    | 40, _, hl => exact fin true 40 (by decide) hl deep40t
    | 41, _, hl => exact fin true 41 (by decide) hl deep41t
    | 42, _, hl => exact fin true 42 (by decide) hl deep42t
    | 43, _, hl => exact fin true 43 (by decide) hl deep43t
    | 44, _, hl => exact fin true 44 (by decide) hl deep44t
    | c + 45, hc, _ => omega

end Rn
end Go.Proofs.YtfedkjmgjdmggaaGreatDoor
