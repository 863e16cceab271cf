/-
  The contract of a strings.Builder's copyCheck: the builder is marked by its own place.
-/
import Derived.Test.YtllbjkeahafleaaGreatDoorRN28
import Derived.Test.YtllbjkeahafleaaGreatDoorProg
import Derived.Tactics
import Derived.WalkSpells
import Derived.Lib.Walk
import Derived.WalkKit
import Derived.Below
import Derived.Outline
import Derived.Lib.Builder
import Derived.Lib.FrozenHead
import Derived.Lib.FrozenHead2
import Derived.Lib.OthersKept
namespace Go.Proofs.YtllbjkeahafleaaGreatDoor
open Go.RowKit

theorem no_escape (x : Value) (w : World) : (callFunc 412 #[x]).run Tryz.prog w = .ok (.value x) w := by
  rw [run_callFunc_extern Tryz.func412 (by kernel_rfl) (by kernel_rfl) (by kernel_rfl) (e := Extern.AbiNoEscape.same) (by kernel_rfl), Lib.run_noEscape]
  rfl

theorem sizeB : (Tryz.prog.info? 517).map (·.size) = some 2 := by kernel_rfl
theorem liesB : liesAt Tryz.prog Tryz.prog.depth 517 (2 / Tryz.prog.cellsOf 517) 0 517 1 = true := by kernel_rfl

set_option maxHeartbeats 400000 in
theorem check_fresh {w : World} {b : Nat} (c0 : w.cell? ⟨b, 0, none⟩ = some (.pointer none)) (hsh : w.shape? b = some (517, 2)) (f0 : w.frozen? ⟨b, 0, none⟩ = false) :
    Calls Tryz.prog 367 #[.pointer (some ⟨b, 0, none⟩)] w fun e w' => e = .returned (.tuple #[]) ∧ w' = w.setCell ⟨b, 0, none⟩ (.pointer (some ⟨b, 0, none⟩)) := by
  obtain ⟨j, hj, hjs⟩ := Option.map_eq_some_iff.1 sizeB
  have k1 := Lib.run_to_unsafe (src := 515) (dst := 330) w ⟨b, 0, none⟩ Tryz.underlying515 Tryz.underlying330 hj (by omega) hsh (Nat.zero_lt_succ 1)
  have k2 := Lib.run_from_unsafe (src := 330) (dst := 515) w ⟨b, 0, none⟩ Tryz.underlying330 Tryz.underlying515 hj hsh liesB
  have k3 := no_escape (.pointer (some ⟨b, 0, none⟩))
  have k4 := fun w => Lib.run_neq_ptr_same (P := Tryz.prog) w ⟨b, 0, none⟩ Tryz.underlying515 hj
  go_enter Tryz.func367, Tryz.ntmps367
  go_wp2
  go_end0
  exact ⟨rfl, rfl⟩

set_option maxHeartbeats 400000 in
theorem check_used {w : World} {b : Nat} (c0 : w.cell? ⟨b, 0, none⟩ = some (.pointer (some ⟨b, 0, none⟩))) :
    Calls Tryz.prog 367 #[.pointer (some ⟨b, 0, none⟩)] w fun e w' => e = .returned (.tuple #[]) ∧ w' = w := by
  obtain ⟨j, hj, hjs⟩ := Option.map_eq_some_iff.1 sizeB
  have k4 := fun w => Lib.run_neq_ptr_same (P := Tryz.prog) w ⟨b, 0, none⟩ Tryz.underlying515 hj
  go_enter Tryz.func367, Tryz.ntmps367
  go_wp2
  go_end0
  exact ⟨rfl, rfl⟩

theorem cc_ok : Rn.CcOK Tryz.prog 367 517 := {
  body := by
    have h : (match Tryz.prog.funcs[367]? with | some f => f.body.isSome | none => false) = true := by kernel_rfl
    split at h
    · rename_i f hf
      obtain ⟨c, hc⟩ := Option.isSome_iff_exists.1 h
      exact ⟨f, c, hf, hc⟩
    · cases h
  fresh := fun _ _ h1 h2 h3 => check_fresh h1 h2 h3
  used := fun _ _ h1 => check_used h1 }

end Go.Proofs.YtllbjkeahafleaaGreatDoor
