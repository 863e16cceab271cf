/-
  What the rows of this seat share: the laid variables, tied to the program's text; what they say of a world. No conditions.
-/
import Derived.Test.YtllbjkeahafleaaGreatDoorCards
import Derived.Test.YtllbjkeahafleaaGreatDoorRNG
import Derived.LaidByTextLater
import Derived.ChangeSame
import Derived.ChangeVars
import Derived.JoinedOf
import Derived.RowKit
import Derived.RowKitTokens
import Derived.LaidLaws
import Derived.LaidHandle
import Derived.Lib.LaidTab
import Derived.Deep.DeepHandedRow
import Derived.Deep.DeepWitnessRowRef
import Derived.SevenTiedAt
import Derived.ProofKit
import Derived.OpenShut
import Derived.ChangeOld
import Derived.ChangeMaps5
namespace Go.Proofs.YtllbjkeahafleaaGreatDoor
open Go.ChangeShapes Go.WideShapes Go.ChangeAt Go.RowKit

theorem own : ownKnob Tryz.prog.godebug = none := by kernel_rfl
theorem laidOut : laidOutB Tryz.prog = true := by kernel_rfl
theorem wf_i64 {n : Int} (h : (Lit.int .i64 n).wf = true) : -9223372036854775808 ≤ n ∧ n < 9223372036854775808 := by
  simp only [Lit.wf, Bool.and_eq_true, decide_eq_true_eq] at h
  have e1 : IntKind.min .i64 = -9223372036854775808 := by decide
  have e2 : IntKind.max .i64 = 9223372036854775807 := by decide
  rw [e1, e2] at h
  omega

/-- What the rows list. -/
abbrev laidL : List (String × DataW Unit) := [("errors.errorType", Rows.laid_errors_errorType), ("keystone/slow.exceptions", Rows.laid_keystone_slow_exceptions)]
theorem tie_a : Tryz.prog.worded (varsWordLater true) = true := by kernel_rfl
theorem tie_b : Tryz.prog.worded (varsWordLater !true) = false := by kernel_rfl
theorem tie_c : Tryz.prog.worded rootWordLater = true := by kernel_rfl
theorem tie_d : laidL.map (fun x => Tryz.prog.kindOfLater x.1) = [LaidKind.handle, LaidKind.data].map some := by kernel_rfl
theorem tie_e : (Tryz.prog.funcNamed "gosem.cut.vars").isSome = true := by kernel_rfl
theorem tie_f : varsNamedLaterB Tryz.prog (varsId Tryz.prog) laidL = true := by kernel_rfl
theorem tie_g (os : Os) (tape : Tape) : varsDone Tryz.prog 400 (varsId Tryz.prog) os tape = true := by kernel_rfl
theorem tie_h (os : Os) (tape : Tape) : (DataW.laidRun Tryz.prog (varsWorld Tryz.prog 400 (varsId Tryz.prog) os tape).memory 8 ((laidL.filter fun x => x.2.handleName?.isNone).map (·.1))).map (·.1) = some (laidL.filter fun x => x.2.handleName?.isNone) := by kernel_rfl
theorem tie_i (os : Os) (tape : Tape) : (DataW.laidRun Tryz.prog (varsWorld Tryz.prog 400 (varsId Tryz.prog) os tape).memory 8 ((laidL.filter fun x => x.2.handleName?.isNone).map (·.1))).map (fun x => decide x.2.Nodup && laidRowsB Tryz.prog (varsWorld Tryz.prog 400 (varsId Tryz.prog) os tape).memory x.2) = some true := by kernel_rfl
theorem tie_j (os : Os) (tape : Tape) : (laidL.filter fun x => x.2.handleName?.isSome).all (handleAtB Tryz.prog (varsWorld Tryz.prog 400 (varsId Tryz.prog) os tape).memory) = true := by kernel_rfl
theorem own_noUnsafe : Tryz.pinned.checked.prog.headLifts.contains "ownunsafe" = false := by kernel_rfl
theorem own_tie : Tryz.prog.laidByTextLater laidL [.handle, .data] true :=
  Program.laidByTextLater_by_run_h 400 8 tie_a tie_b tie_c tie_d tie_e tie_f tie_g tie_h tie_i tie_j

theorem gExc : Tryz.prog.globalNamed "keystone/slow.exceptions" = some 0 := by kernel_rfl
theorem gExcType : (Tryz.prog.globals[0]?).map (·.type) = some 114 := by kernel_rfl
theorem cellsE : Tryz.prog.cellsOf 114 = 6 := by kernel_rfl
theorem cellsS : Tryz.prog.cellsOf 9 = 1 := by kernel_rfl
def excB2 : List (List UInt8) := Rn.excB
theorem exc_data {H : Type} : (Rows.laid_keystone_slow_exceptions : DataW H) = .agg (Rn.excB.map fun s => .lit (.string s)) := rfl
/-- An array of texts that reads as the row lists it holds its texts, cell for cell. -/
theorem cells_of_exc {H : Type} {enc : TypeId × Value → H} {w : World} {base : Nat} {sp : Nat → Bool} {held : Bool} {fuel : Nat} {cs : List Value} {p : List MemPlace}
    (h : DataW.trod enc Tryz.prog w base sp held fuel 114 cs = some (Rows.laid_keystone_slow_exceptions, p)) : ∀ (i : Nat) (v : Value), Rn.excV[i]? = some v → cs[i]? = some v := by
  rw [exc_data] at h
  cases fuel with
  | zero => simp [DataW.trod] at h
  | succ fuel =>
    simp only [DataW.trod, Tryz.underlying114, cellsS, cellsE, Nat.mul_one] at h
    split at h
    · rename_i hl
      obtain ⟨xs, hm, hx⟩ := Option.map_eq_some_iff.1 h
      have hxs : xs.map (·.1) = Rn.excB.map fun s => (DataW.lit (.string s) : DataW H) := by
        have := congrArg Prod.fst hx
        simpa using this
      intro i v hv
      have hi6 : i < 6 := by
        have := (List.getElem?_eq_some_iff.1 hv).1
        exact this
      obtain ⟨b, hb, hf⟩ := Lib.mapM_at hm i i (by simp [hi6])
      obtain ⟨s, hc, hq, _⟩ := DataW.trod_string Tryz.underlying9 hf
      have h1 : cs[i]? = some (.string s) := by
        have := congrArg (·[0]?) hc
        simpa [List.getElem?_take, List.getElem?_drop] using this
      have h2 : (xs.map (·.1))[i]? = some b.1 := by simp [hb]
      rw [hxs, hq] at h2
      simp only [List.getElem?_map, Option.map_eq_some_iff, DataW.lit.injEq, Lit.string.injEq] at h2
      obtain ⟨s', hs', he⟩ := h2
      have h3 : Rn.excV[i]? = some (.string ⟨⟨s'⟩⟩) := by
        unfold Rn.excV
        rw [List.getElem?_map, hs']
        rfl
      rw [h3] at hv
      cases hv
      rw [h1]
      obtain ⟨⟨l⟩⟩ := s
      have : s' = l := by simpa using he
      rw [this]
    · cases h

theorem gl_laid {W : World} (h : laidMetH Tryz.prog laidL W) : Rn.Gl W := by
  have h1 : laidMet Tryz.prog [("keystone/slow.exceptions", Rows.laid_keystone_slow_exceptions)] W := h.1
  obtain ⟨ps, ⟨g', t', cs, fuel, p, q, hg', ht', hvar, hd, _, _⟩, _⟩ := h1
  obtain rfl := Option.some.inj (gExc.symm.trans hg')
  obtain rfl := Option.some.inj (gExcType.symm.trans ht')
  have hcs := cells_of_exc hd
  refine ⟨fun j v hv => ?_⟩
  have := World.var?_cell gExc hvar j
  rw [this]
  simpa using hcs j v hv

end Go.Proofs.YtllbjkeahafleaaGreatDoor
