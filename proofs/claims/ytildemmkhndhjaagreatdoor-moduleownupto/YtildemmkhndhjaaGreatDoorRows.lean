/-
  NARROWER THAN 'FOR EVERY INPUT', by the rows' own cells (each row's printed sentence says how): ModuleLimits: laid · ModuleOne: laid · ModuleOwn: laid.
  DERIVED. THE GIVEN ROWS OF THIS SEAT. 3 by the template 'for every input the law returns true; each argument reads behind the call as it read before'; 0 by the template 'total and deterministic' (their statements: YtildemmkhndhjaaGreatDoorTotals.lean).
  GIVEN WITH THE SEED: the statements are not yours to turn. If you find one false, say at which input.
  Laid BY PROGRAM, IN A SANDBOX (cutbox-rows.mjs): the forced cells as the released guide's own fill.sh prints them over the translation 5510912ccfd01ba3… (all of the seat's roots in one cut). By AI agents, Wed Nov 11 2026. No macro, syntax, notation, axiom, sorry.
-/
import Derived.Test.YtildemmkhndhjaaGreatDoorChecked
import GoSem.Claim
import GoSem.ClaimJoined
import GoSem.ClaimMapViews
import Derived.JoinedTies
import Derived.KernelRfl
namespace Go.Proofs.YtildemmkhndhjaaGreatDoor
/- THE CELL 'sum', in the pinned program and in every row, IS THE sha256 OF THE DUMP (.gsa) THAT YtildemmkhndhjaaGreatDoorProg.lean LOADS. Nothing in Lean hashes anything: it is a label: what it is worth is what the hold of that sum in a sandbox is worth. -/
noncomputable def Tryz.pinned : Pinned := { name := "ytildemmkhndhjaagreatdoor", sum := "5510912ccfd01ba3a81c7d67ae87f8f019d0087023d29d27942c2e061e331260", checked := Tryz.checked }
namespace Rows
def none {H : Type} : Left H := { results := [], args := [] }

/- WHAT THE LISTED PACKAGE-LEVEL VARIABLES READ AS WHEN THE CALL BEGINS. Each datum BY PROGRAM (the guide's laid-datum.mjs) off the statement by which the dump's own 'gosem.cut.vars' lays the variable. In a bare row this is a premise. The card (YtildemmkhndhjaaGreatDoorCards.lean) ties it to the program's text. -/
def laid_errors_errorType {H : Type} : DataW H := .iface "internal/reflectlite.rtype" (.agg [.ptr (.lit (.string [101, 114, 114, 111, 114]))])

/-- 'keystonelaw5.ModuleLimits': WHATEVER THE INPUT: true; the input reads as it did. -/
def moduleLimitsSpec : ChangeSpec := { name := "moduleLimits", fn := fun _ => fun
  | [d1, d2] => { results := [.lit (.bool true)], args := [d1, d2] }
  | _ => none }
def moduleLimitsRow : OpenClaim := { program := "ytildemmkhndhjaagreatdoor", sum := "5510912ccfd01ba3a81c7d67ae87f8f019d0087023d29d27942c2e061e331260", func := "keystone/keystonelaw5.ModuleLimits", spec := "moduleLimits", inPlace := ["internal/bytealg.IndexByteString", "internal/reflectlite.ValueOf", "(internal/reflectlite.Value).Type", "(internal/reflectlite.Value).IsNil", "internal/reflectlite.TypeOf", "(internal/reflectlite.Value).Elem", "(internal/reflectlite.Value).Set", "internal/abi.NoEscape", "internal/bytealg.MakeNoZero"], unfollowed := true, recurses := true, named := ["errors.errorType"], apart := false, laid := [("errors.errorType", laid_errors_errorType)] }
def ModuleLimitsSaid : Prop := moduleLimitsRow.holds Tryz.pinned (OpenSpec.ofChange moduleLimitsSpec)

/-- ITS FALSE NEIGHBOUR: 'it returns false'. Refute it at one input. -/
def moduleLimitsWrong : ChangeSpec := { name := "moduleLimits", fn := fun _ => fun
  | [d1, d2] => { results := [.lit (.bool false)], args := [d1, d2] }
  | _ => none }
def ModuleLimitsWrongFalsely : Prop := moduleLimitsRow.holds Tryz.pinned (OpenSpec.ofChange moduleLimitsWrong)

/-- 'keystonelaw5.ModuleOne': WHATEVER THE INPUT: true; the input reads as it did. -/
def moduleOneSpec : ChangeSpec := { name := "moduleOne", fn := fun _ => fun
  | [d1, d2] => { results := [.lit (.bool true)], args := [d1, d2] }
  | _ => none }
def moduleOneRow : OpenClaim := { program := "ytildemmkhndhjaagreatdoor", sum := "5510912ccfd01ba3a81c7d67ae87f8f019d0087023d29d27942c2e061e331260", func := "keystone/keystonelaw5.ModuleOne", spec := "moduleOne", inPlace := ["internal/bytealg.IndexByteString", "internal/reflectlite.ValueOf", "(internal/reflectlite.Value).Type", "(internal/reflectlite.Value).IsNil", "internal/reflectlite.TypeOf", "(internal/reflectlite.Value).Elem", "(internal/reflectlite.Value).Set", "internal/abi.NoEscape", "internal/bytealg.MakeNoZero"], unfollowed := true, recurses := true, named := ["errors.errorType"], apart := false, laid := [("errors.errorType", laid_errors_errorType)] }
def ModuleOneSaid : Prop := moduleOneRow.holds Tryz.pinned (OpenSpec.ofChange moduleOneSpec)

/-- ITS FALSE NEIGHBOUR: 'it returns false'. Refute it at one input. -/
def moduleOneWrong : ChangeSpec := { name := "moduleOne", fn := fun _ => fun
  | [d1, d2] => { results := [.lit (.bool false)], args := [d1, d2] }
  | _ => none }
def ModuleOneWrongFalsely : Prop := moduleOneRow.holds Tryz.pinned (OpenSpec.ofChange moduleOneWrong)

/-- 'keystonelaw5.ModuleOwn': WHATEVER THE INPUT: true; the input reads as it did. -/
def moduleOwnSpec : ChangeSpec := { name := "moduleOwn", fn := fun _ => fun
  | [d] => { results := [.lit (.bool true)], args := [d] }
  | _ => none }
def moduleOwnRow : OpenClaim := { program := "ytildemmkhndhjaagreatdoor", sum := "5510912ccfd01ba3a81c7d67ae87f8f019d0087023d29d27942c2e061e331260", func := "keystone/keystonelaw5.ModuleOwn", spec := "moduleOwn", inPlace := ["internal/bytealg.IndexByteString", "internal/reflectlite.ValueOf", "(internal/reflectlite.Value).Type", "(internal/reflectlite.Value).IsNil", "internal/reflectlite.TypeOf", "(internal/reflectlite.Value).Elem", "(internal/reflectlite.Value).Set", "internal/abi.NoEscape", "internal/bytealg.MakeNoZero"], unfollowed := true, recurses := true, named := ["errors.errorType"], apart := false, laid := [("errors.errorType", laid_errors_errorType)] }
def ModuleOwnSaid : Prop := moduleOwnRow.holds Tryz.pinned (OpenSpec.ofChange moduleOwnSpec)

/-- ITS FALSE NEIGHBOUR: 'it returns false'. Refute it at one input. -/
def moduleOwnWrong : ChangeSpec := { name := "moduleOwn", fn := fun _ => fun
  | [d] => { results := [.lit (.bool false)], args := [d] }
  | _ => none }
def ModuleOwnWrongFalsely : Prop := moduleOwnRow.holds Tryz.pinned (OpenSpec.ofChange moduleOwnWrong)

/- THE SECOND FORM. 'bulk': how many values and letters a reading holds, each counted each time it is reached (what is shared counts as often as it is met; a slice's spare places count too). A statement '..UptoSaid' is the law's where the arguments, and the package variables that the reading takes, are together of bulk at most 1048576: NARROWER than '..Said'. Prove '..Said' where nothing that the law and all that it calls make is longer than what came in: it says more and counts as full. Else prove '..UptoSaid'. A law counts once. -/
mutual
def uptoBulk {H : Type} : DataW H → Nat
  | .lit (.string bytes) => bytes.length + 1
  | .lit _ => 1
  | .nil => 1
  | .ptr d => uptoBulk d + 1
  | .slice elems spare => uptoBulkAll elems + uptoBulkAll spare + 1
  | .agg parts => uptoBulkAll parts + 1
  | .iface _ d => uptoBulk d + 1
  | .map entries => uptoBulkEntries entries + 1
  | .held _ => 1
def uptoBulkAll {H : Type} : List (DataW H) → Nat
  | [] => 0
  | d :: r => uptoBulk d + uptoBulkAll r
def uptoBulkEntries {H : Type} : List (Lit × DataW H) → Nat
  | [] => 0
  | x :: r => uptoBulkEntry x + uptoBulkEntries r
def uptoBulkEntry {H : Type} : Lit × DataW H → Nat
  | (.string bytes, d) => bytes.length + uptoBulk d + 1
  | (_, d) => uptoBulk d + 1
 end
def uptoSmall : (H : Type) → List (DataW H) → Bool := fun _ ds => decide (uptoBulkAll ds ≤ 1048576)
def OpenSpec.upto (s : _root_.Go.ChangeSpec) : _root_.Go.OpenSpec := { _root_.Go.OpenSpec.ofChange s with cond := some uptoSmall }

/-- 'keystonelaw5.ModuleLimits', WHERE WHAT IT READS IS OF BULK AT MOST 1048576: true; the input reads as it did. -/
def moduleLimitsUptoRow : OpenClaim := { program := "ytildemmkhndhjaagreatdoor", sum := "5510912ccfd01ba3a81c7d67ae87f8f019d0087023d29d27942c2e061e331260", func := "keystone/keystonelaw5.ModuleLimits", spec := "moduleLimits", inPlace := ["internal/bytealg.IndexByteString", "internal/reflectlite.ValueOf", "(internal/reflectlite.Value).Type", "(internal/reflectlite.Value).IsNil", "internal/reflectlite.TypeOf", "(internal/reflectlite.Value).Elem", "(internal/reflectlite.Value).Set", "internal/abi.NoEscape", "internal/bytealg.MakeNoZero"], unfollowed := true, recurses := true, named := ["errors.errorType"], apart := false, laid := [("errors.errorType", laid_errors_errorType)], narrowed := true }
def ModuleLimitsUptoSaid : Prop := moduleLimitsUptoRow.holds Tryz.pinned (OpenSpec.upto moduleLimitsSpec)

/-- 'keystonelaw5.ModuleOne', WHERE WHAT IT READS IS OF BULK AT MOST 1048576: true; the input reads as it did. -/
def moduleOneUptoRow : OpenClaim := { program := "ytildemmkhndhjaagreatdoor", sum := "5510912ccfd01ba3a81c7d67ae87f8f019d0087023d29d27942c2e061e331260", func := "keystone/keystonelaw5.ModuleOne", spec := "moduleOne", inPlace := ["internal/bytealg.IndexByteString", "internal/reflectlite.ValueOf", "(internal/reflectlite.Value).Type", "(internal/reflectlite.Value).IsNil", "internal/reflectlite.TypeOf", "(internal/reflectlite.Value).Elem", "(internal/reflectlite.Value).Set", "internal/abi.NoEscape", "internal/bytealg.MakeNoZero"], unfollowed := true, recurses := true, named := ["errors.errorType"], apart := false, laid := [("errors.errorType", laid_errors_errorType)], narrowed := true }
def ModuleOneUptoSaid : Prop := moduleOneUptoRow.holds Tryz.pinned (OpenSpec.upto moduleOneSpec)

/-- 'keystonelaw5.ModuleOwn', WHERE WHAT IT READS IS OF BULK AT MOST 1048576: true; the input reads as it did. -/
def moduleOwnUptoRow : OpenClaim := { program := "ytildemmkhndhjaagreatdoor", sum := "5510912ccfd01ba3a81c7d67ae87f8f019d0087023d29d27942c2e061e331260", func := "keystone/keystonelaw5.ModuleOwn", spec := "moduleOwn", inPlace := ["internal/bytealg.IndexByteString", "internal/reflectlite.ValueOf", "(internal/reflectlite.Value).Type", "(internal/reflectlite.Value).IsNil", "internal/reflectlite.TypeOf", "(internal/reflectlite.Value).Elem", "(internal/reflectlite.Value).Set", "internal/abi.NoEscape", "internal/bytealg.MakeNoZero"], unfollowed := true, recurses := true, named := ["errors.errorType"], apart := false, laid := [("errors.errorType", laid_errors_errorType)], narrowed := true }
def ModuleOwnUptoSaid : Prop := moduleOwnUptoRow.holds Tryz.pinned (OpenSpec.upto moduleOwnSpec)

end Rows
end Go.Proofs.YtildemmkhndhjaaGreatDoor
