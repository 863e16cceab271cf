/-
  NARROWER THAN 'FOR EVERY INPUT', by the rows' own cells (each row's printed sentence says how): VerifyMakes: laid · VerifyBegins: laid · VerifyWays: laid · VerifyEnds: laid · VerifyCaught: laid · VerifyLong: laid.
  DERIVED. THE GIVEN ROWS OF THIS SEAT. 6 by the template 'for every input the law returns true; each argument reads behind the call as it read before'; 0 by the template 'total and deterministic' (their statements: YtialppfpbgaanaaGreatDoorTotals.lean).
  GIVEN WITH THE SEED: the statements are not yours to turn. If you find one false, say at which input.
  Laid BY PROGRAM, IN A SANDBOX (cutbox-rows.mjs): the forced cells as the released guide's own fill.sh prints them over the translation 2170ad96b9734040… (all of the seat's roots in one cut). By AI agents, Wed Nov 11 2026. No macro, syntax, notation, axiom, sorry.
-/
import Derived.Test.YtialppfpbgaanaaGreatDoorChecked
import GoSem.Claim
import GoSem.ClaimJoined
import GoSem.ClaimMapViews
import Derived.JoinedTies
import Derived.KernelRfl
namespace Go.Proofs.YtialppfpbgaanaaGreatDoor
/- THE CELL 'sum', in the pinned program and in every row, IS THE sha256 OF THE DUMP (.gsa) THAT YtialppfpbgaanaaGreatDoorProg.lean LOADS. Nothing in Lean hashes anything: it is a label: what it is worth is what the hold of that sum in a sandbox is worth. -/
noncomputable def Tryz.pinned : Pinned := { name := "ytialppfpbgaanaagreatdoor", sum := "2170ad96b97340404997e594d187c95aa8db566a0b1f825c3041e0eb98dfb368", checked := Tryz.checked }
namespace Rows
def none {H : Type} : Left H := { results := [], args := [] }

/- WHAT THE LISTED PACKAGE-LEVEL VARIABLES READ AS WHEN THE CALL BEGINS. Each datum BY PROGRAM (the guide's laid-datum.mjs) off the statement by which the dump's own 'gosem.cut.vars' lays the variable. In a bare row this is a premise. The card (YtialppfpbgaanaaGreatDoorCards.lean) ties it to the program's text. -/
def laid_errors_errorType {H : Type} : DataW H := .iface "internal/reflectlite.rtype" (.agg [.ptr (.lit (.string [101, 114, 114, 111, 114]))])

/-- 'keystonelaw10.VerifyMakes': WHATEVER THE INPUT: true; the input reads as it did. -/
def verifyMakesSpec : ChangeSpec := { name := "verifyMakes", fn := fun _ => fun
  | [d] => { results := [.lit (.bool true)], args := [d] }
  | _ => none }
def verifyMakesRow : OpenClaim := { program := "ytialppfpbgaanaagreatdoor", sum := "2170ad96b97340404997e594d187c95aa8db566a0b1f825c3041e0eb98dfb368", func := "keystone/keystonelaw10.VerifyMakes", spec := "verifyMakes", inPlace := ["internal/abi.NoEscape", "internal/bytealg.MakeNoZero", "internal/bytealg.IndexByteString", "internal/reflectlite.ValueOf", "(internal/reflectlite.Value).Type", "(internal/reflectlite.Value).IsNil", "internal/reflectlite.TypeOf", "(internal/reflectlite.Value).Elem", "(internal/reflectlite.Value).Set", "slices.overlaps[int]"], unfollowed := true, recurses := true, named := ["errors.errorType"], plainKeys := false, apart := false, laid := [("errors.errorType", laid_errors_errorType)] }
def VerifyMakesSaid : Prop := verifyMakesRow.holds Tryz.pinned (OpenSpec.ofChange verifyMakesSpec)

/-- ITS FALSE NEIGHBOUR: 'it returns false'. Refute it at one input. -/
def verifyMakesWrong : ChangeSpec := { name := "verifyMakes", fn := fun _ => fun
  | [d] => { results := [.lit (.bool false)], args := [d] }
  | _ => none }
def VerifyMakesWrongFalsely : Prop := verifyMakesRow.holds Tryz.pinned (OpenSpec.ofChange verifyMakesWrong)

/-- 'keystonelaw10.VerifyBegins': WHATEVER THE INPUT: true; the input reads as it did. -/
def verifyBeginsSpec : ChangeSpec := { name := "verifyBegins", fn := fun _ => fun
  | [d] => { results := [.lit (.bool true)], args := [d] }
  | _ => none }
def verifyBeginsRow : OpenClaim := { program := "ytialppfpbgaanaagreatdoor", sum := "2170ad96b97340404997e594d187c95aa8db566a0b1f825c3041e0eb98dfb368", func := "keystone/keystonelaw10.VerifyBegins", spec := "verifyBegins", inPlace := ["internal/abi.NoEscape", "internal/bytealg.MakeNoZero", "internal/bytealg.IndexByteString", "internal/reflectlite.ValueOf", "(internal/reflectlite.Value).Type", "(internal/reflectlite.Value).IsNil", "internal/reflectlite.TypeOf", "(internal/reflectlite.Value).Elem", "(internal/reflectlite.Value).Set", "slices.overlaps[int]"], unfollowed := true, recurses := true, named := ["errors.errorType"], plainKeys := false, apart := false, laid := [("errors.errorType", laid_errors_errorType)] }
def VerifyBeginsSaid : Prop := verifyBeginsRow.holds Tryz.pinned (OpenSpec.ofChange verifyBeginsSpec)

/-- ITS FALSE NEIGHBOUR: 'it returns false'. Refute it at one input. -/
def verifyBeginsWrong : ChangeSpec := { name := "verifyBegins", fn := fun _ => fun
  | [d] => { results := [.lit (.bool false)], args := [d] }
  | _ => none }
def VerifyBeginsWrongFalsely : Prop := verifyBeginsRow.holds Tryz.pinned (OpenSpec.ofChange verifyBeginsWrong)

/-- 'keystonelaw10.VerifyWays': WHATEVER THE INPUT: true; the input reads as it did. -/
def verifyWaysSpec : ChangeSpec := { name := "verifyWays", fn := fun _ => fun
  | [d1, d2] => { results := [.lit (.bool true)], args := [d1, d2] }
  | _ => none }
def verifyWaysRow : OpenClaim := { program := "ytialppfpbgaanaagreatdoor", sum := "2170ad96b97340404997e594d187c95aa8db566a0b1f825c3041e0eb98dfb368", func := "keystone/keystonelaw10.VerifyWays", spec := "verifyWays", inPlace := ["internal/abi.NoEscape", "internal/bytealg.MakeNoZero", "internal/bytealg.IndexByteString", "internal/reflectlite.ValueOf", "(internal/reflectlite.Value).Type", "(internal/reflectlite.Value).IsNil", "internal/reflectlite.TypeOf", "(internal/reflectlite.Value).Elem", "(internal/reflectlite.Value).Set", "slices.overlaps[int]"], unfollowed := true, recurses := true, named := ["errors.errorType"], plainKeys := false, apart := false, laid := [("errors.errorType", laid_errors_errorType)] }
def VerifyWaysSaid : Prop := verifyWaysRow.holds Tryz.pinned (OpenSpec.ofChange verifyWaysSpec)

/-- ITS FALSE NEIGHBOUR: 'it returns false'. Refute it at one input. -/
def verifyWaysWrong : ChangeSpec := { name := "verifyWays", fn := fun _ => fun
  | [d1, d2] => { results := [.lit (.bool false)], args := [d1, d2] }
  | _ => none }
def VerifyWaysWrongFalsely : Prop := verifyWaysRow.holds Tryz.pinned (OpenSpec.ofChange verifyWaysWrong)

/-- 'keystonelaw10.VerifyEnds': WHATEVER THE INPUT: true; the input reads as it did. -/
def verifyEndsSpec : ChangeSpec := { name := "verifyEnds", fn := fun _ => fun
  | [d1, d2] => { results := [.lit (.bool true)], args := [d1, d2] }
  | _ => none }
def verifyEndsRow : OpenClaim := { program := "ytialppfpbgaanaagreatdoor", sum := "2170ad96b97340404997e594d187c95aa8db566a0b1f825c3041e0eb98dfb368", func := "keystone/keystonelaw10.VerifyEnds", spec := "verifyEnds", inPlace := ["internal/abi.NoEscape", "internal/bytealg.MakeNoZero", "internal/bytealg.IndexByteString", "internal/reflectlite.ValueOf", "(internal/reflectlite.Value).Type", "(internal/reflectlite.Value).IsNil", "internal/reflectlite.TypeOf", "(internal/reflectlite.Value).Elem", "(internal/reflectlite.Value).Set", "slices.overlaps[int]"], unfollowed := true, recurses := true, named := ["errors.errorType"], plainKeys := false, apart := false, laid := [("errors.errorType", laid_errors_errorType)] }
def VerifyEndsSaid : Prop := verifyEndsRow.holds Tryz.pinned (OpenSpec.ofChange verifyEndsSpec)

/-- ITS FALSE NEIGHBOUR: 'it returns false'. Refute it at one input. -/
def verifyEndsWrong : ChangeSpec := { name := "verifyEnds", fn := fun _ => fun
  | [d1, d2] => { results := [.lit (.bool false)], args := [d1, d2] }
  | _ => none }
def VerifyEndsWrongFalsely : Prop := verifyEndsRow.holds Tryz.pinned (OpenSpec.ofChange verifyEndsWrong)

/-- 'keystonelaw10.VerifyCaught': WHATEVER THE INPUT: true; the input reads as it did. -/
def verifyCaughtSpec : ChangeSpec := { name := "verifyCaught", fn := fun _ => fun
  | [d1, d2, d3] => { results := [.lit (.bool true)], args := [d1, d2, d3] }
  | _ => none }
def verifyCaughtRow : OpenClaim := { program := "ytialppfpbgaanaagreatdoor", sum := "2170ad96b97340404997e594d187c95aa8db566a0b1f825c3041e0eb98dfb368", func := "keystone/keystonelaw10.VerifyCaught", spec := "verifyCaught", inPlace := ["internal/abi.NoEscape", "internal/bytealg.MakeNoZero", "internal/bytealg.IndexByteString", "internal/reflectlite.ValueOf", "(internal/reflectlite.Value).Type", "(internal/reflectlite.Value).IsNil", "internal/reflectlite.TypeOf", "(internal/reflectlite.Value).Elem", "(internal/reflectlite.Value).Set", "slices.overlaps[int]"], unfollowed := true, recurses := true, named := ["errors.errorType"], plainKeys := false, apart := false, laid := [("errors.errorType", laid_errors_errorType)] }
def VerifyCaughtSaid : Prop := verifyCaughtRow.holds Tryz.pinned (OpenSpec.ofChange verifyCaughtSpec)

/-- ITS FALSE NEIGHBOUR: 'it returns false'. Refute it at one input. -/
def verifyCaughtWrong : ChangeSpec := { name := "verifyCaught", fn := fun _ => fun
  | [d1, d2, d3] => { results := [.lit (.bool false)], args := [d1, d2, d3] }
  | _ => none }
def VerifyCaughtWrongFalsely : Prop := verifyCaughtRow.holds Tryz.pinned (OpenSpec.ofChange verifyCaughtWrong)

/-- 'keystonelaw10.VerifyLong': WHATEVER THE INPUT: true; the input reads as it did. -/
def verifyLongSpec : ChangeSpec := { name := "verifyLong", fn := fun _ => fun
  | [d1, d2] => { results := [.lit (.bool true)], args := [d1, d2] }
  | _ => none }
def verifyLongRow : OpenClaim := { program := "ytialppfpbgaanaagreatdoor", sum := "2170ad96b97340404997e594d187c95aa8db566a0b1f825c3041e0eb98dfb368", func := "keystone/keystonelaw10.VerifyLong", spec := "verifyLong", inPlace := ["internal/abi.NoEscape", "internal/bytealg.MakeNoZero", "internal/bytealg.IndexByteString", "internal/reflectlite.ValueOf", "(internal/reflectlite.Value).Type", "(internal/reflectlite.Value).IsNil", "internal/reflectlite.TypeOf", "(internal/reflectlite.Value).Elem", "(internal/reflectlite.Value).Set", "slices.overlaps[int]"], unfollowed := true, recurses := true, named := ["errors.errorType"], plainKeys := false, apart := false, laid := [("errors.errorType", laid_errors_errorType)] }
def VerifyLongSaid : Prop := verifyLongRow.holds Tryz.pinned (OpenSpec.ofChange verifyLongSpec)

/-- ITS FALSE NEIGHBOUR: 'it returns false'. Refute it at one input. -/
def verifyLongWrong : ChangeSpec := { name := "verifyLong", fn := fun _ => fun
  | [d1, d2] => { results := [.lit (.bool false)], args := [d1, d2] }
  | _ => none }
def VerifyLongWrongFalsely : Prop := verifyLongRow.holds Tryz.pinned (OpenSpec.ofChange verifyLongWrong)

/- THE SECOND FORM. 'bulk': how many values and letters a reading holds, each counted each time it is reached (what is shared counts as often as it is met; a slice's spare places count too). A statement '..UptoSaid' is the law's where the arguments, and the package variables that the reading takes, are together of bulk at most 1048576: NARROWER than '..Said'. Prove '..Said' where nothing that the law and all that it calls make is longer than what came in: it says more and counts as full. Else prove '..UptoSaid'. A law counts once. -/
mutual
def uptoBulk {H : Type} : DataW H → Nat
  | .lit (.string bytes) => bytes.length + 1
  | .lit _ => 1
  | .nil => 1
  | .ptr d => uptoBulk d + 1
  | .slice elems spare => uptoBulkAll elems + uptoBulkAll spare + 1
  | .agg parts => uptoBulkAll parts + 1
  | .iface _ d => uptoBulk d + 1
  | .map entries => uptoBulkEntries entries + 1
  | .held _ => 1
def uptoBulkAll {H : Type} : List (DataW H) → Nat
  | [] => 0
  | d :: r => uptoBulk d + uptoBulkAll r
def uptoBulkEntries {H : Type} : List (Lit × DataW H) → Nat
  | [] => 0
  | x :: r => uptoBulkEntry x + uptoBulkEntries r
def uptoBulkEntry {H : Type} : Lit × DataW H → Nat
  | (.string bytes, d) => bytes.length + uptoBulk d + 1
  | (_, d) => uptoBulk d + 1
 end
def uptoSmall : (H : Type) → List (DataW H) → Bool := fun _ ds => decide (uptoBulkAll ds ≤ 1048576)
def OpenSpec.upto (s : _root_.Go.ChangeSpec) : _root_.Go.OpenSpec := { _root_.Go.OpenSpec.ofChange s with cond := some uptoSmall }

/-- 'keystonelaw10.VerifyMakes', WHERE WHAT IT READS IS OF BULK AT MOST 1048576: true; the input reads as it did. -/
def verifyMakesUptoRow : OpenClaim := { program := "ytialppfpbgaanaagreatdoor", sum := "2170ad96b97340404997e594d187c95aa8db566a0b1f825c3041e0eb98dfb368", func := "keystone/keystonelaw10.VerifyMakes", spec := "verifyMakes", inPlace := ["internal/abi.NoEscape", "internal/bytealg.MakeNoZero", "internal/bytealg.IndexByteString", "internal/reflectlite.ValueOf", "(internal/reflectlite.Value).Type", "(internal/reflectlite.Value).IsNil", "internal/reflectlite.TypeOf", "(internal/reflectlite.Value).Elem", "(internal/reflectlite.Value).Set", "slices.overlaps[int]"], unfollowed := true, recurses := true, named := ["errors.errorType"], plainKeys := false, apart := false, laid := [("errors.errorType", laid_errors_errorType)], narrowed := true }
def VerifyMakesUptoSaid : Prop := verifyMakesUptoRow.holds Tryz.pinned (OpenSpec.upto verifyMakesSpec)

/-- 'keystonelaw10.VerifyBegins', WHERE WHAT IT READS IS OF BULK AT MOST 1048576: true; the input reads as it did. -/
def verifyBeginsUptoRow : OpenClaim := { program := "ytialppfpbgaanaagreatdoor", sum := "2170ad96b97340404997e594d187c95aa8db566a0b1f825c3041e0eb98dfb368", func := "keystone/keystonelaw10.VerifyBegins", spec := "verifyBegins", inPlace := ["internal/abi.NoEscape", "internal/bytealg.MakeNoZero", "internal/bytealg.IndexByteString", "internal/reflectlite.ValueOf", "(internal/reflectlite.Value).Type", "(internal/reflectlite.Value).IsNil", "internal/reflectlite.TypeOf", "(internal/reflectlite.Value).Elem", "(internal/reflectlite.Value).Set", "slices.overlaps[int]"], unfollowed := true, recurses := true, named := ["errors.errorType"], plainKeys := false, apart := false, laid := [("errors.errorType", laid_errors_errorType)], narrowed := true }
def VerifyBeginsUptoSaid : Prop := verifyBeginsUptoRow.holds Tryz.pinned (OpenSpec.upto verifyBeginsSpec)

/-- 'keystonelaw10.VerifyWays', WHERE WHAT IT READS IS OF BULK AT MOST 1048576: true; the input reads as it did. -/
def verifyWaysUptoRow : OpenClaim := { program := "ytialppfpbgaanaagreatdoor", sum := "2170ad96b97340404997e594d187c95aa8db566a0b1f825c3041e0eb98dfb368", func := "keystone/keystonelaw10.VerifyWays", spec := "verifyWays", inPlace := ["internal/abi.NoEscape", "internal/bytealg.MakeNoZero", "internal/bytealg.IndexByteString", "internal/reflectlite.ValueOf", "(internal/reflectlite.Value).Type", "(internal/reflectlite.Value).IsNil", "internal/reflectlite.TypeOf", "(internal/reflectlite.Value).Elem", "(internal/reflectlite.Value).Set", "slices.overlaps[int]"], unfollowed := true, recurses := true, named := ["errors.errorType"], plainKeys := false, apart := false, laid := [("errors.errorType", laid_errors_errorType)], narrowed := true }
def VerifyWaysUptoSaid : Prop := verifyWaysUptoRow.holds Tryz.pinned (OpenSpec.upto verifyWaysSpec)

/-- 'keystonelaw10.VerifyEnds', WHERE WHAT IT READS IS OF BULK AT MOST 1048576: true; the input reads as it did. -/
def verifyEndsUptoRow : OpenClaim := { program := "ytialppfpbgaanaagreatdoor", sum := "2170ad96b97340404997e594d187c95aa8db566a0b1f825c3041e0eb98dfb368", func := "keystone/keystonelaw10.VerifyEnds", spec := "verifyEnds", inPlace := ["internal/abi.NoEscape", "internal/bytealg.MakeNoZero", "internal/bytealg.IndexByteString", "internal/reflectlite.ValueOf", "(internal/reflectlite.Value).Type", "(internal/reflectlite.Value).IsNil", "internal/reflectlite.TypeOf", "(internal/reflectlite.Value).Elem", "(internal/reflectlite.Value).Set", "slices.overlaps[int]"], unfollowed := true, recurses := true, named := ["errors.errorType"], plainKeys := false, apart := false, laid := [("errors.errorType", laid_errors_errorType)], narrowed := true }
def VerifyEndsUptoSaid : Prop := verifyEndsUptoRow.holds Tryz.pinned (OpenSpec.upto verifyEndsSpec)

/-- 'keystonelaw10.VerifyCaught', WHERE WHAT IT READS IS OF BULK AT MOST 1048576: true; the input reads as it did. -/
def verifyCaughtUptoRow : OpenClaim := { program := "ytialppfpbgaanaagreatdoor", sum := "2170ad96b97340404997e594d187c95aa8db566a0b1f825c3041e0eb98dfb368", func := "keystone/keystonelaw10.VerifyCaught", spec := "verifyCaught", inPlace := ["internal/abi.NoEscape", "internal/bytealg.MakeNoZero", "internal/bytealg.IndexByteString", "internal/reflectlite.ValueOf", "(internal/reflectlite.Value).Type", "(internal/reflectlite.Value).IsNil", "internal/reflectlite.TypeOf", "(internal/reflectlite.Value).Elem", "(internal/reflectlite.Value).Set", "slices.overlaps[int]"], unfollowed := true, recurses := true, named := ["errors.errorType"], plainKeys := false, apart := false, laid := [("errors.errorType", laid_errors_errorType)], narrowed := true }
def VerifyCaughtUptoSaid : Prop := verifyCaughtUptoRow.holds Tryz.pinned (OpenSpec.upto verifyCaughtSpec)

/-- 'keystonelaw10.VerifyLong', WHERE WHAT IT READS IS OF BULK AT MOST 1048576: true; the input reads as it did. -/
def verifyLongUptoRow : OpenClaim := { program := "ytialppfpbgaanaagreatdoor", sum := "2170ad96b97340404997e594d187c95aa8db566a0b1f825c3041e0eb98dfb368", func := "keystone/keystonelaw10.VerifyLong", spec := "verifyLong", inPlace := ["internal/abi.NoEscape", "internal/bytealg.MakeNoZero", "internal/bytealg.IndexByteString", "internal/reflectlite.ValueOf", "(internal/reflectlite.Value).Type", "(internal/reflectlite.Value).IsNil", "internal/reflectlite.TypeOf", "(internal/reflectlite.Value).Elem", "(internal/reflectlite.Value).Set", "slices.overlaps[int]"], unfollowed := true, recurses := true, named := ["errors.errorType"], plainKeys := false, apart := false, laid := [("errors.errorType", laid_errors_errorType)], narrowed := true }
def VerifyLongUptoSaid : Prop := verifyLongUptoRow.holds Tryz.pinned (OpenSpec.upto verifyLongSpec)

end Rows
end Go.Proofs.YtialppfpbgaanaaGreatDoor
