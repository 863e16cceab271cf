/-
  No cell of these rows narrows 'for every input' (looked for: loops, veiled, ifaces, maps, wideKeys, modest, calm, conditions, laid).
  DERIVED. THE GIVEN ROWS OF THIS SEAT. 6 by the template 'for every input the law returns true; each argument reads behind the call as it read before'; 0 by the template 'total and deterministic' (their statements: YtfpdgfgbonbpjaaTotals.lean).
  GIVEN WITH THE SEED: the statements are not yours to turn. If you find one false, say at which input.
  Laid BY PROGRAM, IN A SANDBOX (cutbox-rows.mjs): the forced cells as the released guide's own fill.sh prints them over the translation ebe859087dabf8da… (all of the seat's roots in one cut). By AI agents, Wed Nov 11 2026. No macro, syntax, notation, axiom, sorry.
-/
import Derived.Test.YtfpdgfgbonbpjaaChecked
import GoSem.Claim
import GoSem.ClaimJoined
import GoSem.ClaimMapViews
import Derived.JoinedTies
import Derived.KernelRfl
namespace Go.Proofs.Ytfpdgfgbonbpjaa
/- THE CELL 'sum', in the pinned program and in every row, IS THE sha256 OF THE DUMP (.gsa) THAT YtfpdgfgbonbpjaaProg.lean LOADS. Nothing in Lean hashes anything: it is a label: what it is worth is what the hold of that sum in a sandbox is worth. -/
noncomputable def Try.pinned : Pinned := { name := "ytfpdgfgbonbpjaa", sum := "ebe859087dabf8dac9d019796dbddbcba1b5f86aaa2524ff8d01e72dda83aa46", checked := Try.checked }
namespace Rows
def none {H : Type} : Left H := { results := [], args := [] }

/-- 'keystonelaw2.DescNames': WHATEVER THE INPUT: true; the input reads as it did. -/
def descNamesSpec : ChangeSpec := { name := "descNames", fn := fun _ => fun
  | [d1, d2] => { results := [.lit (.bool true)], args := [d1, d2] }
  | _ => none }
def descNamesRow : OpenClaim := { program := "ytfpdgfgbonbpjaa", sum := "ebe859087dabf8dac9d019796dbddbcba1b5f86aaa2524ff8d01e72dda83aa46", func := "keystone/keystonelaw2.DescNames", spec := "descNames", inPlace := ["internal/bytealg.IndexByteString"], apart := false }
def DescNamesSaid : Prop := descNamesRow.holds Try.pinned (OpenSpec.ofChange descNamesSpec)

/-- ITS FALSE NEIGHBOUR: 'it returns false'. Refute it at one input. -/
def descNamesWrong : ChangeSpec := { name := "descNames", fn := fun _ => fun
  | [d1, d2] => { results := [.lit (.bool false)], args := [d1, d2] }
  | _ => none }
def DescNamesWrongFalsely : Prop := descNamesRow.holds Try.pinned (OpenSpec.ofChange descNamesWrong)

/-- 'keystonelaw2.DescTypes': WHATEVER THE INPUT: true; the input reads as it did. -/
def descTypesSpec : ChangeSpec := { name := "descTypes", fn := fun _ => fun
  | [d1, d2] => { results := [.lit (.bool true)], args := [d1, d2] }
  | _ => none }
def descTypesRow : OpenClaim := { program := "ytfpdgfgbonbpjaa", sum := "ebe859087dabf8dac9d019796dbddbcba1b5f86aaa2524ff8d01e72dda83aa46", func := "keystone/keystonelaw2.DescTypes", spec := "descTypes", inPlace := ["internal/bytealg.IndexByteString", "internal/abi.NoEscape", "internal/bytealg.MakeNoZero"], apart := false }
def DescTypesSaid : Prop := descTypesRow.holds Try.pinned (OpenSpec.ofChange descTypesSpec)

/-- ITS FALSE NEIGHBOUR: 'it returns false'. Refute it at one input. -/
def descTypesWrong : ChangeSpec := { name := "descTypes", fn := fun _ => fun
  | [d1, d2] => { results := [.lit (.bool false)], args := [d1, d2] }
  | _ => none }
def DescTypesWrongFalsely : Prop := descTypesRow.holds Try.pinned (OpenSpec.ofChange descTypesWrong)

/-- 'keystonelaw2.DescSigs': WHATEVER THE INPUT: true; the input reads as it did. -/
def descSigsSpec : ChangeSpec := { name := "descSigs", fn := fun _ => fun
  | [d1, d2, d3] => { results := [.lit (.bool true)], args := [d1, d2, d3] }
  | _ => none }
def descSigsRow : OpenClaim := { program := "ytfpdgfgbonbpjaa", sum := "ebe859087dabf8dac9d019796dbddbcba1b5f86aaa2524ff8d01e72dda83aa46", func := "keystone/keystonelaw2.DescSigs", spec := "descSigs", inPlace := ["internal/bytealg.IndexByteString", "internal/abi.NoEscape", "internal/bytealg.MakeNoZero"], apart := false }
def DescSigsSaid : Prop := descSigsRow.holds Try.pinned (OpenSpec.ofChange descSigsSpec)

/-- ITS FALSE NEIGHBOUR: 'it returns false'. Refute it at one input. -/
def descSigsWrong : ChangeSpec := { name := "descSigs", fn := fun _ => fun
  | [d1, d2, d3] => { results := [.lit (.bool false)], args := [d1, d2, d3] }
  | _ => none }
def DescSigsWrongFalsely : Prop := descSigsRow.holds Try.pinned (OpenSpec.ofChange descSigsWrong)

/-- 'keystonelaw2.DescMakes': WHATEVER THE INPUT: true; the input reads as it did. -/
def descMakesSpec : ChangeSpec := { name := "descMakes", fn := fun _ => fun
  | [d1, d2] => { results := [.lit (.bool true)], args := [d1, d2] }
  | _ => none }
def descMakesRow : OpenClaim := { program := "ytfpdgfgbonbpjaa", sum := "ebe859087dabf8dac9d019796dbddbcba1b5f86aaa2524ff8d01e72dda83aa46", func := "keystone/keystonelaw2.DescMakes", spec := "descMakes", inPlace := ["internal/bytealg.IndexByteString"], apart := false }
def DescMakesSaid : Prop := descMakesRow.holds Try.pinned (OpenSpec.ofChange descMakesSpec)

/-- ITS FALSE NEIGHBOUR: 'it returns false'. Refute it at one input. -/
def descMakesWrong : ChangeSpec := { name := "descMakes", fn := fun _ => fun
  | [d1, d2] => { results := [.lit (.bool false)], args := [d1, d2] }
  | _ => none }
def DescMakesWrongFalsely : Prop := descMakesRow.holds Try.pinned (OpenSpec.ofChange descMakesWrong)

/-- 'keystonelaw2.DescTurns': WHATEVER THE INPUT: true; the input reads as it did. -/
def descTurnsSpec : ChangeSpec := { name := "descTurns", fn := fun _ => fun
  | [d1, d2, d3, d4, d5] => { results := [.lit (.bool true)], args := [d1, d2, d3, d4, d5] }
  | _ => none }
def descTurnsRow : OpenClaim := { program := "ytfpdgfgbonbpjaa", sum := "ebe859087dabf8dac9d019796dbddbcba1b5f86aaa2524ff8d01e72dda83aa46", func := "keystone/keystonelaw2.DescTurns", spec := "descTurns", inPlace := ["internal/bytealg.IndexByteString", "internal/abi.NoEscape", "internal/bytealg.MakeNoZero"], apart := false }
def DescTurnsSaid : Prop := descTurnsRow.holds Try.pinned (OpenSpec.ofChange descTurnsSpec)

/-- ITS FALSE NEIGHBOUR: 'it returns false'. Refute it at one input. -/
def descTurnsWrong : ChangeSpec := { name := "descTurns", fn := fun _ => fun
  | [d1, d2, d3, d4, d5] => { results := [.lit (.bool false)], args := [d1, d2, d3, d4, d5] }
  | _ => none }
def DescTurnsWrongFalsely : Prop := descTurnsRow.holds Try.pinned (OpenSpec.ofChange descTurnsWrong)

/-- 'keystonelaw2.DescLimits': WHATEVER THE INPUT: true; the input reads as it did. -/
def descLimitsSpec : ChangeSpec := { name := "descLimits", fn := fun _ => fun
  | [d1, d2, d3] => { results := [.lit (.bool true)], args := [d1, d2, d3] }
  | _ => none }
def descLimitsRow : OpenClaim := { program := "ytfpdgfgbonbpjaa", sum := "ebe859087dabf8dac9d019796dbddbcba1b5f86aaa2524ff8d01e72dda83aa46", func := "keystone/keystonelaw2.DescLimits", spec := "descLimits", inPlace := ["internal/bytealg.IndexByteString"], apart := false }
def DescLimitsSaid : Prop := descLimitsRow.holds Try.pinned (OpenSpec.ofChange descLimitsSpec)

/-- ITS FALSE NEIGHBOUR: 'it returns false'. Refute it at one input. -/
def descLimitsWrong : ChangeSpec := { name := "descLimits", fn := fun _ => fun
  | [d1, d2, d3] => { results := [.lit (.bool false)], args := [d1, d2, d3] }
  | _ => none }
def DescLimitsWrongFalsely : Prop := descLimitsRow.holds Try.pinned (OpenSpec.ofChange descLimitsWrong)

/- THE SECOND FORM. 'bulk': how many values and letters a reading holds, each counted each time it is reached (what is shared counts as often as it is met; a slice's spare places count too). A statement '..UptoSaid' is the law's where the arguments, and the package variables that the reading takes, are together of bulk at most 1048576: NARROWER than '..Said'. Prove '..Said' where nothing that the law and all that it calls make is longer than what came in: it says more and counts as full. Else prove '..UptoSaid'. A law counts once. -/
mutual
def uptoBulk {H : Type} : DataW H → Nat
  | .lit (.string bytes) => bytes.length + 1
  | .lit _ => 1
  | .nil => 1
  | .ptr d => uptoBulk d + 1
  | .slice elems spare => uptoBulkAll elems + uptoBulkAll spare + 1
  | .agg parts => uptoBulkAll parts + 1
  | .iface _ d => uptoBulk d + 1
  | .map entries => uptoBulkEntries entries + 1
  | .held _ => 1
def uptoBulkAll {H : Type} : List (DataW H) → Nat
  | [] => 0
  | d :: r => uptoBulk d + uptoBulkAll r
def uptoBulkEntries {H : Type} : List (Lit × DataW H) → Nat
  | [] => 0
  | x :: r => uptoBulkEntry x + uptoBulkEntries r
def uptoBulkEntry {H : Type} : Lit × DataW H → Nat
  | (.string bytes, d) => bytes.length + uptoBulk d + 1
  | (_, d) => uptoBulk d + 1
 end
def uptoSmall : (H : Type) → List (DataW H) → Bool := fun _ ds => decide (uptoBulkAll ds ≤ 1048576)
def OpenSpec.upto (s : _root_.Go.ChangeSpec) : _root_.Go.OpenSpec := { _root_.Go.OpenSpec.ofChange s with cond := some uptoSmall }

/-- 'keystonelaw2.DescNames', WHERE WHAT IT READS IS OF BULK AT MOST 1048576: true; the input reads as it did. -/
def descNamesUptoRow : OpenClaim := { program := "ytfpdgfgbonbpjaa", sum := "ebe859087dabf8dac9d019796dbddbcba1b5f86aaa2524ff8d01e72dda83aa46", func := "keystone/keystonelaw2.DescNames", spec := "descNames", inPlace := ["internal/bytealg.IndexByteString"], apart := false, narrowed := true }
def DescNamesUptoSaid : Prop := descNamesUptoRow.holds Try.pinned (OpenSpec.upto descNamesSpec)

/-- 'keystonelaw2.DescTypes', WHERE WHAT IT READS IS OF BULK AT MOST 1048576: true; the input reads as it did. -/
def descTypesUptoRow : OpenClaim := { program := "ytfpdgfgbonbpjaa", sum := "ebe859087dabf8dac9d019796dbddbcba1b5f86aaa2524ff8d01e72dda83aa46", func := "keystone/keystonelaw2.DescTypes", spec := "descTypes", inPlace := ["internal/bytealg.IndexByteString", "internal/abi.NoEscape", "internal/bytealg.MakeNoZero"], apart := false, narrowed := true }
def DescTypesUptoSaid : Prop := descTypesUptoRow.holds Try.pinned (OpenSpec.upto descTypesSpec)

/-- 'keystonelaw2.DescSigs', WHERE WHAT IT READS IS OF BULK AT MOST 1048576: true; the input reads as it did. -/
def descSigsUptoRow : OpenClaim := { program := "ytfpdgfgbonbpjaa", sum := "ebe859087dabf8dac9d019796dbddbcba1b5f86aaa2524ff8d01e72dda83aa46", func := "keystone/keystonelaw2.DescSigs", spec := "descSigs", inPlace := ["internal/bytealg.IndexByteString", "internal/abi.NoEscape", "internal/bytealg.MakeNoZero"], apart := false, narrowed := true }
def DescSigsUptoSaid : Prop := descSigsUptoRow.holds Try.pinned (OpenSpec.upto descSigsSpec)

/-- 'keystonelaw2.DescMakes', WHERE WHAT IT READS IS OF BULK AT MOST 1048576: true; the input reads as it did. -/
def descMakesUptoRow : OpenClaim := { program := "ytfpdgfgbonbpjaa", sum := "ebe859087dabf8dac9d019796dbddbcba1b5f86aaa2524ff8d01e72dda83aa46", func := "keystone/keystonelaw2.DescMakes", spec := "descMakes", inPlace := ["internal/bytealg.IndexByteString"], apart := false, narrowed := true }
def DescMakesUptoSaid : Prop := descMakesUptoRow.holds Try.pinned (OpenSpec.upto descMakesSpec)

/-- 'keystonelaw2.DescTurns', WHERE WHAT IT READS IS OF BULK AT MOST 1048576: true; the input reads as it did. -/
def descTurnsUptoRow : OpenClaim := { program := "ytfpdgfgbonbpjaa", sum := "ebe859087dabf8dac9d019796dbddbcba1b5f86aaa2524ff8d01e72dda83aa46", func := "keystone/keystonelaw2.DescTurns", spec := "descTurns", inPlace := ["internal/bytealg.IndexByteString", "internal/abi.NoEscape", "internal/bytealg.MakeNoZero"], apart := false, narrowed := true }
def DescTurnsUptoSaid : Prop := descTurnsUptoRow.holds Try.pinned (OpenSpec.upto descTurnsSpec)

/-- 'keystonelaw2.DescLimits', WHERE WHAT IT READS IS OF BULK AT MOST 1048576: true; the input reads as it did. -/
def descLimitsUptoRow : OpenClaim := { program := "ytfpdgfgbonbpjaa", sum := "ebe859087dabf8dac9d019796dbddbcba1b5f86aaa2524ff8d01e72dda83aa46", func := "keystone/keystonelaw2.DescLimits", spec := "descLimits", inPlace := ["internal/bytealg.IndexByteString"], apart := false, narrowed := true }
def DescLimitsUptoSaid : Prop := descLimitsUptoRow.holds Try.pinned (OpenSpec.upto descLimitsSpec)

end Rows
end Go.Proofs.Ytfpdgfgbonbpjaa
