/-
  No cell of these rows narrows 'for every input' (looked for: loops, veiled, ifaces, maps, wideKeys, modest, calm, conditions, laid).
  DERIVED. THE GIVEN ROWS OF THIS SEAT. 6 by the template 'for every input the law returns true; each argument reads behind the call as it read before'; 0 by the template 'total and deterministic' (their statements: YtfpdgfgbonbpjabTotals.lean).
  GIVEN WITH THE SEED: the statements are not yours to turn. If you find one false, say at which input.
  Laid BY PROGRAM, IN A SANDBOX (cutbox-rows.mjs): the forced cells as the released guide's own fill.sh prints them over the translation c4a609cd0af77aa4… (all of the seat's roots in one cut). By AI agents, Wed Nov 11 2026. No macro, syntax, notation, axiom, sorry.
-/
import Derived.Test.YtfpdgfgbonbpjabChecked
import GoSem.Claim
import GoSem.ClaimJoined
import GoSem.ClaimMapViews
import Derived.JoinedTies
import Derived.KernelRfl
namespace Go.Proofs.Ytfpdgfgbonbpjab
/- THE CELL 'sum', in the pinned program and in every row, IS THE sha256 OF THE DUMP (.gsa) THAT YtfpdgfgbonbpjabProg.lean LOADS. Nothing in Lean hashes anything: it is a label: what it is worth is what the hold of that sum in a sandbox is worth. -/
noncomputable def Try.pinned : Pinned := { name := "ytfpdgfgbonbpjab", sum := "c4a609cd0af77aa4af09969483824a4535fc6ac067ace19aafa820d0610069d1", checked := Try.checked }
namespace Rows
def none {H : Type} : Left H := { results := [], args := [] }

/-- 'keystonelaw2.DescParts': WHATEVER THE INPUT: true; the input reads as it did. -/
def descPartsSpec : ChangeSpec := { name := "descParts", fn := fun _ => fun
  | [d] => { results := [.lit (.bool true)], args := [d] }
  | _ => none }
def descPartsRow : OpenClaim := { program := "ytfpdgfgbonbpjab", sum := "c4a609cd0af77aa4af09969483824a4535fc6ac067ace19aafa820d0610069d1", func := "keystone/keystonelaw2.DescParts", spec := "descParts", inPlace := ["internal/bytealg.IndexByteString", "internal/abi.NoEscape", "internal/bytealg.MakeNoZero"], apart := false }
def DescPartsSaid : Prop := descPartsRow.holds Try.pinned (OpenSpec.ofChange descPartsSpec)

/-- ITS FALSE NEIGHBOUR: 'it returns false'. Refute it at one input. -/
def descPartsWrong : ChangeSpec := { name := "descParts", fn := fun _ => fun
  | [d] => { results := [.lit (.bool false)], args := [d] }
  | _ => none }
def DescPartsWrongFalsely : Prop := descPartsRow.holds Try.pinned (OpenSpec.ofChange descPartsWrong)

/-- 'keystonelaw2.DescNamed': WHATEVER THE INPUT: true; the input reads as it did. -/
def descNamedSpec : ChangeSpec := { name := "descNamed", fn := fun _ => fun
  | [d] => { results := [.lit (.bool true)], args := [d] }
  | _ => none }
def descNamedRow : OpenClaim := { program := "ytfpdgfgbonbpjab", sum := "c4a609cd0af77aa4af09969483824a4535fc6ac067ace19aafa820d0610069d1", func := "keystone/keystonelaw2.DescNamed", spec := "descNamed", inPlace := ["internal/bytealg.IndexByteString"], apart := false }
def DescNamedSaid : Prop := descNamedRow.holds Try.pinned (OpenSpec.ofChange descNamedSpec)

/-- ITS FALSE NEIGHBOUR: 'it returns false'. Refute it at one input. -/
def descNamedWrong : ChangeSpec := { name := "descNamed", fn := fun _ => fun
  | [d] => { results := [.lit (.bool false)], args := [d] }
  | _ => none }
def DescNamedWrongFalsely : Prop := descNamedRow.holds Try.pinned (OpenSpec.ofChange descNamedWrong)

/-- 'keystonelaw2.DescBack': WHATEVER THE INPUT: true; the input reads as it did. -/
def descBackSpec : ChangeSpec := { name := "descBack", fn := fun _ => fun
  | [d1, d2, d3] => { results := [.lit (.bool true)], args := [d1, d2, d3] }
  | _ => none }
def descBackRow : OpenClaim := { program := "ytfpdgfgbonbpjab", sum := "c4a609cd0af77aa4af09969483824a4535fc6ac067ace19aafa820d0610069d1", func := "keystone/keystonelaw2.DescBack", spec := "descBack", inPlace := ["internal/bytealg.IndexByteString", "internal/abi.NoEscape", "internal/bytealg.MakeNoZero"], apart := false }
def DescBackSaid : Prop := descBackRow.holds Try.pinned (OpenSpec.ofChange descBackSpec)

/-- ITS FALSE NEIGHBOUR: 'it returns false'. Refute it at one input. -/
def descBackWrong : ChangeSpec := { name := "descBack", fn := fun _ => fun
  | [d1, d2, d3] => { results := [.lit (.bool false)], args := [d1, d2, d3] }
  | _ => none }
def DescBackWrongFalsely : Prop := descBackRow.holds Try.pinned (OpenSpec.ofChange descBackWrong)

/-- 'keystonelaw2.DescSame': WHATEVER THE INPUT: true; the input reads as it did. -/
def descSameSpec : ChangeSpec := { name := "descSame", fn := fun _ => fun
  | [d1, d2] => { results := [.lit (.bool true)], args := [d1, d2] }
  | _ => none }
def descSameRow : OpenClaim := { program := "ytfpdgfgbonbpjab", sum := "c4a609cd0af77aa4af09969483824a4535fc6ac067ace19aafa820d0610069d1", func := "keystone/keystonelaw2.DescSame", spec := "descSame", inPlace := ["internal/bytealg.IndexByteString", "internal/abi.NoEscape", "internal/bytealg.MakeNoZero"], apart := false }
def DescSameSaid : Prop := descSameRow.holds Try.pinned (OpenSpec.ofChange descSameSpec)

/-- ITS FALSE NEIGHBOUR: 'it returns false'. Refute it at one input. -/
def descSameWrong : ChangeSpec := { name := "descSame", fn := fun _ => fun
  | [d1, d2] => { results := [.lit (.bool false)], args := [d1, d2] }
  | _ => none }
def DescSameWrongFalsely : Prop := descSameRow.holds Try.pinned (OpenSpec.ofChange descSameWrong)

/-- 'keystonelaw2.DescElements': WHATEVER THE INPUT: true; the input reads as it did. -/
def descElementsSpec : ChangeSpec := { name := "descElements", fn := fun _ => fun
  | [d] => { results := [.lit (.bool true)], args := [d] }
  | _ => none }
def descElementsRow : OpenClaim := { program := "ytfpdgfgbonbpjab", sum := "c4a609cd0af77aa4af09969483824a4535fc6ac067ace19aafa820d0610069d1", func := "keystone/keystonelaw2.DescElements", spec := "descElements", inPlace := ["internal/bytealg.IndexByteString", "internal/abi.NoEscape", "internal/bytealg.MakeNoZero"], apart := false }
def DescElementsSaid : Prop := descElementsRow.holds Try.pinned (OpenSpec.ofChange descElementsSpec)

/-- ITS FALSE NEIGHBOUR: 'it returns false'. Refute it at one input. -/
def descElementsWrong : ChangeSpec := { name := "descElements", fn := fun _ => fun
  | [d] => { results := [.lit (.bool false)], args := [d] }
  | _ => none }
def DescElementsWrongFalsely : Prop := descElementsRow.holds Try.pinned (OpenSpec.ofChange descElementsWrong)

/-- 'keystonelaw2.DescOwn': WHATEVER THE INPUT: true; the input reads as it did. -/
def descOwnSpec : ChangeSpec := { name := "descOwn", fn := fun _ => fun
  | [d1, d2] => { results := [.lit (.bool true)], args := [d1, d2] }
  | _ => none }
def descOwnRow : OpenClaim := { program := "ytfpdgfgbonbpjab", sum := "c4a609cd0af77aa4af09969483824a4535fc6ac067ace19aafa820d0610069d1", func := "keystone/keystonelaw2.DescOwn", spec := "descOwn", inPlace := ["internal/bytealg.IndexByteString"], apart := false }
def DescOwnSaid : Prop := descOwnRow.holds Try.pinned (OpenSpec.ofChange descOwnSpec)

/-- ITS FALSE NEIGHBOUR: 'it returns false'. Refute it at one input. -/
def descOwnWrong : ChangeSpec := { name := "descOwn", fn := fun _ => fun
  | [d1, d2] => { results := [.lit (.bool false)], args := [d1, d2] }
  | _ => none }
def DescOwnWrongFalsely : Prop := descOwnRow.holds Try.pinned (OpenSpec.ofChange descOwnWrong)

/- THE SECOND FORM. 'bulk': how many values and letters a reading holds, each counted each time it is reached (what is shared counts as often as it is met; a slice's spare places count too). A statement '..UptoSaid' is the law's where the arguments, and the package variables that the reading takes, are together of bulk at most 1048576: NARROWER than '..Said'. Prove '..Said' where nothing that the law and all that it calls make is longer than what came in: it says more and counts as full. Else prove '..UptoSaid'. A law counts once. -/
mutual
def uptoBulk {H : Type} : DataW H → Nat
  | .lit (.string bytes) => bytes.length + 1
  | .lit _ => 1
  | .nil => 1
  | .ptr d => uptoBulk d + 1
  | .slice elems spare => uptoBulkAll elems + uptoBulkAll spare + 1
  | .agg parts => uptoBulkAll parts + 1
  | .iface _ d => uptoBulk d + 1
  | .map entries => uptoBulkEntries entries + 1
  | .held _ => 1
def uptoBulkAll {H : Type} : List (DataW H) → Nat
  | [] => 0
  | d :: r => uptoBulk d + uptoBulkAll r
def uptoBulkEntries {H : Type} : List (Lit × DataW H) → Nat
  | [] => 0
  | x :: r => uptoBulkEntry x + uptoBulkEntries r
def uptoBulkEntry {H : Type} : Lit × DataW H → Nat
  | (.string bytes, d) => bytes.length + uptoBulk d + 1
  | (_, d) => uptoBulk d + 1
 end
def uptoSmall : (H : Type) → List (DataW H) → Bool := fun _ ds => decide (uptoBulkAll ds ≤ 1048576)
def OpenSpec.upto (s : _root_.Go.ChangeSpec) : _root_.Go.OpenSpec := { _root_.Go.OpenSpec.ofChange s with cond := some uptoSmall }

/-- 'keystonelaw2.DescParts', WHERE WHAT IT READS IS OF BULK AT MOST 1048576: true; the input reads as it did. -/
def descPartsUptoRow : OpenClaim := { program := "ytfpdgfgbonbpjab", sum := "c4a609cd0af77aa4af09969483824a4535fc6ac067ace19aafa820d0610069d1", func := "keystone/keystonelaw2.DescParts", spec := "descParts", inPlace := ["internal/bytealg.IndexByteString", "internal/abi.NoEscape", "internal/bytealg.MakeNoZero"], apart := false, narrowed := true }
def DescPartsUptoSaid : Prop := descPartsUptoRow.holds Try.pinned (OpenSpec.upto descPartsSpec)

/-- 'keystonelaw2.DescNamed', WHERE WHAT IT READS IS OF BULK AT MOST 1048576: true; the input reads as it did. -/
def descNamedUptoRow : OpenClaim := { program := "ytfpdgfgbonbpjab", sum := "c4a609cd0af77aa4af09969483824a4535fc6ac067ace19aafa820d0610069d1", func := "keystone/keystonelaw2.DescNamed", spec := "descNamed", inPlace := ["internal/bytealg.IndexByteString"], apart := false, narrowed := true }
def DescNamedUptoSaid : Prop := descNamedUptoRow.holds Try.pinned (OpenSpec.upto descNamedSpec)

/-- 'keystonelaw2.DescBack', WHERE WHAT IT READS IS OF BULK AT MOST 1048576: true; the input reads as it did. -/
def descBackUptoRow : OpenClaim := { program := "ytfpdgfgbonbpjab", sum := "c4a609cd0af77aa4af09969483824a4535fc6ac067ace19aafa820d0610069d1", func := "keystone/keystonelaw2.DescBack", spec := "descBack", inPlace := ["internal/bytealg.IndexByteString", "internal/abi.NoEscape", "internal/bytealg.MakeNoZero"], apart := false, narrowed := true }
def DescBackUptoSaid : Prop := descBackUptoRow.holds Try.pinned (OpenSpec.upto descBackSpec)

/-- 'keystonelaw2.DescSame', WHERE WHAT IT READS IS OF BULK AT MOST 1048576: true; the input reads as it did. -/
def descSameUptoRow : OpenClaim := { program := "ytfpdgfgbonbpjab", sum := "c4a609cd0af77aa4af09969483824a4535fc6ac067ace19aafa820d0610069d1", func := "keystone/keystonelaw2.DescSame", spec := "descSame", inPlace := ["internal/bytealg.IndexByteString", "internal/abi.NoEscape", "internal/bytealg.MakeNoZero"], apart := false, narrowed := true }
def DescSameUptoSaid : Prop := descSameUptoRow.holds Try.pinned (OpenSpec.upto descSameSpec)

/-- 'keystonelaw2.DescElements', WHERE WHAT IT READS IS OF BULK AT MOST 1048576: true; the input reads as it did. -/
def descElementsUptoRow : OpenClaim := { program := "ytfpdgfgbonbpjab", sum := "c4a609cd0af77aa4af09969483824a4535fc6ac067ace19aafa820d0610069d1", func := "keystone/keystonelaw2.DescElements", spec := "descElements", inPlace := ["internal/bytealg.IndexByteString", "internal/abi.NoEscape", "internal/bytealg.MakeNoZero"], apart := false, narrowed := true }
def DescElementsUptoSaid : Prop := descElementsUptoRow.holds Try.pinned (OpenSpec.upto descElementsSpec)

/-- 'keystonelaw2.DescOwn', WHERE WHAT IT READS IS OF BULK AT MOST 1048576: true; the input reads as it did. -/
def descOwnUptoRow : OpenClaim := { program := "ytfpdgfgbonbpjab", sum := "c4a609cd0af77aa4af09969483824a4535fc6ac067ace19aafa820d0610069d1", func := "keystone/keystonelaw2.DescOwn", spec := "descOwn", inPlace := ["internal/bytealg.IndexByteString"], apart := false, narrowed := true }
def DescOwnUptoSaid : Prop := descOwnUptoRow.holds Try.pinned (OpenSpec.upto descOwnSpec)

end Rows
end Go.Proofs.Ytfpdgfgbonbpjab
