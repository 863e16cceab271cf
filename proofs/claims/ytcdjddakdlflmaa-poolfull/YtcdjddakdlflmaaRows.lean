/-
  No cell of these rows narrows 'for every input' (looked for: loops, veiled, ifaces, maps, wideKeys, modest, calm, conditions, laid).
  DERIVED. THE GIVEN ROWS OF THIS SEAT. 6 by the template 'for every input the law returns true; each argument reads behind the call as it read before'; 0 by the template 'total and deterministic' (their statements: YtcdjddakdlflmaaTotals.lean).
  GIVEN WITH THE SEED: the statements are not yours to turn. If you find one false, say at which input.
  Laid BY PROGRAM, IN A SANDBOX (cutbox-rows.mjs): the forced cells as the released guide's own fill.sh prints them over the translation 52f2907bcae90767… (all of the seat's roots in one cut). By AI agents, Wed Nov 11 2026. No macro, syntax, notation, axiom, sorry.
-/
import Derived.Test.YtcdjddakdlflmaaChecked
import GoSem.Claim
import GoSem.ClaimJoined
import GoSem.ClaimMapViews
import Derived.JoinedTies
import Derived.KernelRfl
namespace Go.Proofs.Ytcdjddakdlflmaa
/- THE CELL 'sum', in the pinned program and in every row, IS THE sha256 OF THE DUMP (.gsa) THAT YtcdjddakdlflmaaProg.lean LOADS. Nothing in Lean hashes anything: it is a label: what it is worth is what the hold of that sum in a sandbox is worth. -/
noncomputable def Try.pinned : Pinned := { name := "ytcdjddakdlflmaa", sum := "52f2907bcae90767cdb2d83b26e713f6ebd72c2efc2ffe51199d5e37caf14991", checked := Try.checked }
namespace Rows
def none {H : Type} : Left H := { results := [], args := [] }

/-- 'keystonelaw3.PoolChecks': WHATEVER THE INPUT: true; the input reads as it did. -/
def poolChecksSpec : ChangeSpec := { name := "poolChecks", fn := fun _ => fun
  | [d] => { results := [.lit (.bool true)], args := [d] }
  | _ => none }
def poolChecksRow : OpenClaim := { program := "ytcdjddakdlflmaa", sum := "52f2907bcae90767cdb2d83b26e713f6ebd72c2efc2ffe51199d5e37caf14991", func := "keystone/keystonelaw3.PoolChecks", spec := "poolChecks", inPlace := ["internal/bytealg.IndexByteString", "internal/abi.NoEscape", "internal/bytealg.MakeNoZero"], unfollowed := true, recurses := true, apart := false }
def PoolChecksSaid : Prop := poolChecksRow.holds Try.pinned (OpenSpec.ofChange poolChecksSpec)

/-- ITS FALSE NEIGHBOUR: 'it returns false'. Refute it at one input. -/
def poolChecksWrong : ChangeSpec := { name := "poolChecks", fn := fun _ => fun
  | [d] => { results := [.lit (.bool false)], args := [d] }
  | _ => none }
def PoolChecksWrongFalsely : Prop := poolChecksRow.holds Try.pinned (OpenSpec.ofChange poolChecksWrong)

/-- 'keystonelaw3.PoolSays': WHATEVER THE INPUT: true; the input reads as it did. -/
def poolSaysSpec : ChangeSpec := { name := "poolSays", fn := fun _ => fun
  | [d1, d2] => { results := [.lit (.bool true)], args := [d1, d2] }
  | _ => none }
def poolSaysRow : OpenClaim := { program := "ytcdjddakdlflmaa", sum := "52f2907bcae90767cdb2d83b26e713f6ebd72c2efc2ffe51199d5e37caf14991", func := "keystone/keystonelaw3.PoolSays", spec := "poolSays", inPlace := ["internal/bytealg.IndexByteString", "internal/abi.NoEscape", "internal/bytealg.MakeNoZero"], unfollowed := true, recurses := true, apart := false }
def PoolSaysSaid : Prop := poolSaysRow.holds Try.pinned (OpenSpec.ofChange poolSaysSpec)

/-- ITS FALSE NEIGHBOUR: 'it returns false'. Refute it at one input. -/
def poolSaysWrong : ChangeSpec := { name := "poolSays", fn := fun _ => fun
  | [d1, d2] => { results := [.lit (.bool false)], args := [d1, d2] }
  | _ => none }
def PoolSaysWrongFalsely : Prop := poolSaysRow.holds Try.pinned (OpenSpec.ofChange poolSaysWrong)

/-- 'keystonelaw3.PoolBuilds': WHATEVER THE INPUT: true; the input reads as it did. -/
def poolBuildsSpec : ChangeSpec := { name := "poolBuilds", fn := fun _ => fun
  | [d1, d2] => { results := [.lit (.bool true)], args := [d1, d2] }
  | _ => none }
def poolBuildsRow : OpenClaim := { program := "ytcdjddakdlflmaa", sum := "52f2907bcae90767cdb2d83b26e713f6ebd72c2efc2ffe51199d5e37caf14991", func := "keystone/keystonelaw3.PoolBuilds", spec := "poolBuilds", inPlace := ["internal/bytealg.IndexByteString", "internal/abi.NoEscape", "internal/bytealg.MakeNoZero"], unfollowed := true, recurses := true, apart := false }
def PoolBuildsSaid : Prop := poolBuildsRow.holds Try.pinned (OpenSpec.ofChange poolBuildsSpec)

/-- ITS FALSE NEIGHBOUR: 'it returns false'. Refute it at one input. -/
def poolBuildsWrong : ChangeSpec := { name := "poolBuilds", fn := fun _ => fun
  | [d1, d2] => { results := [.lit (.bool false)], args := [d1, d2] }
  | _ => none }
def PoolBuildsWrongFalsely : Prop := poolBuildsRow.holds Try.pinned (OpenSpec.ofChange poolBuildsWrong)

/-- 'keystonelaw3.PoolFull': WHATEVER THE INPUT: true; the input reads as it did. -/
def poolFullSpec : ChangeSpec := { name := "poolFull", fn := fun _ => fun
  | [d1, d2] => { results := [.lit (.bool true)], args := [d1, d2] }
  | _ => none }
def poolFullRow : OpenClaim := { program := "ytcdjddakdlflmaa", sum := "52f2907bcae90767cdb2d83b26e713f6ebd72c2efc2ffe51199d5e37caf14991", func := "keystone/keystonelaw3.PoolFull", spec := "poolFull", inPlace := ["internal/bytealg.IndexByteString", "internal/abi.NoEscape", "internal/bytealg.MakeNoZero"], unfollowed := true, recurses := true, apart := false }
def PoolFullSaid : Prop := poolFullRow.holds Try.pinned (OpenSpec.ofChange poolFullSpec)

/-- ITS FALSE NEIGHBOUR: 'it returns false'. Refute it at one input. -/
def poolFullWrong : ChangeSpec := { name := "poolFull", fn := fun _ => fun
  | [d1, d2] => { results := [.lit (.bool false)], args := [d1, d2] }
  | _ => none }
def PoolFullWrongFalsely : Prop := poolFullRow.holds Try.pinned (OpenSpec.ofChange poolFullWrong)

/-- 'keystonelaw3.PoolBehind': WHATEVER THE INPUT: true; the input reads as it did. -/
def poolBehindSpec : ChangeSpec := { name := "poolBehind", fn := fun _ => fun
  | [d1, d2] => { results := [.lit (.bool true)], args := [d1, d2] }
  | _ => none }
def poolBehindRow : OpenClaim := { program := "ytcdjddakdlflmaa", sum := "52f2907bcae90767cdb2d83b26e713f6ebd72c2efc2ffe51199d5e37caf14991", func := "keystone/keystonelaw3.PoolBehind", spec := "poolBehind", inPlace := ["internal/bytealg.IndexByteString", "internal/abi.NoEscape", "internal/bytealg.MakeNoZero"], unfollowed := true, recurses := true, apart := false }
def PoolBehindSaid : Prop := poolBehindRow.holds Try.pinned (OpenSpec.ofChange poolBehindSpec)

/-- ITS FALSE NEIGHBOUR: 'it returns false'. Refute it at one input. -/
def poolBehindWrong : ChangeSpec := { name := "poolBehind", fn := fun _ => fun
  | [d1, d2] => { results := [.lit (.bool false)], args := [d1, d2] }
  | _ => none }
def PoolBehindWrongFalsely : Prop := poolBehindRow.holds Try.pinned (OpenSpec.ofChange poolBehindWrong)

/-- 'keystonelaw3.PoolKinds': WHATEVER THE INPUT: true; the input reads as it did. -/
def poolKindsSpec : ChangeSpec := { name := "poolKinds", fn := fun _ => fun
  | [d] => { results := [.lit (.bool true)], args := [d] }
  | _ => none }
def poolKindsRow : OpenClaim := { program := "ytcdjddakdlflmaa", sum := "52f2907bcae90767cdb2d83b26e713f6ebd72c2efc2ffe51199d5e37caf14991", func := "keystone/keystonelaw3.PoolKinds", spec := "poolKinds", inPlace := ["internal/bytealg.IndexByteString", "internal/abi.NoEscape", "internal/bytealg.MakeNoZero"], unfollowed := true, recurses := true, apart := false }
def PoolKindsSaid : Prop := poolKindsRow.holds Try.pinned (OpenSpec.ofChange poolKindsSpec)

/-- ITS FALSE NEIGHBOUR: 'it returns false'. Refute it at one input. -/
def poolKindsWrong : ChangeSpec := { name := "poolKinds", fn := fun _ => fun
  | [d] => { results := [.lit (.bool false)], args := [d] }
  | _ => none }
def PoolKindsWrongFalsely : Prop := poolKindsRow.holds Try.pinned (OpenSpec.ofChange poolKindsWrong)

/- THE SECOND FORM. 'bulk': how many values and letters a reading holds, each counted each time it is reached (what is shared counts as often as it is met; a slice's spare places count too). A statement '..UptoSaid' is the law's where the arguments, and the package variables that the reading takes, are together of bulk at most 1048576: NARROWER than '..Said'. Prove '..Said' where nothing that the law and all that it calls make is longer than what came in: it says more and counts as full. Else prove '..UptoSaid'. A law counts once. -/
mutual
def uptoBulk {H : Type} : DataW H → Nat
  | .lit (.string bytes) => bytes.length + 1
  | .lit _ => 1
  | .nil => 1
  | .ptr d => uptoBulk d + 1
  | .slice elems spare => uptoBulkAll elems + uptoBulkAll spare + 1
  | .agg parts => uptoBulkAll parts + 1
  | .iface _ d => uptoBulk d + 1
  | .map entries => uptoBulkEntries entries + 1
  | .held _ => 1
def uptoBulkAll {H : Type} : List (DataW H) → Nat
  | [] => 0
  | d :: r => uptoBulk d + uptoBulkAll r
def uptoBulkEntries {H : Type} : List (Lit × DataW H) → Nat
  | [] => 0
  | x :: r => uptoBulkEntry x + uptoBulkEntries r
def uptoBulkEntry {H : Type} : Lit × DataW H → Nat
  | (.string bytes, d) => bytes.length + uptoBulk d + 1
  | (_, d) => uptoBulk d + 1
 end
def uptoSmall : (H : Type) → List (DataW H) → Bool := fun _ ds => decide (uptoBulkAll ds ≤ 1048576)
def OpenSpec.upto (s : _root_.Go.ChangeSpec) : _root_.Go.OpenSpec := { _root_.Go.OpenSpec.ofChange s with cond := some uptoSmall }

/-- 'keystonelaw3.PoolChecks', WHERE WHAT IT READS IS OF BULK AT MOST 1048576: true; the input reads as it did. -/
def poolChecksUptoRow : OpenClaim := { program := "ytcdjddakdlflmaa", sum := "52f2907bcae90767cdb2d83b26e713f6ebd72c2efc2ffe51199d5e37caf14991", func := "keystone/keystonelaw3.PoolChecks", spec := "poolChecks", inPlace := ["internal/bytealg.IndexByteString", "internal/abi.NoEscape", "internal/bytealg.MakeNoZero"], unfollowed := true, recurses := true, apart := false, narrowed := true }
def PoolChecksUptoSaid : Prop := poolChecksUptoRow.holds Try.pinned (OpenSpec.upto poolChecksSpec)

/-- 'keystonelaw3.PoolSays', WHERE WHAT IT READS IS OF BULK AT MOST 1048576: true; the input reads as it did. -/
def poolSaysUptoRow : OpenClaim := { program := "ytcdjddakdlflmaa", sum := "52f2907bcae90767cdb2d83b26e713f6ebd72c2efc2ffe51199d5e37caf14991", func := "keystone/keystonelaw3.PoolSays", spec := "poolSays", inPlace := ["internal/bytealg.IndexByteString", "internal/abi.NoEscape", "internal/bytealg.MakeNoZero"], unfollowed := true, recurses := true, apart := false, narrowed := true }
def PoolSaysUptoSaid : Prop := poolSaysUptoRow.holds Try.pinned (OpenSpec.upto poolSaysSpec)

/-- 'keystonelaw3.PoolBuilds', WHERE WHAT IT READS IS OF BULK AT MOST 1048576: true; the input reads as it did. -/
def poolBuildsUptoRow : OpenClaim := { program := "ytcdjddakdlflmaa", sum := "52f2907bcae90767cdb2d83b26e713f6ebd72c2efc2ffe51199d5e37caf14991", func := "keystone/keystonelaw3.PoolBuilds", spec := "poolBuilds", inPlace := ["internal/bytealg.IndexByteString", "internal/abi.NoEscape", "internal/bytealg.MakeNoZero"], unfollowed := true, recurses := true, apart := false, narrowed := true }
def PoolBuildsUptoSaid : Prop := poolBuildsUptoRow.holds Try.pinned (OpenSpec.upto poolBuildsSpec)

/-- 'keystonelaw3.PoolFull', WHERE WHAT IT READS IS OF BULK AT MOST 1048576: true; the input reads as it did. -/
def poolFullUptoRow : OpenClaim := { program := "ytcdjddakdlflmaa", sum := "52f2907bcae90767cdb2d83b26e713f6ebd72c2efc2ffe51199d5e37caf14991", func := "keystone/keystonelaw3.PoolFull", spec := "poolFull", inPlace := ["internal/bytealg.IndexByteString", "internal/abi.NoEscape", "internal/bytealg.MakeNoZero"], unfollowed := true, recurses := true, apart := false, narrowed := true }
def PoolFullUptoSaid : Prop := poolFullUptoRow.holds Try.pinned (OpenSpec.upto poolFullSpec)

/-- 'keystonelaw3.PoolBehind', WHERE WHAT IT READS IS OF BULK AT MOST 1048576: true; the input reads as it did. -/
def poolBehindUptoRow : OpenClaim := { program := "ytcdjddakdlflmaa", sum := "52f2907bcae90767cdb2d83b26e713f6ebd72c2efc2ffe51199d5e37caf14991", func := "keystone/keystonelaw3.PoolBehind", spec := "poolBehind", inPlace := ["internal/bytealg.IndexByteString", "internal/abi.NoEscape", "internal/bytealg.MakeNoZero"], unfollowed := true, recurses := true, apart := false, narrowed := true }
def PoolBehindUptoSaid : Prop := poolBehindUptoRow.holds Try.pinned (OpenSpec.upto poolBehindSpec)

/-- 'keystonelaw3.PoolKinds', WHERE WHAT IT READS IS OF BULK AT MOST 1048576: true; the input reads as it did. -/
def poolKindsUptoRow : OpenClaim := { program := "ytcdjddakdlflmaa", sum := "52f2907bcae90767cdb2d83b26e713f6ebd72c2efc2ffe51199d5e37caf14991", func := "keystone/keystonelaw3.PoolKinds", spec := "poolKinds", inPlace := ["internal/bytealg.IndexByteString", "internal/abi.NoEscape", "internal/bytealg.MakeNoZero"], unfollowed := true, recurses := true, apart := false, narrowed := true }
def PoolKindsUptoSaid : Prop := poolKindsUptoRow.holds Try.pinned (OpenSpec.upto poolKindsSpec)

end Rows
end Go.Proofs.Ytcdjddakdlflmaa
