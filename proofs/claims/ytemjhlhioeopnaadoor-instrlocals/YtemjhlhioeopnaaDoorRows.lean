/-
  NARROWER THAN 'FOR EVERY INPUT', by the rows' own cells (each row's printed sentence says how): InstrNames: laid · InstrReads: laid · InstrWrites: laid · InstrChecks: laid · InstrJoined: laid · InstrLocals: laid.
  DERIVED. THE GIVEN ROWS OF THIS SEAT. 6 by the template 'for every input the law returns true; each argument reads behind the call as it read before'; 0 by the template 'total and deterministic' (their statements: YtemjhlhioeopnaaDoorTotals.lean).
  GIVEN WITH THE SEED: the statements are not yours to turn. If you find one false, say at which input.
  Laid BY PROGRAM, IN A SANDBOX (cutbox-rows.mjs): the forced cells as the released guide's own fill.sh prints them over the translation 45b24ef509d60d27… (all of the seat's roots in one cut). By AI agents, Wed Nov 11 2026. No macro, syntax, notation, axiom, sorry.
-/
import Derived.Test.YtemjhlhioeopnaaDoorChecked
import GoSem.Claim
import GoSem.ClaimJoined
import GoSem.ClaimMapViews
import Derived.JoinedTies
import Derived.KernelRfl
namespace Go.Proofs.YtemjhlhioeopnaaDoor
/- THE CELL 'sum', in the pinned program and in every row, IS THE sha256 OF THE DUMP (.gsa) THAT YtemjhlhioeopnaaDoorProg.lean LOADS. Nothing in Lean hashes anything: it is a label: what it is worth is what the hold of that sum in a sandbox is worth. -/
noncomputable def Tryd.pinned : Pinned := { name := "ytemjhlhioeopnaadoor", sum := "45b24ef509d60d270db428a38c5f7dcbdf0b19d51ad2ffa0122854225f81f281", checked := Tryd.checked }
namespace Rows
def none {H : Type} : Left H := { results := [], args := [] }

/- WHAT THE LISTED PACKAGE-LEVEL VARIABLES READ AS WHEN THE CALL BEGINS. Each datum BY PROGRAM (the guide's laid-datum.mjs) off the statement by which the dump's own 'gosem.cut.vars' lays the variable. In a bare row this is a premise. The card (YtemjhlhioeopnaaDoorCards.lean) ties it to the program's text. -/
def laid_keystone_instr_words {H : Type} : DataW H := .agg [.lit (.string [110, 111, 112]), .lit (.string [110, 117, 109, 98, 101, 114]), .lit (.string [110, 105, 108]), .lit (.string [108, 111, 97, 100]), .lit (.string [115, 116, 111, 114, 101]), .lit (.string [112, 111, 112]), .lit (.string [100, 117, 112]), .lit (.string [115, 119, 97, 112]), .lit (.string [97, 100, 100]), .lit (.string [115, 117, 98]), .lit (.string [109, 117, 108]), .lit (.string [100, 105, 118]), .lit (.string [114, 101, 109]), .lit (.string [110, 101, 103]), .lit (.string [97, 110, 100]), .lit (.string [111, 114]), .lit (.string [120, 111, 114]), .lit (.string [115, 104, 108]), .lit (.string [115, 104, 114]), .lit (.string [106, 117, 109, 112]), .lit (.string [122, 101, 114, 111]), .lit (.string [109, 105, 110, 117, 115]), .lit (.string [108, 101, 115, 115]), .lit (.string [105, 115, 110, 105, 108]), .lit (.string [115, 97, 109, 101]), .lit (.string [110, 101, 119]), .lit (.string [103, 101, 116]), .lit (.string [112, 117, 116]), .lit (.string [103, 101, 116, 115]), .lit (.string [112, 117, 116, 115]), .lit (.string [97, 114, 114, 97, 121]), .lit (.string [110, 117, 109, 103, 101, 116]), .lit (.string [110, 117, 109, 112, 117, 116]), .lit (.string [114, 101, 102, 103, 101, 116]), .lit (.string [114, 101, 102, 112, 117, 116]), .lit (.string [108, 101, 110, 103, 116, 104]), .lit (.string [99, 97, 115, 116]), .lit (.string [105, 115]), .lit (.string [99, 97, 108, 108]), .lit (.string [102, 97, 99, 101]), .lit (.string [115, 116, 97, 116, 105, 99]), .lit (.string [105, 110, 105, 116]), .lit (.string [114, 101, 116, 117, 114, 110]), .lit (.string [103, 105, 118, 101]), .lit (.string [116, 104, 114, 111, 119]), .lit (.string [112, 114, 105, 110, 116])]

/-- 'keystonelaw4.InstrNames': WHATEVER THE INPUT: true; the input reads as it did. -/
def instrNamesSpec : ChangeSpec := { name := "instrNames", fn := fun _ => fun
  | [d1, d2, d3] => { results := [.lit (.bool true)], args := [d1, d2, d3] }
  | _ => none }
def instrNamesRow : OpenClaim := { program := "ytemjhlhioeopnaadoor", sum := "45b24ef509d60d270db428a38c5f7dcbdf0b19d51ad2ffa0122854225f81f281", func := "keystone/keystonelaw4.InstrNames", spec := "instrNames", named := ["keystone/instr.words"], apart := false, laid := [("keystone/instr.words", laid_keystone_instr_words)] }
def InstrNamesSaid : Prop := instrNamesRow.holds Tryd.pinned (OpenSpec.ofChange instrNamesSpec)

/-- ITS FALSE NEIGHBOUR: 'it returns false'. Refute it at one input. -/
def instrNamesWrong : ChangeSpec := { name := "instrNames", fn := fun _ => fun
  | [d1, d2, d3] => { results := [.lit (.bool false)], args := [d1, d2, d3] }
  | _ => none }
def InstrNamesWrongFalsely : Prop := instrNamesRow.holds Tryd.pinned (OpenSpec.ofChange instrNamesWrong)

/-- 'keystonelaw4.InstrReads': WHATEVER THE INPUT: true; the input reads as it did. -/
def instrReadsSpec : ChangeSpec := { name := "instrReads", fn := fun _ => fun
  | [d1, d2] => { results := [.lit (.bool true)], args := [d1, d2] }
  | _ => none }
def instrReadsRow : OpenClaim := { program := "ytemjhlhioeopnaadoor", sum := "45b24ef509d60d270db428a38c5f7dcbdf0b19d51ad2ffa0122854225f81f281", func := "keystone/keystonelaw4.InstrReads", spec := "instrReads", named := ["keystone/instr.words"], apart := false, laid := [("keystone/instr.words", laid_keystone_instr_words)] }
def InstrReadsSaid : Prop := instrReadsRow.holds Tryd.pinned (OpenSpec.ofChange instrReadsSpec)

/-- ITS FALSE NEIGHBOUR: 'it returns false'. Refute it at one input. -/
def instrReadsWrong : ChangeSpec := { name := "instrReads", fn := fun _ => fun
  | [d1, d2] => { results := [.lit (.bool false)], args := [d1, d2] }
  | _ => none }
def InstrReadsWrongFalsely : Prop := instrReadsRow.holds Tryd.pinned (OpenSpec.ofChange instrReadsWrong)

/-- 'keystonelaw4.InstrWrites': WHATEVER THE INPUT: true; the input reads as it did. -/
def instrWritesSpec : ChangeSpec := { name := "instrWrites", fn := fun _ => fun
  | [d] => { results := [.lit (.bool true)], args := [d] }
  | _ => none }
def instrWritesRow : OpenClaim := { program := "ytemjhlhioeopnaadoor", sum := "45b24ef509d60d270db428a38c5f7dcbdf0b19d51ad2ffa0122854225f81f281", func := "keystone/keystonelaw4.InstrWrites", spec := "instrWrites", named := ["keystone/instr.words"], apart := false, laid := [("keystone/instr.words", laid_keystone_instr_words)] }
def InstrWritesSaid : Prop := instrWritesRow.holds Tryd.pinned (OpenSpec.ofChange instrWritesSpec)

/-- ITS FALSE NEIGHBOUR: 'it returns false'. Refute it at one input. -/
def instrWritesWrong : ChangeSpec := { name := "instrWrites", fn := fun _ => fun
  | [d] => { results := [.lit (.bool false)], args := [d] }
  | _ => none }
def InstrWritesWrongFalsely : Prop := instrWritesRow.holds Tryd.pinned (OpenSpec.ofChange instrWritesWrong)

/-- 'keystonelaw4.InstrChecks': WHATEVER THE INPUT: true; the input reads as it did. -/
def instrChecksSpec : ChangeSpec := { name := "instrChecks", fn := fun _ => fun
  | [d1, d2, d3] => { results := [.lit (.bool true)], args := [d1, d2, d3] }
  | _ => none }
def instrChecksRow : OpenClaim := { program := "ytemjhlhioeopnaadoor", sum := "45b24ef509d60d270db428a38c5f7dcbdf0b19d51ad2ffa0122854225f81f281", func := "keystone/keystonelaw4.InstrChecks", spec := "instrChecks", inPlace := ["internal/bytealg.IndexByteString"], unfollowed := true, recurses := true, named := ["keystone/instr.words"], apart := false, laid := [("keystone/instr.words", laid_keystone_instr_words)] }
def InstrChecksSaid : Prop := instrChecksRow.holds Tryd.pinned (OpenSpec.ofChange instrChecksSpec)

/-- ITS FALSE NEIGHBOUR: 'it returns false'. Refute it at one input. -/
def instrChecksWrong : ChangeSpec := { name := "instrChecks", fn := fun _ => fun
  | [d1, d2, d3] => { results := [.lit (.bool false)], args := [d1, d2, d3] }
  | _ => none }
def InstrChecksWrongFalsely : Prop := instrChecksRow.holds Tryd.pinned (OpenSpec.ofChange instrChecksWrong)

/-- 'keystonelaw4.InstrJoined': WHATEVER THE INPUT: true; the input reads as it did. -/
def instrJoinedSpec : ChangeSpec := { name := "instrJoined", fn := fun _ => fun
  | [d1, d2] => { results := [.lit (.bool true)], args := [d1, d2] }
  | _ => none }
def instrJoinedRow : OpenClaim := { program := "ytemjhlhioeopnaadoor", sum := "45b24ef509d60d270db428a38c5f7dcbdf0b19d51ad2ffa0122854225f81f281", func := "keystone/keystonelaw4.InstrJoined", spec := "instrJoined", named := ["keystone/instr.words"], apart := false, laid := [("keystone/instr.words", laid_keystone_instr_words)] }
def InstrJoinedSaid : Prop := instrJoinedRow.holds Tryd.pinned (OpenSpec.ofChange instrJoinedSpec)

/-- ITS FALSE NEIGHBOUR: 'it returns false'. Refute it at one input. -/
def instrJoinedWrong : ChangeSpec := { name := "instrJoined", fn := fun _ => fun
  | [d1, d2] => { results := [.lit (.bool false)], args := [d1, d2] }
  | _ => none }
def InstrJoinedWrongFalsely : Prop := instrJoinedRow.holds Tryd.pinned (OpenSpec.ofChange instrJoinedWrong)

/-- 'keystonelaw4.InstrLocals': WHATEVER THE INPUT: true; the input reads as it did. -/
def instrLocalsSpec : ChangeSpec := { name := "instrLocals", fn := fun _ => fun
  | [d1, d2, d3] => { results := [.lit (.bool true)], args := [d1, d2, d3] }
  | _ => none }
def instrLocalsRow : OpenClaim := { program := "ytemjhlhioeopnaadoor", sum := "45b24ef509d60d270db428a38c5f7dcbdf0b19d51ad2ffa0122854225f81f281", func := "keystone/keystonelaw4.InstrLocals", spec := "instrLocals", inPlace := ["internal/bytealg.IndexByteString"], unfollowed := true, recurses := true, named := ["keystone/instr.words"], apart := false, laid := [("keystone/instr.words", laid_keystone_instr_words)] }
def InstrLocalsSaid : Prop := instrLocalsRow.holds Tryd.pinned (OpenSpec.ofChange instrLocalsSpec)

/-- ITS FALSE NEIGHBOUR: 'it returns false'. Refute it at one input. -/
def instrLocalsWrong : ChangeSpec := { name := "instrLocals", fn := fun _ => fun
  | [d1, d2, d3] => { results := [.lit (.bool false)], args := [d1, d2, d3] }
  | _ => none }
def InstrLocalsWrongFalsely : Prop := instrLocalsRow.holds Tryd.pinned (OpenSpec.ofChange instrLocalsWrong)

/- THE SECOND FORM. 'bulk': how many values and letters a reading holds, each counted each time it is reached (what is shared counts as often as it is met; a slice's spare places count too). A statement '..UptoSaid' is the law's where the arguments, and the package variables that the reading takes, are together of bulk at most 1048576: NARROWER than '..Said'. Prove '..Said' where nothing that the law and all that it calls make is longer than what came in: it says more and counts as full. Else prove '..UptoSaid'. A law counts once. -/
mutual
def uptoBulk {H : Type} : DataW H → Nat
  | .lit (.string bytes) => bytes.length + 1
  | .lit _ => 1
  | .nil => 1
  | .ptr d => uptoBulk d + 1
  | .slice elems spare => uptoBulkAll elems + uptoBulkAll spare + 1
  | .agg parts => uptoBulkAll parts + 1
  | .iface _ d => uptoBulk d + 1
  | .map entries => uptoBulkEntries entries + 1
  | .held _ => 1
def uptoBulkAll {H : Type} : List (DataW H) → Nat
  | [] => 0
  | d :: r => uptoBulk d + uptoBulkAll r
def uptoBulkEntries {H : Type} : List (Lit × DataW H) → Nat
  | [] => 0
  | x :: r => uptoBulkEntry x + uptoBulkEntries r
def uptoBulkEntry {H : Type} : Lit × DataW H → Nat
  | (.string bytes, d) => bytes.length + uptoBulk d + 1
  | (_, d) => uptoBulk d + 1
 end
def uptoSmall : (H : Type) → List (DataW H) → Bool := fun _ ds => decide (uptoBulkAll ds ≤ 1048576)
def OpenSpec.upto (s : _root_.Go.ChangeSpec) : _root_.Go.OpenSpec := { _root_.Go.OpenSpec.ofChange s with cond := some uptoSmall }

/-- 'keystonelaw4.InstrNames', WHERE WHAT IT READS IS OF BULK AT MOST 1048576: true; the input reads as it did. -/
def instrNamesUptoRow : OpenClaim := { program := "ytemjhlhioeopnaadoor", sum := "45b24ef509d60d270db428a38c5f7dcbdf0b19d51ad2ffa0122854225f81f281", func := "keystone/keystonelaw4.InstrNames", spec := "instrNames", named := ["keystone/instr.words"], apart := false, laid := [("keystone/instr.words", laid_keystone_instr_words)], narrowed := true }
def InstrNamesUptoSaid : Prop := instrNamesUptoRow.holds Tryd.pinned (OpenSpec.upto instrNamesSpec)

/-- 'keystonelaw4.InstrReads', WHERE WHAT IT READS IS OF BULK AT MOST 1048576: true; the input reads as it did. -/
def instrReadsUptoRow : OpenClaim := { program := "ytemjhlhioeopnaadoor", sum := "45b24ef509d60d270db428a38c5f7dcbdf0b19d51ad2ffa0122854225f81f281", func := "keystone/keystonelaw4.InstrReads", spec := "instrReads", named := ["keystone/instr.words"], apart := false, laid := [("keystone/instr.words", laid_keystone_instr_words)], narrowed := true }
def InstrReadsUptoSaid : Prop := instrReadsUptoRow.holds Tryd.pinned (OpenSpec.upto instrReadsSpec)

/-- 'keystonelaw4.InstrWrites', WHERE WHAT IT READS IS OF BULK AT MOST 1048576: true; the input reads as it did. -/
def instrWritesUptoRow : OpenClaim := { program := "ytemjhlhioeopnaadoor", sum := "45b24ef509d60d270db428a38c5f7dcbdf0b19d51ad2ffa0122854225f81f281", func := "keystone/keystonelaw4.InstrWrites", spec := "instrWrites", named := ["keystone/instr.words"], apart := false, laid := [("keystone/instr.words", laid_keystone_instr_words)], narrowed := true }
def InstrWritesUptoSaid : Prop := instrWritesUptoRow.holds Tryd.pinned (OpenSpec.upto instrWritesSpec)

/-- 'keystonelaw4.InstrChecks', WHERE WHAT IT READS IS OF BULK AT MOST 1048576: true; the input reads as it did. -/
def instrChecksUptoRow : OpenClaim := { program := "ytemjhlhioeopnaadoor", sum := "45b24ef509d60d270db428a38c5f7dcbdf0b19d51ad2ffa0122854225f81f281", func := "keystone/keystonelaw4.InstrChecks", spec := "instrChecks", inPlace := ["internal/bytealg.IndexByteString"], unfollowed := true, recurses := true, named := ["keystone/instr.words"], apart := false, laid := [("keystone/instr.words", laid_keystone_instr_words)], narrowed := true }
def InstrChecksUptoSaid : Prop := instrChecksUptoRow.holds Tryd.pinned (OpenSpec.upto instrChecksSpec)

/-- 'keystonelaw4.InstrJoined', WHERE WHAT IT READS IS OF BULK AT MOST 1048576: true; the input reads as it did. -/
def instrJoinedUptoRow : OpenClaim := { program := "ytemjhlhioeopnaadoor", sum := "45b24ef509d60d270db428a38c5f7dcbdf0b19d51ad2ffa0122854225f81f281", func := "keystone/keystonelaw4.InstrJoined", spec := "instrJoined", named := ["keystone/instr.words"], apart := false, laid := [("keystone/instr.words", laid_keystone_instr_words)], narrowed := true }
def InstrJoinedUptoSaid : Prop := instrJoinedUptoRow.holds Tryd.pinned (OpenSpec.upto instrJoinedSpec)

/-- 'keystonelaw4.InstrLocals', WHERE WHAT IT READS IS OF BULK AT MOST 1048576: true; the input reads as it did. -/
def instrLocalsUptoRow : OpenClaim := { program := "ytemjhlhioeopnaadoor", sum := "45b24ef509d60d270db428a38c5f7dcbdf0b19d51ad2ffa0122854225f81f281", func := "keystone/keystonelaw4.InstrLocals", spec := "instrLocals", inPlace := ["internal/bytealg.IndexByteString"], unfollowed := true, recurses := true, named := ["keystone/instr.words"], apart := false, laid := [("keystone/instr.words", laid_keystone_instr_words)], narrowed := true }
def InstrLocalsUptoSaid : Prop := instrLocalsUptoRow.holds Tryd.pinned (OpenSpec.upto instrLocalsSpec)

end Rows
end Go.Proofs.YtemjhlhioeopnaaDoor
