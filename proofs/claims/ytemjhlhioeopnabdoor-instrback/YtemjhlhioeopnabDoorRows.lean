/-
  NARROWER THAN 'FOR EVERY INPUT', by the rows' own cells (each row's printed sentence says how): InstrBack: laid · InstrWords: laid · InstrFits: laid · InstrOwn: laid.
  DERIVED. THE GIVEN ROWS OF THIS SEAT. 4 by the template 'for every input the law returns true; each argument reads behind the call as it read before'; 0 by the template 'total and deterministic' (their statements: YtemjhlhioeopnabDoorTotals.lean).
  GIVEN WITH THE SEED: the statements are not yours to turn. If you find one false, say at which input.
  Laid BY PROGRAM, IN A SANDBOX (cutbox-rows.mjs): the forced cells as the released guide's own fill.sh prints them over the translation 82816cf108fc8f48… (all of the seat's roots in one cut). By AI agents, Wed Nov 11 2026. No macro, syntax, notation, axiom, sorry.
-/
import Derived.Test.YtemjhlhioeopnabDoorChecked
import GoSem.Claim
import GoSem.ClaimJoined
import GoSem.ClaimMapViews
import Derived.JoinedTies
import Derived.KernelRfl
namespace Go.Proofs.YtemjhlhioeopnabDoor
/- THE CELL 'sum', in the pinned program and in every row, IS THE sha256 OF THE DUMP (.gsa) THAT YtemjhlhioeopnabDoorProg.lean LOADS. Nothing in Lean hashes anything: it is a label: what it is worth is what the hold of that sum in a sandbox is worth. -/
noncomputable def Tryd.pinned : Pinned := { name := "ytemjhlhioeopnabdoor", sum := "82816cf108fc8f488e8ed21751b652616572128b781289345ac8537f85db3a12", checked := Tryd.checked }
namespace Rows
def none {H : Type} : Left H := { results := [], args := [] }

/- WHAT THE LISTED PACKAGE-LEVEL VARIABLES READ AS WHEN THE CALL BEGINS. Each datum BY PROGRAM (the guide's laid-datum.mjs) off the statement by which the dump's own 'gosem.cut.vars' lays the variable. In a bare row this is a premise. The card (YtemjhlhioeopnabDoorCards.lean) ties it to the program's text. -/
def laid_keystone_instr_words {H : Type} : DataW H := .agg [.lit (.string [110, 111, 112]), .lit (.string [110, 117, 109, 98, 101, 114]), .lit (.string [110, 105, 108]), .lit (.string [108, 111, 97, 100]), .lit (.string [115, 116, 111, 114, 101]), .lit (.string [112, 111, 112]), .lit (.string [100, 117, 112]), .lit (.string [115, 119, 97, 112]), .lit (.string [97, 100, 100]), .lit (.string [115, 117, 98]), .lit (.string [109, 117, 108]), .lit (.string [100, 105, 118]), .lit (.string [114, 101, 109]), .lit (.string [110, 101, 103]), .lit (.string [97, 110, 100]), .lit (.string [111, 114]), .lit (.string [120, 111, 114]), .lit (.string [115, 104, 108]), .lit (.string [115, 104, 114]), .lit (.string [106, 117, 109, 112]), .lit (.string [122, 101, 114, 111]), .lit (.string [109, 105, 110, 117, 115]), .lit (.string [108, 101, 115, 115]), .lit (.string [105, 115, 110, 105, 108]), .lit (.string [115, 97, 109, 101]), .lit (.string [110, 101, 119]), .lit (.string [103, 101, 116]), .lit (.string [112, 117, 116]), .lit (.string [103, 101, 116, 115]), .lit (.string [112, 117, 116, 115]), .lit (.string [97, 114, 114, 97, 121]), .lit (.string [110, 117, 109, 103, 101, 116]), .lit (.string [110, 117, 109, 112, 117, 116]), .lit (.string [114, 101, 102, 103, 101, 116]), .lit (.string [114, 101, 102, 112, 117, 116]), .lit (.string [108, 101, 110, 103, 116, 104]), .lit (.string [99, 97, 115, 116]), .lit (.string [105, 115]), .lit (.string [99, 97, 108, 108]), .lit (.string [102, 97, 99, 101]), .lit (.string [115, 116, 97, 116, 105, 99]), .lit (.string [105, 110, 105, 116]), .lit (.string [114, 101, 116, 117, 114, 110]), .lit (.string [103, 105, 118, 101]), .lit (.string [116, 104, 114, 111, 119]), .lit (.string [112, 114, 105, 110, 116])]

/-- 'keystonelaw4.InstrBack': WHATEVER THE INPUT: true; the input reads as it did. -/
def instrBackSpec : ChangeSpec := { name := "instrBack", fn := fun _ => fun
  | [d1, d2] => { results := [.lit (.bool true)], args := [d1, d2] }
  | _ => none }
def instrBackRow : OpenClaim := { program := "ytemjhlhioeopnabdoor", sum := "82816cf108fc8f488e8ed21751b652616572128b781289345ac8537f85db3a12", func := "keystone/keystonelaw4.InstrBack", spec := "instrBack", named := ["keystone/instr.words"], apart := false, laid := [("keystone/instr.words", laid_keystone_instr_words)] }
def InstrBackSaid : Prop := instrBackRow.holds Tryd.pinned (OpenSpec.ofChange instrBackSpec)

/-- ITS FALSE NEIGHBOUR: 'it returns false'. Refute it at one input. -/
def instrBackWrong : ChangeSpec := { name := "instrBack", fn := fun _ => fun
  | [d1, d2] => { results := [.lit (.bool false)], args := [d1, d2] }
  | _ => none }
def InstrBackWrongFalsely : Prop := instrBackRow.holds Tryd.pinned (OpenSpec.ofChange instrBackWrong)

/-- 'keystonelaw4.InstrWords': WHATEVER THE INPUT: true; the input reads as it did. -/
def instrWordsSpec : ChangeSpec := { name := "instrWords", fn := fun _ => fun
  | [d] => { results := [.lit (.bool true)], args := [d] }
  | _ => none }
def instrWordsRow : OpenClaim := { program := "ytemjhlhioeopnabdoor", sum := "82816cf108fc8f488e8ed21751b652616572128b781289345ac8537f85db3a12", func := "keystone/keystonelaw4.InstrWords", spec := "instrWords", named := ["keystone/instr.words"], apart := false, laid := [("keystone/instr.words", laid_keystone_instr_words)] }
def InstrWordsSaid : Prop := instrWordsRow.holds Tryd.pinned (OpenSpec.ofChange instrWordsSpec)

/-- ITS FALSE NEIGHBOUR: 'it returns false'. Refute it at one input. -/
def instrWordsWrong : ChangeSpec := { name := "instrWords", fn := fun _ => fun
  | [d] => { results := [.lit (.bool false)], args := [d] }
  | _ => none }
def InstrWordsWrongFalsely : Prop := instrWordsRow.holds Tryd.pinned (OpenSpec.ofChange instrWordsWrong)

/-- 'keystonelaw4.InstrFits': WHATEVER THE INPUT: true; the input reads as it did. -/
def instrFitsSpec : ChangeSpec := { name := "instrFits", fn := fun _ => fun
  | [d1, d2, d3] => { results := [.lit (.bool true)], args := [d1, d2, d3] }
  | _ => none }
def instrFitsRow : OpenClaim := { program := "ytemjhlhioeopnabdoor", sum := "82816cf108fc8f488e8ed21751b652616572128b781289345ac8537f85db3a12", func := "keystone/keystonelaw4.InstrFits", spec := "instrFits", inPlace := ["internal/bytealg.IndexByteString"], unfollowed := true, recurses := true, named := ["keystone/instr.words"], apart := false, laid := [("keystone/instr.words", laid_keystone_instr_words)] }
def InstrFitsSaid : Prop := instrFitsRow.holds Tryd.pinned (OpenSpec.ofChange instrFitsSpec)

/-- ITS FALSE NEIGHBOUR: 'it returns false'. Refute it at one input. -/
def instrFitsWrong : ChangeSpec := { name := "instrFits", fn := fun _ => fun
  | [d1, d2, d3] => { results := [.lit (.bool false)], args := [d1, d2, d3] }
  | _ => none }
def InstrFitsWrongFalsely : Prop := instrFitsRow.holds Tryd.pinned (OpenSpec.ofChange instrFitsWrong)

/-- 'keystonelaw4.InstrOwn': WHATEVER THE INPUT: true; the input reads as it did. -/
def instrOwnSpec : ChangeSpec := { name := "instrOwn", fn := fun _ => fun
  | [d] => { results := [.lit (.bool true)], args := [d] }
  | _ => none }
def instrOwnRow : OpenClaim := { program := "ytemjhlhioeopnabdoor", sum := "82816cf108fc8f488e8ed21751b652616572128b781289345ac8537f85db3a12", func := "keystone/keystonelaw4.InstrOwn", spec := "instrOwn", named := ["keystone/instr.words"], apart := false, laid := [("keystone/instr.words", laid_keystone_instr_words)] }
def InstrOwnSaid : Prop := instrOwnRow.holds Tryd.pinned (OpenSpec.ofChange instrOwnSpec)

/-- ITS FALSE NEIGHBOUR: 'it returns false'. Refute it at one input. -/
def instrOwnWrong : ChangeSpec := { name := "instrOwn", fn := fun _ => fun
  | [d] => { results := [.lit (.bool false)], args := [d] }
  | _ => none }
def InstrOwnWrongFalsely : Prop := instrOwnRow.holds Tryd.pinned (OpenSpec.ofChange instrOwnWrong)

/- THE SECOND FORM. 'bulk': how many values and letters a reading holds, each counted each time it is reached (what is shared counts as often as it is met; a slice's spare places count too). A statement '..UptoSaid' is the law's where the arguments, and the package variables that the reading takes, are together of bulk at most 1048576: NARROWER than '..Said'. Prove '..Said' where nothing that the law and all that it calls make is longer than what came in: it says more and counts as full. Else prove '..UptoSaid'. A law counts once. -/
mutual
def uptoBulk {H : Type} : DataW H → Nat
  | .lit (.string bytes) => bytes.length + 1
  | .lit _ => 1
  | .nil => 1
  | .ptr d => uptoBulk d + 1
  | .slice elems spare => uptoBulkAll elems + uptoBulkAll spare + 1
  | .agg parts => uptoBulkAll parts + 1
  | .iface _ d => uptoBulk d + 1
  | .map entries => uptoBulkEntries entries + 1
  | .held _ => 1
def uptoBulkAll {H : Type} : List (DataW H) → Nat
  | [] => 0
  | d :: r => uptoBulk d + uptoBulkAll r
def uptoBulkEntries {H : Type} : List (Lit × DataW H) → Nat
  | [] => 0
  | x :: r => uptoBulkEntry x + uptoBulkEntries r
def uptoBulkEntry {H : Type} : Lit × DataW H → Nat
  | (.string bytes, d) => bytes.length + uptoBulk d + 1
  | (_, d) => uptoBulk d + 1
 end
def uptoSmall : (H : Type) → List (DataW H) → Bool := fun _ ds => decide (uptoBulkAll ds ≤ 1048576)
def OpenSpec.upto (s : _root_.Go.ChangeSpec) : _root_.Go.OpenSpec := { _root_.Go.OpenSpec.ofChange s with cond := some uptoSmall }

/-- 'keystonelaw4.InstrBack', WHERE WHAT IT READS IS OF BULK AT MOST 1048576: true; the input reads as it did. -/
def instrBackUptoRow : OpenClaim := { program := "ytemjhlhioeopnabdoor", sum := "82816cf108fc8f488e8ed21751b652616572128b781289345ac8537f85db3a12", func := "keystone/keystonelaw4.InstrBack", spec := "instrBack", named := ["keystone/instr.words"], apart := false, laid := [("keystone/instr.words", laid_keystone_instr_words)], narrowed := true }
def InstrBackUptoSaid : Prop := instrBackUptoRow.holds Tryd.pinned (OpenSpec.upto instrBackSpec)

/-- 'keystonelaw4.InstrWords', WHERE WHAT IT READS IS OF BULK AT MOST 1048576: true; the input reads as it did. -/
def instrWordsUptoRow : OpenClaim := { program := "ytemjhlhioeopnabdoor", sum := "82816cf108fc8f488e8ed21751b652616572128b781289345ac8537f85db3a12", func := "keystone/keystonelaw4.InstrWords", spec := "instrWords", named := ["keystone/instr.words"], apart := false, laid := [("keystone/instr.words", laid_keystone_instr_words)], narrowed := true }
def InstrWordsUptoSaid : Prop := instrWordsUptoRow.holds Tryd.pinned (OpenSpec.upto instrWordsSpec)

/-- 'keystonelaw4.InstrFits', WHERE WHAT IT READS IS OF BULK AT MOST 1048576: true; the input reads as it did. -/
def instrFitsUptoRow : OpenClaim := { program := "ytemjhlhioeopnabdoor", sum := "82816cf108fc8f488e8ed21751b652616572128b781289345ac8537f85db3a12", func := "keystone/keystonelaw4.InstrFits", spec := "instrFits", inPlace := ["internal/bytealg.IndexByteString"], unfollowed := true, recurses := true, named := ["keystone/instr.words"], apart := false, laid := [("keystone/instr.words", laid_keystone_instr_words)], narrowed := true }
def InstrFitsUptoSaid : Prop := instrFitsUptoRow.holds Tryd.pinned (OpenSpec.upto instrFitsSpec)

/-- 'keystonelaw4.InstrOwn', WHERE WHAT IT READS IS OF BULK AT MOST 1048576: true; the input reads as it did. -/
def instrOwnUptoRow : OpenClaim := { program := "ytemjhlhioeopnabdoor", sum := "82816cf108fc8f488e8ed21751b652616572128b781289345ac8537f85db3a12", func := "keystone/keystonelaw4.InstrOwn", spec := "instrOwn", named := ["keystone/instr.words"], apart := false, laid := [("keystone/instr.words", laid_keystone_instr_words)], narrowed := true }
def InstrOwnUptoSaid : Prop := instrOwnUptoRow.holds Tryd.pinned (OpenSpec.upto instrOwnSpec)

end Rows
end Go.Proofs.YtemjhlhioeopnabDoor
