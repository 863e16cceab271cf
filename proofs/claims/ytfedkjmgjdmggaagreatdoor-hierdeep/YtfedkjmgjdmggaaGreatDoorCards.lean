/-
  DERIVED. GIVEN WITH THE SEED: THE CARDS: each row of YtfedkjmgjdmggaaGreatDoorRows.lean that lists a variable, with what it lists TIED to the program's text (the seventh form; the later family's looks); each row that meets fmt, with fmt's text TOLD by the authors' own Lean function (tested against real Go, not proved from fmt's source: count such statements apart). THE CARD IS WHAT COUNTS. Prove the row's statement (the work); the ties are given (YtfedkjmgjdmggaaGreatDoorTie.lean); close each card by the builder's one call (the guide's Derived/Test/ToyasCard.lean, 'card_holds'). Laid BY PROGRAM, IN A SANDBOX (cutbox-door.mjs). By AI agents, Wed Nov 11 2026. No macro, syntax, notation, axiom, sorry.
-/
import Derived.Test.YtfedkjmgjdmggaaGreatDoorRows
import GoSem.ClaimSeven
namespace Go.Proofs.YtfedkjmgjdmggaaGreatDoor
namespace Rows

/-- THE TIED CARD OF 'keystonelaw6.HierRules'. -/
def hierRulesCard : Claim7 := { stood := { row := hierRulesRow, standIns := [], harness := (true, "5d5321766d7d7d4206e9e61b46f3bf14d6056bda7ac6be6867dded29e0249443"), looks := true }, kinds := [], alts := [], laidByText := true, laidKinds := [.handle], laidTests := true, laidLooks := .later }
def HierRulesCardSaid : Prop := Claim7.holds Tryz.pinned (.plain (OpenSpec.ofChange hierRulesSpec)) hierRulesCard

/-- THE TIED CARD OF 'keystonelaw6.HierDeep'. -/
def hierDeepCard : Claim7 := { stood := { row := hierDeepRow, standIns := [], harness := (true, "5d5321766d7d7d4206e9e61b46f3bf14d6056bda7ac6be6867dded29e0249443"), looks := true }, kinds := [], alts := [], laidByText := true, laidKinds := [.handle], laidTests := true, laidLooks := .later }
def HierDeepCardSaid : Prop := Claim7.holds Tryz.pinned (.plain (OpenSpec.ofChange hierDeepSpec)) hierDeepCard

/-- THE SECOND FORM's CARD OF 'keystonelaw6.HierRules'. -/
def hierRulesUptoCard : Claim7 := { stood := { row := hierRulesUptoRow, standIns := [], harness := (true, "5d5321766d7d7d4206e9e61b46f3bf14d6056bda7ac6be6867dded29e0249443"), looks := true }, kinds := [], alts := [], laidByText := true, laidKinds := [.handle], laidTests := true, laidLooks := .later }
def HierRulesUptoCardSaid : Prop := Claim7.holds Tryz.pinned (.plain (OpenSpec.upto hierRulesSpec)) hierRulesUptoCard

/-- THE SECOND FORM's CARD OF 'keystonelaw6.HierDeep'. -/
def hierDeepUptoCard : Claim7 := { stood := { row := hierDeepUptoRow, standIns := [], harness := (true, "5d5321766d7d7d4206e9e61b46f3bf14d6056bda7ac6be6867dded29e0249443"), looks := true }, kinds := [], alts := [], laidByText := true, laidKinds := [.handle], laidTests := true, laidLooks := .later }
def HierDeepUptoCardSaid : Prop := Claim7.holds Tryz.pinned (.plain (OpenSpec.upto hierDeepSpec)) hierDeepUptoCard
end Rows
end Go.Proofs.YtfedkjmgjdmggaaGreatDoor
