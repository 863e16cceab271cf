/-
  DERIVED. GIVEN WITH THE SEED: THE CARDS: each row of YtllbjkeahafleaaGreatDoorRows.lean that lists a variable, with what it lists TIED to the program's text (the seventh form; the later family's looks); each row that meets fmt, with fmt's text TOLD by the authors' own Lean function (tested against real Go, not proved from fmt's source: count such statements apart). THE CARD IS WHAT COUNTS. Prove the row's statement (the work); the ties are given (YtllbjkeahafleaaGreatDoorTie.lean); close each card by the builder's one call (the guide's Derived/Test/ToyasCard.lean, 'card_holds'). Laid BY PROGRAM, IN A SANDBOX (cutbox-door.mjs). By AI agents, Wed Nov 11 2026. No macro, syntax, notation, axiom, sorry.
-/
import Derived.Test.YtllbjkeahafleaaGreatDoorRows
import GoSem.ClaimSeven
namespace Go.Proofs.YtllbjkeahafleaaGreatDoor
namespace Rows

/-- THE TIED CARD OF 'keystonelaw14.SlowNil'. -/
def slowNilCard : Claim7 := { stood := { row := slowNilRow, standIns := [], harness := (true, "134379ba96116d9b038df01f3c5178389ee9e822275d5681cbc593281a8d644d"), looks := true }, kinds := [], alts := [], laidByText := true, laidKinds := [.handle, .data], laidTests := true, laidLooks := .later }
def SlowNilCardSaid : Prop := Claim7.holds Tryz.pinned (.plain (OpenSpec.ofChange slowNilSpec)) slowNilCard

/-- THE SECOND FORM's CARD OF 'keystonelaw14.SlowNil'. -/
def slowNilUptoCard : Claim7 := { stood := { row := slowNilUptoRow, standIns := [], harness := (true, "134379ba96116d9b038df01f3c5178389ee9e822275d5681cbc593281a8d644d"), looks := true }, kinds := [], alts := [], laidByText := true, laidKinds := [.handle, .data], laidTests := true, laidLooks := .later }
def SlowNilUptoCardSaid : Prop := Claim7.holds Tryz.pinned (.plain (OpenSpec.upto slowNilSpec)) slowNilUptoCard
end Rows
end Go.Proofs.YtllbjkeahafleaaGreatDoor
