/-
  DERIVED. GIVEN WITH THE SEED: THE CARDS: each row of YtpjkgdkebkkjeaaGreatDoorRows.lean that lists a variable, with what it lists TIED to the program's text (the seventh form; the later family's looks); each row that meets fmt, with fmt's text TOLD by the authors' own Lean function (tested against real Go, not proved from fmt's source: count such statements apart). THE CARD IS WHAT COUNTS. Prove the row's statement (the work); the ties are given (YtpjkgdkebkkjeaaGreatDoorTie.lean); close each card by the builder's one call (the guide's Derived/Test/ToyasCard.lean, 'card_holds'). Laid BY PROGRAM, IN A SANDBOX (cutbox-door.mjs). By AI agents, Wed Nov 11 2026. No macro, syntax, notation, axiom, sorry.
-/
import Derived.Test.YtpjkgdkebkkjeaaGreatDoorRows
import GoSem.ClaimSeven
namespace Go.Proofs.YtpjkgdkebkkjeaaGreatDoor
namespace Rows

/-- THE TIED CARD OF 'keystonelaw8.FramesChange'. -/
def framesChangeCard : Claim7 := { stood := { row := framesChangeRow, standIns := [], harness := (true, "bd51580a0452c3b0465e7b6446587690b7f0a104f0312703b62e76690388d600"), looks := true }, kinds := [], alts := [], laidByText := true, laidKinds := [.handle], laidTests := true, laidLooks := .later }
def FramesChangeCardSaid : Prop := Claim7.holds Tryz.pinned (.plain (OpenSpec.ofChange framesChangeSpec)) framesChangeCard

/-- THE SECOND FORM's CARD OF 'keystonelaw8.FramesChange'. -/
def framesChangeUptoCard : Claim7 := { stood := { row := framesChangeUptoRow, standIns := [], harness := (true, "bd51580a0452c3b0465e7b6446587690b7f0a104f0312703b62e76690388d600"), looks := true }, kinds := [], alts := [], laidByText := true, laidKinds := [.handle], laidTests := true, laidLooks := .later }
def FramesChangeUptoCardSaid : Prop := Claim7.holds Tryz.pinned (.plain (OpenSpec.upto framesChangeSpec)) framesChangeUptoCard
end Rows
end Go.Proofs.YtpjkgdkebkkjeaaGreatDoor
