/-
  DERIVED. GIVEN WITH THE SEED: THE CARDS: each row of YtildemmkhndhjaaGreatDoorRows.lean that lists a variable, with what it lists TIED to the program's text (the seventh form; the later family's looks); each row that meets fmt, with fmt's text TOLD by the authors' own Lean function (tested against real Go, not proved from fmt's source: count such statements apart). THE CARD IS WHAT COUNTS. Prove the row's statement (the work); the ties are given (YtildemmkhndhjaaGreatDoorTie.lean); close each card by the builder's one call (the guide's Derived/Test/ToyasCard.lean, 'card_holds'). Laid BY PROGRAM, IN A SANDBOX (cutbox-door.mjs). By AI agents, Wed Nov 11 2026. No macro, syntax, notation, axiom, sorry.
-/
import Derived.Test.YtildemmkhndhjaaGreatDoorRows
import GoSem.ClaimSeven
namespace Go.Proofs.YtildemmkhndhjaaGreatDoor
namespace Rows

/-- THE TIED CARD OF 'keystonelaw5.ModuleLimits'. -/
def moduleLimitsCard : Claim7 := { stood := { row := moduleLimitsRow, standIns := [], harness := (true, "2a8d1229aca03e74587aa22790fde14a8fa7ac4bd5e0b7b07e82aa72eb29152f"), looks := true }, kinds := [], alts := [], laidByText := true, laidKinds := [.handle], laidTests := true, laidLooks := .later }
def ModuleLimitsCardSaid : Prop := Claim7.holds Tryz.pinned (.plain (OpenSpec.ofChange moduleLimitsSpec)) moduleLimitsCard

/-- THE TIED CARD OF 'keystonelaw5.ModuleOne'. -/
def moduleOneCard : Claim7 := { stood := { row := moduleOneRow, standIns := [], harness := (true, "2a8d1229aca03e74587aa22790fde14a8fa7ac4bd5e0b7b07e82aa72eb29152f"), looks := true }, kinds := [], alts := [], laidByText := true, laidKinds := [.handle], laidTests := true, laidLooks := .later }
def ModuleOneCardSaid : Prop := Claim7.holds Tryz.pinned (.plain (OpenSpec.ofChange moduleOneSpec)) moduleOneCard

/-- THE TIED CARD OF 'keystonelaw5.ModuleOwn'. -/
def moduleOwnCard : Claim7 := { stood := { row := moduleOwnRow, standIns := [], harness := (true, "2a8d1229aca03e74587aa22790fde14a8fa7ac4bd5e0b7b07e82aa72eb29152f"), looks := true }, kinds := [], alts := [], laidByText := true, laidKinds := [.handle], laidTests := true, laidLooks := .later }
def ModuleOwnCardSaid : Prop := Claim7.holds Tryz.pinned (.plain (OpenSpec.ofChange moduleOwnSpec)) moduleOwnCard

/-- THE SECOND FORM's CARD OF 'keystonelaw5.ModuleLimits'. -/
def moduleLimitsUptoCard : Claim7 := { stood := { row := moduleLimitsUptoRow, standIns := [], harness := (true, "2a8d1229aca03e74587aa22790fde14a8fa7ac4bd5e0b7b07e82aa72eb29152f"), looks := true }, kinds := [], alts := [], laidByText := true, laidKinds := [.handle], laidTests := true, laidLooks := .later }
def ModuleLimitsUptoCardSaid : Prop := Claim7.holds Tryz.pinned (.plain (OpenSpec.upto moduleLimitsSpec)) moduleLimitsUptoCard

/-- THE SECOND FORM's CARD OF 'keystonelaw5.ModuleOne'. -/
def moduleOneUptoCard : Claim7 := { stood := { row := moduleOneUptoRow, standIns := [], harness := (true, "2a8d1229aca03e74587aa22790fde14a8fa7ac4bd5e0b7b07e82aa72eb29152f"), looks := true }, kinds := [], alts := [], laidByText := true, laidKinds := [.handle], laidTests := true, laidLooks := .later }
def ModuleOneUptoCardSaid : Prop := Claim7.holds Tryz.pinned (.plain (OpenSpec.upto moduleOneSpec)) moduleOneUptoCard

/-- THE SECOND FORM's CARD OF 'keystonelaw5.ModuleOwn'. -/
def moduleOwnUptoCard : Claim7 := { stood := { row := moduleOwnUptoRow, standIns := [], harness := (true, "2a8d1229aca03e74587aa22790fde14a8fa7ac4bd5e0b7b07e82aa72eb29152f"), looks := true }, kinds := [], alts := [], laidByText := true, laidKinds := [.handle], laidTests := true, laidLooks := .later }
def ModuleOwnUptoCardSaid : Prop := Claim7.holds Tryz.pinned (.plain (OpenSpec.upto moduleOwnSpec)) moduleOwnUptoCard
end Rows
end Go.Proofs.YtildemmkhndhjaaGreatDoor
