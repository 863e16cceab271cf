/-
  DERIVED. GIVEN WITH THE SEED: THE CARDS: each row of YtemjhlhioeopnabDoorRows.lean that lists a variable, with what it lists TIED to the program's text (the seventh form; the later family's looks); each row that meets fmt, with fmt's text TOLD by the authors' own Lean function (tested against real Go, not proved from fmt's source: count such statements apart). THE CARD IS WHAT COUNTS. Prove the row's statement (the work); the ties are given (YtemjhlhioeopnabDoorTie.lean); close each card by the builder's one call (the guide's Derived/Test/ToyasCard.lean, 'card_holds'). Laid BY PROGRAM, IN A SANDBOX (cutbox-door.mjs). By AI agents, Wed Nov 11 2026. No macro, syntax, notation, axiom, sorry.
-/
import Derived.Test.YtemjhlhioeopnabDoorRows
import GoSem.ClaimSeven
namespace Go.Proofs.YtemjhlhioeopnabDoor
namespace Rows

/-- THE TIED CARD OF 'keystonelaw4.InstrBack'. -/
def instrBackCard : Claim7 := { stood := { row := instrBackRow, standIns := [], harness := (true, "ee002580263520ae51c6431bf21d1b6cc3c60289df234b14e40ae657835fbf4d"), looks := false }, kinds := [], alts := [], laidByText := true, laidKinds := [.data], laidTests := true, laidLooks := .later }
def InstrBackCardSaid : Prop := Claim7.holds Tryd.pinned (.plain (OpenSpec.ofChange instrBackSpec)) instrBackCard

/-- THE TIED CARD OF 'keystonelaw4.InstrWords'. -/
def instrWordsCard : Claim7 := { stood := { row := instrWordsRow, standIns := [], harness := (true, "ee002580263520ae51c6431bf21d1b6cc3c60289df234b14e40ae657835fbf4d"), looks := false }, kinds := [], alts := [], laidByText := true, laidKinds := [.data], laidTests := true, laidLooks := .later }
def InstrWordsCardSaid : Prop := Claim7.holds Tryd.pinned (.plain (OpenSpec.ofChange instrWordsSpec)) instrWordsCard

/-- THE TIED CARD OF 'keystonelaw4.InstrFits'. -/
def instrFitsCard : Claim7 := { stood := { row := instrFitsRow, standIns := [], harness := (true, "ee002580263520ae51c6431bf21d1b6cc3c60289df234b14e40ae657835fbf4d"), looks := false }, kinds := [], alts := [], laidByText := true, laidKinds := [.data], laidTests := true, laidLooks := .later }
def InstrFitsCardSaid : Prop := Claim7.holds Tryd.pinned (.plain (OpenSpec.ofChange instrFitsSpec)) instrFitsCard

/-- THE TIED CARD OF 'keystonelaw4.InstrOwn'. -/
def instrOwnCard : Claim7 := { stood := { row := instrOwnRow, standIns := [], harness := (true, "ee002580263520ae51c6431bf21d1b6cc3c60289df234b14e40ae657835fbf4d"), looks := false }, kinds := [], alts := [], laidByText := true, laidKinds := [.data], laidTests := true, laidLooks := .later }
def InstrOwnCardSaid : Prop := Claim7.holds Tryd.pinned (.plain (OpenSpec.ofChange instrOwnSpec)) instrOwnCard

/-- THE SECOND FORM's CARD OF 'keystonelaw4.InstrBack'. -/
def instrBackUptoCard : Claim7 := { stood := { row := instrBackUptoRow, standIns := [], harness := (true, "ee002580263520ae51c6431bf21d1b6cc3c60289df234b14e40ae657835fbf4d"), looks := false }, kinds := [], alts := [], laidByText := true, laidKinds := [.data], laidTests := true, laidLooks := .later }
def InstrBackUptoCardSaid : Prop := Claim7.holds Tryd.pinned (.plain (OpenSpec.upto instrBackSpec)) instrBackUptoCard

/-- THE SECOND FORM's CARD OF 'keystonelaw4.InstrWords'. -/
def instrWordsUptoCard : Claim7 := { stood := { row := instrWordsUptoRow, standIns := [], harness := (true, "ee002580263520ae51c6431bf21d1b6cc3c60289df234b14e40ae657835fbf4d"), looks := false }, kinds := [], alts := [], laidByText := true, laidKinds := [.data], laidTests := true, laidLooks := .later }
def InstrWordsUptoCardSaid : Prop := Claim7.holds Tryd.pinned (.plain (OpenSpec.upto instrWordsSpec)) instrWordsUptoCard

/-- THE SECOND FORM's CARD OF 'keystonelaw4.InstrFits'. -/
def instrFitsUptoCard : Claim7 := { stood := { row := instrFitsUptoRow, standIns := [], harness := (true, "ee002580263520ae51c6431bf21d1b6cc3c60289df234b14e40ae657835fbf4d"), looks := false }, kinds := [], alts := [], laidByText := true, laidKinds := [.data], laidTests := true, laidLooks := .later }
def InstrFitsUptoCardSaid : Prop := Claim7.holds Tryd.pinned (.plain (OpenSpec.upto instrFitsSpec)) instrFitsUptoCard

/-- THE SECOND FORM's CARD OF 'keystonelaw4.InstrOwn'. -/
def instrOwnUptoCard : Claim7 := { stood := { row := instrOwnUptoRow, standIns := [], harness := (true, "ee002580263520ae51c6431bf21d1b6cc3c60289df234b14e40ae657835fbf4d"), looks := false }, kinds := [], alts := [], laidByText := true, laidKinds := [.data], laidTests := true, laidLooks := .later }
def InstrOwnUptoCardSaid : Prop := Claim7.holds Tryd.pinned (.plain (OpenSpec.upto instrOwnSpec)) instrOwnUptoCard
end Rows
end Go.Proofs.YtemjhlhioeopnabDoor
