/-
  DERIVED. GIVEN WITH THE SEED: THE CARDS: each row of YtemjhlhioeopnaaDoorRows.lean that lists a variable, with what it lists TIED to the program's text (the seventh form; the later family's looks); each row that meets fmt, with fmt's text TOLD by the authors' own Lean function (tested against real Go, not proved from fmt's source: count such statements apart). THE CARD IS WHAT COUNTS. Prove the row's statement (the work); the ties are given (YtemjhlhioeopnaaDoorTie.lean); close each card by the builder's one call (the guide's Derived/Test/ToyasCard.lean, 'card_holds'). Laid BY PROGRAM, IN A SANDBOX (cutbox-door.mjs). By AI agents, Wed Nov 11 2026. No macro, syntax, notation, axiom, sorry.
-/
import Derived.Test.YtemjhlhioeopnaaDoorRows
import GoSem.ClaimSeven
namespace Go.Proofs.YtemjhlhioeopnaaDoor
namespace Rows

/-- THE TIED CARD OF 'keystonelaw4.InstrNames'. -/
def instrNamesCard : Claim7 := { stood := { row := instrNamesRow, standIns := [], harness := (true, "597369984b8a174db1c3a5ea6f9729e579d8830dce2b84f8133711a173eb59fb"), looks := false }, kinds := [], alts := [], laidByText := true, laidKinds := [.data], laidTests := true, laidLooks := .later }
def InstrNamesCardSaid : Prop := Claim7.holds Tryd.pinned (.plain (OpenSpec.ofChange instrNamesSpec)) instrNamesCard

/-- THE TIED CARD OF 'keystonelaw4.InstrReads'. -/
def instrReadsCard : Claim7 := { stood := { row := instrReadsRow, standIns := [], harness := (true, "597369984b8a174db1c3a5ea6f9729e579d8830dce2b84f8133711a173eb59fb"), looks := false }, kinds := [], alts := [], laidByText := true, laidKinds := [.data], laidTests := true, laidLooks := .later }
def InstrReadsCardSaid : Prop := Claim7.holds Tryd.pinned (.plain (OpenSpec.ofChange instrReadsSpec)) instrReadsCard

/-- THE TIED CARD OF 'keystonelaw4.InstrWrites'. -/
def instrWritesCard : Claim7 := { stood := { row := instrWritesRow, standIns := [], harness := (true, "597369984b8a174db1c3a5ea6f9729e579d8830dce2b84f8133711a173eb59fb"), looks := false }, kinds := [], alts := [], laidByText := true, laidKinds := [.data], laidTests := true, laidLooks := .later }
def InstrWritesCardSaid : Prop := Claim7.holds Tryd.pinned (.plain (OpenSpec.ofChange instrWritesSpec)) instrWritesCard

/-- THE TIED CARD OF 'keystonelaw4.InstrChecks'. -/
def instrChecksCard : Claim7 := { stood := { row := instrChecksRow, standIns := [], harness := (true, "597369984b8a174db1c3a5ea6f9729e579d8830dce2b84f8133711a173eb59fb"), looks := false }, kinds := [], alts := [], laidByText := true, laidKinds := [.data], laidTests := true, laidLooks := .later }
def InstrChecksCardSaid : Prop := Claim7.holds Tryd.pinned (.plain (OpenSpec.ofChange instrChecksSpec)) instrChecksCard

/-- THE TIED CARD OF 'keystonelaw4.InstrJoined'. -/
def instrJoinedCard : Claim7 := { stood := { row := instrJoinedRow, standIns := [], harness := (true, "597369984b8a174db1c3a5ea6f9729e579d8830dce2b84f8133711a173eb59fb"), looks := false }, kinds := [], alts := [], laidByText := true, laidKinds := [.data], laidTests := true, laidLooks := .later }
def InstrJoinedCardSaid : Prop := Claim7.holds Tryd.pinned (.plain (OpenSpec.ofChange instrJoinedSpec)) instrJoinedCard

/-- THE TIED CARD OF 'keystonelaw4.InstrLocals'. -/
def instrLocalsCard : Claim7 := { stood := { row := instrLocalsRow, standIns := [], harness := (true, "597369984b8a174db1c3a5ea6f9729e579d8830dce2b84f8133711a173eb59fb"), looks := false }, kinds := [], alts := [], laidByText := true, laidKinds := [.data], laidTests := true, laidLooks := .later }
def InstrLocalsCardSaid : Prop := Claim7.holds Tryd.pinned (.plain (OpenSpec.ofChange instrLocalsSpec)) instrLocalsCard

/-- THE SECOND FORM's CARD OF 'keystonelaw4.InstrNames'. -/
def instrNamesUptoCard : Claim7 := { stood := { row := instrNamesUptoRow, standIns := [], harness := (true, "597369984b8a174db1c3a5ea6f9729e579d8830dce2b84f8133711a173eb59fb"), looks := false }, kinds := [], alts := [], laidByText := true, laidKinds := [.data], laidTests := true, laidLooks := .later }
def InstrNamesUptoCardSaid : Prop := Claim7.holds Tryd.pinned (.plain (OpenSpec.upto instrNamesSpec)) instrNamesUptoCard

/-- THE SECOND FORM's CARD OF 'keystonelaw4.InstrReads'. -/
def instrReadsUptoCard : Claim7 := { stood := { row := instrReadsUptoRow, standIns := [], harness := (true, "597369984b8a174db1c3a5ea6f9729e579d8830dce2b84f8133711a173eb59fb"), looks := false }, kinds := [], alts := [], laidByText := true, laidKinds := [.data], laidTests := true, laidLooks := .later }
def InstrReadsUptoCardSaid : Prop := Claim7.holds Tryd.pinned (.plain (OpenSpec.upto instrReadsSpec)) instrReadsUptoCard

/-- THE SECOND FORM's CARD OF 'keystonelaw4.InstrWrites'. -/
def instrWritesUptoCard : Claim7 := { stood := { row := instrWritesUptoRow, standIns := [], harness := (true, "597369984b8a174db1c3a5ea6f9729e579d8830dce2b84f8133711a173eb59fb"), looks := false }, kinds := [], alts := [], laidByText := true, laidKinds := [.data], laidTests := true, laidLooks := .later }
def InstrWritesUptoCardSaid : Prop := Claim7.holds Tryd.pinned (.plain (OpenSpec.upto instrWritesSpec)) instrWritesUptoCard

/-- THE SECOND FORM's CARD OF 'keystonelaw4.InstrChecks'. -/
def instrChecksUptoCard : Claim7 := { stood := { row := instrChecksUptoRow, standIns := [], harness := (true, "597369984b8a174db1c3a5ea6f9729e579d8830dce2b84f8133711a173eb59fb"), looks := false }, kinds := [], alts := [], laidByText := true, laidKinds := [.data], laidTests := true, laidLooks := .later }
def InstrChecksUptoCardSaid : Prop := Claim7.holds Tryd.pinned (.plain (OpenSpec.upto instrChecksSpec)) instrChecksUptoCard

/-- THE SECOND FORM's CARD OF 'keystonelaw4.InstrJoined'. -/
def instrJoinedUptoCard : Claim7 := { stood := { row := instrJoinedUptoRow, standIns := [], harness := (true, "597369984b8a174db1c3a5ea6f9729e579d8830dce2b84f8133711a173eb59fb"), looks := false }, kinds := [], alts := [], laidByText := true, laidKinds := [.data], laidTests := true, laidLooks := .later }
def InstrJoinedUptoCardSaid : Prop := Claim7.holds Tryd.pinned (.plain (OpenSpec.upto instrJoinedSpec)) instrJoinedUptoCard

/-- THE SECOND FORM's CARD OF 'keystonelaw4.InstrLocals'. -/
def instrLocalsUptoCard : Claim7 := { stood := { row := instrLocalsUptoRow, standIns := [], harness := (true, "597369984b8a174db1c3a5ea6f9729e579d8830dce2b84f8133711a173eb59fb"), looks := false }, kinds := [], alts := [], laidByText := true, laidKinds := [.data], laidTests := true, laidLooks := .later }
def InstrLocalsUptoCardSaid : Prop := Claim7.holds Tryd.pinned (.plain (OpenSpec.upto instrLocalsSpec)) instrLocalsUptoCard
end Rows
end Go.Proofs.YtemjhlhioeopnaaDoor
