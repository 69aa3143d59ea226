/-
  DERIVED. GIVEN WITH THE SEED: THE CARDS: each row of YtfcknkanbcndjagGreatDoorRows.lean that lists a variable, with what it lists TIED to the program's text (the seventh form; the later family's looks); each row that meets fmt, with fmt's text TOLD by the authors' own Lean function (tested against real Go, not proved from fmt's source: count such statements apart). THE CARD IS WHAT COUNTS. Prove the row's statement (the work); the ties are given (YtfcknkanbcndjagGreatDoorTie.lean); close each card by the builder's one call (the guide's Derived/Test/ToyasCard.lean, 'card_holds'). Laid BY PROGRAM, IN A SANDBOX (cutbox-door.mjs). By AI agents, Wed Nov 11 2026. No macro, syntax, notation, axiom, sorry.
-/
import Derived.Test.YtfcknkanbcndjagGreatDoorRows
import GoSem.ClaimSeven
namespace Go.Proofs.YtfcknkanbcndjagGreatDoor
namespace Rows

/-- THE TIED CARD OF 'handpostlaw.WalkHome'. -/
def walkHomeCard : Claim7 := { stood := { row := walkHomeRow, standIns := [], harness := (true, "567f6af9df1ae7555b52f49b84ecfc3dd712ea0b1a3707e4990500f8fbd33bdc"), looks := true }, kinds := [], alts := [], laidByText := true, laidKinds := [.data, .data], laidTests := true, laidLooks := .later }
def WalkHomeCardSaid : Prop := Claim7.holds Tryz.pinned (.plain (OpenSpec.ofChange walkHomeSpec)) walkHomeCard

/-- THE TIED CARD OF 'handpostlaw.WalkTime'. -/
def walkTimeCard : Claim7 := { stood := { row := walkTimeRow, standIns := [], harness := (true, "567f6af9df1ae7555b52f49b84ecfc3dd712ea0b1a3707e4990500f8fbd33bdc"), looks := true }, kinds := [], alts := [], laidByText := true, laidKinds := [.data, .data], laidTests := true, laidLooks := .later }
def WalkTimeCardSaid : Prop := Claim7.holds Tryz.pinned (.plain (OpenSpec.ofChange walkTimeSpec)) walkTimeCard

/-- THE TIED CARD OF 'handpostlaw.WalkLinks'. -/
def walkLinksCard : Claim7 := { stood := { row := walkLinksRow, standIns := [], harness := (true, "567f6af9df1ae7555b52f49b84ecfc3dd712ea0b1a3707e4990500f8fbd33bdc"), looks := true }, kinds := [], alts := [], laidByText := true, laidKinds := [.data, .data], laidTests := true, laidLooks := .later }
def WalkLinksCardSaid : Prop := Claim7.holds Tryz.pinned (.plain (OpenSpec.ofChange walkLinksSpec)) walkLinksCard

/-- THE TIED CARD OF 'handpostlaw.DeskDoes'. -/
def deskDoesCard : Claim7 := { stood := { row := deskDoesRow, standIns := [], harness := (true, "567f6af9df1ae7555b52f49b84ecfc3dd712ea0b1a3707e4990500f8fbd33bdc"), looks := true }, kinds := [], alts := [], laidByText := true, laidKinds := [.data, .data, .data, .data, .sentinel, .sentinel, .pinned], laidTests := true, laidLooks := .later }
def DeskDoesCardSaid : Prop := Claim7.holds Tryz.pinned (.plain (OpenSpec.ofChange deskDoesSpec)) deskDoesCard

/-- THE TIED CARD OF 'handpostlaw.DeskJoins'. -/
def deskJoinsCard : Claim7 := { stood := { row := deskJoinsRow, standIns := [], harness := (true, "567f6af9df1ae7555b52f49b84ecfc3dd712ea0b1a3707e4990500f8fbd33bdc"), looks := true }, kinds := [], alts := [], laidByText := true, laidKinds := [.data, .data, .data, .data, .sentinel, .sentinel, .pinned], laidTests := true, laidLooks := .later }
def DeskJoinsCardSaid : Prop := Claim7.holds Tryz.pinned (.plain (OpenSpec.ofChange deskJoinsSpec)) deskJoinsCard

/-- THE SECOND FORM's CARD OF 'handpostlaw.WalkHome'. -/
def walkHomeUptoCard : Claim7 := { stood := { row := walkHomeUptoRow, standIns := [], harness := (true, "567f6af9df1ae7555b52f49b84ecfc3dd712ea0b1a3707e4990500f8fbd33bdc"), looks := true }, kinds := [], alts := [], laidByText := true, laidKinds := [.data, .data], laidTests := true, laidLooks := .later }
def WalkHomeUptoCardSaid : Prop := Claim7.holds Tryz.pinned (.plain (OpenSpec.upto walkHomeSpec)) walkHomeUptoCard

/-- THE SECOND FORM's CARD OF 'handpostlaw.WalkTime'. -/
def walkTimeUptoCard : Claim7 := { stood := { row := walkTimeUptoRow, standIns := [], harness := (true, "567f6af9df1ae7555b52f49b84ecfc3dd712ea0b1a3707e4990500f8fbd33bdc"), looks := true }, kinds := [], alts := [], laidByText := true, laidKinds := [.data, .data], laidTests := true, laidLooks := .later }
def WalkTimeUptoCardSaid : Prop := Claim7.holds Tryz.pinned (.plain (OpenSpec.upto walkTimeSpec)) walkTimeUptoCard

/-- THE SECOND FORM's CARD OF 'handpostlaw.WalkLinks'. -/
def walkLinksUptoCard : Claim7 := { stood := { row := walkLinksUptoRow, standIns := [], harness := (true, "567f6af9df1ae7555b52f49b84ecfc3dd712ea0b1a3707e4990500f8fbd33bdc"), looks := true }, kinds := [], alts := [], laidByText := true, laidKinds := [.data, .data], laidTests := true, laidLooks := .later }
def WalkLinksUptoCardSaid : Prop := Claim7.holds Tryz.pinned (.plain (OpenSpec.upto walkLinksSpec)) walkLinksUptoCard

/-- THE SECOND FORM's CARD OF 'handpostlaw.DeskDoes'. -/
def deskDoesUptoCard : Claim7 := { stood := { row := deskDoesUptoRow, standIns := [], harness := (true, "567f6af9df1ae7555b52f49b84ecfc3dd712ea0b1a3707e4990500f8fbd33bdc"), looks := true }, kinds := [], alts := [], laidByText := true, laidKinds := [.data, .data, .data, .data, .sentinel, .sentinel, .pinned], laidTests := true, laidLooks := .later }
def DeskDoesUptoCardSaid : Prop := Claim7.holds Tryz.pinned (.plain (OpenSpec.upto deskDoesSpec)) deskDoesUptoCard

/-- THE SECOND FORM's CARD OF 'handpostlaw.DeskJoins'. -/
def deskJoinsUptoCard : Claim7 := { stood := { row := deskJoinsUptoRow, standIns := [], harness := (true, "567f6af9df1ae7555b52f49b84ecfc3dd712ea0b1a3707e4990500f8fbd33bdc"), looks := true }, kinds := [], alts := [], laidByText := true, laidKinds := [.data, .data, .data, .data, .sentinel, .sentinel, .pinned], laidTests := true, laidLooks := .later }
def DeskJoinsUptoCardSaid : Prop := Claim7.holds Tryz.pinned (.plain (OpenSpec.upto deskJoinsSpec)) deskJoinsUptoCard
end Rows
end Go.Proofs.YtfcknkanbcndjagGreatDoor
