/-
  DERIVED. GIVEN WITH THE SEED: THE CARDS: each row of YtgiifgjjmffphafGreatDoorRows.lean that lists a variable, with what it lists TIED to the program's text (the seventh form; the later family's looks); each row that meets fmt, with fmt's text TOLD by the authors' own Lean function (tested against real Go, not proved from fmt's source: count such statements apart). THE CARD IS WHAT COUNTS. Prove the row's statement (the work); the ties are given (YtgiifgjjmffphafGreatDoorTie.lean); close each card by the builder's one call (the guide's Derived/Test/ToyasCard.lean, 'card_holds'). Laid BY PROGRAM, IN A SANDBOX (cutbox-door.mjs). By AI agents, Wed Nov 11 2026. No macro, syntax, notation, axiom, sorry.
-/
import Derived.Test.YtgiifgjjmffphafGreatDoorRows
import GoSem.ClaimSeven
namespace Go.Proofs.YtgiifgjjmffphafGreatDoor
namespace Rows

/-- THE TIED CARD OF 'handpostlaw.FibDoes'. -/
def fibDoesCard : Claim7 := { stood := { row := fibDoesRow, standIns := [], harness := (true, "dc8de211c58ca8368ead8da9e923a7dc4e072a3d08bcf8aea76fe745d4a782c5"), looks := false }, kinds := [], alts := [], laidByText := true, laidKinds := [.data, .data], laidTests := true, laidLooks := .later }
def FibDoesCardSaid : Prop := Claim7.holds Tryz.pinned (.plain (OpenSpec.ofChange fibDoesSpec)) fibDoesCard

/-- THE TIED CARD OF 'handpostlaw.FibSame'. -/
def fibSameCard : Claim7 := { stood := { row := fibSameRow, standIns := [], harness := (true, "dc8de211c58ca8368ead8da9e923a7dc4e072a3d08bcf8aea76fe745d4a782c5"), looks := false }, kinds := [], alts := [], laidByText := true, laidKinds := [.data, .data], laidTests := true, laidLooks := .later }
def FibSameCardSaid : Prop := Claim7.holds Tryz.pinned (.plain (OpenSpec.ofChange fibSameSpec)) fibSameCard

/-- THE TIED CARD OF 'handpostlaw.FibRoutes'. -/
def fibRoutesCard : Claim7 := { stood := { row := fibRoutesRow, standIns := [], harness := (true, "dc8de211c58ca8368ead8da9e923a7dc4e072a3d08bcf8aea76fe745d4a782c5"), looks := false }, kinds := [], alts := [], laidByText := true, laidKinds := [.data, .data], laidTests := true, laidLooks := .later }
def FibRoutesCardSaid : Prop := Claim7.holds Tryz.pinned (.plain (OpenSpec.ofChange fibRoutesSpec)) fibRoutesCard

/-- THE SECOND FORM's CARD OF 'handpostlaw.FibDoes'. -/
def fibDoesUptoCard : Claim7 := { stood := { row := fibDoesUptoRow, standIns := [], harness := (true, "dc8de211c58ca8368ead8da9e923a7dc4e072a3d08bcf8aea76fe745d4a782c5"), looks := false }, kinds := [], alts := [], laidByText := true, laidKinds := [.data, .data], laidTests := true, laidLooks := .later }
def FibDoesUptoCardSaid : Prop := Claim7.holds Tryz.pinned (.plain (OpenSpec.upto fibDoesSpec)) fibDoesUptoCard

/-- THE SECOND FORM's CARD OF 'handpostlaw.FibSame'. -/
def fibSameUptoCard : Claim7 := { stood := { row := fibSameUptoRow, standIns := [], harness := (true, "dc8de211c58ca8368ead8da9e923a7dc4e072a3d08bcf8aea76fe745d4a782c5"), looks := false }, kinds := [], alts := [], laidByText := true, laidKinds := [.data, .data], laidTests := true, laidLooks := .later }
def FibSameUptoCardSaid : Prop := Claim7.holds Tryz.pinned (.plain (OpenSpec.upto fibSameSpec)) fibSameUptoCard

/-- THE SECOND FORM's CARD OF 'handpostlaw.FibRoutes'. -/
def fibRoutesUptoCard : Claim7 := { stood := { row := fibRoutesUptoRow, standIns := [], harness := (true, "dc8de211c58ca8368ead8da9e923a7dc4e072a3d08bcf8aea76fe745d4a782c5"), looks := false }, kinds := [], alts := [], laidByText := true, laidKinds := [.data, .data], laidTests := true, laidLooks := .later }
def FibRoutesUptoCardSaid : Prop := Claim7.holds Tryz.pinned (.plain (OpenSpec.upto fibRoutesSpec)) fibRoutesUptoCard
end Rows
end Go.Proofs.YtgiifgjjmffphafGreatDoor
