/-
  DERIVED. GIVEN WITH THE SEED: THE CARDS: each row of YtcgflhjgllpohafGreatDoorRows.lean that lists a variable, with what it lists TIED to the program's text (the seventh form; the later family's looks); each row that meets fmt, with fmt's text TOLD by the authors' own Lean function (tested against real Go, not proved from fmt's source: count such statements apart). THE CARD IS WHAT COUNTS. Prove the row's statement (the work); the ties are given (YtcgflhjgllpohafGreatDoorTie.lean); close each card by the builder's one call (the guide's Derived/Test/ToyasCard.lean, 'card_holds'). Laid BY PROGRAM, IN A SANDBOX (cutbox-door.mjs). By AI agents, Wed Nov 11 2026. No macro, syntax, notation, axiom, sorry.
-/
import Derived.Test.YtcgflhjgllpohafGreatDoorRows
import GoSem.ClaimSeven
namespace Go.Proofs.YtcgflhjgllpohafGreatDoor
namespace Rows

/-- THE TIED CARD OF 'handpostlaw.FibDoes'. -/
def fibDoesCard : Claim7 := { stood := { row := fibDoesRow, standIns := [], harness := (true, "1b48da48badd97e0db10528ba195babef6a4659852fb5bfbe7834f03330609bd"), looks := false }, kinds := [], alts := [], laidByText := true, laidKinds := [.data, .data], laidTests := true, laidLooks := .later }
def FibDoesCardSaid : Prop := Claim7.holds Tryz.pinned (.plain (OpenSpec.ofChange fibDoesSpec)) fibDoesCard

/-- THE TIED CARD OF 'handpostlaw.FibSame'. -/
def fibSameCard : Claim7 := { stood := { row := fibSameRow, standIns := [], harness := (true, "1b48da48badd97e0db10528ba195babef6a4659852fb5bfbe7834f03330609bd"), looks := false }, kinds := [], alts := [], laidByText := true, laidKinds := [.data, .data], laidTests := true, laidLooks := .later }
def FibSameCardSaid : Prop := Claim7.holds Tryz.pinned (.plain (OpenSpec.ofChange fibSameSpec)) fibSameCard

/-- THE TIED CARD OF 'handpostlaw.FibRoutes'. -/
def fibRoutesCard : Claim7 := { stood := { row := fibRoutesRow, standIns := [], harness := (true, "1b48da48badd97e0db10528ba195babef6a4659852fb5bfbe7834f03330609bd"), looks := false }, kinds := [], alts := [], laidByText := true, laidKinds := [.data, .data], laidTests := true, laidLooks := .later }
def FibRoutesCardSaid : Prop := Claim7.holds Tryz.pinned (.plain (OpenSpec.ofChange fibRoutesSpec)) fibRoutesCard

/-- THE TIED CARD OF 'handpostlaw.WalkDoes'. -/
def walkDoesCard : Claim7 := { stood := { row := walkDoesRow, standIns := [], harness := (true, "1b48da48badd97e0db10528ba195babef6a4659852fb5bfbe7834f03330609bd"), looks := false }, kinds := [], alts := [], laidByText := true, laidKinds := [.data, .data], laidTests := true, laidLooks := .later }
def WalkDoesCardSaid : Prop := Claim7.holds Tryz.pinned (.plain (OpenSpec.ofChange walkDoesSpec)) walkDoesCard

/-- THE TIED CARD OF 'handpostlaw.WalkStraight'. -/
def walkStraightCard : Claim7 := { stood := { row := walkStraightRow, standIns := [], harness := (true, "1b48da48badd97e0db10528ba195babef6a4659852fb5bfbe7834f03330609bd"), looks := false }, kinds := [], alts := [], laidByText := true, laidKinds := [.data, .data], laidTests := true, laidLooks := .later }
def WalkStraightCardSaid : Prop := Claim7.holds Tryz.pinned (.plain (OpenSpec.ofChange walkStraightSpec)) walkStraightCard

/-- THE SECOND FORM's CARD OF 'handpostlaw.FibDoes'. -/
def fibDoesUptoCard : Claim7 := { stood := { row := fibDoesUptoRow, standIns := [], harness := (true, "1b48da48badd97e0db10528ba195babef6a4659852fb5bfbe7834f03330609bd"), looks := false }, kinds := [], alts := [], laidByText := true, laidKinds := [.data, .data], laidTests := true, laidLooks := .later }
def FibDoesUptoCardSaid : Prop := Claim7.holds Tryz.pinned (.plain (OpenSpec.upto fibDoesSpec)) fibDoesUptoCard

/-- THE SECOND FORM's CARD OF 'handpostlaw.FibSame'. -/
def fibSameUptoCard : Claim7 := { stood := { row := fibSameUptoRow, standIns := [], harness := (true, "1b48da48badd97e0db10528ba195babef6a4659852fb5bfbe7834f03330609bd"), looks := false }, kinds := [], alts := [], laidByText := true, laidKinds := [.data, .data], laidTests := true, laidLooks := .later }
def FibSameUptoCardSaid : Prop := Claim7.holds Tryz.pinned (.plain (OpenSpec.upto fibSameSpec)) fibSameUptoCard

/-- THE SECOND FORM's CARD OF 'handpostlaw.FibRoutes'. -/
def fibRoutesUptoCard : Claim7 := { stood := { row := fibRoutesUptoRow, standIns := [], harness := (true, "1b48da48badd97e0db10528ba195babef6a4659852fb5bfbe7834f03330609bd"), looks := false }, kinds := [], alts := [], laidByText := true, laidKinds := [.data, .data], laidTests := true, laidLooks := .later }
def FibRoutesUptoCardSaid : Prop := Claim7.holds Tryz.pinned (.plain (OpenSpec.upto fibRoutesSpec)) fibRoutesUptoCard

/-- THE SECOND FORM's CARD OF 'handpostlaw.WalkDoes'. -/
def walkDoesUptoCard : Claim7 := { stood := { row := walkDoesUptoRow, standIns := [], harness := (true, "1b48da48badd97e0db10528ba195babef6a4659852fb5bfbe7834f03330609bd"), looks := false }, kinds := [], alts := [], laidByText := true, laidKinds := [.data, .data], laidTests := true, laidLooks := .later }
def WalkDoesUptoCardSaid : Prop := Claim7.holds Tryz.pinned (.plain (OpenSpec.upto walkDoesSpec)) walkDoesUptoCard

/-- THE SECOND FORM's CARD OF 'handpostlaw.WalkStraight'. -/
def walkStraightUptoCard : Claim7 := { stood := { row := walkStraightUptoRow, standIns := [], harness := (true, "1b48da48badd97e0db10528ba195babef6a4659852fb5bfbe7834f03330609bd"), looks := false }, kinds := [], alts := [], laidByText := true, laidKinds := [.data, .data], laidTests := true, laidLooks := .later }
def WalkStraightUptoCardSaid : Prop := Claim7.holds Tryz.pinned (.plain (OpenSpec.upto walkStraightSpec)) walkStraightUptoCard
end Rows
end Go.Proofs.YtcgflhjgllpohafGreatDoor
