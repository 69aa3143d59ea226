/-
  DERIVED. GIVEN WITH THE SEED: THE CARDS: each row of YtgiifgjjmffphafDoorRows.lean that lists a variable, with what it lists TIED to the program's text (the seventh form; the later family's looks); each row that meets fmt, with fmt's text TOLD by the authors' own Lean function (tested against real Go, not proved from fmt's source: count such statements apart). THE CARD IS WHAT COUNTS. Prove the row's statement (the work); the ties are given (YtgiifgjjmffphafDoorTie.lean); close each card by the builder's one call (the guide's Derived/Test/ToyasCard.lean, 'card_holds'). Laid BY PROGRAM, IN A SANDBOX (cutbox-door.mjs). By AI agents, Wed Nov 11 2026. No macro, syntax, notation, axiom, sorry.
-/
import Derived.Test.YtgiifgjjmffphafDoorRows
import GoSem.ClaimSeven
namespace Go.Proofs.YtgiifgjjmffphafDoor
namespace Rows

/-- THE TIED CARD OF 'handpostlaw.FibOwns'. -/
def fibOwnsCard : Claim7 := { stood := { row := fibOwnsRow, standIns := [], harness := (true, "785f38476e26aebd944b4c2238fd9362bb84087014b336e2ae2249acbf44b4aa"), looks := false }, kinds := [], alts := [], laidByText := true, laidKinds := [.data, .data], laidTests := true, laidLooks := .later }
def FibOwnsCardSaid : Prop := Claim7.holds Tryd.pinned (.plain (OpenSpec.ofChange fibOwnsSpec)) fibOwnsCard

/-- THE SECOND FORM's CARD OF 'handpostlaw.FibOwns'. -/
def fibOwnsUptoCard : Claim7 := { stood := { row := fibOwnsUptoRow, standIns := [], harness := (true, "785f38476e26aebd944b4c2238fd9362bb84087014b336e2ae2249acbf44b4aa"), looks := false }, kinds := [], alts := [], laidByText := true, laidKinds := [.data, .data], laidTests := true, laidLooks := .later }
def FibOwnsUptoCardSaid : Prop := Claim7.holds Tryd.pinned (.plain (OpenSpec.upto fibOwnsSpec)) fibOwnsUptoCard
end Rows
end Go.Proofs.YtgiifgjjmffphafDoor
