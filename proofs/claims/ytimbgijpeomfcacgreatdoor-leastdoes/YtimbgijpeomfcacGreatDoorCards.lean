/-
  DERIVED. GIVEN WITH THE SEED: THE CARDS: each row of YtimbgijpeomfcacGreatDoorRows.lean that lists a variable, with what it lists TIED to the program's text (the seventh form; the later family's looks); each row that meets fmt, with fmt's text TOLD by the authors' own Lean function (tested against real Go, not proved from fmt's source: count such statements apart). THE CARD IS WHAT COUNTS. Prove the row's statement (the work); the ties are given (YtimbgijpeomfcacGreatDoorTie.lean); close each card by the builder's one call (the guide's Derived/Test/ToyasCard.lean, 'card_holds'). Laid BY PROGRAM, IN A SANDBOX (cutbox-door.mjs). By AI agents, Wed Nov 11 2026. No macro, syntax, notation, axiom, sorry.
-/
import Derived.Test.YtimbgijpeomfcacGreatDoorRows
import GoSem.ClaimSeven
namespace Go.Proofs.YtimbgijpeomfcacGreatDoor
namespace Rows

/-- THE TIED CARD OF 'handpostlaw.LeastDoes'. -/
def leastDoesCard : Claim7 := { stood := { row := leastDoesRow, standIns := [], harness := (true, "48cbc9d4aa4912583748bc883d98725c29772efb2927c19be4a5e24ab4d629a1"), looks := false }, kinds := [], alts := [], laidByText := true, laidKinds := [.data, .data], laidTests := true, laidLooks := .later }
def LeastDoesCardSaid : Prop := Claim7.holds Tryz.pinned (.plain (OpenSpec.ofChange leastDoesSpec)) leastDoesCard

/-- THE SECOND FORM's CARD OF 'handpostlaw.LeastDoes'. -/
def leastDoesUptoCard : Claim7 := { stood := { row := leastDoesUptoRow, standIns := [], harness := (true, "48cbc9d4aa4912583748bc883d98725c29772efb2927c19be4a5e24ab4d629a1"), looks := false }, kinds := [], alts := [], laidByText := true, laidKinds := [.data, .data], laidTests := true, laidLooks := .later }
def LeastDoesUptoCardSaid : Prop := Claim7.holds Tryz.pinned (.plain (OpenSpec.upto leastDoesSpec)) leastDoesUptoCard
end Rows
end Go.Proofs.YtimbgijpeomfcacGreatDoor
