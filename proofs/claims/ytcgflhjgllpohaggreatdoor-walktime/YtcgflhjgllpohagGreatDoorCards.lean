/-
  DERIVED. GIVEN WITH THE SEED: THE CARDS: each row of YtcgflhjgllpohagGreatDoorRows.lean that lists a variable, with what it lists TIED to the program's text (the seventh form; the later family's looks); each row that meets fmt, with fmt's text TOLD by the authors' own Lean function (tested against real Go, not proved from fmt's source: count such statements apart). THE CARD IS WHAT COUNTS. Prove the row's statement (the work); the ties are given (YtcgflhjgllpohagGreatDoorTie.lean); close each card by the builder's one call (the guide's Derived/Test/ToyasCard.lean, 'card_holds'). Laid BY PROGRAM, IN A SANDBOX (cutbox-door.mjs). By AI agents, Wed Nov 11 2026. No macro, syntax, notation, axiom, sorry.
-/
import Derived.Test.YtcgflhjgllpohagGreatDoorRows
import GoSem.ClaimSeven
namespace Go.Proofs.YtcgflhjgllpohagGreatDoor
namespace Rows

/-- THE TIED CARD OF 'handpostlaw.WalkHome'. -/
def walkHomeCard : Claim7 := { stood := { row := walkHomeRow, standIns := [], harness := (true, "b40e5bededee0b48d66017bceeaea4bdf43249f6d26eb07a98fa7299b2716e0b"), looks := false }, kinds := [], alts := [], laidByText := true, laidKinds := [.data, .data], laidTests := true, laidLooks := .later }
def WalkHomeCardSaid : Prop := Claim7.holds Tryz.pinned (.plain (OpenSpec.ofChange walkHomeSpec)) walkHomeCard

/-- THE TIED CARD OF 'handpostlaw.WalkTime'. -/
def walkTimeCard : Claim7 := { stood := { row := walkTimeRow, standIns := [], harness := (true, "b40e5bededee0b48d66017bceeaea4bdf43249f6d26eb07a98fa7299b2716e0b"), looks := false }, kinds := [], alts := [], laidByText := true, laidKinds := [.data, .data], laidTests := true, laidLooks := .later }
def WalkTimeCardSaid : Prop := Claim7.holds Tryz.pinned (.plain (OpenSpec.ofChange walkTimeSpec)) walkTimeCard

/-- THE TIED CARD OF 'handpostlaw.WalkLinks'. -/
def walkLinksCard : Claim7 := { stood := { row := walkLinksRow, standIns := [], harness := (true, "b40e5bededee0b48d66017bceeaea4bdf43249f6d26eb07a98fa7299b2716e0b"), looks := false }, kinds := [], alts := [], laidByText := true, laidKinds := [.data, .data], laidTests := true, laidLooks := .later }
def WalkLinksCardSaid : Prop := Claim7.holds Tryz.pinned (.plain (OpenSpec.ofChange walkLinksSpec)) walkLinksCard

/-- THE SECOND FORM's CARD OF 'handpostlaw.WalkHome'. -/
def walkHomeUptoCard : Claim7 := { stood := { row := walkHomeUptoRow, standIns := [], harness := (true, "b40e5bededee0b48d66017bceeaea4bdf43249f6d26eb07a98fa7299b2716e0b"), looks := false }, kinds := [], alts := [], laidByText := true, laidKinds := [.data, .data], laidTests := true, laidLooks := .later }
def WalkHomeUptoCardSaid : Prop := Claim7.holds Tryz.pinned (.plain (OpenSpec.upto walkHomeSpec)) walkHomeUptoCard

/-- THE SECOND FORM's CARD OF 'handpostlaw.WalkTime'. -/
def walkTimeUptoCard : Claim7 := { stood := { row := walkTimeUptoRow, standIns := [], harness := (true, "b40e5bededee0b48d66017bceeaea4bdf43249f6d26eb07a98fa7299b2716e0b"), looks := false }, kinds := [], alts := [], laidByText := true, laidKinds := [.data, .data], laidTests := true, laidLooks := .later }
def WalkTimeUptoCardSaid : Prop := Claim7.holds Tryz.pinned (.plain (OpenSpec.upto walkTimeSpec)) walkTimeUptoCard

/-- THE SECOND FORM's CARD OF 'handpostlaw.WalkLinks'. -/
def walkLinksUptoCard : Claim7 := { stood := { row := walkLinksUptoRow, standIns := [], harness := (true, "b40e5bededee0b48d66017bceeaea4bdf43249f6d26eb07a98fa7299b2716e0b"), looks := false }, kinds := [], alts := [], laidByText := true, laidKinds := [.data, .data], laidTests := true, laidLooks := .later }
def WalkLinksUptoCardSaid : Prop := Claim7.holds Tryz.pinned (.plain (OpenSpec.upto walkLinksSpec)) walkLinksUptoCard
end Rows
end Go.Proofs.YtcgflhjgllpohagGreatDoor
