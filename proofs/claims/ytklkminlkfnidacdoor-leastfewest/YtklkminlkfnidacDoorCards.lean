/-
  DERIVED. GIVEN WITH THE SEED: THE CARDS: each row of YtklkminlkfnidacDoorRows.lean that lists a variable, with what it lists TIED to the program's text (the seventh form; the later family's looks); each row that meets fmt, with fmt's text TOLD by the authors' own Lean function (tested against real Go, not proved from fmt's source: count such statements apart). THE CARD IS WHAT COUNTS. Prove the row's statement (the work); the ties are given (YtklkminlkfnidacDoorTie.lean); close each card by the builder's one call (the guide's Derived/Test/ToyasCard.lean, 'card_holds'). Laid BY PROGRAM, IN A SANDBOX (cutbox-door.mjs). By AI agents, Wed Nov 11 2026. No macro, syntax, notation, axiom, sorry.
-/
import Derived.Test.YtklkminlkfnidacDoorRows
import GoSem.ClaimSeven
namespace Go.Proofs.YtklkminlkfnidacDoor
namespace Rows

/-- THE TIED CARD OF 'handpostlaw.LeastSame'. -/
def leastSameCard : Claim7 := { stood := { row := leastSameRow, standIns := [], harness := (true, "de880e39371c15ddaed6d207cc08ebbeb008ef4acf2e07b60e93652c2cab5028"), looks := false }, kinds := [], alts := [], laidByText := true, laidKinds := [.data, .data], laidTests := true, laidLooks := .later }
def LeastSameCardSaid : Prop := Claim7.holds Tryd.pinned (.plain (OpenSpec.ofChange leastSameSpec)) leastSameCard

/-- THE TIED CARD OF 'handpostlaw.LeastFewest'. -/
def leastFewestCard : Claim7 := { stood := { row := leastFewestRow, standIns := [], harness := (true, "de880e39371c15ddaed6d207cc08ebbeb008ef4acf2e07b60e93652c2cab5028"), looks := false }, kinds := [], alts := [], laidByText := true, laidKinds := [.data, .data], laidTests := true, laidLooks := .later }
def LeastFewestCardSaid : Prop := Claim7.holds Tryd.pinned (.plain (OpenSpec.ofChange leastFewestSpec)) leastFewestCard

/-- THE TIED CARD OF 'handpostlaw.LeastNone'. -/
def leastNoneCard : Claim7 := { stood := { row := leastNoneRow, standIns := [], harness := (true, "de880e39371c15ddaed6d207cc08ebbeb008ef4acf2e07b60e93652c2cab5028"), looks := false }, kinds := [], alts := [], laidByText := true, laidKinds := [.data, .data], laidTests := true, laidLooks := .later }
def LeastNoneCardSaid : Prop := Claim7.holds Tryd.pinned (.plain (OpenSpec.ofChange leastNoneSpec)) leastNoneCard

/-- THE TIED CARD OF 'handpostlaw.LeastDiff'. -/
def leastDiffCard : Claim7 := { stood := { row := leastDiffRow, standIns := [], harness := (true, "de880e39371c15ddaed6d207cc08ebbeb008ef4acf2e07b60e93652c2cab5028"), looks := false }, kinds := [], alts := [], laidByText := true, laidKinds := [.data, .data], laidTests := true, laidLooks := .later }
def LeastDiffCardSaid : Prop := Claim7.holds Tryd.pinned (.plain (OpenSpec.ofChange leastDiffSpec)) leastDiffCard

/-- THE SECOND FORM's CARD OF 'handpostlaw.LeastSame'. -/
def leastSameUptoCard : Claim7 := { stood := { row := leastSameUptoRow, standIns := [], harness := (true, "de880e39371c15ddaed6d207cc08ebbeb008ef4acf2e07b60e93652c2cab5028"), looks := false }, kinds := [], alts := [], laidByText := true, laidKinds := [.data, .data], laidTests := true, laidLooks := .later }
def LeastSameUptoCardSaid : Prop := Claim7.holds Tryd.pinned (.plain (OpenSpec.upto leastSameSpec)) leastSameUptoCard

/-- THE SECOND FORM's CARD OF 'handpostlaw.LeastFewest'. -/
def leastFewestUptoCard : Claim7 := { stood := { row := leastFewestUptoRow, standIns := [], harness := (true, "de880e39371c15ddaed6d207cc08ebbeb008ef4acf2e07b60e93652c2cab5028"), looks := false }, kinds := [], alts := [], laidByText := true, laidKinds := [.data, .data], laidTests := true, laidLooks := .later }
def LeastFewestUptoCardSaid : Prop := Claim7.holds Tryd.pinned (.plain (OpenSpec.upto leastFewestSpec)) leastFewestUptoCard

/-- THE SECOND FORM's CARD OF 'handpostlaw.LeastNone'. -/
def leastNoneUptoCard : Claim7 := { stood := { row := leastNoneUptoRow, standIns := [], harness := (true, "de880e39371c15ddaed6d207cc08ebbeb008ef4acf2e07b60e93652c2cab5028"), looks := false }, kinds := [], alts := [], laidByText := true, laidKinds := [.data, .data], laidTests := true, laidLooks := .later }
def LeastNoneUptoCardSaid : Prop := Claim7.holds Tryd.pinned (.plain (OpenSpec.upto leastNoneSpec)) leastNoneUptoCard

/-- THE SECOND FORM's CARD OF 'handpostlaw.LeastDiff'. -/
def leastDiffUptoCard : Claim7 := { stood := { row := leastDiffUptoRow, standIns := [], harness := (true, "de880e39371c15ddaed6d207cc08ebbeb008ef4acf2e07b60e93652c2cab5028"), looks := false }, kinds := [], alts := [], laidByText := true, laidKinds := [.data, .data], laidTests := true, laidLooks := .later }
def LeastDiffUptoCardSaid : Prop := Claim7.holds Tryd.pinned (.plain (OpenSpec.upto leastDiffSpec)) leastDiffUptoCard
end Rows
end Go.Proofs.YtklkminlkfnidacDoor
