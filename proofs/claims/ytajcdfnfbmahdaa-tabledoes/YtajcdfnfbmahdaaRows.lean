/-
  No cell of these rows narrows 'for every input' (looked for: loops, veiled, ifaces, maps, wideKeys, modest, calm, conditions, laid).
  DERIVED. THE GIVEN ROWS OF THIS SEAT. 6 by the template 'for every input the law returns true; each argument reads behind the call as it read before'; 0 by the template 'total and deterministic' (their statements: YtajcdfnfbmahdaaTotals.lean).
  GIVEN WITH THE SEED: the statements are not yours to turn. If you find one false, say at which input.
  Laid BY PROGRAM, IN A SANDBOX (cutbox-rows.mjs): the forced cells as the released guide's own fill.sh prints them over the translation 81a149098736e77e… (all of the seat's roots in one cut). By AI agents, Wed Nov 11 2026. No macro, syntax, notation, axiom, sorry.
-/
import Derived.Test.YtajcdfnfbmahdaaChecked
import GoSem.Claim
import GoSem.ClaimJoined
import GoSem.ClaimMapViews
import Derived.JoinedTies
import Derived.KernelRfl
namespace Go.Proofs.Ytajcdfnfbmahdaa
/- THE CELL 'sum', in the pinned program and in every row, IS THE sha256 OF THE DUMP (.gsa) THAT YtajcdfnfbmahdaaProg.lean LOADS. Nothing in Lean hashes anything: it is a label: what it is worth is what the hold of that sum in a sandbox is worth. -/
noncomputable def Try.pinned : Pinned := { name := "ytajcdfnfbmahdaa", sum := "81a149098736e77ed8d80dd484ad39285bea8e968f46149c5c52e8a8258b7765", checked := Try.checked }
namespace Rows
def none {H : Type} : Left H := { results := [], args := [] }

/-- 'handpostlaw.PrefixDoes': WHATEVER THE INPUT: true; the input reads as it did. -/
def prefixDoesSpec : ChangeSpec := { name := "prefixDoes", fn := fun _ => fun
  | [d1, d2, d3, d4, d5] => { results := [.lit (.bool true)], args := [d1, d2, d3, d4, d5] }
  | _ => none }
def prefixDoesRow : OpenClaim := { program := "ytajcdfnfbmahdaa", sum := "81a149098736e77ed8d80dd484ad39285bea8e968f46149c5c52e8a8258b7765", func := "handpost/handpostlaw.PrefixDoes", spec := "prefixDoes", apart := false }
def PrefixDoesSaid : Prop := prefixDoesRow.holds Try.pinned (OpenSpec.ofChange prefixDoesSpec)

/-- ITS FALSE NEIGHBOUR: 'it returns false'. Refute it at one input. -/
def prefixDoesWrong : ChangeSpec := { name := "prefixDoes", fn := fun _ => fun
  | [d1, d2, d3, d4, d5] => { results := [.lit (.bool false)], args := [d1, d2, d3, d4, d5] }
  | _ => none }
def PrefixDoesWrongFalsely : Prop := prefixDoesRow.holds Try.pinned (OpenSpec.ofChange prefixDoesWrong)

/-- 'handpostlaw.PrefixHalves': WHATEVER THE INPUT: true; the input reads as it did. -/
def prefixHalvesSpec : ChangeSpec := { name := "prefixHalves", fn := fun _ => fun
  | [d1, d2, d3] => { results := [.lit (.bool true)], args := [d1, d2, d3] }
  | _ => none }
def prefixHalvesRow : OpenClaim := { program := "ytajcdfnfbmahdaa", sum := "81a149098736e77ed8d80dd484ad39285bea8e968f46149c5c52e8a8258b7765", func := "handpost/handpostlaw.PrefixHalves", spec := "prefixHalves", apart := false }
def PrefixHalvesSaid : Prop := prefixHalvesRow.holds Try.pinned (OpenSpec.ofChange prefixHalvesSpec)

/-- ITS FALSE NEIGHBOUR: 'it returns false'. Refute it at one input. -/
def prefixHalvesWrong : ChangeSpec := { name := "prefixHalves", fn := fun _ => fun
  | [d1, d2, d3] => { results := [.lit (.bool false)], args := [d1, d2, d3] }
  | _ => none }
def PrefixHalvesWrongFalsely : Prop := prefixHalvesRow.holds Try.pinned (OpenSpec.ofChange prefixHalvesWrong)

/-- 'handpostlaw.PrefixBack': WHATEVER THE INPUT: true; the input reads as it did. -/
def prefixBackSpec : ChangeSpec := { name := "prefixBack", fn := fun _ => fun
  | [d1, d2] => { results := [.lit (.bool true)], args := [d1, d2] }
  | _ => none }
def prefixBackRow : OpenClaim := { program := "ytajcdfnfbmahdaa", sum := "81a149098736e77ed8d80dd484ad39285bea8e968f46149c5c52e8a8258b7765", func := "handpost/handpostlaw.PrefixBack", spec := "prefixBack", apart := false }
def PrefixBackSaid : Prop := prefixBackRow.holds Try.pinned (OpenSpec.ofChange prefixBackSpec)

/-- ITS FALSE NEIGHBOUR: 'it returns false'. Refute it at one input. -/
def prefixBackWrong : ChangeSpec := { name := "prefixBack", fn := fun _ => fun
  | [d1, d2] => { results := [.lit (.bool false)], args := [d1, d2] }
  | _ => none }
def PrefixBackWrongFalsely : Prop := prefixBackRow.holds Try.pinned (OpenSpec.ofChange prefixBackWrong)

/-- 'handpostlaw.PrefixOrder': WHATEVER THE INPUT: true; the input reads as it did. -/
def prefixOrderSpec : ChangeSpec := { name := "prefixOrder", fn := fun _ => fun
  | [d1, d2, d3] => { results := [.lit (.bool true)], args := [d1, d2, d3] }
  | _ => none }
def prefixOrderRow : OpenClaim := { program := "ytajcdfnfbmahdaa", sum := "81a149098736e77ed8d80dd484ad39285bea8e968f46149c5c52e8a8258b7765", func := "handpost/handpostlaw.PrefixOrder", spec := "prefixOrder", apart := false }
def PrefixOrderSaid : Prop := prefixOrderRow.holds Try.pinned (OpenSpec.ofChange prefixOrderSpec)

/-- ITS FALSE NEIGHBOUR: 'it returns false'. Refute it at one input. -/
def prefixOrderWrong : ChangeSpec := { name := "prefixOrder", fn := fun _ => fun
  | [d1, d2, d3] => { results := [.lit (.bool false)], args := [d1, d2, d3] }
  | _ => none }
def PrefixOrderWrongFalsely : Prop := prefixOrderRow.holds Try.pinned (OpenSpec.ofChange prefixOrderWrong)

/-- 'handpostlaw.PrefixSpan': WHATEVER THE INPUT: true; the input reads as it did. -/
def prefixSpanSpec : ChangeSpec := { name := "prefixSpan", fn := fun _ => fun
  | [d1, d2, d3] => { results := [.lit (.bool true)], args := [d1, d2, d3] }
  | _ => none }
def prefixSpanRow : OpenClaim := { program := "ytajcdfnfbmahdaa", sum := "81a149098736e77ed8d80dd484ad39285bea8e968f46149c5c52e8a8258b7765", func := "handpost/handpostlaw.PrefixSpan", spec := "prefixSpan", apart := false }
def PrefixSpanSaid : Prop := prefixSpanRow.holds Try.pinned (OpenSpec.ofChange prefixSpanSpec)

/-- ITS FALSE NEIGHBOUR: 'it returns false'. Refute it at one input. -/
def prefixSpanWrong : ChangeSpec := { name := "prefixSpan", fn := fun _ => fun
  | [d1, d2, d3] => { results := [.lit (.bool false)], args := [d1, d2, d3] }
  | _ => none }
def PrefixSpanWrongFalsely : Prop := prefixSpanRow.holds Try.pinned (OpenSpec.ofChange prefixSpanWrong)

/-- 'handpostlaw.TableDoes': WHATEVER THE INPUT: true; the input reads as it did. -/
def tableDoesSpec : ChangeSpec := { name := "tableDoes", fn := fun _ => fun
  | [d1, d2, d3, d4] => { results := [.lit (.bool true)], args := [d1, d2, d3, d4] }
  | _ => none }
def tableDoesRow : OpenClaim := { program := "ytajcdfnfbmahdaa", sum := "81a149098736e77ed8d80dd484ad39285bea8e968f46149c5c52e8a8258b7765", func := "handpost/handpostlaw.TableDoes", spec := "tableDoes", inPlace := ["slices.overlaps[handpost/api.Route]"], unfollowed := true, recurses := true, apart := false }
def TableDoesSaid : Prop := tableDoesRow.holds Try.pinned (OpenSpec.ofChange tableDoesSpec)

/-- ITS FALSE NEIGHBOUR: 'it returns false'. Refute it at one input. -/
def tableDoesWrong : ChangeSpec := { name := "tableDoes", fn := fun _ => fun
  | [d1, d2, d3, d4] => { results := [.lit (.bool false)], args := [d1, d2, d3, d4] }
  | _ => none }
def TableDoesWrongFalsely : Prop := tableDoesRow.holds Try.pinned (OpenSpec.ofChange tableDoesWrong)

/- THE SECOND FORM. 'bulk': how many values and letters a reading holds, each counted each time it is reached (what is shared counts as often as it is met; a slice's spare places count too). A statement '..UptoSaid' is the law's where the arguments, and the package variables that the reading takes, are together of bulk at most 1048576: NARROWER than '..Said'. Prove '..Said' where nothing that the law and all that it calls make is longer than what came in: it says more and counts as full. Else prove '..UptoSaid'. A law counts once. -/
mutual
def uptoBulk {H : Type} : DataW H → Nat
  | .lit (.string bytes) => bytes.length + 1
  | .lit _ => 1
  | .nil => 1
  | .ptr d => uptoBulk d + 1
  | .slice elems spare => uptoBulkAll elems + uptoBulkAll spare + 1
  | .agg parts => uptoBulkAll parts + 1
  | .iface _ d => uptoBulk d + 1
  | .map entries => uptoBulkEntries entries + 1
  | .held _ => 1
def uptoBulkAll {H : Type} : List (DataW H) → Nat
  | [] => 0
  | d :: r => uptoBulk d + uptoBulkAll r
def uptoBulkEntries {H : Type} : List (Lit × DataW H) → Nat
  | [] => 0
  | x :: r => uptoBulkEntry x + uptoBulkEntries r
def uptoBulkEntry {H : Type} : Lit × DataW H → Nat
  | (.string bytes, d) => bytes.length + uptoBulk d + 1
  | (_, d) => uptoBulk d + 1
 end
def uptoSmall : (H : Type) → List (DataW H) → Bool := fun _ ds => decide (uptoBulkAll ds ≤ 1048576)
def OpenSpec.upto (s : _root_.Go.ChangeSpec) : _root_.Go.OpenSpec := { _root_.Go.OpenSpec.ofChange s with cond := some uptoSmall }

/-- 'handpostlaw.PrefixDoes', WHERE WHAT IT READS IS OF BULK AT MOST 1048576: true; the input reads as it did. -/
def prefixDoesUptoRow : OpenClaim := { program := "ytajcdfnfbmahdaa", sum := "81a149098736e77ed8d80dd484ad39285bea8e968f46149c5c52e8a8258b7765", func := "handpost/handpostlaw.PrefixDoes", spec := "prefixDoes", apart := false, narrowed := true }
def PrefixDoesUptoSaid : Prop := prefixDoesUptoRow.holds Try.pinned (OpenSpec.upto prefixDoesSpec)

/-- 'handpostlaw.PrefixHalves', WHERE WHAT IT READS IS OF BULK AT MOST 1048576: true; the input reads as it did. -/
def prefixHalvesUptoRow : OpenClaim := { program := "ytajcdfnfbmahdaa", sum := "81a149098736e77ed8d80dd484ad39285bea8e968f46149c5c52e8a8258b7765", func := "handpost/handpostlaw.PrefixHalves", spec := "prefixHalves", apart := false, narrowed := true }
def PrefixHalvesUptoSaid : Prop := prefixHalvesUptoRow.holds Try.pinned (OpenSpec.upto prefixHalvesSpec)

/-- 'handpostlaw.PrefixBack', WHERE WHAT IT READS IS OF BULK AT MOST 1048576: true; the input reads as it did. -/
def prefixBackUptoRow : OpenClaim := { program := "ytajcdfnfbmahdaa", sum := "81a149098736e77ed8d80dd484ad39285bea8e968f46149c5c52e8a8258b7765", func := "handpost/handpostlaw.PrefixBack", spec := "prefixBack", apart := false, narrowed := true }
def PrefixBackUptoSaid : Prop := prefixBackUptoRow.holds Try.pinned (OpenSpec.upto prefixBackSpec)

/-- 'handpostlaw.PrefixOrder', WHERE WHAT IT READS IS OF BULK AT MOST 1048576: true; the input reads as it did. -/
def prefixOrderUptoRow : OpenClaim := { program := "ytajcdfnfbmahdaa", sum := "81a149098736e77ed8d80dd484ad39285bea8e968f46149c5c52e8a8258b7765", func := "handpost/handpostlaw.PrefixOrder", spec := "prefixOrder", apart := false, narrowed := true }
def PrefixOrderUptoSaid : Prop := prefixOrderUptoRow.holds Try.pinned (OpenSpec.upto prefixOrderSpec)

/-- 'handpostlaw.PrefixSpan', WHERE WHAT IT READS IS OF BULK AT MOST 1048576: true; the input reads as it did. -/
def prefixSpanUptoRow : OpenClaim := { program := "ytajcdfnfbmahdaa", sum := "81a149098736e77ed8d80dd484ad39285bea8e968f46149c5c52e8a8258b7765", func := "handpost/handpostlaw.PrefixSpan", spec := "prefixSpan", apart := false, narrowed := true }
def PrefixSpanUptoSaid : Prop := prefixSpanUptoRow.holds Try.pinned (OpenSpec.upto prefixSpanSpec)

/-- 'handpostlaw.TableDoes', WHERE WHAT IT READS IS OF BULK AT MOST 1048576: true; the input reads as it did. -/
def tableDoesUptoRow : OpenClaim := { program := "ytajcdfnfbmahdaa", sum := "81a149098736e77ed8d80dd484ad39285bea8e968f46149c5c52e8a8258b7765", func := "handpost/handpostlaw.TableDoes", spec := "tableDoes", inPlace := ["slices.overlaps[handpost/api.Route]"], unfollowed := true, recurses := true, apart := false, narrowed := true }
def TableDoesUptoSaid : Prop := tableDoesUptoRow.holds Try.pinned (OpenSpec.upto tableDoesSpec)

end Rows
end Go.Proofs.Ytajcdfnfbmahdaa
