/- FOR THE ROWS: a list of links that comes in, opened. -/
import Derived.Test.YtimbgijpeomfcadKMem
import Derived.ProofKit
import Derived.OpenShut
import Derived.Lib.SmallJoins
import Derived.Deep.Slices
import Derived.Deep.Strs
import Derived.Carry
namespace Go.Proofs.Ytimbgijpeomfcad
open Go.ChangeShapes Go.WideShapes Go.ChangeAt Go.RowKit Go.Joins Go.Deep

set_option maxRecDepth 20000

theorem Try.own : ownKnob Try.prog.godebug = none := by kernel_rfl
theorem Try.laidOutB : laidOutB Try.prog = true := by kernel_rfl
theorem Try.cells3 : Try.prog.cellsOf 3 = 1 := by kernel_rfl
theorem Try.cells41 : Try.prog.cellsOf 41 = 3 := by kernel_rfl

section
variable {H : Type} {enc : TypeId × Value → H}

theorem link_cells {W : World} {base n : Nat} {sp : Nat → Bool} {hd : Bool} {cs : List Value} {x : DataW H × List MemPlace} (h : DataW.trod enc Try.prog W base sp hd n 41 cs = some x) : ∃ a b c : Int, cs = [iv a, iv b, iv c] := by
  obtain ⟨y0, y1, y2, m, _, hl, h0, h1, h2⟩ := trod_struct3 Try.underlying41 h
  rw [Try.cells41] at hl
  obtain ⟨c0, c1, c2, rfl⟩ : ∃ c0 c1 c2, cs = [c0, c1, c2] := by
    match cs, hl with
    | [c0, c1, c2], _ => exact ⟨c0, c1, c2, rfl⟩
  have e0 : DataW.trod enc Try.prog W base sp hd m 3 [c0] = some y0 := by simpa [Try.cells3] using h0
  have e1 : DataW.trod enc Try.prog W base sp hd m 3 [c1] = some y1 := by simpa [Try.cells3] using h1
  have e2 : DataW.trod enc Try.prog W base sp hd m 3 [c2] = some y2 := by simpa [Try.cells3] using h2
  obtain ⟨a, q0, _, _⟩ := DataW.trod_int Try.underlying3 e0
  obtain ⟨b, q1, _, _⟩ := DataW.trod_int Try.underlying3 e1
  obtain ⟨c, q2, _, _⟩ := DataW.trod_int Try.underlying3 e2
  simp at q0 q1 q2
  subst q0 q1 q2
  exact ⟨a, b, c, rfl⟩

theorem open_links {W : World} {base : Nat} {v : Value} {d : DataW H} {p : List MemPlace} (hval : Value.okWide Try.prog W .any base 22 v) (h : DataW.Trod enc Try.prog W 0 (fun _ => true) true 22 v d p) :
    ∃ ao n c, v = .slice ao n c ∧ ∃ ls : List (Int × Int × Int), LinkAt W ao ls ∧ ls.length = n := by
  obtain ⟨a0, len, cap, rfl⟩ := okWide_slice Try.underlying22 hval
  refine ⟨a0, len, cap, rfl, ?_⟩
  obtain ⟨fuel, hf⟩ := h
  rcases open_slice Try.underlying22 hf with ⟨hcs, _⟩ | ⟨a, len', cap', m, n, D, Pl, hcs, _, hl, hm, hmm, _, hx⟩
  · simp [Value.cells] at hcs
    obtain ⟨rfl, rfl, rfl⟩ := hcs
    exact ⟨[], .inl rfl, rfl⟩
  · simp [Value.cells] at hcs
    obtain ⟨rfl, rfl, rfl⟩ := hcs
    simp only [if_true] at hmm
    subst hmm
    have each : ∀ i, i < len → ∃ r : Int × Int × Int, W.cell? (a.add (i * 3)) = some (iv r.1) ∧ W.cell? ((a.add (i * 3)).add 1) = some (iv r.2.1) ∧ W.cell? ((a.add (i * 3)).add 2) = some (iv r.2.2) := by
      intro i hi
      obtain ⟨cs', h1, h2⟩ := hx i (by omega)
      rw [Try.cells41] at h1
      obtain ⟨_, hlen, hcell⟩ := World.cells?_some h1
      obtain ⟨l, b, hp, rfl⟩ := link_cells h2
      refine ⟨(l, b, hp), ?_, ?_, ?_⟩
      · have := hcell 0 (by omega)
        simpa [Addr.add] using this
      · have := hcell 1 (by omega)
        simpa using this
      · have := hcell 2 (by omega)
        simpa using this
    obtain ⟨f, hfn⟩ := choose_lt each
    refine ⟨(List.range len).map f, ?_, by simp⟩
    by_cases h0 : len = 0
    · subst h0; exact .inl rfl
    · right
      obtain ⟨b, o, sp⟩ := a
      have z := (hfn 0 (by omega)).1
      have hsp : sp = none := by
        cases sp with
        | none => rfl
        | some q => simp [Addr.add, World.cell?] at z; split at z <;> simp at z
      subst hsp
      refine ⟨b, o, rfl, ?_, fun i hi => ?_⟩
      · exact World.block_lt_of_cell? W _ z
      · have hi' : i < len := by simpa using hi
        obtain ⟨k1, k2, k3⟩ := hfn i hi'
        rw [Addr.add_lit] at k1
        rw [Addr.add_lit, Addr.add_lit] at k2 k3
        simp only [List.getElem_map, List.getElem_range]
        exact ⟨k1, k2, k3⟩
end

end Go.Proofs.Ytimbgijpeomfcad
