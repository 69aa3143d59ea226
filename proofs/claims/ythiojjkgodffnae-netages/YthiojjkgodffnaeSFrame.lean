/- FOR THE ROWS: a list of a net's steps that comes in, opened. -/
import Derived.Test.YthiojjkgodffnaeLNt
import Derived.ProofKit
import Derived.OpenShut
import Derived.Lib.SmallJoins
import Derived.Deep.Slices
import Derived.Deep.Strs
import Derived.Carry
namespace Go.Proofs.Ythiojjkgodffnae
open Go.ChangeShapes Go.WideShapes Go.ChangeAt Go.RowKit Go.Joins Go.Deep

set_option maxRecDepth 20000

instance : Inhabited Sx := ⟨⟨⟨0, 0, 0, 0⟩, 0, 0⟩⟩
theorem Try.own : ownKnob Try.prog.godebug = none := by kernel_rfl
theorem Try.laidOutB : laidOutB Try.prog = true := by kernel_rfl
theorem Try.cells3 : Try.prog.cellsOf 3 = 1 := by kernel_rfl
theorem Try.cells29 : Try.prog.cellsOf 29 = 2 := by kernel_rfl
theorem Try.cells31 : Try.prog.cellsOf 31 = 6 := by kernel_rfl

section
variable {H : Type} {enc : TypeId × Value → H} {P : Program} {w : World} {base : Nat} {spare : Nat → Bool} {held : Bool}

theorem trod_struct5 {t : TypeId} {f0 f1 f2 f3 f4 : Field} {fuel : Nat} {cs : List Value} {x : DataW H × List MemPlace} (ht : P.underlying t = some (.struct #[f0, f1, f2, f3, f4])) (h : DataW.trod enc P w base spare held fuel t cs = some x) :
    ∃ y0 y1 y2 y3 y4 n, x = (.agg [y0.1, y1.1, y2.1, y3.1, y4.1], y0.2 ++ (y1.2 ++ (y2.2 ++ (y3.2 ++ y4.2)))) ∧ cs.length = P.cellsOf t ∧ DataW.trod enc P w base spare held n f0.type ((cs.drop f0.offset).take (P.cellsOf f0.type)) = some y0 ∧
      DataW.trod enc P w base spare held n f1.type ((cs.drop f1.offset).take (P.cellsOf f1.type)) = some y1 ∧ DataW.trod enc P w base spare held n f2.type ((cs.drop f2.offset).take (P.cellsOf f2.type)) = some y2 ∧
      DataW.trod enc P w base spare held n f3.type ((cs.drop f3.offset).take (P.cellsOf f3.type)) = some y3 ∧ DataW.trod enc P w base spare held n f4.type ((cs.drop f4.offset).take (P.cellsOf f4.type)) = some y4 := by
  obtain ⟨xs, n, _, rfl, hl, hlen, hf⟩ := DataW.trod_struct ht h
  match xs, hlen with
  | [y0, y1, y2, y3, y4], _ => exact ⟨y0, y1, y2, y3, y4, n, by simp, hl, by simpa using hf 0 f0 rfl, by simpa using hf 1 f1 rfl, by simpa using hf 2 f2 rfl, by simpa using hf 3 f3 rfl, by simpa using hf 4 f4 rfl⟩
end

section
variable {H : Type} {enc : TypeId × Value → H}

theorem step_cells {W : World} {base n : Nat} {sp : Nat → Bool} {hd : Bool} {cs : List Value} {x : DataW H × List MemPlace} (h : DataW.trod enc Try.prog W base sp hd n 31 cs = some x) : ∃ y : Sx, cs = [iv y.s.k, iv y.s.a, iv y.s.b, iv y.s.n, iv y.l, iv y.b] := by
  obtain ⟨y0, y1, y2, y3, y4, m, rfl, hl, h0, h1, h2, h3, h4⟩ := trod_struct5 Try.underlying31 h
  rw [Try.cells31] at hl
  obtain ⟨c0, c1, c2, c3, c4, c5, rfl⟩ : ∃ c0 c1 c2 c3 c4 c5, cs = [c0, c1, c2, c3, c4, c5] := by
    match cs, hl with
    | [c0, c1, c2, c3, c4, c5], _ => exact ⟨c0, c1, c2, c3, c4, c5, rfl⟩
  have e0 : DataW.trod enc Try.prog W base sp hd m 3 [c0] = some y0 := by simpa [Try.cells3] using h0
  have e1 : DataW.trod enc Try.prog W base sp hd m 3 [c1] = some y1 := by simpa [Try.cells3] using h1
  have e2 : DataW.trod enc Try.prog W base sp hd m 3 [c2] = some y2 := by simpa [Try.cells3] using h2
  have e3 : DataW.trod enc Try.prog W base sp hd m 3 [c3] = some y3 := by simpa [Try.cells3] using h3
  have e4 : DataW.trod enc Try.prog W base sp hd m 29 [c4, c5] = some y4 := by simpa [Try.cells29] using h4
  obtain ⟨z0, z1, k, _, _, i0, i1⟩ := trod_struct2 Try.underlying29 e4
  have f0 : DataW.trod enc Try.prog W base sp hd k 3 [c4] = some z0 := by simpa [Try.cells3] using i0
  have f1 : DataW.trod enc Try.prog W base sp hd k 3 [c5] = some z1 := by simpa [Try.cells3] using i1
  obtain ⟨a0, q0, _, _⟩ := DataW.trod_int Try.underlying3 e0
  obtain ⟨a1, q1, _, _⟩ := DataW.trod_int Try.underlying3 e1
  obtain ⟨a2, q2, _, _⟩ := DataW.trod_int Try.underlying3 e2
  obtain ⟨a3, q3, _, _⟩ := DataW.trod_int Try.underlying3 e3
  obtain ⟨a4, q4, _, _⟩ := DataW.trod_int Try.underlying3 f0
  obtain ⟨a5, q5, _, _⟩ := DataW.trod_int Try.underlying3 f1
  simp at q0 q1 q2 q3 q4 q5
  subst q0 q1 q2 q3 q4 q5
  exact ⟨⟨⟨a0, a1, a2, a3⟩, a4, a5⟩, rfl⟩

theorem open_steps {W : World} {base : Nat} {v : Value} {d : DataW H} {p : List MemPlace} (hval : Value.okWide Try.prog W .any base 22 v) (h : DataW.Trod enc Try.prog W 0 (fun _ => true) true 22 v d p) :
    ∃ ao n c, v = .slice ao n c ∧ ∃ ls : List Sx, SpAt W ao ls ∧ ls.length = n := by
  obtain ⟨a0, len, cap, rfl⟩ := okWide_slice Try.underlying22 hval
  refine ⟨a0, len, cap, rfl, ?_⟩
  obtain ⟨fuel, hf⟩ := h
  rcases open_slice Try.underlying22 hf with ⟨hcs, _⟩ | ⟨a, len', cap', m, n, D, Pl, hcs, _, hl, hm, hmm, _, hx⟩
  · simp [Value.cells] at hcs
    obtain ⟨rfl, rfl, rfl⟩ := hcs
    exact ⟨[], .inl rfl, rfl⟩
  · simp [Value.cells] at hcs
    obtain ⟨rfl, rfl, rfl⟩ := hcs
    simp only [if_true] at hmm
    subst hmm
    have each : ∀ i, i < len → ∃ r : Sx, W.cell? (a.add (i * 6)) = some (iv r.s.k) ∧ W.cell? ((a.add (i * 6)).add 1) = some (iv r.s.a) ∧ W.cell? ((a.add (i * 6)).add 2) = some (iv r.s.b) ∧ W.cell? ((a.add (i * 6)).add 3) = some (iv r.s.n) ∧ W.cell? ((a.add (i * 6)).add 4) = some (iv r.l) ∧ W.cell? ((a.add (i * 6)).add 5) = some (iv r.b) := by
      intro i hi
      obtain ⟨cs', h1, h2⟩ := hx i (by omega)
      rw [Try.cells31] at h1
      obtain ⟨_, hlen, hcell⟩ := World.cells?_some h1
      obtain ⟨y, rfl⟩ := step_cells h2
      refine ⟨y, ?_, ?_, ?_, ?_, ?_, ?_⟩
      · have := hcell 0 (by omega)
        simpa [Addr.add] using this
      · have := hcell 1 (by omega)
        simpa using this
      · have := hcell 2 (by omega)
        simpa using this
      · have := hcell 3 (by omega)
        simpa using this
      · have := hcell 4 (by omega)
        simpa using this
      · have := hcell 5 (by omega)
        simpa using this
    obtain ⟨f, hfn⟩ := choose_lt each
    refine ⟨(List.range len).map f, ?_, by simp⟩
    by_cases h0 : len = 0
    · subst h0; exact .inl rfl
    · right
      obtain ⟨b, o, sp⟩ := a
      have z := (hfn 0 (by omega)).1
      have hsp : sp = none := by
        cases sp with
        | none => rfl
        | some q => simp [Addr.add, World.cell?] at z; split at z <;> simp at z
      subst hsp
      refine ⟨b, o, rfl, World.block_lt_of_cell? W _ z, fun i hi => ?_⟩
      have hi' : i < len := by simpa using hi
      obtain ⟨k1, k2, k3, k4, k5, k6⟩ := hfn i hi'
      rw [Addr.add_lit] at k1
      rw [Addr.add_lit, Addr.add_lit] at k2 k3 k4 k5 k6
      simp only [List.getElem_map, List.getElem_range]
      exact ⟨k1, k2, k3, k4, k5, k6⟩
end

end Go.Proofs.Ythiojjkgodffnae
