import Derived.Test.YtimbgijpeomfcacGreatDoorTFrame
import Derived.Test.YtimbgijpeomfcacGreatDoorW3
import Derived.LaidMore
import Derived.Lay
import Derived.Stop.Joined
import Derived.Test.YtimbgijpeomfcacGreatDoorChMem
import Derived.Deep.Strs
/- FOR THE ROWS OF LAYER 4: the library's table, as the rows list it. -/
namespace Go.Proofs.YtimbgijpeomfcacGreatDoor
open Go.ChangeShapes Go.WideShapes Go.ChangeAt Go.RowKit

theorem laid64_is : (Rows.laid_math_bits_deBruijn64tab : DataW Unit) = .agg (Lib.deBruijn64tab.map fun n : Nat => .lit (.int .u8 (n : Int))) := by kernel_rfl
theorem len64 : Lib.deBruijn64tab.length = 64 := by kernel_rfl
/-- What the condition gives: the table's cells. -/
theorem tab64_of {W : World} (h : laidMetH Tryz.prog [("math/bits.deBruijn32tab", Rows.laid_math_bits_deBruijn32tab), ("math/bits.deBruijn64tab", Rows.laid_math_bits_deBruijn64tab)] W) : Tab64 W := fun r hr => by
  rw [len64] at hr
  rw [MakeChecks.laidMetH_plain _ _ _ (by kernel_rfl)] at h
  obtain ⟨ps, ⟨g0, t0, cs0, f0, p0, q0, hg0, ht0, hv0, hd0, ⟨g, t, cs, fuel, p, q, hg, ht, hv, hd, _, _⟩, _⟩, _, _⟩ := h
  obtain rfl := Option.some.inj ((show Tryz.prog.globalNamed "math/bits.deBruijn64tab" = some 1 by kernel_rfl).symm.trans hg)
  obtain rfl := Option.some.inj ((show (Tryz.prog.globals[1]?).map (·.type) = some 136 by kernel_rfl).symm.trans ht)
  obtain ⟨xs, m, _, ex, _, hl, hel⟩ := DataW.trod_array Tryz.underlying136 hd
  have c5 : Tryz.prog.cellsOf 5 = 1 := by kernel_rfl
  have hE := hel r hr
  rw [c5, Nat.mul_one, List.getElem?_eq_getElem (by omega)] at hE
  obtain ⟨z, e1, e2, _⟩ := DataW.trod_int Tryz.underlying5 hE
  have hlen := len64
  have e3 : (xs.map (·.1)) = Lib.deBruijn64tab.map fun n : Nat => .lit (.int .u8 (n : Int)) := (DataW.agg.inj (laid64_is.symm.trans (Prod.mk.inj ex).1)).symm
  have e4 : (xs.map (·.1))[r]? = (Lib.deBruijn64tab.map fun n : Nat => (DataW.lit (.int .u8 (n : Int)) : DataW Unit))[r]? := by rw [e3]
  rw [List.getElem?_map, List.getElem?_map, List.getElem?_eq_getElem (by omega : r < xs.length), List.getElem?_eq_getElem (by omega : r < Lib.deBruijn64tab.length), e2] at e4
  have hz : z = ((Lib.deBruijn64tab.getD r 0 : Nat) : Int) := by
    simp only [Option.map_some, Option.some.injEq, DataW.lit.injEq, Lit.int.injEq, true_and] at e4
    rw [e4, List.getD, List.getElem?_eq_getElem (by omega : r < Lib.deBruijn64tab.length)]; rfl
  rw [World.var?_cell hg hv r, ← hz]
  have : cs.toList[r]? = some (.int .u8 z) := by
    have h0 : ((cs.toList.drop r).take 1)[0]? = some (.int .u8 z) := by rw [e1]; rfl
    simpa using h0
  simpa using this

end Go.Proofs.YtimbgijpeomfcacGreatDoor

/- FOR THE ROWS: a list of changes that comes in, opened. -/
namespace Go.Proofs.YtimbgijpeomfcacGreatDoor
open Go.ChangeShapes Go.WideShapes Go.ChangeAt Go.RowKit Go.Joins Go.Deep

set_option maxRecDepth 20000

theorem Tryz.cells60 : Tryz.prog.cellsOf 60 = 4 := by kernel_rfl

section
variable {H : Type} {enc : TypeId × Value → H}

theorem change_cells {W : World} {base n : Nat} {sp : Nat → Bool} {hd : Bool} {cs : List Value} {x : DataW H × List MemPlace} (h : DataW.trod enc Tryz.prog W base sp hd n 60 cs = some x) : ∃ l b x y : Int, cs = [iv l, iv b, iv x, iv y] := by
  obtain ⟨y0, y1, y2, m, _, hl, h0, h1, h2⟩ := trod_struct3 Tryz.underlying60 h
  rw [Tryz.cells60] at hl
  obtain ⟨c0, c1, c2, c3, rfl⟩ : ∃ c0 c1 c2 c3, cs = [c0, c1, c2, c3] := by
    match cs, hl with
    | [c0, c1, c2, c3], _ => exact ⟨c0, c1, c2, c3, rfl⟩
  have e0 : DataW.trod enc Tryz.prog W base sp hd m 30 [c0, c1] = some y0 := by simpa [Tryz.cells30] using h0
  have e1 : DataW.trod enc Tryz.prog W base sp hd m 3 [c2] = some y1 := by simpa [Tryz.cells3] using h1
  have e2 : DataW.trod enc Tryz.prog W base sp hd m 3 [c3] = some y2 := by simpa [Tryz.cells3] using h2
  obtain ⟨z0, z1, k, _, _, i0, i1⟩ := trod_struct2 Tryz.underlying30 e0
  have f0 : DataW.trod enc Tryz.prog W base sp hd k 3 [c0] = some z0 := by simpa [Tryz.cells3] using i0
  have f1 : DataW.trod enc Tryz.prog W base sp hd k 3 [c1] = some z1 := by simpa [Tryz.cells3] using i1
  obtain ⟨l, q0, _, _⟩ := DataW.trod_int Tryz.underlying3 f0
  obtain ⟨b, q1, _, _⟩ := DataW.trod_int Tryz.underlying3 f1
  obtain ⟨x, q2, _, _⟩ := DataW.trod_int Tryz.underlying3 e1
  obtain ⟨y, q3, _, _⟩ := DataW.trod_int Tryz.underlying3 e2
  simp at q0 q1 q2 q3
  subst q0 q1 q2 q3
  exact ⟨l, b, x, y, rfl⟩

theorem open_changes {W : World} {base : Nat} {v : Value} {d : DataW H} {p : List MemPlace} (hval : Value.okWide Tryz.prog W .any base 23 v) (h : DataW.Trod enc Tryz.prog W 0 (fun _ => true) true 23 v d p) :
    ∃ ao n c, v = .slice ao n c ∧ ∃ cs : List Ch, ChAt W (fun k => k < W.heap.size) ao cs ∧ cs.length = n := by
  obtain ⟨a0, len, cap, rfl⟩ := okWide_slice Tryz.underlying23 hval
  refine ⟨a0, len, cap, rfl, ?_⟩
  obtain ⟨fuel, hf⟩ := h
  rcases open_slice Tryz.underlying23 hf with ⟨hcs, _⟩ | ⟨a, len', cap', m, n, D, Pl, hcs, _, hl, hm, hmm, _, hx⟩
  · simp [Value.cells] at hcs
    obtain ⟨rfl, rfl, rfl⟩ := hcs
    exact ⟨[], .inl rfl, rfl⟩
  · simp [Value.cells] at hcs
    obtain ⟨rfl, rfl, rfl⟩ := hcs
    simp only [if_true] at hmm
    subst hmm
    have each : ∀ i, i < len → ∃ r : Ch, W.cell? (a.add (i * 4)) = some (iv r.1) ∧ W.cell? ((a.add (i * 4)).add 1) = some (iv r.2.1) ∧ W.cell? ((a.add (i * 4)).add 2) = some (iv r.2.2.1) ∧ W.cell? ((a.add (i * 4)).add 3) = some (iv r.2.2.2) := by
      intro i hi
      obtain ⟨cs', h1, h2⟩ := hx i (by omega)
      rw [Tryz.cells60] at h1
      obtain ⟨_, hlen, hcell⟩ := World.cells?_some h1
      obtain ⟨l, b, x, y, rfl⟩ := change_cells h2
      refine ⟨(l, b, x, y), ?_, ?_, ?_, ?_⟩
      · have := hcell 0 (by omega)
        simpa [Addr.add] using this
      · have := hcell 1 (by omega)
        simpa using this
      · have := hcell 2 (by omega)
        simpa using this
      · have := hcell 3 (by omega)
        simpa using this
    obtain ⟨f, hfn⟩ := choose_lt each
    refine ⟨(List.range len).map f, ?_, by simp⟩
    by_cases h0 : len = 0
    · subst h0; exact .inl rfl
    · right
      obtain ⟨b, o, sp⟩ := a
      have z := (hfn 0 (by omega)).1
      have hsp : sp = none := by
        cases sp with
        | none => rfl
        | some q => simp [Addr.add, World.cell?] at z; split at z <;> simp at z
      subst hsp
      refine ⟨b, o, rfl, World.block_lt_of_cell? W _ z, World.block_lt_of_cell? W _ z, fun i hi => ?_⟩
      have hi' : i < len := by simpa using hi
      obtain ⟨k1, k2, k3, k4⟩ := hfn i hi'
      rw [Addr.add_lit] at k1
      rw [Addr.add_lit, Addr.add_lit] at k2 k3 k4
      simp only [List.getElem_map, List.getElem_range]
      exact ⟨k1, k2, k3, k4⟩
end

end Go.Proofs.YtimbgijpeomfcacGreatDoor
