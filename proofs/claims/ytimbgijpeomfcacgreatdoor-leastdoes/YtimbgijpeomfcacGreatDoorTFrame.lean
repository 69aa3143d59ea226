/- FOR THE ROWS: a prefix and a list of routes that come in, opened; shut again behind a call that has kept what was there. -/
import Derived.Test.YtimbgijpeomfcacGreatDoorS12
import Derived.ProofKit
import Derived.OpenShut
import Derived.Lib.SmallJoins
import Derived.Deep.Slices
import Derived.Carry
namespace Go.Proofs.YtimbgijpeomfcacGreatDoor
open Go.ChangeShapes Go.WideShapes Go.ChangeAt Go.RowKit Go.Joins Go.Deep

set_option maxRecDepth 20000

theorem Tryz.own : ownKnob Tryz.prog.godebug = none := by kernel_rfl
theorem Tryz.laidOutB : laidOutB Tryz.prog = true := by kernel_rfl
theorem Tryz.cells3 : Tryz.prog.cellsOf 3 = 1 := by kernel_rfl
theorem Tryz.cells30 : Tryz.prog.cellsOf 30 = 2 := by kernel_rfl
theorem Tryz.cells49 : Tryz.prog.cellsOf 49 = 3 := by kernel_rfl

section
variable {H : Type} {enc : TypeId × Value → H}

/-- A prefix as a datum. -/
abbrev pfxD (l b : Int) : DataW H := .agg [.lit (.int .i64 l), .lit (.int .i64 b)]

theorem open_pfx {W : World} {base : Nat} {v : Value} {d : DataW H} {p : List MemPlace} (hval : Value.okWide Tryz.prog W .any base 30 v) (h : DataW.Trod enc Tryz.prog W 0 (fun _ => true) true 30 v d p) :
    ∃ l b : Int, v = pfx l b ∧ d = pfxD l b ∧ p = [] ∧ (Lit.int .i64 l).wf = true ∧ (Lit.int .i64 b).wf = true := by
  obtain ⟨c0, c1, y0, y1, m, rfl, rfl, rfl, hy0, hy1⟩ := open_agg2 Tryz.underlying30 (by kernel_rfl) Tryz.cells30 hval h
  obtain ⟨a, e0, rfl, wa⟩ := DataW.trod_int Tryz.underlying3 hy0
  obtain ⟨b, e1, rfl, wb⟩ := DataW.trod_int Tryz.underlying3 hy1
  simp at e0 e1
  subst e0 e1
  exact ⟨a, b, rfl, rfl, rfl, wa, wb⟩

theorem shut_pfx {l b : Int} (wl : (Lit.int .i64 l).wf = true) (wb : (Lit.int .i64 b).wf = true) (W' : World) (k : Nat) (sp : Nat → Bool) (hd : Bool) :
    DataW.Trod enc Tryz.prog W' k sp hd 30 (pfx l b) (pfxD l b) [] :=
  shut_agg2 (y0 := (.lit (.int .i64 l), [])) (y1 := (.lit (.int .i64 b), [])) Tryz.underlying30 (by kernel_rfl) Tryz.cells30 ⟨1, by simp [DataW.trod, Tryz.underlying3, wl]⟩ ⟨1, by simp [DataW.trod, Tryz.underlying3, wb]⟩

theorem route_cells {W : World} {base n : Nat} {sp : Nat → Bool} {hd : Bool} {cs : List Value} {x : DataW H × List MemPlace} (h : DataW.trod enc Tryz.prog W base sp hd n 49 cs = some x) : ∃ l b hp : Int, cs = [iv l, iv b, iv hp] := by
  obtain ⟨y0, y1, m, _, hl, h0, h1⟩ := trod_struct2 Tryz.underlying49 h
  rw [Tryz.cells49] at hl
  obtain ⟨c0, c1, c2, rfl⟩ : ∃ c0 c1 c2, cs = [c0, c1, c2] := by
    match cs, hl with
    | [c0, c1, c2], _ => exact ⟨c0, c1, c2, rfl⟩
  have e0 : DataW.trod enc Tryz.prog W base sp hd m 30 [c0, c1] = some y0 := by
    have := h0
    simpa [Tryz.cells30] using this
  have e1 : DataW.trod enc Tryz.prog W base sp hd m 3 [c2] = some y1 := by
    have := h1
    simpa [Tryz.cells3] using this
  obtain ⟨z0, z1, k, _, _, i0, i1⟩ := trod_struct2 Tryz.underlying30 e0
  have f0 : DataW.trod enc Tryz.prog W base sp hd k 3 [c0] = some z0 := by simpa [Tryz.cells3] using i0
  have f1 : DataW.trod enc Tryz.prog W base sp hd k 3 [c1] = some z1 := by simpa [Tryz.cells3] using i1
  obtain ⟨l, q0, _, _⟩ := DataW.trod_int Tryz.underlying3 f0
  obtain ⟨b, q1, _, _⟩ := DataW.trod_int Tryz.underlying3 f1
  obtain ⟨hp, q2, _, _⟩ := DataW.trod_int Tryz.underlying3 e1
  simp at q0 q1 q2
  subst q0 q1 q2
  exact ⟨l, b, hp, rfl⟩

theorem open_routes {W : World} {base : Nat} {v : Value} {d : DataW H} {p : List MemPlace} (hval : Value.okWide Tryz.prog W .any base 22 v) (h : DataW.Trod enc Tryz.prog W 0 (fun _ => true) true 22 v d p) :
    ∃ ao n c, v = .slice ao n c ∧ ∃ ls : List Rt, RowAt W (fun _ => True) ao ls ∧ ls.length = n := by
  obtain ⟨a0, len, cap, rfl⟩ := okWide_slice Tryz.underlying22 hval
  refine ⟨a0, len, cap, rfl, ?_⟩
  obtain ⟨fuel, hf⟩ := h
  rcases open_slice Tryz.underlying22 hf with ⟨hcs, _⟩ | ⟨a, len', cap', m, n, D, Pl, hcs, _, hl, hm, hmm, _, hx⟩
  · simp [Value.cells] at hcs
    obtain ⟨rfl, rfl, rfl⟩ := hcs
    exact ⟨[], .inl rfl, rfl⟩
  · simp [Value.cells] at hcs
    obtain ⟨rfl, rfl, rfl⟩ := hcs
    simp only [if_true] at hmm
    subst hmm
    have each : ∀ i, i < len → ∃ r : Rt, W.cell? (a.add (i * 3)) = some (iv r.1) ∧ W.cell? ((a.add (i * 3)).add 1) = some (iv r.2.1) ∧ W.cell? ((a.add (i * 3)).add 2) = some (iv r.2.2) := by
      intro i hi
      obtain ⟨cs', h1, h2⟩ := hx i (by omega)
      rw [Tryz.cells49] at h1
      obtain ⟨_, hlen, hcell⟩ := World.cells?_some h1
      obtain ⟨l, b, hp, rfl⟩ := route_cells h2
      refine ⟨(l, b, hp), ?_, ?_, ?_⟩
      · have := hcell 0 (by omega)
        simpa [Addr.add] using this
      · have := hcell 1 (by omega)
        simpa using this
      · have := hcell 2 (by omega)
        simpa using this
    obtain ⟨f, hfn⟩ := choose_lt each
    refine ⟨(List.range len).map f, ?_, by simp⟩
    by_cases h0 : len = 0
    · subst h0; exact .inl rfl
    · right
      obtain ⟨b, o, sp⟩ := a
      have z := (hfn 0 (by omega)).1
      have hsp : sp = none := by
        cases sp with
        | none => rfl
        | some q => simp [Addr.add, World.cell?] at z; split at z <;> simp at z
      subst hsp
      refine ⟨b, o, rfl, ?_, trivial, fun i hi => ?_⟩
      · exact World.block_lt_of_cell? W _ z
      · have hi' : i < len := by simpa using hi
        obtain ⟨k1, k2, k3⟩ := hfn i hi'
        rw [Addr.add_lit] at k1
        rw [Addr.add_lit, Addr.add_lit] at k2 k3
        simp only [List.getElem_map, List.getElem_range]
        exact ⟨k1, k2, k3⟩
end

end Go.Proofs.YtimbgijpeomfcacGreatDoor
