import Derived.Test.YtfcknkanbcndjagGreatDoorS5
import Derived.ProofKit
import Derived.OpenShut
import Derived.Lib.SmallJoins
import Derived.Deep.Slices
import Derived.Carry
import Derived.Test.YtfcknkanbcndjagGreatDoorDkMem
import Derived.Test.YtfcknkanbcndjagGreatDoorRows
import Derived.Deep.Strs
import Derived.Test.YtfcknkanbcndjagGreatDoorDkBd
import Derived.LaidMore
import Derived.Lay
import Derived.Stop.Joined
import Derived.Lib.LaidTab
/- FOR THE ROWS: what all frames name. -/
namespace Go.Proofs.YtfcknkanbcndjagGreatDoor
open Go.ChangeShapes Go.WideShapes Go.ChangeAt Go.RowKit Go.Joins Go.Deep

set_option maxRecDepth 20000

theorem Tryz.own : ownKnob Tryz.prog.godebug = none := by kernel_rfl
theorem Tryz.laidOutB : laidOutB Tryz.prog = true := by kernel_rfl
end Go.Proofs.YtfcknkanbcndjagGreatDoor

/- FOR THE ROWS OF LAYER 10: a list of lines that comes in, opened, and what the bound on its bulk gives. -/
namespace Go.Proofs.YtfcknkanbcndjagGreatDoor
open Go.ChangeShapes Go.WideShapes Go.ChangeAt Go.RowKit Go.Joins Go.Deep

set_option maxRecDepth 20000

theorem Tryz.cells9 : Tryz.prog.cellsOf 9 = 1 := by kernel_rfl
section
variable {H : Type} {enc : TypeId × Value → H}
theorem bulk_one (d : DataW H) : 1 ≤ Rows.uptoBulk d := by
  cases d with
  | lit l => cases l <;> simp [Rows.uptoBulk]
  | _ => simp [Rows.uptoBulk]
theorem bulk_part {d : DataW H} {l : List (DataW H)} (h : d ∈ l) : Rows.uptoBulk d ≤ Rows.uptoBulkAll l := by
  induction l with
  | nil => cases h
  | cons x r ih =>
    simp only [Rows.uptoBulkAll]
    rcases List.mem_cons.1 h with e | e
    · subst e; omega
    · have := ih e; omega
theorem bulk_len (l : List (DataW H)) : l.length ≤ Rows.uptoBulkAll l := by
  induction l with
  | nil => simp [Rows.uptoBulkAll]
  | cons x r ih => have := bulk_one x; simp only [Rows.uptoBulkAll, List.length_cons]; omega
theorem tx_sv (s : ByteArray) : sv s.data.toList = .string s := by
  show Value.string ⟨s.data.toList.toArray⟩ = _
  rw [Array.toArray_toList]
theorem open_lines {W : World} {base : Nat} {v : Value} {d : DataW H} {p : List MemPlace} (hval : Value.okWide Tryz.prog W .any base 58 v) (h : DataW.Trod enc Tryz.prog W 0 (fun _ => true) true 58 v d p) :
    ∃ (ao : Option Addr) (ls : List Tx) (c : Nat), v = .slice ao ls.length c ∧ ValAt W ao (ls.map sv) ∧ ls.length ≤ c ∧ (c = 0 ∨ ∃ b o, ao = some ⟨b, o, none⟩) ∧ ls.length ≤ Rows.uptoBulk d ∧ ∀ y ∈ ls, y.length ≤ Rows.uptoBulk d := by
  obtain ⟨a0, len, cap, rfl⟩ := okWide_slice Tryz.underlying58 hval
  obtain ⟨fuel, hf⟩ := h
  rcases open_strs Tryz.underlying58 Tryz.underlying9 Tryz.cells9 hf with ⟨hcs, _⟩ | ⟨a, len', cap', m, Sx, hcs, _, hl, hm, hmm, hx, hc⟩
  · simp [Value.cells] at hcs
    obtain ⟨rfl, rfl, rfl⟩ := hcs
    exact ⟨none, [], 0, rfl, .inl rfl, Nat.le_refl _, .inl rfl, Nat.zero_le _, fun y hy => by cases hy⟩
  · simp [Value.cells] at hcs
    obtain ⟨rfl, rfl, rfl⟩ := hcs
    simp only [if_true] at hmm
    subst hmm
    have hao : m = 0 ∨ ∃ b o, a = ⟨b, o, none⟩ := by
      by_cases h0 : m = 0
      · exact .inl h0
      · right
        obtain ⟨b, o, sp⟩ := a
        have z := (hc 0 (by omega)).1
        cases sp with
        | none => exact ⟨b, o, rfl⟩
        | some q => simp [Addr.add, World.cell?] at z; split at z <;> simp at z
    have hd : d = .slice ((List.range len).map fun i => .lit (.string (Sx i).data.toList)) ((List.range (m - len)).map fun j => .lit (.string (Sx (len + j)).data.toList)) := (Prod.mk.inj hx).1
    have hbl : Rows.uptoBulkAll ((List.range len).map fun i => (DataW.lit (.string (Sx i).data.toList) : DataW H)) ≤ Rows.uptoBulk d := by
      rw [hd]; simp only [Rows.uptoBulk]; omega
    refine ⟨some a, (List.range len).map fun i => (Sx i).data.toList, m, by simp, ?_, by simpa using hl, ?_, ?_, ?_⟩
    · by_cases h0 : len = 0
      · subst h0; exact .inl rfl
      · right
        rcases hao with h1 | ⟨b, o, rfl⟩
        · omega
        · have z := (hc 0 (by omega)).1
          refine ⟨b, o, rfl, World.block_lt_of_cell? W _ z, fun i hi => ?_⟩
          have hi' : i < len := by simpa using hi
          have k1 := (hc i (by omega)).1
          rw [Addr.add_lit] at k1
          simp only [List.getElem_map, List.getElem_range, tx_sv]
          exact k1
    · rcases hao with h1 | ⟨b, o, rfl⟩
      · exact .inl h1
      · exact .inr ⟨b, o, rfl⟩
    · have := bulk_len ((List.range len).map fun i => (DataW.lit (.string (Sx i).data.toList) : DataW H))
      simp only [List.length_map, List.length_range] at this ⊢
      omega
    · intro y hy
      obtain ⟨i, hi, rfl⟩ := List.mem_map.1 hy
      have h1 := bulk_part (H := H) (List.mem_map.2 ⟨i, hi, rfl⟩ : DataW.lit (.string (Sx i).data.toList) ∈ (List.range len).map fun i => (DataW.lit (.string (Sx i).data.toList) : DataW H))
      simp only [Rows.uptoBulk] at h1
      omega
end

end Go.Proofs.YtfcknkanbcndjagGreatDoor

/- FOR THE ROWS OF LAYER 10: the library's variables, as the rows list them. -/
namespace Go.Proofs.YtfcknkanbcndjagGreatDoor
open Go.ChangeShapes Go.WideShapes Go.ChangeAt Go.RowKit

theorem laid64_is5 : (Rows.laid_math_bits_deBruijn64tab : DataW Unit) = .agg (Lib.deBruijn64tab.map fun n : Nat => .lit (.int .u8 (n : Int))) := by kernel_rfl
theorem laid10_is : (Rows.laid_internal_strconv_uint64pow10 : DataW Unit) = Lib.tabData .u64 Lib.pow10Tab := by kernel_rfl
theorem len64' : Lib.deBruijn64tab.length = 64 := by kernel_rfl
/-- What reads as a value behind an interface is one. -/
theorem trod_iface_of {H : Type} {enc : TypeId × Value → H} {P : Program} {w : World} {base : Nat} {sp : Nat → Bool} {held : Bool} {fuel : Nat} {t : TypeId} {ms : Array (String × TypeId)} {cs : List Value} {n : String} {d : DataW H} {p : List MemPlace}
    (ht : P.underlying t = some (.interface ms)) (h : DataW.trod enc P w base sp held fuel t cs = some (.iface n d, p)) : ∃ u v, cs = [.iface u v] := by
  cases fuel with
  | zero => simp [DataW.trod] at h
  | succ fuel =>
    match cs with
    | [] => simp [DataW.trod, ht] at h
    | x :: y :: r => simp [DataW.trod, ht] at h
    | [x] => cases x with
      | iface u v => exact ⟨u, v, rfl⟩
      | _ => simp [DataW.trod, ht] at h
/-- What the condition gives. -/
theorem lb_of {W : World} (h : laidMetH Tryz.prog [("math/bits.deBruijn32tab", Rows.laid_math_bits_deBruijn32tab), ("math/bits.deBruijn64tab", Rows.laid_math_bits_deBruijn64tab), ("internal/strconv.uint64pow10", Rows.laid_internal_strconv_uint64pow10), ("unicode/utf8.acceptRanges", Rows.laid_unicode_utf8_acceptRanges), ("strconv.ErrRange", Rows.laid_strconv_ErrRange), ("strconv.ErrSyntax", Rows.laid_strconv_ErrSyntax), ("unicode/utf8.first", Rows.laid_unicode_utf8_first)] W) (hSh : W.ShapedOpen Tryz.prog) : Lb W := by
  rw [MakeChecks.laidMetH_plain _ _ _ (by kernel_rfl)] at h
  obtain ⟨ps, ⟨g0, t0, cs0, f0, p0, q0, hg0, ht0, hv0, hd0, ⟨g, t, cs, fuel, p, q, hg, ht, hv, hd, ⟨g2, t2, cs2, f2, p2, q2, hg2, ht2, hv2, hd2, ⟨gA, tA, csA, fA, pA', qA, hgA, htA, hvA, hdA, ⟨g3, t3, cs3, f3, p3, q3, hg3, ht3, hv3, hd3, ⟨g4, t4, cs4, f4, p4, q4, hg4, ht4, hv4, hd4, _, _⟩, _⟩, _⟩, _⟩, _⟩, _⟩, _, _⟩ := h
  refine ⟨fun r hr => ?_, ?_, ?_, ?_, Tryz.laysM219.s1_3 W hSh⟩
  · rw [len64'] at hr
    obtain rfl := Option.some.inj ((show Tryz.prog.globalNamed "math/bits.deBruijn64tab" = some 7 by kernel_rfl).symm.trans hg)
    obtain rfl := Option.some.inj ((show (Tryz.prog.globals[7]?).map (·.type) = some 288 by kernel_rfl).symm.trans ht)
    obtain ⟨xs, m, _, ex, _, hl, hel⟩ := DataW.trod_array Tryz.underlying288 hd
    have c5 : Tryz.prog.cellsOf 5 = 1 := by kernel_rfl
    have hE := hel r hr
    rw [c5, Nat.mul_one, List.getElem?_eq_getElem (by omega)] at hE
    obtain ⟨z, e1, e2, _⟩ := DataW.trod_int Tryz.underlying5 hE
    have hlen := len64'
    have e3 : (xs.map (·.1)) = Lib.deBruijn64tab.map fun n : Nat => .lit (.int .u8 (n : Int)) := (DataW.agg.inj (laid64_is5.symm.trans (Prod.mk.inj ex).1)).symm
    have e4 : (xs.map (·.1))[r]? = (Lib.deBruijn64tab.map fun n : Nat => (DataW.lit (.int .u8 (n : Int)) : DataW Unit))[r]? := by rw [e3]
    rw [List.getElem?_map, List.getElem?_map, List.getElem?_eq_getElem (by omega : r < xs.length), List.getElem?_eq_getElem (by omega : r < Lib.deBruijn64tab.length), e2] at e4
    have hz : z = ((Lib.deBruijn64tab.getD r 0 : Nat) : Int) := by
      simp only [Option.map_some, Option.some.injEq, DataW.lit.injEq, Lit.int.injEq, true_and] at e4
      rw [e4, List.getD, List.getElem?_eq_getElem (by omega : r < Lib.deBruijn64tab.length)]; rfl
    rw [World.var?_cell hg hv r, ← hz]
    have : cs.toList[r]? = some (.int .u8 z) := by
      have h0 : ((cs.toList.drop r).take 1)[0]? = some (.int .u8 z) := by rw [e1]; rfl
      simpa using h0
    simpa using this
  · have e2 : t2 = 285 := Option.some.inj (ht2.symm.trans (by rw [show g2 = (Tryz.prog.globalNamed "internal/strconv.uint64pow10").getD 0 by rw [hg2]; rfl]; kernel_rfl))
    subst e2
    have := Lib.cells_of_tab Tryz.underlying285 Tryz.underlying254 (by kernel_rfl) (by kernel_rfl) (by rw [← laid10_is]; exact hd2)
    unfold Lib.TabIs
    rw [hv2, ← this]
  · have e4 : t4 = 160 := Option.some.inj (ht4.symm.trans (by rw [show g4 = (Tryz.prog.globalNamed "strconv.ErrSyntax").getD 0 by rw [hg4]; rfl]; kernel_rfl))
    subst e4
    obtain ⟨u, v, hu⟩ := trod_iface_of Tryz.underlying160 hd4
    exact ⟨u, v, by rw [hv4]; congr 1; exact Array.toList_inj.1 hu⟩
  · have e3 : t3 = 160 := Option.some.inj (ht3.symm.trans (by rw [show g3 = (Tryz.prog.globalNamed "strconv.ErrRange").getD 0 by rw [hg3]; rfl]; kernel_rfl))
    subst e3
    obtain ⟨u, v, hu⟩ := trod_iface_of Tryz.underlying160 hd3
    exact ⟨u, v, by rw [hv3]; congr 1; exact Array.toList_inj.1 hu⟩
theorem i64_wf {a : Int} (h : (Lit.int .i64 a).wf = true) : i64B a := by
  simp only [Lit.wf, Bool.and_eq_true, decide_eq_true_eq] at h
  exact h

end Go.Proofs.YtfcknkanbcndjagGreatDoor
