/- FOR THE LAWS OF LAYER 4: a table in a world, asked in whatever world has grown out of it. -/
import Derived.Test.YtimbgijpeomfcacGreatDoorW4
namespace Go.Proofs.YtimbgijpeomfcacGreatDoor
open Go.RowKit
attribute [local go_sem] Ext.all Ext.cell Ext.frozen Ext.lt Ext.lt1 Ext.lt2 Ext.ne Ext.ne'

/-- In B a table of these routes stands at tb. -/
def Is (B : World) (tb : Nat) (rs : List Rt) : Prop := ∃ M v, TabS B M tb v rs
theorem Is.gr {B X : World} {tb : Nat} {rs : List Rt} (h : Is B tb rs) (g : Gr B X) : Is X tb rs := by
  obtain ⟨M, v, hS⟩ := h
  exact ⟨M, v, hS.gr g⟩
theorem Laid.is {B : World} {tb : Nat} {ro : Option Addr} {rs : List Rt} (h : Laid B tb ro rs) : Is B tb rs := by
  obtain ⟨M, v, hS, _⟩ := h
  exact ⟨M, v, hS⟩
theorem Is.lof {B : World} {tb : Nat} {rs ss : List Rt} (h : Is B tb rs) (h64 : Tab64 B) (hT : Tab rs) (e : lstL rs = ss) :
    Calls Tryz.prog 8 #[pv tb] B fun e w' => ∃ ub, e = .returned (.tuple #[pv ub, .bool true]) ∧ Is w' ub ss ∧ Gr B w' := by
  subst e
  obtain ⟨M, v, hS⟩ := h
  refine (lof_is h64 hS hT B (Gr.refl _)).mono ?_
  rintro e w' ⟨ub, u, rfl, hU, g⟩
  exact ⟨ub, rfl, ⟨_, u, hU⟩, g⟩
theorem Is.lcount {B : World} {tb n : Nat} {rs : List Rt} (h : Is B tb rs) (h64 : Tab64 B) (hT : Tab rs) (e : (lstL rs).length = n) :
    Calls Tryz.prog 11 #[pv tb] B fun e w' => e = .returned (iv n) ∧ Gr B w' := by
  obtain ⟨M, v, hS⟩ := h
  exact lcount_is h64 hS hT e B (Gr.refl _)
theorem Is.tsame {B : World} {tb ub : Nat} {rs ss : List Rt} {z : Bool} (h : Is B tb rs) (k : Is B ub ss) (hT : Tab rs) (hU : Tab ss) (e : eqF (fun j => lookL rs j) (fun j => lookL ss j) = z) :
    Calls Tryz.prog 19 #[pv tb, pv ub] B fun e w' => e = .returned (.bool z) ∧ Gr B w' := by
  subst e
  obtain ⟨M, v, hS⟩ := h
  obtain ⟨N, u, kS⟩ := k
  exact tsame_is hS kS (by have := hT.len; omega) (by have := hU.len; omega) B (Gr.refl _)
theorem Is.list {B : World} {tb : Nat} {rs : List Rt} (h : Is B tb rs) (hT : Tab rs) :
    Calls Tryz.prog 10 #[pv tb] B fun e w' => ∃ ao c, e = .returned (.slice ao rs.length c) ∧ RowAt w' (fun k => B.heap.size ≤ k) ao rs ∧ Gr B w' := by
  obtain ⟨M, v, hS⟩ := h
  refine (hS.listOwn (by have := hT.len; omega) B (Gr.refl _)).mono ?_
  rintro e w' ⟨v', rfl, o, g⟩
  obtain ⟨ao, c, rfl, _, hR⟩ := o.shape
  exact ⟨ao, c, rfl, hR, g⟩
theorem Is.diff {B : World} {tb ub : Nat} {rs ss : List Rt} (h : Is B tb rs) (k : Is B ub ss) (hT : Tab rs) (hU : Tab ss) (hP : 2 ≤ rs.length + ss.length → PdqOK (rs.length + ss.length)) :
    Calls Tryz.prog 13 #[pv tb, pv ub] B fun e w' => ∃ ao c ds, e = .returned (.slice ao ds.length c) ∧ IsDiff rs ss ds ∧ ChAt w' (fun k => B.heap.size ≤ k) ao ds ∧ ds.length ≤ 1000 ∧ Gr B w' := by
  obtain ⟨M, v, hS⟩ := h
  obtain ⟨N, u, kS⟩ := k
  exact diff_any hS kS hT hU hP B (Gr.refl _)
theorem lst_again {rs : List Rt} (h : Tab rs) : lstL (lstL rs) = lstL rs := by
  have e : (fun j : Nat => lookL (lstL rs) j) = fun j : Nat => lookL rs j := by
    funext j
    by_cases hj : j < 256
    · exact lst_look h j hj
    · rw [look_no (by omega), look_no (by omega)]
  rw [show lstL (lstL rs) = leastT (fun j : Nat => lookL (lstL rs) j) from rfl, e]; rfl
theorem lst_lookI {rs : List Rt} (h : Tab rs) (a : Int) : lookL (lstL rs) a = lookL rs a := by
  by_cases ha : 0 ≤ a ∧ a < 256
  · obtain ⟨j, rfl⟩ : ∃ j : Nat, a = j := ⟨a.toNat, by omega⟩
    exact lst_look h j (by omega)
  · rw [look_no ha, look_no ha]

end Go.Proofs.YtimbgijpeomfcacGreatDoor
