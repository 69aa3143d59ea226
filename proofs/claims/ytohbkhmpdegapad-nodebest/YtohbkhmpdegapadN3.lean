/- CONTRACTS OF handpostref: Mind.Hear where all is right. -/
import Derived.Test.YtohbkhmpdegapadN2
namespace Go.Proofs.Ytohbkhmpdegapad
open Go.RowKit
attribute [local go_sem] Ext.all Ext.cell Ext.frozen Ext.lt Ext.lt1 Ext.lt2 Ext.ne Ext.ne'

def nwF (f o z s d : Int) : Nat → Int := fun j => if j = 0 then f else if j = 1 then o else if j = 2 then z else if j = 3 then s else d

set_option maxRecDepth 20000 in
set_option maxHeartbeats 8000000 in
theorem mhear_ok {w : World} {p : Nat} {m : Md} (H : MAt w p m) (hX : MdOk m) {f z : Nat} {o s d : Int} (hf : f < 6) (hz : z < 6) (hfm : f ≠ m.me) (hc : m.cost f ≠ 0) (hs : 0 ≤ s) (hd : 0 ≤ d) (hd2 : d ≤ 200) :
    Calls Try.prog 40 #[pv p, .agg #[iv f, iv o, iv z, iv s, iv d]] w fun e w' => e = .returned (iv 0) ∧ MAt w' p (hearM m f z s d) ∧ Wr p w w' := by
  have hp := H.lt
  have hfi : (f : Int) < 6 := by omega
  have hzi : (z : Int) < 6 := by omega
  have B1 : Hid (decide (0 ≤ (f : Int) ∧ (f : Int) < 6) = true) := decide_eq_true ⟨by omega, hfi⟩
  have B2 : Hid (decide (0 ≤ (z : Int) ∧ (z : Int) < 6) = true) := decide_eq_true ⟨by omega, hzi⟩
  have g3 : ((f : Int) == (m.me : Int)) = false := by simp; omega
  have g4 : decide (s < 0) = false := decide_eq_false (by omega)
  have g5 : decide (d < 0) = false := decide_eq_false (by omega)
  have g6 : decide (200 < d) = false := decide_eq_false (by omega)
  have g7 : (m.cost f == 0) = false := by simpa using hc
  have HM := hide (fun (X : World) (g : Gr w X) => H.gr g)
  have HL : Hid (hearM m f z s d = lookM { m with heard := updW m.heard f (updW (m.heard f) z (s, d)) } z) := rfl
  have HS : Hid (∀ r, 0 ≤ (updW m.heard f (updW (m.heard f) z (s, d)) r z).2 ∧ (updW m.heard f (updW (m.heard f) z (s, d)) r z).2 ≤ 200) := by
    intro r
    by_cases e : r = f
    · subst e; simp [updW, hd, hd2]
    · have := hX.said r z
      simp [updW, e, this.2.1, this.2.2]
  clear H hs hd hd2 hfm hc
  go_enter Try.func40, Try.ntmps40
  go_upto_region 1 with (fail)
  refine wp_gen (fun V => Hid (ZArr V 44 5 w.heap.size (nwF f o z s d)) ∧ Hid (Gr w V)) ⟨ZArr.new w 44 5 (nwF f o z s d), (Gr.refl _).alloc _⟩ ?_
  rintro V ⟨A, gV⟩
  have k0 : V.cell? ⟨w.heap.size, 0, none⟩ = some (iv f) := A.out.cell (by omega)
  have k2 : V.cell? ⟨w.heap.size, 2, none⟩ = some (iv z) := A.out.cell (by omega)
  have k3 : V.cell? ⟨w.heap.size, 3, none⟩ = some (iv s) := A.out.cell (by omega)
  have k4 : V.cell? ⟨w.heap.size, 4, none⟩ = some (iv d) := A.out.cell (by omega)
  have c0 := (HM.out _ gV.out).me
  have c1 := (HM.out _ gV.out).cost hf
  have j0 := A.out.lt
  have j1 := (HM.out _ gV.out).lt
  go_wp2_with fail
  refine wp_region_ext (by kernel_rfl) (by kernel_rfl) ?_
  repeat (go_big_quiet_step (first | (go_at_call 10; with_reducible exact isNode_ext B1.out _) | (go_at_call 10; with_reducible exact isNode_ext B2.out _)))
  refine wpQuiet_nil ?_
  rintro _ ⟨d1, rfl⟩
  go_upto_region 3 with (fail)
  refine wp_region_ext (by kernel_rfl) (by kernel_rfl) ?_
  repeat (go_big_quiet_step (fail))
  refine wpQuiet_nil ?_
  rintro _ ⟨d2, rfl⟩
  go_upto_region 5 with (fail)
  refine wp_gen (fun V2 => Hid (ZArr V2 44 5 w.heap.size (nwF f o z s d)) ∧ Hid (Gr w V2)) ⟨(A.out.gr d1.gr).gr d2.gr, (gV.out.trans d1.gr).trans d2.gr⟩ ?_
  clear A gV k0 k2 k3 k4 c0 c1 j0 j1
  rintro V2 ⟨A, gV⟩
  have k0 : V2.cell? ⟨w.heap.size, 0, none⟩ = some (iv f) := A.out.cell (by omega)
  have k2 : V2.cell? ⟨w.heap.size, 2, none⟩ = some (iv z) := A.out.cell (by omega)
  have k3 : V2.cell? ⟨w.heap.size, 3, none⟩ = some (iv s) := A.out.cell (by omega)
  have k4 : V2.cell? ⟨w.heap.size, 4, none⟩ = some (iv d) := A.out.cell (by omega)
  obtain ⟨q0, q1⟩ := (HM.out _ gV.out).heard hf hz
  have fz := ZArr.free (HM.out _ gV.out)
  have j0 := A.out.lt
  have j1 := (HM.out _ gV.out).lt
  have SM := hide ((HM.out _ gV.out).setHeard hf hz s d)
  have SW := hide (((gV.out.wr p).set (7 + f * 12 + z * 2) (iv s)).set (7 + f * 12 + z * 2 + 1) (iv d))
  have SA := hide ((A.out.other (q := p) (by omega) (7 + f * 12 + z * 2) (iv s)).other (q := p) (by omega) (7 + f * 12 + z * 2 + 1) (iv d))
  clear A gV
  go_still_tail 14, (by kernel_rfl)
  go_upto_region 6 with (fail)
  refine wp_gen (fun V3 => Hid (ZArr V3 44 5 w.heap.size (nwF f o z s d)) ∧ Hid (MAt V3 p { m with heard := updW m.heard f (updW (m.heard f) z (s, d)) }) ∧ Hid (Wr p w V3)) ⟨SA.out.gr (Gr.refl _).drew, SM.out.gr (Gr.refl _).drew, SW.out.trans ((Gr.refl _).drew.wr p)⟩ ?_
  clear SA SM SW k0 k2 k3 k4 q0 q1 fz j0 j1
  rintro V3 ⟨A, M3, W3⟩
  have k2 : V3.cell? ⟨w.heap.size, 2, none⟩ = some (iv z) := A.out.cell (by omega)
  have j0 := A.out.lt
  go_wp2_with (go_at_call 44; with_reducible refine (mlook_any M3.out hz hX.cost HS.out).mono ?_; rintro e V4 ⟨rfl, M4, W4⟩; have HM4 := hide M4; have HW4 := hide W4; clear M4 W4)
  go_ret
  exact ⟨rfl, by rw [HL.out]; exact HM4.out, W3.out.trans HW4.out⟩

end Go.Proofs.Ytohbkhmpdegapad
