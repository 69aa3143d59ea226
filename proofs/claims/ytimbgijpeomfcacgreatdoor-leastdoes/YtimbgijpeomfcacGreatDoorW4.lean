/- CONTRACT OF handpostlaw.leastBegun. -/
import Derived.Test.YtimbgijpeomfcacGreatDoorW3
import Derived.Test.YtimbgijpeomfcacGreatDoorQ11
import Derived.Test.YtimbgijpeomfcacGreatDoorT9a
namespace Go.Proofs.YtimbgijpeomfcacGreatDoor
open Go.RowKit
attribute [local go_sem] Ext.all Ext.cell Ext.frozen Ext.lt Ext.lt1 Ext.lt2 Ext.ne Ext.ne'

def rsQ : List Rt := [(1, 0, 3), (2, 2, 3), (2, 3, 4)]
theorem setB1 : setL [] 1 0 3 = ([(1, 0, 3)], 0) := by decide +kernel
theorem setB2 : setL [(1, 0, 3)] 2 2 3 = ([(1, 0, 3), (2, 2, 3)], 0) := by decide +kernel
theorem setB3 : setL [(1, 0, 3), (2, 2, 3)] 2 3 4 = (rsQ, 0) := by decide +kernel
theorem tabB1 : Tab [(1, 0, 3)] := by have := Tab.nil.set_tab 1 0 3; rw [setB1] at this; exact this
theorem tabB2 : Tab [(1, 0, 3), (2, 2, 3)] := by have := tabB1.set_tab 2 2 3; rw [setB2] at this; exact this
theorem tabB : Tab rsQ := by have := tabB2.set_tab 2 3 4; rw [setB3] at this; exact this
theorem lstB : lstL rsQ = [(0, 0, 3), (2, 3, 4)] := by rw [← lst_each tabB]; decide +kernel
theorem tabLB : Tab [(0, 0, 3), (2, 3, 4)] := by have := lst_tab tabB; rw [lstB] at this; exact this
theorem chgB : (chgR rsQ [(0, 0, 3), (2, 3, 4)]).length = 3 := by decide +kernel
theorem difB {ds : List Ch} (h : IsDiff rsQ [(0, 0, 3), (2, 3, 4)] ds) : ds.length = 3 := by
  rw [h.unique (chg_is tabB tabLB)]; exact chgB
theorem lst_look {rs : List Rt} (h : Tab rs) (j : Nat) (hj : j < 256) : lookL (lstL rs) j = lookL rs j := least_T_look h.hops j hj
theorem lst_eqF {rs : List Rt} (h : Tab rs) : eqF (fun j => lookL rs j) (fun j => lookL (lstL rs) j) = true := eqF_yes fun j hj => (lst_look h j hj).symm
theorem eqB : eqF (fun j => lookL rsQ j) (fun j => lookL [(0, 0, 3), (2, 3, 4)] j) = true := by have := lst_eqF tabB; rw [lstB] at this; exact this

set_option maxRecDepth 20000 in
set_option maxHeartbeats 2000000 in
theorem lbegun_any (w : World) (h64 : Tab64 w) :
    Calls Tryz.prog 4 #[] w fun e w' => e = .returned (.bool true) ∧ Gr w w' := by
  have S0 := hide (TabS.new w (fun k => k < w.heap.size) (fun _ h => h))
  obtain ⟨W0, hW0⟩ : ∃ W0, W0 = w.alloc (.cells #[.slice none 0 0] 70) := ⟨_, rfl⟩
  have g00 : Gr w W0 := by rw [hW0]; exact (Gr.refl w).alloc _
  have HW0 := hide hW0
  clear hW0
  rw [← HW0.out] at S0
  have hend : Hid (∀ w2, Kp (fun k => k < w.heap.size) W0 w2 → Gr w w2) := fun w2 h2 => Below.trans g00 (h2.below (Below.size g00) (fun _ h => h))
  have h64' := hide h64
  have hP : Hid (2 ≤ rsQ.length + [((0 : Int), (0 : Int), (3 : Int)), (2, 3, 4)].length → PdqOK (rsQ.length + [((0 : Int), (0 : Int), (3 : Int)), (2, 3, 4)].length)) := fun _ => pdq_small (by decide)
  clear h64
  go_enter Tryz.func4, Tryz.ntmps4
  go_wp2_with (first
    | (go_at_call 17; refine (new_any _).mono ?_; rintro e w1 ⟨rfl, hw1⟩; rw [← HW0.out] at hw1; subst hw1)
    | (go_at_call 18; with_reducible refine (set_is S0.out Tab.nil setB1).mono ?_; rintro e w1 ⟨rfl, v1, S1, K1⟩; have S1h := hide S1; have KK1 := hide K1; clear S1 K1)
    | (go_at_call 18; with_reducible refine (set_is S1h.out tabB1 setB2).mono ?_; rintro e w2 ⟨rfl, v2, S2, K2⟩; have S2h := hide S2; have KK2 := hide (KK1.out.trans K2); clear S2 K2)
    | (go_at_call 18; with_reducible refine (set_is S2h.out tabB2 setB3).mono ?_; rintro e w3 ⟨rfl, v3, S3, K3⟩; have S3h := hide S3; have GE := hide (hend.out _ (KK2.out.trans K3)); clear S3 K3)
    | (go_at_call 8; refine (lof_is (h64'.out.gr GE.out) S3h.out tabB w3 (Gr.refl _)).mono ?_; rintro e w4 ⟨ub, u, rfl, hU, g4⟩; rw [lstB] at hU; have HU := hide hU; have G4 := hide g4; clear hU g4)
    | (go_at_call 10; refine (HU.out.listOwn (by decide) w4 (Gr.refl _)).mono ?_; rintro e w5 ⟨v5, rfl, o5, g5⟩; obtain ⟨ao5, c5, hv5, _, _⟩ := o5.shape; subst hv5; have G5 := hide (G4.out.trans g5); have G5u := hide g5; clear o5 g5)
    | (go_at_call 11; refine (lcount_is (n := 2) (h64'.out.gr GE.out) S3h.out tabB (by rw [lstB]; rfl) w5 G5.out).mono ?_; rintro e w6 ⟨rfl, g6⟩; have G6 := hide (G5.out.trans g6); have G6u := hide (G5u.out.trans g6); clear g6)
    | (go_at_call 19; have X := tsame_is (S3h.out.gr G4.out) HU.out (by decide) (by decide) w6 G6u.out; rw [eqB] at X; refine X.mono ?_; clear X; rintro e w7 ⟨rfl, g7⟩; have G7 := hide (G6.out.trans g7); have G7u := hide (G6u.out.trans g7); clear g7)
    | (go_at_call 13; refine (diff_any (S3h.out.gr G4.out) HU.out tabB tabLB hP.out w7 G7u.out).mono ?_; rintro e w8 ⟨ao8, c8, ds, rfl, hI, _, _, g8⟩; have hd := difB hI; rw [hd]; have G8 := hide (G7.out.trans g8); clear g8 hI)
    | fail)
  go_ret
  exact ⟨rfl, GE.out.trans G8.out⟩

end Go.Proofs.YtimbgijpeomfcacGreatDoor
