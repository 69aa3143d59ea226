import Derived.Test.YtfcknkanbcndjagGreatDoorN1
import Derived.Test.YtfcknkanbcndjagGreatDoorNe1
import Derived.Test.YtfcknkanbcndjagGreatDoorD8
import Derived.Test.YtfcknkanbcndjagGreatDoorD7
/- CONTRACTS OF handpostref: IsNode, Mind.Tick. -/
namespace Go.Proofs.YtfcknkanbcndjagGreatDoor
open Go.RowKit
attribute [local go_sem] Ext.all Ext.cell Ext.frozen Ext.lt Ext.lt1 Ext.lt2 Ext.ne Ext.ne'
set_option maxRecDepth 20000 in
set_option maxHeartbeats 8000000 in
theorem mtick_any {w : World} {p : Nat} {m : Md} (H : MAt w p m) (hme : m.me < 6) (hs : 0 ≤ (m.ways m.me).1) (hs2 : (m.ways m.me).1 < 4611686018427387904) :
    Calls Tryz.prog 51 #[pv p] w fun e w' => e = .returned (.tuple #[]) ∧ MAt w' p (tickM m) ∧ Wr p w w' := by
  have c0 := H.me
  have hp := H.lt
  have fz := ZArr.free H
  obtain ⟨q0, q1, q2⟩ := H.ways hme
  have hmi : (m.me : Int) < 6 := by omega
  have wb : IntKind.i64.wrap ((m.ways m.me).1 + 1) = (m.ways m.me).1 + 1 := by rw [IntKind.wrap_i64]; omega
  have SM := hide (H.setAge hme ((m.ways m.me).1 + 1))
  have SW := hide ((Wr.refl p w).set (79 + m.me * 3) (iv ((m.ways m.me).1 + 1)))
  have HT : Hid (tickM m = { { m with ways := updW m.ways m.me ((m.ways m.me).1 + 1, (m.ways m.me).2.1, (m.ways m.me).2.2) } with bests := updW m.bests m.me ((m.ways m.me).1 + 1, 0) }) := rfl
  have HA : Hid ((updW m.ways m.me ((m.ways m.me).1 + 1, (m.ways m.me).2.1, (m.ways m.me).2.2) m.me).1 = (m.ways m.me).1 + 1) := by unfold Hid; simp [updW]
  clear H hs hs2
  generalize hM : ({ m with ways := updW m.ways m.me ((m.ways m.me).1 + 1, (m.ways m.me).2.1, (m.ways m.me).2.2) } : Md) = m1 at *
  have hm1 : m1.me = m.me := by rw [← hM]
  have hm2 : (m1.ways m.me).1 = (m.ways m.me).1 + 1 := by rw [← hM]; exact HA.out
  have HB : Hid (m1.bests = m.bests) := by unfold Hid; rw [← hM]
  generalize (m.ways m.me).1 = a at *
  go_enter Tryz.func51, Tryz.ntmps51
  go_upto_region 0 with (fail)
  go_still_tail 15, (by kernel_rfl)
  go_upto_region 1 with (fail)
  refine wp_gen (fun V => Hid (MAt V p m1) ∧ Hid (Wr p w V)) ⟨SM.out.gr (Gr.refl _).drew, SW.out.trans ((Gr.refl _).drew.wr p)⟩ ?_
  clear SM SW c0 hp fz q0 q1 q2
  rintro V ⟨M0, gW⟩
  have c0 := M0.out.me
  rw [hm1] at c0
  have hp := M0.out.lt
  have fz := ZArr.free M0.out
  obtain ⟨q0, _, _⟩ := M0.out.ways hme
  rw [hm2] at q0
  obtain ⟨r0, r1⟩ := M0.out.bests hme
  have SM := hide (M0.out.setBests hme (a + 1) 0)
  have SW := hide ((gW.out.set (97 + m.me * 2) (iv (a + 1))).set (97 + m.me * 2 + 1) (iv 0))
  clear M0 gW
  go_still_tail 19, (by kernel_rfl)
  go_wp2_with fail
  refine bodyPost_end (results_none rfl _ _ _) rfl ?_
  exact ⟨rfl, by rw [HT.out]; have := SM.out.gr (Gr.refl _).drew; rw [HB.out] at this; exact this, SW.out.trans ((Gr.refl _).drew.wr p)⟩

end Go.Proofs.YtfcknkanbcndjagGreatDoor

/- CONTRACTS OF handpostref: Mind.Hear where all is right. -/
namespace Go.Proofs.YtfcknkanbcndjagGreatDoor
open Go.RowKit
attribute [local go_sem] Ext.all Ext.cell Ext.frozen Ext.lt Ext.lt1 Ext.lt2 Ext.ne Ext.ne'
set_option maxRecDepth 20000 in
set_option maxHeartbeats 8000000 in
theorem mhear_ok {w : World} {p : Nat} {m : Md} (H : MAt w p m) (hX : MdOk m) {f z : Nat} {o s d : Int} (hf : f < 6) (hz : z < 6) (hfm : f ≠ m.me) (hc : m.cost f ≠ 0) (hs : 0 ≤ s) (hd : 0 ≤ d) (hd2 : d ≤ 200) :
    Calls Tryz.prog 53 #[pv p, .agg #[iv f, iv o, iv z, iv s, iv d]] w fun e w' => e = .returned (iv 0) ∧ MAt w' p (hearM m f z s d) ∧ Wr p w w' := by
  have hp := H.lt
  have hfi : (f : Int) < 6 := by omega
  have hzi : (z : Int) < 6 := by omega
  have B1 : Hid (decide (0 ≤ (f : Int) ∧ (f : Int) < 6) = true) := decide_eq_true ⟨by omega, hfi⟩
  have B2 : Hid (decide (0 ≤ (z : Int) ∧ (z : Int) < 6) = true) := decide_eq_true ⟨by omega, hzi⟩
  have g3 : ((f : Int) == (m.me : Int)) = false := by simp; omega
  have g4 : decide (s < 0) = false := decide_eq_false (by omega)
  have g5 : decide (d < 0) = false := decide_eq_false (by omega)
  have g6 : decide (200 < d) = false := decide_eq_false (by omega)
  have g7 : (m.cost f == 0) = false := by simpa using hc
  have HM := hide (fun (X : World) (g : Gr w X) => H.gr g)
  have HL : Hid (hearM m f z s d = lookM { m with heard := updW m.heard f (updW (m.heard f) z (s, d)) } z) := rfl
  have HS : Hid (∀ r, 0 ≤ (updW m.heard f (updW (m.heard f) z (s, d)) r z).2 ∧ (updW m.heard f (updW (m.heard f) z (s, d)) r z).2 ≤ 200) := by
    intro r
    by_cases e : r = f
    · subst e; simp [updW, hd, hd2]
    · have := hX.said r z
      simp [updW, e, this.2.1, this.2.2]
  clear H hs hd hd2 hfm hc
  go_enter Tryz.func53, Tryz.ntmps53
  go_upto_region 1 with (fail)
  refine wp_gen (fun V => Hid (ZArr V 114 5 w.heap.size (nwF f o z s d)) ∧ Hid (Gr w V)) ⟨ZArr.new w 114 5 (nwF f o z s d), (Gr.refl _).alloc _⟩ ?_
  rintro V ⟨A, gV⟩
  have k0 : V.cell? ⟨w.heap.size, 0, none⟩ = some (iv f) := A.out.cell (by omega)
  have k2 : V.cell? ⟨w.heap.size, 2, none⟩ = some (iv z) := A.out.cell (by omega)
  have k3 : V.cell? ⟨w.heap.size, 3, none⟩ = some (iv s) := A.out.cell (by omega)
  have k4 : V.cell? ⟨w.heap.size, 4, none⟩ = some (iv d) := A.out.cell (by omega)
  have c0 := (HM.out _ gV.out).me
  have c1 := (HM.out _ gV.out).cost hf
  have j0 := A.out.lt
  have j1 := (HM.out _ gV.out).lt
  go_wp2_with fail
  refine wp_region_ext (by kernel_rfl) (by kernel_rfl) ?_
  repeat (go_big_quiet_step (first | (go_at_call 9; with_reducible exact isNode_ext B1.out _) | (go_at_call 9; with_reducible exact isNode_ext B2.out _)))
  refine wpQuiet_nil ?_
  rintro _ ⟨d1, rfl⟩
  go_upto_region 3 with (fail)
  refine wp_region_ext (by kernel_rfl) (by kernel_rfl) ?_
  repeat (go_big_quiet_step (fail))
  refine wpQuiet_nil ?_
  rintro _ ⟨d2, rfl⟩
  go_upto_region 5 with (fail)
  refine wp_gen (fun V2 => Hid (ZArr V2 114 5 w.heap.size (nwF f o z s d)) ∧ Hid (Gr w V2)) ⟨(A.out.gr d1.gr).gr d2.gr, (gV.out.trans d1.gr).trans d2.gr⟩ ?_
  clear A gV k0 k2 k3 k4 c0 c1 j0 j1
  rintro V2 ⟨A, gV⟩
  have k0 : V2.cell? ⟨w.heap.size, 0, none⟩ = some (iv f) := A.out.cell (by omega)
  have k2 : V2.cell? ⟨w.heap.size, 2, none⟩ = some (iv z) := A.out.cell (by omega)
  have k3 : V2.cell? ⟨w.heap.size, 3, none⟩ = some (iv s) := A.out.cell (by omega)
  have k4 : V2.cell? ⟨w.heap.size, 4, none⟩ = some (iv d) := A.out.cell (by omega)
  obtain ⟨q0, q1⟩ := (HM.out _ gV.out).heard hf hz
  have fz := ZArr.free (HM.out _ gV.out)
  have j0 := A.out.lt
  have j1 := (HM.out _ gV.out).lt
  have SM := hide ((HM.out _ gV.out).setHeard hf hz s d)
  have SW := hide (((gV.out.wr p).set (7 + f * 12 + z * 2) (iv s)).set (7 + f * 12 + z * 2 + 1) (iv d))
  have SA := hide ((A.out.other (q := p) (by omega) (7 + f * 12 + z * 2) (iv s)).other (q := p) (by omega) (7 + f * 12 + z * 2 + 1) (iv d))
  clear A gV
  go_still_tail 14, (by kernel_rfl)
  go_upto_region 6 with (fail)
  refine wp_gen (fun V3 => Hid (ZArr V3 114 5 w.heap.size (nwF f o z s d)) ∧ Hid (MAt V3 p { m with heard := updW m.heard f (updW (m.heard f) z (s, d)) }) ∧ Hid (Wr p w V3)) ⟨SA.out.gr (Gr.refl _).drew, SM.out.gr (Gr.refl _).drew, SW.out.trans ((Gr.refl _).drew.wr p)⟩ ?_
  clear SA SM SW k0 k2 k3 k4 q0 q1 fz j0 j1
  rintro V3 ⟨A, M3, W3⟩
  have k2 : V3.cell? ⟨w.heap.size, 2, none⟩ = some (iv z) := A.out.cell (by omega)
  have j0 := A.out.lt
  go_wp2_with (go_at_call 102; with_reducible refine (mlook_any M3.out hz hX.cost HS.out).mono ?_; rintro e V4 ⟨rfl, M4, W4⟩; have HM4 := hide M4; have HW4 := hide W4; clear M4 W4)
  go_ret
  exact ⟨rfl, by rw [HL.out]; exact HM4.out, W3.out.trans HW4.out⟩

end Go.Proofs.YtfcknkanbcndjagGreatDoor

/- CONTRACTS OF handpostref: Mind.Link where all is right. -/
namespace Go.Proofs.YtfcknkanbcndjagGreatDoor
open Go.RowKit
attribute [local go_sem] Ext.all Ext.cell Ext.frozen Ext.lt Ext.lt1 Ext.lt2 Ext.ne Ext.ne'
def clrM (m : Md) (f : Nat) (c : Int) (k : Nat) : Md := { m with cost := updW m.cost f c, heard := fun j i => if j = f ∧ i < k then (0, 200) else m.heard j i }
def midM (m : Md) (f : Nat) (c : Int) : Md := { m with cost := updW m.cost f c, heard := if c = 0 then updW m.heard f (fun _ => (0, 200)) else m.heard }
theorem clr_zero (m : Md) (f : Nat) (c : Int) : clrM m f c 0 = { m with cost := updW m.cost f c } := by
  unfold clrM
  congr 1
  funext j i
  rw [if_neg (by omega)]
theorem clr_succ (m : Md) (f : Nat) (c : Int) (k : Nat) : { clrM m f c k with heard := updW (clrM m f c k).heard f (updW ((clrM m f c k).heard f) k (0, 200)) } = clrM m f c (k + 1) := by
  unfold clrM
  dsimp only
  congr 1
  funext j i
  unfold updW
  by_cases e : j = f
  · subst e
    rw [if_pos rfl]
    dsimp only
    by_cases e2 : i = k
    · rw [if_pos e2, if_pos ⟨rfl, by omega⟩]
    · rw [if_neg e2]
      by_cases e3 : i < k
      · rw [if_pos ⟨rfl, e3⟩, if_pos ⟨rfl, by omega⟩]
      · rw [if_neg (by omega), if_neg (by omega)]
  · simp [e]
theorem clr_heard (m : Md) (f j : Nat) {k : Nat} (hk : k < 6) : (clrM m f 0 6).heard j k = (midM m f 0).heard j k := by
  unfold clrM midM updW
  by_cases e : j = f
  · simp [e, hk]
  · simp [e]
theorem clr_end {w : World} {p : Nat} {m : Md} {f : Nat} {c : Int} {k : Nat} (h : MAt w p (clrM m f c k)) (hk : (c = 0 ∧ k = 6) ∨ (c ≠ 0 ∧ k = 0)) : MAt w p (midM m f c) := by
  rcases hk with ⟨rfl, rfl⟩ | ⟨hc, rfl⟩
  · refine ZArr.congr h fun i hi => ?_
    have E := clr_heard m f ((i - 7) / 12) (k := (i - 7) % 12 / 2) (by omega)
    unfold mdF
    rw [E]
    rfl
  · rw [clr_zero] at h
    unfold midM
    rw [if_neg hc]
    exact h
theorem mid_cost {m : Md} (hX : MdOk m) {f : Nat} {c : Int} (h0 : 0 ≤ c) (h1 : c ≤ 15) (n : Nat) : ∀ r, 0 ≤ (lookTo (midM m f c) n).cost r ∧ (lookTo (midM m f c) n).cost r ≤ 15 := by
  intro r
  rw [(lookTo_all (midM m f c) n).2.1]
  show 0 ≤ updW m.cost f c r ∧ updW m.cost f c r ≤ 15
  unfold updW
  by_cases e : r = f
  · rw [if_pos e]; exact ⟨h0, h1⟩
  · rw [if_neg e]; exact hX.cost r
theorem mid_said {m : Md} (hX : MdOk m) (f : Nat) (c : Int) (n k : Nat) : ∀ r, 0 ≤ ((lookTo (midM m f c) n).heard r k).2 ∧ ((lookTo (midM m f c) n).heard r k).2 ≤ 200 := by
  intro r
  rw [(lookTo_all (midM m f c) n).2.2.1]
  have := (hX.said r k).2
  unfold midM updW
  dsimp only
  by_cases e : c = 0
  · rw [if_pos e]
    by_cases e2 : r = f
    · rw [if_pos e2]; exact ⟨by decide, by decide⟩
    · rw [if_neg e2]; exact this
  · rw [if_neg e]; exact this

set_option maxRecDepth 20000 in
set_option maxHeartbeats 8000000 in
theorem mlink_ok {w : World} {p : Nat} {m : Md} (H : MAt w p m) (hX : MdOk m) {f : Nat} {c : Int} (hf : f < 6) (hfm : f ≠ m.me) (h0 : 0 ≤ c) (h1 : c ≤ 15) :
    Calls Tryz.prog 50 #[pv p, iv f, iv c] w fun e w' => e = .returned (iv 0) ∧ MAt w' p (linkM m f c) ∧ Wr p w w' := by
  have hp := H.lt
  have hfi : (f : Int) < 6 := by omega
  have B1 : Hid (decide (0 ≤ (f : Int) ∧ (f : Int) < 6) = true) := decide_eq_true ⟨by omega, hfi⟩
  have g3 : ((f : Int) == (m.me : Int)) = false := by simp; omega
  have g4 : decide (c < 0) = false := decide_eq_false (by omega)
  have g5 : decide (15 < c) = false := decide_eq_false (by omega)
  have HL : Hid (linkM m f c = lookTo (midM m f c) 6) := rfl
  have HC : Hid (∀ n r, 0 ≤ (lookTo (midM m f c) n).cost r ∧ (lookTo (midM m f c) n).cost r ≤ 15) := mid_cost hX h0 h1
  have HS := hide (mid_said hX f c)
  have c0 := H.me
  have c1 := H.cost hf
  have fz := ZArr.free H
  have SM : Hid (MAt (w.setCell ⟨p, 1 + f, none⟩ (iv c)) p (clrM m f c 0)) := by unfold Hid; rw [clr_zero]; exact H.setCost hf c
  have SW := hide ((Wr.refl p w).set (1 + f) (iv c))
  clear H h0 h1 hfm
  go_enter Tryz.func50, Tryz.ntmps50
  go_upto_region 4 with (first | (go_at_call 9; with_reducible refine (isNode_is B1.out _).mono ?_; rintro e w1 ⟨rfl, hw1⟩; have hw2 := hw1.symm; clear hw1; subst hw2))
  refine wp_gen (fun V => Hid (MAt V p (clrM m f c 0)) ∧ Hid (Wr p w V)) ⟨SM.out, SW.out⟩ ?_
  clear SM SW c0 c1 fz
  rintro V ⟨M0, W0⟩
  go_wp2_with fail
  go_loopw [7] (fun v7 wr => ∃ k : Nat, k ≤ 6 ∧ (c ≠ 0 → k = 0) ∧ v7 = .int .i64 (k : Int) ∧ Hid (MAt wr p (clrM m f c k)) ∧ Hid (Wr p w wr)) (fun v7 _ => (6 - intOf v7).toNat)
  case atStart => exact ⟨0, by omega, fun _ => rfl, rfl, M0, W0⟩
  case round =>
    clear M0 W0
    obtain ⟨k, hk6, hck, rfl, M0, W0⟩ := hrel
    by_cases hgo : k < 6 ∧ c = 0
    · obtain ⟨hk, rfl⟩ := hgo
      have hki : (k : Int) < 6 := by omega
      obtain ⟨q0, q1⟩ := M0.out.heard hf hk
      have fz := ZArr.free M0.out
      have hpl := M0.out.lt
      have SM : Hid (MAt ((wr.setCell ⟨p, 7 + f * 12 + k * 2, none⟩ (iv 0)).setCell ⟨p, 7 + f * 12 + k * 2 + 1, none⟩ (iv 200)) p (clrM m f 0 (k + 1))) := by unfold Hid; rw [← clr_succ]; exact M0.out.setHeard hf hk 0 200
      have SW := hide ((W0.out.set (7 + f * 12 + k * 2) (iv 0)).set (7 + f * 12 + k * 2 + 1) (iv 200))
      have wk : IntKind.i64.wrap ((k : Int) + 1) = (k : Int) + 1 := by rw [IntKind.wrap_i64]; omega
      clear M0 W0 hck
      go_wp2_with fail
      go_roundw
      case rel => exact ⟨k + 1, by omega, fun h => absurd rfl h, by congr 1, SM, SW⟩
      case measure => simp [intOf]; omega
    · have HE : Hid ((c = 0 ∧ k = 6) ∨ (c ≠ 0 ∧ k = 0)) := by
        by_cases e : c = 0
        · exact .inl ⟨e, by omega⟩
        · exact .inr ⟨e, hck e⟩
      have M1 := hide (clr_end M0.out HE.out)
      have HG : Hid (¬ (k < 6 ∧ c = 0)) := hgo
      clear M0 hck hgo
      have gk : decide ((k : Int) < 6) = true ∧ (c == 0) = false ∨ decide ((k : Int) < 6) = false := by
        by_cases e : k < 6
        · exact .inl ⟨decide_eq_true (by omega), by have := HG.out; simp; omega⟩
        · exact .inr (decide_eq_false (by omega))
      clear HG HE
      rcases gk with ⟨gk, gc⟩ | gk
      all_goals
        go_upto_region 8 with (fail)
        refine wp_gen (fun V => Hid (MAt V p (lookTo (midM m f c) 0)) ∧ Hid (Wr p w V)) ⟨M1.out, W0.out⟩ ?_
        clear M1 W0
        rintro V2 ⟨M2, W2⟩
        go_wp2_with fail
        go_loopw [8] (fun v8 wr => ∃ n : Nat, n ≤ 6 ∧ v8 = .int .i64 (n : Int) ∧ Hid (MAt wr p (lookTo (midM m f c) n)) ∧ Hid (Wr p w wr)) (fun v8 _ => (6 - intOf v8).toNat)
        case atStart => exact ⟨0, by omega, rfl, M2, W2⟩
        case round =>
          clear M2 W2
          obtain ⟨n, hn6, rfl, M2, W2⟩ := hrel
          by_cases hn : n < 6
          · have hni : decide ((n : Int) < 6) = true := decide_eq_true (by omega)
            have wk : IntKind.i64.wrap ((n : Int) + 1) = (n : Int) + 1 := by rw [IntKind.wrap_i64]; omega
            have HQ := hide (mlook_any M2.out hn (HC.out n) (HS.out n n))
            go_wp2_with (go_at_call 102; with_reducible refine HQ.out.mono ?_; rintro e V4 ⟨rfl, M4, W4⟩; have HM4 := hide M4; have HW4 := hide W4; clear M4 W4)
            go_roundw
            case rel => exact ⟨n + 1, by omega, by congr 1, HM4, W2.out.trans HW4.out⟩
            case measure => simp [intOf]; omega
          · have hni : decide ((n : Int) < 6) = false := decide_eq_false (by omega)
            have en : n = 6 := by omega
            subst en
            go_wp2_with fail
            go_ret
            exact ⟨rfl, by rw [HL.out]; exact M2.out, W2.out⟩

end Go.Proofs.YtfcknkanbcndjagGreatDoor

/- CONTRACTS OF handpostref: the codes of Mind.Link and Mind.Hear. -/
namespace Go.Proofs.YtfcknkanbcndjagGreatDoor
open Go.RowKit
attribute [local go_sem] Ext.all Ext.cell Ext.frozen Ext.lt Ext.lt1 Ext.lt2 Ext.ne Ext.ne'
set_option maxRecDepth 20000 in
set_option maxHeartbeats 8000000 in
theorem mlink_bad {w : World} {p : Nat} {m : Md} (H : MAt w p m) {f c : Int} (hb : ¬ (0 ≤ f ∧ f < 6) ∨ f = m.me ∨ c < 0 ∨ 15 < c) :
    Calls Tryz.prog 50 #[pv p, iv f, iv c] w fun e w' => e = .returned (iv 1) ∧ w' = w := by
  have hp := H.lt
  have c0 := H.me
  obtain ⟨b, B1⟩ : ∃ b, Hid (decide (0 ≤ f ∧ f < 6) = b) := ⟨_, rfl⟩
  have HB : Hid (b = false ∨ (f == (m.me : Int)) = true ∨ decide (c < 0) = true ∨ decide (15 < c) = true) := by
    rcases hb with h | h | h | h
    · exact .inl (by rw [← B1.out]; exact decide_eq_false h)
    · exact .inr (.inl (by simpa using h))
    · exact .inr (.inr (.inl (decide_eq_true h)))
    · exact .inr (.inr (.inr (decide_eq_true h)))
  clear hb H
  cases b
  · go_enter Tryz.func50, Tryz.ntmps50
    go_wp2_with (go_at_call 9; with_reducible refine (isNode_is B1.out _).mono ?_; rintro e w1 ⟨rfl, hw1⟩; have hw2 := hw1.symm; clear hw1; subst hw2)
    go_ret
    exact ⟨rfl, rfl⟩
  · cases g3 : (f == (m.me : Int))
    · cases g4 : decide (c < 0)
      · have g5 : decide (15 < c) = true := by have := HB.out; simpa [g3, g4] using this
        clear HB
        go_enter Tryz.func50, Tryz.ntmps50
        go_wp2_with (go_at_call 9; with_reducible refine (isNode_is B1.out _).mono ?_; rintro e w1 ⟨rfl, hw1⟩; have hw2 := hw1.symm; clear hw1; subst hw2)
        go_ret
        exact ⟨rfl, rfl⟩
      · clear HB
        go_enter Tryz.func50, Tryz.ntmps50
        go_wp2_with (go_at_call 9; with_reducible refine (isNode_is B1.out _).mono ?_; rintro e w1 ⟨rfl, hw1⟩; have hw2 := hw1.symm; clear hw1; subst hw2)
        go_ret
        exact ⟨rfl, rfl⟩
    · clear HB
      go_enter Tryz.func50, Tryz.ntmps50
      go_wp2_with (go_at_call 9; with_reducible refine (isNode_is B1.out _).mono ?_; rintro e w1 ⟨rfl, hw1⟩; have hw2 := hw1.symm; clear hw1; subst hw2)
      go_ret
      exact ⟨rfl, rfl⟩

set_option maxRecDepth 20000 in
set_option maxHeartbeats 8000000 in
theorem mhear_bad {w : World} {p : Nat} {m : Md} (H : MAt w p m) {f o z s d : Int} (hb : ¬ (0 ≤ f ∧ f < 6) ∨ ¬ (0 ≤ z ∧ z < 6) ∨ f = m.me ∨ s < 0 ∨ d < 0 ∨ 200 < d) :
    Calls Tryz.prog 53 #[pv p, .agg #[iv f, iv o, iv z, iv s, iv d]] w fun e w' => e = .returned (iv 1) ∧ Gr w w' := by
  have HM := hide (fun (X : World) (g : Gr w X) => H.gr g)
  have hp := H.lt
  obtain ⟨b, B1⟩ : ∃ b, Hid (decide (0 ≤ f ∧ f < 6) = b) := ⟨_, rfl⟩
  obtain ⟨b2, B2⟩ : ∃ b, Hid (decide (0 ≤ z ∧ z < 6) = b) := ⟨_, rfl⟩
  have HB : Hid (b = false ∨ b2 = false ∨ (f == (m.me : Int)) = true ∨ decide (s < 0) = true ∨ decide (d < 0) = true ∨ decide (200 < d) = true) := by
    rcases hb with h | h | h | h | h | h
    · exact .inl (by rw [← B1.out]; exact decide_eq_false h)
    · exact .inr (.inl (by rw [← B2.out]; exact decide_eq_false h))
    · exact .inr (.inr (.inl (by simpa using h)))
    · exact .inr (.inr (.inr (.inl (decide_eq_true h))))
    · exact .inr (.inr (.inr (.inr (.inl (decide_eq_true h)))))
    · exact .inr (.inr (.inr (.inr (.inr (decide_eq_true h)))))
  clear hb H
  cases b
  · clear HB
    go_enter Tryz.func53, Tryz.ntmps53
    go_upto_region 1 with (fail)
    refine wp_gen (fun V => Hid (ZArr V 114 5 w.heap.size (nwF f o z s d)) ∧ Hid (Gr w V)) ⟨ZArr.new w 114 5 (nwF f o z s d), (Gr.refl _).alloc _⟩ ?_
    rintro V ⟨A, gV⟩
    have k0 : V.cell? ⟨w.heap.size, 0, none⟩ = some (iv f) := A.out.cell (by omega)
    have k2 : V.cell? ⟨w.heap.size, 2, none⟩ = some (iv z) := A.out.cell (by omega)
    have k3 : V.cell? ⟨w.heap.size, 3, none⟩ = some (iv s) := A.out.cell (by omega)
    have k4 : V.cell? ⟨w.heap.size, 4, none⟩ = some (iv d) := A.out.cell (by omega)
    have c0 := (HM.out _ gV.out).me
    have j0 := A.out.lt
    have j1 := (HM.out _ gV.out).lt
    go_wp2_with fail
    refine wp_region_ext (by kernel_rfl) (by kernel_rfl) ?_
    repeat (go_big_quiet_step (first | (go_at_call 9; with_reducible exact isNode_ext B1.out _) | (go_at_call 9; with_reducible exact isNode_ext B2.out _)))
    refine wpQuiet_nil ?_
    rintro _ ⟨d1, rfl⟩
    go_wp2_with fail
    go_ret
    exact ⟨rfl, gV.out.trans d1.gr⟩
  · cases b2
    · clear HB
      go_enter Tryz.func53, Tryz.ntmps53
      go_upto_region 1 with (fail)
      refine wp_gen (fun V => Hid (ZArr V 114 5 w.heap.size (nwF f o z s d)) ∧ Hid (Gr w V)) ⟨ZArr.new w 114 5 (nwF f o z s d), (Gr.refl _).alloc _⟩ ?_
      rintro V ⟨A, gV⟩
      have k0 : V.cell? ⟨w.heap.size, 0, none⟩ = some (iv f) := A.out.cell (by omega)
      have k2 : V.cell? ⟨w.heap.size, 2, none⟩ = some (iv z) := A.out.cell (by omega)
      have k3 : V.cell? ⟨w.heap.size, 3, none⟩ = some (iv s) := A.out.cell (by omega)
      have k4 : V.cell? ⟨w.heap.size, 4, none⟩ = some (iv d) := A.out.cell (by omega)
      have c0 := (HM.out _ gV.out).me
      have j0 := A.out.lt
      have j1 := (HM.out _ gV.out).lt
      go_wp2_with fail
      refine wp_region_ext (by kernel_rfl) (by kernel_rfl) ?_
      repeat (go_big_quiet_step (first | (go_at_call 9; with_reducible exact isNode_ext B1.out _) | (go_at_call 9; with_reducible exact isNode_ext B2.out _)))
      refine wpQuiet_nil ?_
      rintro _ ⟨d1, rfl⟩
      go_wp2_with fail
      go_ret
      exact ⟨rfl, gV.out.trans d1.gr⟩
    · cases g3 : (f == (m.me : Int))
      · cases g4 : decide (s < 0)
        · cases g5 : decide (d < 0)
          · have g6 : decide (200 < d) = true := by have := HB.out; simpa [g3, g4, g5] using this
            clear HB
            go_enter Tryz.func53, Tryz.ntmps53
            go_upto_region 1 with (fail)
            refine wp_gen (fun V => Hid (ZArr V 114 5 w.heap.size (nwF f o z s d)) ∧ Hid (Gr w V)) ⟨ZArr.new w 114 5 (nwF f o z s d), (Gr.refl _).alloc _⟩ ?_
            rintro V ⟨A, gV⟩
            have k0 : V.cell? ⟨w.heap.size, 0, none⟩ = some (iv f) := A.out.cell (by omega)
            have k2 : V.cell? ⟨w.heap.size, 2, none⟩ = some (iv z) := A.out.cell (by omega)
            have k3 : V.cell? ⟨w.heap.size, 3, none⟩ = some (iv s) := A.out.cell (by omega)
            have k4 : V.cell? ⟨w.heap.size, 4, none⟩ = some (iv d) := A.out.cell (by omega)
            have c0 := (HM.out _ gV.out).me
            have j0 := A.out.lt
            have j1 := (HM.out _ gV.out).lt
            go_wp2_with fail
            refine wp_region_ext (by kernel_rfl) (by kernel_rfl) ?_
            repeat (go_big_quiet_step (first | (go_at_call 9; with_reducible exact isNode_ext B1.out _) | (go_at_call 9; with_reducible exact isNode_ext B2.out _)))
            refine wpQuiet_nil ?_
            rintro _ ⟨d1, rfl⟩
            go_wp2_with fail
            go_ret
            exact ⟨rfl, gV.out.trans d1.gr⟩
          · clear HB
            go_enter Tryz.func53, Tryz.ntmps53
            go_upto_region 1 with (fail)
            refine wp_gen (fun V => Hid (ZArr V 114 5 w.heap.size (nwF f o z s d)) ∧ Hid (Gr w V)) ⟨ZArr.new w 114 5 (nwF f o z s d), (Gr.refl _).alloc _⟩ ?_
            rintro V ⟨A, gV⟩
            have k0 : V.cell? ⟨w.heap.size, 0, none⟩ = some (iv f) := A.out.cell (by omega)
            have k2 : V.cell? ⟨w.heap.size, 2, none⟩ = some (iv z) := A.out.cell (by omega)
            have k3 : V.cell? ⟨w.heap.size, 3, none⟩ = some (iv s) := A.out.cell (by omega)
            have k4 : V.cell? ⟨w.heap.size, 4, none⟩ = some (iv d) := A.out.cell (by omega)
            have c0 := (HM.out _ gV.out).me
            have j0 := A.out.lt
            have j1 := (HM.out _ gV.out).lt
            go_wp2_with fail
            refine wp_region_ext (by kernel_rfl) (by kernel_rfl) ?_
            repeat (go_big_quiet_step (first | (go_at_call 9; with_reducible exact isNode_ext B1.out _) | (go_at_call 9; with_reducible exact isNode_ext B2.out _)))
            refine wpQuiet_nil ?_
            rintro _ ⟨d1, rfl⟩
            go_wp2_with fail
            go_ret
            exact ⟨rfl, gV.out.trans d1.gr⟩
        · clear HB
          go_enter Tryz.func53, Tryz.ntmps53
          go_upto_region 1 with (fail)
          refine wp_gen (fun V => Hid (ZArr V 114 5 w.heap.size (nwF f o z s d)) ∧ Hid (Gr w V)) ⟨ZArr.new w 114 5 (nwF f o z s d), (Gr.refl _).alloc _⟩ ?_
          rintro V ⟨A, gV⟩
          have k0 : V.cell? ⟨w.heap.size, 0, none⟩ = some (iv f) := A.out.cell (by omega)
          have k2 : V.cell? ⟨w.heap.size, 2, none⟩ = some (iv z) := A.out.cell (by omega)
          have k3 : V.cell? ⟨w.heap.size, 3, none⟩ = some (iv s) := A.out.cell (by omega)
          have k4 : V.cell? ⟨w.heap.size, 4, none⟩ = some (iv d) := A.out.cell (by omega)
          have c0 := (HM.out _ gV.out).me
          have j0 := A.out.lt
          have j1 := (HM.out _ gV.out).lt
          go_wp2_with fail
          refine wp_region_ext (by kernel_rfl) (by kernel_rfl) ?_
          repeat (go_big_quiet_step (first | (go_at_call 9; with_reducible exact isNode_ext B1.out _) | (go_at_call 9; with_reducible exact isNode_ext B2.out _)))
          refine wpQuiet_nil ?_
          rintro _ ⟨d1, rfl⟩
          go_wp2_with fail
          go_ret
          exact ⟨rfl, gV.out.trans d1.gr⟩
      · clear HB
        go_enter Tryz.func53, Tryz.ntmps53
        go_upto_region 1 with (fail)
        refine wp_gen (fun V => Hid (ZArr V 114 5 w.heap.size (nwF f o z s d)) ∧ Hid (Gr w V)) ⟨ZArr.new w 114 5 (nwF f o z s d), (Gr.refl _).alloc _⟩ ?_
        rintro V ⟨A, gV⟩
        have k0 : V.cell? ⟨w.heap.size, 0, none⟩ = some (iv f) := A.out.cell (by omega)
        have k2 : V.cell? ⟨w.heap.size, 2, none⟩ = some (iv z) := A.out.cell (by omega)
        have k3 : V.cell? ⟨w.heap.size, 3, none⟩ = some (iv s) := A.out.cell (by omega)
        have k4 : V.cell? ⟨w.heap.size, 4, none⟩ = some (iv d) := A.out.cell (by omega)
        have c0 := (HM.out _ gV.out).me
        have j0 := A.out.lt
        have j1 := (HM.out _ gV.out).lt
        go_wp2_with fail
        refine wp_region_ext (by kernel_rfl) (by kernel_rfl) ?_
        repeat (go_big_quiet_step (first | (go_at_call 9; with_reducible exact isNode_ext B1.out _) | (go_at_call 9; with_reducible exact isNode_ext B2.out _)))
        refine wpQuiet_nil ?_
        rintro _ ⟨d1, rfl⟩
        go_wp2_with fail
        go_ret
        exact ⟨rfl, gV.out.trans d1.gr⟩

set_option maxRecDepth 20000 in
set_option maxHeartbeats 8000000 in
theorem mhear_none {w : World} {p : Nat} {m : Md} (H : MAt w p m) {f z : Nat} {o s d : Int} (hf : f < 6) (hz : z < 6) (hfm : f ≠ m.me) (hc : m.cost f = 0) (hs : 0 ≤ s) (hd : 0 ≤ d) (hd2 : d ≤ 200) :
    Calls Tryz.prog 53 #[pv p, .agg #[iv f, iv o, iv z, iv s, iv d]] w fun e w' => e = .returned (iv 6) ∧ Gr w w' := by
  have hp := H.lt
  have hfi : (f : Int) < 6 := by omega
  have hzi : (z : Int) < 6 := by omega
  have B1 : Hid (decide (0 ≤ (f : Int) ∧ (f : Int) < 6) = true) := decide_eq_true ⟨by omega, hfi⟩
  have B2 : Hid (decide (0 ≤ (z : Int) ∧ (z : Int) < 6) = true) := decide_eq_true ⟨by omega, hzi⟩
  have g3 : ((f : Int) == (m.me : Int)) = false := by simp; omega
  have g4 : decide (s < 0) = false := decide_eq_false (by omega)
  have g5 : decide (d < 0) = false := decide_eq_false (by omega)
  have g6 : decide (200 < d) = false := decide_eq_false (by omega)
  have g7 : (m.cost f == 0) = true := by simpa using hc
  have HM := hide (fun (X : World) (g : Gr w X) => H.gr g)
  clear H hs hd hd2 hfm hc
  go_enter Tryz.func53, Tryz.ntmps53
  go_upto_region 1 with (fail)
  refine wp_gen (fun V => Hid (ZArr V 114 5 w.heap.size (nwF f o z s d)) ∧ Hid (Gr w V)) ⟨ZArr.new w 114 5 (nwF f o z s d), (Gr.refl _).alloc _⟩ ?_
  rintro V ⟨A, gV⟩
  have k0 : V.cell? ⟨w.heap.size, 0, none⟩ = some (iv f) := A.out.cell (by omega)
  have k2 : V.cell? ⟨w.heap.size, 2, none⟩ = some (iv z) := A.out.cell (by omega)
  have k3 : V.cell? ⟨w.heap.size, 3, none⟩ = some (iv s) := A.out.cell (by omega)
  have k4 : V.cell? ⟨w.heap.size, 4, none⟩ = some (iv d) := A.out.cell (by omega)
  have c0 := (HM.out _ gV.out).me
  have c1 := (HM.out _ gV.out).cost hf
  have j0 := A.out.lt
  have j1 := (HM.out _ gV.out).lt
  go_wp2_with fail
  refine wp_region_ext (by kernel_rfl) (by kernel_rfl) ?_
  repeat (go_big_quiet_step (first | (go_at_call 9; with_reducible exact isNode_ext B1.out _) | (go_at_call 9; with_reducible exact isNode_ext B2.out _)))
  refine wpQuiet_nil ?_
  rintro _ ⟨d1, rfl⟩
  go_upto_region 3 with (fail)
  refine wp_region_ext (by kernel_rfl) (by kernel_rfl) ?_
  repeat (go_big_quiet_step (fail))
  refine wpQuiet_nil ?_
  rintro _ ⟨d2, rfl⟩
  go_wp2_with fail
  go_ret
  exact ⟨rfl, (gV.out.trans d1.gr).trans d2.gr⟩

end Go.Proofs.YtfcknkanbcndjagGreatDoor

/- CONTRACTS OF handpostref: NewMind. -/
namespace Go.Proofs.YtfcknkanbcndjagGreatDoor
open Go.RowKit
attribute [local go_sem] Ext.all Ext.cell Ext.frozen Ext.lt Ext.lt1 Ext.lt2 Ext.ne Ext.ne'
theorem zero_mind (w : World) : (zeroValue 177).run Tryz.prog w = .ok (.agg (zcells 109 (fun _ => 0))) w := by kernel_rfl
def nvM1 (me k : Nat) : Md := { nwM me k with ways := updW (nwM me k).ways k (0, 200, -1) }
def nvM2 (me k : Nat) : Md := { nvM1 me k with bests := updW (nvM1 me k).bests k (0, 200) }
theorem nv_succ (me k : Nat) : { nvM2 me k with heard := updW (nvM2 me k).heard k (fun _ => (0, 200)) } = nwM me (k + 1) := by
  unfold nvM2 nvM1 nwM
  dsimp only
  rw [upd_lt, upd_lt, upd_lt2]
def nvE (me : Nat) : Md := { nwM me 6 with ways := updW (nwM me 6).ways me (0, 0, (me : Int)) }
theorem nv_end {t : TypeId} {w : World} {p me : Nat} (h : NdAt t w p { nvE me with bests := updW (nvE me).bests me (0, 0) }) : NdAt t w p (newM me) := by
  refine ZArr.congr h fun i hi => ?_
  unfold mdF
  have e1 : ∀ a b, a < 6 → ({ nvE me with bests := updW (nvE me).bests me (0, 0) } : Md).heard a b = (newM me).heard a b := fun a b ha => by
    show (if a < 6 then ((0, 200) : Int × Int) else (0, 0)) = (0, 200)
    rw [if_pos ha]
  have e2 : ∀ a, a < 6 → ({ nvE me with bests := updW (nvE me).bests me (0, 0) } : Md).ways a = (newM me).ways a := fun a ha => by
    show updW (fun j => if j < 6 then ((0, 200, -1) : Int × Int × Int) else (0, 0, 0)) me (0, 0, (me : Int)) a = updW (fun _ => (0, 200, -1)) me (0, 0, (me : Int)) a
    by_cases e : a = me
    · rw [e, updW_same, updW_same]
    · rw [updW_ne _ _ e, updW_ne _ _ e, if_pos ha]
  have e3 : ∀ a, a < 6 → ({ nvE me with bests := updW (nvE me).bests me (0, 0) } : Md).bests a = (newM me).bests a := fun a ha => by
    show updW (fun j => if j < 6 then ((0, 200) : Int × Int) else (0, 0)) me (0, 0) a = updW (fun _ => (0, 200)) me (0, 0) a
    by_cases e : a = me
    · rw [e, updW_same, updW_same]
    · rw [updW_ne _ _ e, updW_ne _ _ e, if_pos ha]
  by_cases a0 : i = 0
  · rw [if_pos a0, if_pos a0]; rfl
  · rw [if_neg a0, if_neg a0]
    by_cases a1 : i < 7
    · rw [if_pos a1, if_pos a1]; rfl
    · rw [if_neg a1, if_neg a1]
      by_cases a2 : i < 79
      · rw [if_pos a2, if_pos a2, e1 _ _ (by omega)]
      · rw [if_neg a2, if_neg a2]
        by_cases a3 : i < 97
        · rw [if_pos a3, if_pos a3, e2 _ (by omega)]
        · rw [if_neg a3, if_neg a3, e3 _ (by omega)]

set_option maxRecDepth 20000 in
set_option maxHeartbeats 8000000 in
theorem newMind_ok {me : Nat} (hme : me < 6) (w : World) :
    Calls Tryz.prog 48 #[iv me] w fun e w' => e = .returned (pv w.heap.size) ∧ MAt w' w.heap.size (newM me) ∧ Gr w w' := by
  have hmi : (me : Int) < 6 := by omega
  have M0 : Hid (NdAt 177 (w.alloc (.cells (zcells 109 (mdF (nwM me 0))) 177)) w.heap.size (nwM me 0)) := ZArr.new w 177 109 (mdF (nwM me 0))
  have hz := zero_mind
  have hne := z109_ne
  have hset := z109_set me
  generalize zcells 109 (fun _ => 0) = Z at hz hne hset
  generalize zcells 109 (mdF (nwM me 0)) = U at hset M0
  go_enter Tryz.func48, Tryz.ntmps48
  go_upto_region 2 with (fail)
  refine wp_gen (fun V => Hid (MAt V w.heap.size (nwM me 0)) ∧ Hid (Gr w V)) ⟨M0.out, (Gr.refl _).alloc _⟩ ?_
  clear M0
  generalize hp : w.heap.size = p at *
  have hpw : w.heap.size ≤ p := by omega
  have HP := hide hp
  clear hp
  rintro V ⟨M0, g0⟩
  go_wp2_with fail
  go_loopw [4] (fun v4 wr => ∃ k : Nat, k ≤ 6 ∧ v4 = .int .i64 (k : Int) ∧ Hid (MAt wr p (nwM me k)) ∧ Hid (Gr w wr)) (fun v4 _ => (6 - intOf v4).toNat)
  case atStart => exact ⟨0, by omega, rfl, M0, g0⟩
  case round =>
    clear M0 g0
    obtain ⟨k, hk6, rfl, M0, g0⟩ := hrel
    by_cases hk : k < 6
    · have hki : decide ((k : Int) < 6) = true := decide_eq_true (by omega)
      have hk0 : (k : Int) < 6 := by omega
      have wk : IntKind.i64.wrap ((k : Int) + 1) = (k : Int) + 1 := by rw [IntKind.wrap_i64]; omega
      have fz := NdAt.free M0.out
      obtain ⟨q0, q1, q2⟩ := M0.out.ways hk
      have hp := M0.out.lt
      have SM := hide (M0.out.setWays hk 0 200 (-1))
      have SG := hide (((g0.out.setCell (p := ⟨p, 79 + k * 3, none⟩) hpw (iv 0)).setCell (p := ⟨p, 79 + k * 3 + 1, none⟩) hpw (iv 200)).setCell (p := ⟨p, 79 + k * 3 + 2, none⟩) hpw (iv (-1)))
      go_upto_region 6 with (fail)
      refine wp_gen (fun V => Hid (MAt V p (nvM1 me k)) ∧ Hid (Gr w V)) ⟨SM, SG⟩ ?_
      clear fz q0 q1 q2 hp SM SG M0 g0
      rintro V ⟨M0, g0⟩
      have fz := NdAt.free M0.out
      obtain ⟨q0, q1⟩ := M0.out.bests hk
      have hp := M0.out.lt
      have SM := hide (M0.out.setBests hk 0 200)
      have SG := hide ((g0.out.setCell (p := ⟨p, 97 + k * 2, none⟩) hpw (iv 0)).setCell (p := ⟨p, 97 + k * 2 + 1, none⟩) hpw (iv 200))
      go_upto_region 7 with (fail)
      refine wp_gen (fun V => Hid (MAt V p (fgM (nvM2 me k) k 0)) ∧ Hid (Gr w V)) ⟨by rw [fg_zero]; exact SM, SG⟩ ?_
      clear fz q0 q1 hp SM SG M0 g0
      rintro V ⟨M0, g0⟩
      go_wp2_with fail
      go_loopw [5] (fun v5 wr => ∃ i : Nat, i ≤ 6 ∧ v5 = .int .i64 (i : Int) ∧ Hid (MAt wr p (fgM (nvM2 me k) k i)) ∧ Hid (Gr w wr)) (fun v5 _ => (6 - intOf v5).toNat)
      case atStart => exact ⟨0, by omega, rfl, M0, g0⟩
      case round =>
        clear M0 g0
        obtain ⟨i, hi6, rfl, M0, g0⟩ := hrel
        by_cases hi : i < 6
        · have hii : decide ((i : Int) < 6) = true := decide_eq_true (by omega)
          have hi0 : (i : Int) < 6 := by omega
          have wi : IntKind.i64.wrap ((i : Int) + 1) = (i : Int) + 1 := by rw [IntKind.wrap_i64]; omega
          have fz := NdAt.free M0.out
          obtain ⟨q0, q1⟩ := M0.out.heard hk hi
          have hp := M0.out.lt
          have SM := hide (M0.out.setHeard hk hi 0 200)
          rw [fg_succ] at SM
          have SG := hide ((g0.out.setCell (p := ⟨p, 7 + k * 12 + i * 2, none⟩) hpw (iv 0)).setCell (p := ⟨p, 7 + k * 12 + i * 2 + 1, none⟩) hpw (iv 200))
          go_wp2_with fail
          go_roundw
          case rel => exact ⟨i + 1, by omega, by congr 1, SM, SG⟩
          case measure => simp [intOf]; omega
        · have hii : decide ((i : Int) < 6) = false := decide_eq_false (by omega)
          have ei : i = 6 := by omega
          subst ei
          have SM := hide (fg_end M0.out)
          rw [nv_succ] at SM
          go_wp2_with fail
          go_roundw
          case rel => exact ⟨k + 1, by omega, by congr 1, SM, g0⟩
          case measure => simp [intOf]; omega
    · have hki : decide ((k : Int) < 6) = false := decide_eq_false (by omega)
      have ek : k = 6 := by omega
      subst ek
      have fz := NdAt.free M0.out
      obtain ⟨q0, q1, q2⟩ := M0.out.ways hme
      have hp := M0.out.lt
      have SM := hide (M0.out.setWays hme 0 0 (me : Int))
      have SG := hide (((g0.out.setCell (p := ⟨p, 79 + me * 3, none⟩) hpw (iv 0)).setCell (p := ⟨p, 79 + me * 3 + 1, none⟩) hpw (iv 0)).setCell (p := ⟨p, 79 + me * 3 + 2, none⟩) hpw (iv (me : Int)))
      go_upto_region 12 with (fail)
      refine wp_gen (fun V => Hid (MAt V p (nvE me)) ∧ Hid (Gr w V)) ⟨SM, SG⟩ ?_
      clear fz q0 q1 q2 hp SM SG M0 g0
      rintro V ⟨M0, g0⟩
      have fz := NdAt.free M0.out
      obtain ⟨q0, q1⟩ := M0.out.bests hme
      have hp := M0.out.lt
      have SM := hide (nv_end (M0.out.setBests hme 0 0))
      have SG := hide ((g0.out.setCell (p := ⟨p, 97 + me * 2, none⟩) hpw (iv 0)).setCell (p := ⟨p, 97 + me * 2 + 1, none⟩) hpw (iv 0))
      go_wp2_with fail
      have hpe := HP.out
      clear HP
      subst hpe
      go_ret
      exact ⟨rfl, SM.out, SG.out⟩

end Go.Proofs.YtfcknkanbcndjagGreatDoor

/- THE REFERENCE'S NODE: Link, Hear and Tick of whatever is handed in; steps of both. -/
namespace Go.Proofs.YtfcknkanbcndjagGreatDoor
open Go.RowKit

theorem mlinkN {w : World} {p : Nat} {m : Md} (H : MAt w p m) (hz : MdZ m) (f c : Int) :
    Calls Tryz.prog 50 #[pv p, iv f, iv c] w fun e w' => e = .returned (iv (lcode m f c)) ∧ MAt w' p (lnkM m f c) ∧ Wr p w w' := by
  unfold lcode lnkM
  by_cases q : lkOk m f c
  · rw [if_pos q, if_pos q]
    obtain ⟨k, rfl⟩ : ∃ k : Nat, f = (k : Int) := ⟨f.toNat, by omega⟩
    rw [Int.toNat_natCast]
    exact mlink_ok H hz.ok (f := k) (c := c) (by omega) (show k ≠ m.me by omega) q.2.1 q.2.2
  · rw [if_neg q, if_neg q]
    refine (mlink_bad H (f := f) (c := c) ?_).mono fun e w' ⟨h1, h2⟩ => ⟨h1, by rw [h2]; exact H, by rw [h2]; exact Wr.refl _ _⟩
    omega
theorem mhearN {w : World} {p : Nat} {m : Md} (H : MAt w p m) (hz : MdZ m) (f o z s d : Int) :
    Calls Tryz.prog 53 #[pv p, .agg #[iv f, iv o, iv z, iv s, iv d]] w fun e w' => e = .returned (iv (hcode m f z s d)) ∧ MAt w' p (hrM m f z s d) ∧ Wr p w w' := by
  unfold hcode hrM
  by_cases q : hrOk m f z s d
  · rw [if_pos q]
    obtain ⟨k, rfl⟩ : ∃ k : Nat, f = (k : Int) := ⟨f.toNat, by omega⟩
    obtain ⟨i, rfl⟩ : ∃ i : Nat, z = (i : Int) := ⟨z.toNat, by omega⟩
    rw [Int.toNat_natCast, Int.toNat_natCast]
    by_cases hc : m.cost k = 0
    · rw [if_pos hc, if_neg (fun x => x.2 hc)]
      exact (mhear_none H (f := k) (z := i) (o := o) (s := s) (d := d) (by omega) (by omega) (show k ≠ m.me by omega) hc q.2.2.1 q.2.2.2.1 q.2.2.2.2).mono fun e w' ⟨h1, h2⟩ => ⟨h1, H.gr h2, h2.wr p⟩
    · rw [if_neg hc, if_pos ⟨q, hc⟩]
      exact mhear_ok H hz.ok (f := k) (z := i) (o := o) (s := s) (d := d) (by omega) (by omega) (show k ≠ m.me by omega) hc q.2.2.1 q.2.2.2.1 q.2.2.2.2
  · rw [if_neg q, if_neg (fun x => q x.1)]
    refine (mhear_bad H (f := f) (o := o) (z := z) (s := s) (d := d) ?_).mono fun e w' ⟨h1, h2⟩ => ⟨h1, H.gr h2, h2.wr p⟩
    omega
theorem mtickN {w : World} {p : Nat} {m : Md} (H : MAt w p m) (hz : MdZ m) (ha : age m < 4611686018427387904) :
    Calls Tryz.prog 51 #[pv p] w fun e w' => e = .returned (.tuple #[]) ∧ MAt w' p (tickM m) ∧ Wr p w w' := by
  obtain ⟨s, h0, hw, _⟩ := hz.ok.self
  exact mtick_any H hz.ok.me (by rw [hw]; exact h0) ha

end Go.Proofs.YtfcknkanbcndjagGreatDoor

/- CONTRACTS OF handpostref: Mind.Tell, Mind.Way, SameNews. -/
namespace Go.Proofs.YtfcknkanbcndjagGreatDoor
open Go.RowKit
attribute [local go_sem] Ext.all Ext.cell Ext.frozen Ext.lt Ext.lt1 Ext.lt2 Ext.ne Ext.ne'
set_option maxRecDepth 20000 in
set_option maxHeartbeats 8000000 in
theorem mtell_any {w : World} {p : Nat} {m : Md} (H : MAt w p m) (who : Int) :
    Calls Tryz.prog 103 #[pv p, iv who] w fun e w' => ∃ v, e = .returned v ∧ OwnN w w' v (tellL m who 6) ∧ Gr w w' := by
  have HM := hide (fun (X : World) (g : Gr w X) => H.gr g)
  have HT : Hid (∀ k, tellL m who (k + 1) = tellL m who k ++ [((m.me : Int), who, (k : Int), (m.ways k).1, (m.ways k).2.1)]) := fun _ => rfl
  clear H
  go_enter Tryz.func103, Tryz.ntmps103
  go_wp2_with fail
  go_loopw [5, 6] (fun v5 v6 wr => ∃ (k : Nat) (u : Value), u = v5 ∧ k ≤ 6 ∧ v6 = .int .i64 (k : Int) ∧ Hid (OwnN w wr u (tellL m who k)) ∧ Hid (Gr w wr)) (fun _ v6 _ => (6 - intOf v6).toNat)
  case atStart => exact ⟨0, _, rfl, by omega, rfl, OwnN.nil _ _, Gr.refl _⟩
  case round =>
    obtain ⟨k, u, rfl, hk6, rfl, O1, gw⟩ := hrel
    by_cases hk : k < 6
    · have hki : decide ((k : Int) < 6) = true := decide_eq_true (by omega)
      have hk0 : (k : Int) < 6 := by omega
      have wk : IntKind.i64.wrap ((k : Int) + 1) = (k : Int) + 1 := by rw [IntKind.wrap_i64]; omega
      have HTK := hide (HT.out k)
      have hlen := tell_len m who k
      have HC : Hid (∀ X : World, Gr w X → X.cell? ⟨p, 0, none⟩ = some (iv (m.me : Int)) ∧ X.cell? ⟨p, 79 + k * 3, none⟩ = some (iv (m.ways k).1) ∧ X.cell? ⟨p, 79 + k * 3 + 1, none⟩ = some (iv (m.ways k).2.1)) := fun X g => ⟨(HM.out X g).me, ((HM.out X g).ways hk).1, ((HM.out X g).ways hk).2.1⟩
      have hpl := (HM.out _ gw.out).lt
      generalize m.ways k = v at *
      obtain ⟨s, d, h⟩ := v
      simp only at HTK HC
      go_upto_region 5 with (fail)
      obtain ⟨v', w', hrun, hown, hgr⟩ := OwnN.app 46 (O1.out.gr (Gr.refl wr).drew) gw.out.drew ((m.me : Int), who, (k : Int), s, d) (by omega)
      have HR : Hid ((Builtin.append_ #[46, 46] 46 #[u, .slice (some ⟨wr.heap.size, 0, none⟩) 1 1]).run Tryz.prog (wr.alloc (.cells #[iv (m.me : Int), iv who, iv (k : Int), iv s, iv d] 114)).drew = .ok v' w') := hrun
      have HW := hide hown
      have HG := hide hgr
      have HK1 := hide (HC.out _ gw.out.drew)
      have HK2 := hide (HC.out _ (gw.out.alloc (.cells #[iv (m.me : Int), iv who, iv (k : Int), iv s, iv d] 114)).drew)
      have HK3 := hide (HC.out _ HG.out)
      clear hrun hown hgr HC
      go_region_held3 (fun W => W.cell? ⟨p, 0, none⟩ = some (iv (m.me : Int)) ∧ W.cell? ⟨p, 79 + k * 3, none⟩ = some (iv s) ∧ W.cell? ⟨p, 79 + k * 3 + 1, none⟩ = some (iv d)) (first | exact HK1.out | exact HK2.out | exact HK3.out | go_keep)
        (first
        | (refine step_append_eq rfl (.tmp 11) (.tmp 33) 46 46 rfl u (.slice (some ⟨wr.heap.size, 0, none⟩) 1 1) rfl rfl (v' := v') (w' := w') HR.out ?_)
        | fail)
      all_goals
        go_wp2_with fail
        go_roundw
        case rel => exact ⟨k + 1, _, rfl, by omega, by congr 1, by rw [HTK.out]; exact HW, HG⟩
        case measure => simp [intOf]; omega
    · have hki : decide ((k : Int) < 6) = false := decide_eq_false (by omega)
      have ek : k = 6 := by omega
      subst ek
      go_wp2_with fail
      go_ret
      exact ⟨_, rfl, O1.out, gw.out⟩

set_option maxRecDepth 20000 in
set_option maxHeartbeats 8000000 in
theorem mway_any {w : World} {p : Nat} {m : Md} (H : MAt w p m) (k : Int) :
    Calls Tryz.prog 137 #[pv p, iv k] w fun e w' => e = .returned (wayV (wayOf m k)) ∧ ∃ d : Ext w, w' = d.out := by
  have hp := H.lt
  by_cases e : 0 ≤ k ∧ k < 6
  · have B1 : Hid (decide (0 ≤ k ∧ k < 6) = true) := decide_eq_true e
    obtain ⟨z, rfl⟩ : ∃ z : Nat, k = (z : Int) := ⟨k.toNat, by omega⟩
    have hz : z < 6 := by omega
    have hzi : (z : Int) < 6 := by omega
    obtain ⟨q0, q1, q2⟩ := H.ways hz
    have HV := hide (wayOf_nat m hz)
    generalize m.ways z = v at *
    obtain ⟨s, d, h⟩ := v
    simp only at q0 q1 q2
    clear H e
    go_enter Tryz.func137, Tryz.ntmps137
    go_wp2_with (go_at_call 9; with_reducible refine (isNode_is B1.out _).mono ?_; rintro e w1 ⟨rfl, hw1⟩; subst hw1)
    refine bodyPost_ret (v := .agg #[iv s, iv d, iv h]) (by simp [results, Tryz.results137, go_sem]) rfl ⟨by rw [HV.out]; rfl, ext_mk ?_⟩
    first
      | exact (Gr.refl _).alloc _
      | exact (((((Gr.refl _).alloc _).setCell (by simp) _).setCell (by simp) _).setCell (by simp) _)
  · have B1 : Hid (decide (0 ≤ k ∧ k < 6) = false) := decide_eq_false e
    have HV : Hid (wayOf m k = (0, 200, -1)) := by unfold Hid wayOf; rw [if_neg e]
    clear H e
    go_enter Tryz.func137, Tryz.ntmps137
    go_wp2_with (go_at_call 9; with_reducible refine (isNode_is B1.out _).mono ?_; rintro e w1 ⟨rfl, hw1⟩; subst hw1)
    refine bodyPost_ret (v := .agg #[iv 0, iv 200, iv (-1)]) (by simp [results, Tryz.results137, go_sem]) rfl ⟨by rw [HV.out]; rfl, ext_mk ?_⟩
    first
      | exact (Gr.refl _).alloc _
      | exact (((((Gr.refl _).alloc _).setCell (by simp) _).setCell (by simp) _).setCell (by simp) _)

end Go.Proofs.YtfcknkanbcndjagGreatDoor

/- THE REFERENCE'S Town IN MEMORY. -/
namespace Go.Proofs.YtfcknkanbcndjagGreatDoor
open Go.RowKit
attribute [local go_sem] Ext.all Ext.cell Ext.frozen Ext.lt Ext.lt1 Ext.lt2 Ext.ne Ext.ne'
/-- The cells of a Town: what links cost, its nodes, the news, whose is what. -/
def twF (cst : Nat → Nat → Int) (q : Nat → Nat) (v o : Value) : Nat → Value := fun i => if i < 36 then iv (cst (i / 6) (i % 6)) else if i < 42 then pv (q (i - 36)) else if i = 42 then v else o
/-- A Town at p, its nodes at q 0 .. q 5, its news in v; o: the cell behind; t: as numbers. Of the world B the blocks M are as they were, and none of M's is the Town's. -/
structure Tw (M : Nat → Prop) (B w : World) (p : Nat) (q : Nat → Nat) (v o : Value) (t : Tn) : Prop where
  kp : Kp M B w
  bd : ∀ b, M b → b < B.heap.size
  blk : VArr w 110 44 p (twF t.cst q v o)
  six : Six 177 w q t.nd
  nw : NwO 0 w v (newsL t.news)
  nop : ¬ M p
  noq : ∀ a, a < 6 → ¬ M (q a)
  nov : ∀ b, v.ownBlock = some b → ¬ M b
theorem Tw.pq {M : Nat → Prop} {B w : World} {p : Nat} {q : Nat → Nat} {v o : Value} {t : Tn} (h : Tw M B w p q v o t) (a : Nat) (ha : a < 6) : q a ≠ p := blk_ne (h.six.at_ a ha) h.blk (by decide)
theorem Tw.vp {M : Nat → Prop} {B w : World} {p : Nat} {q : Nat → Nat} {v o : Value} {t : Tn} (h : Tw M B w p q v o t) (b : Nat) (e : v.ownBlock = some b) : b ≠ p ∧ ∀ a, a < 6 → b ≠ q a :=
  ⟨h.nw.apart e h.blk (by decide), fun a ha => h.nw.apart e (h.six.at_ a ha) (by decide)⟩
theorem Tw.ext {M : Nat → Prop} {B w w' : World} {p : Nat} {q : Nat → Nat} {v o : Value} {t : Tn} (h : Tw M B w p q v o t) (g : Gr w w') : Tw M B w' p q v o t :=
  ⟨h.kp.ext g, h.bd, h.blk.gr g, h.six.gr g, h.nw.gr g, h.nop, h.noq, h.nov⟩
theorem Tw.cst {M : Nat → Prop} {B w : World} {p : Nat} {q : Nat → Nat} {v o : Value} {t : Tn} (h : Tw M B w p q v o t) {a b : Nat} (ha : a < 6) (hb : b < 6) : w.cell? ⟨p, a * 6 + b, none⟩ = some (iv (t.cst a b)) := by
  have := h.blk.cell (j := a * 6 + b) (by omega)
  unfold twF at this
  rw [if_pos (by omega), show (a * 6 + b) / 6 = a by omega, show (a * 6 + b) % 6 = b by omega] at this
  exact this
theorem Tw.node {M : Nat → Prop} {B w : World} {p : Nat} {q : Nat → Nat} {v o : Value} {t : Tn} (h : Tw M B w p q v o t) {a : Nat} (ha : a < 6) : w.cell? ⟨p, 36 + a, none⟩ = some (pv (q a)) := by
  have := h.blk.cell (j := 36 + a) (by omega)
  unfold twF at this
  rw [if_neg (by omega), if_pos (by omega), show 36 + a - 36 = a by omega] at this
  exact this
theorem Tw.news {M : Nat → Prop} {B w : World} {p : Nat} {q : Nat → Nat} {v o : Value} {t : Tn} (h : Tw M B w p q v o t) : w.cell? ⟨p, 42, none⟩ = some v := by
  have := h.blk.cell (j := 42) (by omega)
  unfold twF at this
  rw [if_neg (by omega), if_neg (by omega), if_pos rfl] at this
  exact this
/-- One node has changed. -/
theorem Tw.put {M : Nat → Prop} {B w w' : World} {p : Nat} {q : Nat → Nat} {v o : Value} {t : Tn} (h : Tw M B w p q v o t) {a : Nat} (ha : a < 6) {m : Md} (hw : Wr (q a) w w') (hm : MAt w' (q a) m) : Tw M B w' p q v o { t with nd := updW t.nd a m } :=
  ⟨h.kp.wr hw (h.noq a ha), h.bd, hw.varr h.blk (fun e => h.pq a ha e.symm), h.six.put ha hw hm, h.nw.keep (fun b e => hw.block b (h.nw.own_lt e) ((h.vp b e).2 a ha)), h.nop, h.noq, h.nov⟩
/-- All that is not the Town's. -/
def restT (w : World) (p : Nat) (q : Nat → Nat) (v : Value) : Nat → Prop := fun b => b < w.heap.size ∧ b ≠ p ∧ (∀ a, a < 6 → b ≠ q a) ∧ v.ownBlock ≠ some b
section
variable {M : Nat → Prop} {B w w' : World} {p : Nat} {q : Nat → Nat} {v v' o : Value} {t t' : Tn}
theorem Tw.rest (h : Tw M B w p q v o t) : Tw (restT w p q v) w w p q v o t :=
  ⟨Kp.refl _ _, fun _ hb => hb.1, h.blk, h.six, h.nw, fun x => x.2.1 rfl, fun a ha x => x.2.2.1 a ha rfl, fun _ e x => x.2.2.2 e⟩
theorem Tw.sub (h : Tw M B w p q v o t) {b : Nat} (hm : M b) : restT w p q v b :=
  ⟨Nat.lt_of_lt_of_le (h.bd b hm) h.kp.size, fun e => h.nop (e ▸ hm), fun a ha e => h.noq a ha (e ▸ hm), fun e => h.nov b e hm⟩
theorem Tw.unrest (h : Tw M B w p q v o t) (h' : Tw (restT w p q v) w w' p q v' o t') : Tw M B w' p q v' o t' :=
  ⟨h.kp.trans (h'.kp.mono fun _ _ hm => h.sub hm), h.bd, h'.blk, h'.six, h'.nw, h.nop, h.noq, fun b e hm => h'.nov b e (h.sub hm)⟩
theorem Tw.notOwn (h : Tw M B w p q v o t) (_g : Gr w w') {b : Nat} (hb : w.heap.size ≤ b) (hb' : b < w'.heap.size) : restT w' p q v b :=
  ⟨hb', fun e => by have := h.blk.lt; omega, fun a ha e => by have := (h.six.at_ a ha).lt; omega, fun e => by have := h.nw.own_lt e; omega⟩
theorem Tw.keep {N : Nat → Prop} (h : Tw M B w p q v o t) (hk : Kp N w w') (hMN : ∀ b, M b → N b) (h1 : N p) (h3 : ∀ a, a < 6 → N (q a)) (h4 : ∀ b, v.ownBlock = some b → N b) : Tw M B w' p q v o t :=
  ⟨h.kp.trans (hk.mono fun b _ hm => hMN b hm), h.bd, (hk.block p h.blk.lt h1).trans h.blk, h.six.keep (fun a ha => hk.block (q a) (h.six.at_ a ha).lt (h3 a ha)), h.nw.keep (fun b e => hk.block b (h.nw.own_lt e) (h4 b e)), h.nop, h.noq, h.nov⟩
end
/-- What is not the Town's is as it was, and still not the Town's. -/
structure FrW (w : World) (p : Nat) (q : Nat → Nat) (v : Value) (w' : World) (v' : Value) : Prop where
  kp : Kp (restT w p q v) w w'
  rst : ∀ {b}, restT w p q v b → restT w' p q v' b
theorem Tw.fr {w w' : World} {p : Nat} {q : Nat → Nat} {v v' o : Value} {t' : Tn} (h' : Tw (restT w p q v) w w' p q v' o t') : FrW w p q v w' v' :=
  ⟨h'.kp, fun {b} hb => ⟨Nat.lt_of_lt_of_le hb.1 h'.kp.size, hb.2.1, hb.2.2.1, fun e => h'.nov b e hb⟩⟩
theorem FrW.varr {w w' : World} {p : Nat} {q : Nat → Nat} {v v' : Value} (h : FrW w p q v w' v') {t n X : Nat} {g : Nat → Value} (k : VArr w t n X g) (hX : restT w p q v X) : VArr w' t n X g := (h.kp.block X hX.1 hX).trans k

end Go.Proofs.YtfcknkanbcndjagGreatDoor

/- THE REFERENCE'S Town: NewTown. -/
namespace Go.Proofs.YtfcknkanbcndjagGreatDoor
open Go.RowKit
attribute [local go_sem] Ext.all Ext.cell Ext.frozen Ext.lt Ext.lt1 Ext.lt2 Ext.ne Ext.ne'
/-- The cells of a Town that is being made: the first k nodes are there. -/
def nwF2 (q : Nat → Nat) (k : Nat) : Nat → Value := fun i => if i < 36 then iv 0 else if i < 42 then (if i - 36 < k then pv (q (i - 36)) else .pointer none) else .slice none 0 0
theorem zero_town (w : World) : (zeroValue 110).run Tryz.prog w = .ok (.agg (vcells 44 (nwF2 (fun _ => 0) 0))) w := by kernel_rfl

set_option maxRecDepth 20000 in
set_option maxHeartbeats 8000000 in
theorem newTown_ok (w : World) (M : Nat → Prop) (hM : ∀ b, M b → b < w.heap.size) : Calls Tryz.prog 27 #[] w fun e w' => ∃ q, e = .returned (pv w.heap.size) ∧ Tw M w w' w.heap.size q (.slice none 0 0) (.slice none 0 0) newT ∧ Gr w w' ∧ ∀ a, a < 6 → w.heap.size ≤ q a := by
  have HM := hide hM
  clear hM
  have M0 : Hid (VArr (w.alloc (.cells (vcells 44 (nwF2 (fun _ => 0) 0)) 110)) 110 44 w.heap.size (nwF2 (fun _ => 0) 0)) := VArr.new w 110 44 _
  have hz := zero_town
  generalize vcells 44 (nwF2 (fun _ => 0) 0) = Z at hz M0
  go_enter Tryz.func27, Tryz.ntmps27
  go_upto_region 2 with (fail)
  refine wp_gen (fun V => Hid (VArr V 110 44 w.heap.size (nwF2 (fun _ => 0) 0)) ∧ Hid (Gr w V)) ⟨M0.out, (Gr.refl _).alloc _⟩ ?_
  clear M0 hz
  generalize hp : w.heap.size = p at *
  have hpw : w.heap.size ≤ p := by omega
  have HP := hide hp
  clear hp
  rintro V ⟨M0, g0⟩
  go_wp2_with fail
  go_loopw [2] (fun v2 wr => ∃ (k : Nat) (q : Nat → Nat), k ≤ 6 ∧ v2 = .int .i64 (k : Int) ∧ Hid (VArr wr 110 44 p (nwF2 q k)) ∧ Hid (∀ a, a < k → MAt wr (q a) (newM a) ∧ w.heap.size ≤ q a ∧ q a ≠ p ∧ ∀ b, b < k → a ≠ b → q a ≠ q b) ∧ Hid (Gr w wr)) (fun v2 _ => (6 - intOf v2).toNat)
  case atStart => exact ⟨0, fun _ => 0, by omega, rfl, M0, fun a ha => by omega, g0⟩
  case round =>
    clear M0 g0
    obtain ⟨k, q, hk6, rfl, M0, Q0, g0⟩ := hrel
    by_cases hk : k < 6
    · have hki : decide ((k : Int) < 6) = true := decide_eq_true (by omega)
      have hk0 : (k : Int) < 6 := by omega
      have wk : IntKind.i64.wrap ((k : Int) + 1) = (k : Int) + 1 := by rw [IntKind.wrap_i64]; omega
      have HN := hide (newMind_ok hk wr.drew)
      have fz := VArr.free M0.out
      have q0 := VArr.cell M0.out (j := 36 + k) (by omega)
      have hp := VArr.lt M0.out
      go_upto_region 5 with (fail)
      go_region_with (go_at_call 48; with_reducible refine HN.out.mono ?_; rintro e V1 ⟨rfl, N1', g1'⟩; have N1 := hide N1'; have G1 := hide ((Gr.refl wr).drewTo g1'); clear N1' g1'; have hp2 := VArr.lt (M0.out.gr G1.out); have fz2 := VArr.free (M0.out.gr G1.out); have r0 := VArr.cell (M0.out.gr G1.out) (j := 36 + k) (by omega))
      all_goals
        have SM : Hid (VArr (V1.setCell ⟨p, 36 + k, none⟩ (pv wr.heap.size)) 110 44 p (nwF2 (updW q k wr.heap.size) (k + 1))) := (M0.out.gr G1.out).set (fun i hi => by
          unfold nwF2
          by_cases e1 : i < 36
          · rw [if_pos e1, if_pos e1, if_neg (by omega)]
          · rw [if_neg e1, if_neg e1]
            by_cases e2 : i < 42
            · rw [if_pos e2, if_pos e2]
              by_cases e3 : i = 36 + k
              · rw [if_pos e3, if_pos (by omega), show i - 36 = k by omega, updW_same]
              · rw [if_neg e3]
                by_cases e4 : i - 36 < k
                · rw [if_pos e4, if_pos (by omega), updW_ne _ _ (by omega)]
                · rw [if_neg e4, if_neg (by omega)]
            · rw [if_neg e2, if_neg e2, if_neg (by omega)])
        have hkp : wr.heap.size ≠ p := by omega
        have SQ : Hid (∀ a, a < k + 1 → MAt (V1.setCell ⟨p, 36 + k, none⟩ (pv wr.heap.size)) (updW q k wr.heap.size a) (newM a) ∧ w.heap.size ≤ updW q k wr.heap.size a ∧ updW q k wr.heap.size a ≠ p ∧ ∀ b, b < k + 1 → a ≠ b → updW q k wr.heap.size a ≠ updW q k wr.heap.size b) := fun a ha => by
          have lt : ∀ b, b < k → q b < wr.heap.size := fun b hb => (Q0.out b hb).1.lt
          have hs := Below.size g0.out
          by_cases e : a = k
          · subst e
            rw [updW_same]
            refine ⟨ZArr.other (N1.out) hkp _ _, by omega, hkp, fun b hb hne => ?_⟩
            rw [updW_ne _ _ (fun x => hne x.symm)]
            have := lt b (by omega)
            omega
          · rw [updW_ne _ _ e]
            obtain ⟨h1, h2, h3, h4⟩ := Q0.out a (by omega)
            refine ⟨ZArr.other (h1.gr G1.out) h3 _ _, h2, h3, fun b hb hne => ?_⟩
            by_cases e2 : b = k
            · subst e2
              rw [updW_same]
              have := lt a (by omega)
              omega
            · rw [updW_ne _ _ e2]; exact h4 b (by omega) hne
        have SG := hide ((g0.out.trans G1.out).setCell (p := ⟨p, 36 + k, none⟩) hpw (pv wr.heap.size))
        go_wp2_with fail
        go_roundw
        case rel => exact ⟨k + 1, _, by omega, by congr 1, SM, SQ, SG⟩
        case measure => simp [intOf]; omega
    · have hki : decide ((k : Int) < 6) = false := decide_eq_false (by omega)
      have ek : k = 6 := by omega
      subst ek
      have SB : Hid (VArr wr 110 44 p (twF (fun _ _ => 0) q (.slice none 0 0) (.slice none 0 0))) := M0.out.congr (fun j hj => by
        unfold nwF2 twF
        by_cases e1 : j < 36
        · rw [if_pos e1, if_pos e1]
        · rw [if_neg e1, if_neg e1]
          by_cases e2 : j < 42
          · rw [if_pos e2, if_pos e2, if_pos (by omega)]
          · rw [if_neg e2, if_neg e2]; split <;> rfl)
      go_wp2_with fail
      have hpe := HP.out
      clear HP
      subst hpe
      go_ret
      have no : ∀ b, w.heap.size ≤ b → ¬ M b := fun b hb hm => by have := HM.out b hm; omega
      exact ⟨q, rfl, ⟨g0.out.kp M, HM.out, SB.out, ⟨fun a ha => (Q0.out a ha).1, fun a b ha hb hne => (Q0.out a ha).2.2.2 b hb hne⟩, NwO.nil _ _, no _ (Nat.le_refl _), fun a ha => no _ (Q0.out a ha).2.1, fun b e => by cases e⟩, g0.out, fun a ha => (Q0.out a ha).2.1⟩

end Go.Proofs.YtfcknkanbcndjagGreatDoor
