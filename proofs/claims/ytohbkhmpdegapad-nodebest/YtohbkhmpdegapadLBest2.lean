/- handpostlaw.NodeBest ANSWERS true: the walk. -/
import Derived.Test.YtohbkhmpdegapadLBest
namespace Go.Proofs.Ytohbkhmpdegapad
open Go.RowKit
attribute [local go_sem] Ext.all Ext.cell Ext.frozen Ext.lt Ext.lt1 Ext.lt2 Ext.ne Ext.ne' field_hop

set_option maxRecDepth 20000 in
set_option maxHeartbeats 8000000 in
theorem nbestL_any (w : World) (me : Int) (ao : Option Addr) (n cp : Nat) (l : List Stp) (H : StpAt w ao l) (hn : l.length = n) :
    Calls Try.prog 6 #[iv me, .slice ao n cp] w fun e w' => e = .returned (.bool true) ∧ Gr w w' := by
  have HS := hide (fun (X : World) (g : Gr w X) => H.gr g)
  clear H
  go_enter Try.func6, Try.ntmps6
  go_upto_region 3 with (go_at_call 16; with_reducible refine (nbegun_any _).mono ?_; rintro e _ ⟨rfl, d1, rfl⟩)
  by_cases hme : 0 ≤ me ∧ me < 6
  · obtain ⟨a, rfl⟩ : ∃ a : Nat, me = (a : Int) := ⟨me.toNat, by omega⟩
    have ha : a < 6 := by omega
    clear hme
    go_upto_region 4 with (go_at_call 17; with_reducible refine (nnew_ok ha _).mono ?_; rintro e V2 ⟨rfl, M2', g2'⟩; have M2 := hide M2'; have G2 := hide g2'; clear M2' g2')
    have gw2 : Hid (Gr w V2) := d1.gr.trans G2.out
    have hpw : w.heap.size ≤ d1.out.heap.size := Below.size d1.gr
    clear G2
    generalize d1.out.heap.size = p at *
    clear d1
    by_cases h200 : 200 < n
    · have gd : decide ((200 : Int) < (n : Int)) = true := decide_eq_true (by omega)
      go_wp2_with fail
      go_ret
      exact ⟨rfl, gw2.out⟩
    have gd : decide ((200 : Int) < (n : Int)) = false := decide_eq_false (by omega)
    have hz66 := zero_saids
    generalize hZ66 : zcells 72 (sdG (fun _ _ => (0, 0))) = Z66 at hz66
    have HZ66 := hide hZ66
    clear hZ66
    go_upto_region 8 with (fail)
    clear hz66
    have hp2 : p < V2.heap.size := M2.out.lt
    refine wp_gen (fun V => Hid (ZArr V 29 6 V2.heap.size (newM a).cost) ∧ Hid (ZArr V 58 72 (V2.heap.size + 1) (sdG (fun _ _ => (0, 0)))) ∧ Hid (DAt V p (sel (newM a))) ∧ Hid (Gr w V)) ⟨(ZArr.new V2 29 6 (newM a).cost).gr ((Gr.refl _).alloc _), ?_, M2.out.gr (((Gr.refl _).alloc _).alloc _), (gw2.out.alloc _).alloc _⟩ ?_
    · have := ZArr.new (V2.alloc (.cells (zcells 6 (newM a).cost) 29)) 58 72 (sdG (fun _ _ => (0, 0)))
      rw [show (V2.alloc (.cells (zcells 6 (newM a).cost) 29)).heap.size = V2.heap.size + 1 by simp, HZ66.out] at this
      exact this
    clear M2 gw2
    generalize V2.heap.size = y at *
    rintro V3 ⟨A3, B3, M3, gw3⟩
    have HZ := hide (fun i => run_z (new_z ha) l i)
    have HA := hide (fun i => run_age (newM a) l i)
    have HSU := hide (fun i (h : i < l.length) => run_succ (newM a) l h)
    have HME := hide (fun i => run_me (newM a) l i)
    go_wp2_with fail
    go_loopw [8] (fun v8 wr => ∃ (i : Nat) (S : Nat → Nat → Int × Int), i ≤ n ∧ v8 = .int .i64 (i : Int) ∧ Hid (SdRel (runM (newM a) l i) S) ∧ Hid (DAt wr p (sel (runM (newM a) l i))) ∧ Hid (ZArr wr 29 6 y (runM (newM a) l i).cost) ∧ Hid (ZArr wr 58 72 (y + 1) (sdG S)) ∧ Hid (Gr w wr)) (fun v8 _ => (n - intOf v8).toNat)
    case atStart => exact ⟨0, fun _ _ => (0, 0), by omega, rfl, fun _ _ => .inr rfl, M3, A3, B3, gw3⟩
    case round =>
      clear M3 A3 B3 gw3
      obtain ⟨i, S, hin, rfl, R, M, A, B, gw⟩ := hrel
      by_cases hi : i < n
      · have hii : decide ((i : Int) < (n : Int)) = true := decide_eq_true (by omega)
        have hi0 : (i : Int) < (n : Int) := by omega
        have wi : IntKind.i64.wrap ((i : Int) + 1) = (i : Int) + 1 := by rw [IntKind.wrap_i64]; omega
        have hil : i < l.length := by omega
        rcases HS.out _ gw.out with h0 | ⟨b, oo, rfl, hb, hc⟩
        · exfalso; rw [h0] at hil; simp at hil
        obtain ⟨c0, c1, c2, c3, c4, c5, c6⟩ := hc i hil
        have HST := hide (HSU.out i hil)
        have HZ1 := hide (HZ.out i)
        have HAG : Hid (age (runM (newM a) l i) < 4611686018427387904) := by unfold Hid; have := HA.out i; rw [age_new] at this; omega
        have hm1 : (runM (newM a) l i).me = a := HME.out i
        clear hc
        generalize l[i] = x at *
        generalize hM2 : runM (newM a) l (i + 1) = m2 at HST
        have HM2 := hide hM2
        clear hM2
        generalize runM (newM a) l i = m at *
        have HZ2 := hide (step_z HZ1.out x)
        have HWO := hide (fun k => step_worse HZ1.out x k)
        have hm2 := step_me m x
        rw [← HST.out] at HZ2 HWO hm2
        rw [hm1] at hm2
        have HXX : Hid (m2 = if x.k = 0 then lnkM m x.f x.c else if x.k = 1 then hrM m x.f x.z x.s x.d else if x.k = 2 then tickM m else m) := HST.out
        clear HST
        obtain ⟨xk, xc, xf, xo, xz, xs, xd⟩ := x
        simp only at c0 c1 c2 c3 c4 c5 c6 HXX
        go_upto_region 13 with (fail)
        have hyl : y + 1 < wr.heap.size := B.out.lt
        refine wp_gen (fun V => Hid (ZArr V 46 7 wr.heap.size (stpF ⟨xk, xc, xf, xo, xz, xs, xd⟩)) ∧ Hid (ZArr V 57 12 (wr.heap.size + 1) (btF m 0)) ∧ Hid (DAt V p (sel m)) ∧ Hid (ZArr V 29 6 y m.cost) ∧ Hid (ZArr V 58 72 (y + 1) (sdG S)) ∧ Hid (Gr w V)) ⟨(ZArr.new wr 46 7 (stpF ⟨xk, xc, xf, xo, xz, xs, xd⟩)).gr ((Gr.refl _).alloc _), ?_, M.out.gr (((Gr.refl _).alloc _).alloc _), A.out.gr (((Gr.refl _).alloc _).alloc _), B.out.gr (((Gr.refl _).alloc _).alloc _), (gw.out.alloc _).alloc _⟩ ?_
        · have := ZArr.new (wr.alloc (.cells (zcells 7 (stpF ⟨xk, xc, xf, xo, xz, xs, xd⟩)) 46)) 57 12 (btF m 0)
          rw [show (wr.alloc (.cells (zcells 7 (stpF ⟨xk, xc, xf, xo, xz, xs, xd⟩)) 46)).heap.size = wr.heap.size + 1 by simp] at this
          exact this
        clear M A B gw c0 c1 c2 c3 c4 c5 c6 hb
        generalize wr.heap.size = z at *
        rintro V4 ⟨X, T, M, A, B, gw⟩
        go_wp2_with fail
        go_loopw [11] (fun v11 wr => ∃ k : Nat, k ≤ 6 ∧ v11 = .int .i64 (k : Int) ∧ Hid (ZArr wr 46 7 z (stpF ⟨xk, xc, xf, xo, xz, xs, xd⟩)) ∧ Hid (ZArr wr 57 12 (z + 1) (btF m k)) ∧ Hid (DAt wr p (sel m)) ∧ Hid (ZArr wr 29 6 y m.cost) ∧ Hid (ZArr wr 58 72 (y + 1) (sdG S)) ∧ Hid (Gr w wr)) (fun v11 _ => (6 - intOf v11).toNat)
        case atStart => exact ⟨0, by omega, rfl, X, T, M, A, B, gw⟩
        case round =>
          clear X T M A B gw
          obtain ⟨k, hk6, rfl, X, T, M, A, B, gw⟩ := hrel
          by_cases hk : k < 6
          · have hki : decide ((k : Int) < 6) = true := decide_eq_true (by omega)
            have hk0 : (k : Int) < 6 := by omega
            have wk : IntKind.i64.wrap ((k : Int) + 1) = (k : Int) + 1 := by rw [IntKind.wrap_i64]; omega
            have HBT := hide (nbestG M.out HZ1.out.ok (Gr.refl _) hk)
            go_upto_region 16 with (fail)
            have HT := hide (fun (X : World) (g : Gr _ X) => T.out.gr g)
            go_wp2_with (go_at_call 25; with_reducible refine HBT.out.mono ?_; rintro e V5 ⟨rfl, d5, hV5⟩; have g5 := hide d5.gr; rw [← hV5] at g5; clear hV5 d5; have y0 := ZArr.cell (HT.out _ g5.out) (j := k * 2) (by omega); have y1 := ZArr.cell (HT.out _ g5.out) (j := k * 2 + 1) (by omega); have yf := ZArr.free (HT.out _ g5.out); have yl := ZArr.lt (HT.out _ g5.out))
            go_roundw
            case rel => exact ⟨k + 1, by omega, by congr 1, ((X.out.gr g5.out).other (by omega) _ _).other (by omega) _ _, bt_put (HT.out _ g5.out), ((M.out.gr g5.out).other ((Wr.refl (z + 1) _).set _ _) (by omega)).other ((Wr.refl (z + 1) _).set _ _) (by omega), ((A.out.gr g5.out).other (by omega) _ _).other (by omega) _ _, ((B.out.gr g5.out).other (by omega) _ _).other (by omega) _ _, ((gw.out.trans g5.out).setCell (by simp; omega) _).setCell (by simp; omega) _⟩
            case measure => simp [intOf]; omega
          · have hki : decide ((k : Int) < 6) = false := decide_eq_false (by omega)
            have ek : k = 6 := by omega
            rw [ek] at T
            clear ek hk hk6
            have k0 := ZArr.cell X.out (j := 0) (by omega)
            have k1 := ZArr.cell X.out (j := 1) (by omega)
            have k2 := ZArr.cell X.out (j := 2) (by omega)
            have k3 := ZArr.cell X.out (j := 3) (by omega)
            have k4 := ZArr.cell X.out (j := 4) (by omega)
            have k5 := ZArr.cell X.out (j := 5) (by omega)
            have k6 := ZArr.cell X.out (j := 6) (by omega)
            simp only [stpF] at k0 k1 k2 k3 k4 k5 k6
            have xl := X.out.lt
            go_upto_region 17 with (fail)
            go_cut [55] from 54 to 55 (fun v55 wc => v55 = iv xk ∧ wc = wr)
            case first =>
              go_wp2_with fail
              go_meet
              case rel => exact ⟨rfl, rfl⟩
            case rest =>
              obtain ⟨rfl, hwc⟩ := hcut
              subst hwc
              apply_assumption
              go_cut [] from 56 to 97 (fun wc => Hid (∃ S2, SdRel m2 S2 ∧ ZArr wc 58 72 (y + 1) (sdG S2)) ∧ Hid (DAt wc p (sel m2)) ∧ Hid (ZArr wc 29 6 y m2.cost) ∧ Hid (ZArr wc 57 12 (z + 1) (btF m 6)) ∧ Hid (Gr w wc))
              case first =>
                by_cases h0 : xk = 0
                · have g0 : (xk == 0) = true := by simpa using h0
                  have HE : Hid (m2 = lnkM m xf xc) := by unfold Hid; rw [HXX.out, if_pos h0]
                  have HQ := hide (nlinkN M.out HZ1.out xf xc)
                  clear HXX h0
                  by_cases hc : lcode m xf xc = 0
                  · have g1 : (lcode m xf xc == 0) = true := by simpa using hc
                    obtain ⟨fi, rfl, hf6, hE⟩ := lkq_is hc
                    have hfi : (fi : Int) < 6 := by omega
                    rw [hE] at HQ HE
                    clear hE hc
                    generalize lcode m fi xc = cd at *
                    have HSR : Hid (SdRel m2 S) := by unfold Hid; rw [HE.out]; exact sd_link R.out fi xc
                    have HCO : Hid (m2.cost = updW m.cost fi xc) := by unfold Hid; rw [HE.out]; exact link_cost m fi xc
                    rw [← HE.out] at HQ
                    go_wp2_with (go_at_call 28; with_reducible refine HQ.out.mono ?_; rintro e V6 ⟨rfl, M6', W6'⟩; have M6 := hide M6'; have W6 := hide W6'; clear M6' W6'; have X6 := hide (W6.out.arr X.out (by omega)); have A6 := hide (W6.out.arr A.out (by omega)); have B6 := hide (W6.out.arr B.out (by omega)); have T6 := hide (W6.out.arr T.out (by omega)); have t1 := ZArr.cell X6.out (j := 1) (by omega); have t2 := ZArr.cell X6.out (j := 2) (by omega); simp only [stpF] at t1 t2; have tl := ZArr.lt X6.out; have r0 := ZArr.cell A6.out hf6; have rf := ZArr.free A6.out; have rl := ZArr.lt A6.out)
                    go_meet
                    case rel => exact ⟨⟨S, HSR.out, B6.out.other (by omega) _ _⟩, M6.out.other ((Wr.refl y _).set _ _) (by omega), by rw [HCO.out]; exact A6.out.set (fun i _ => rfl), T6.out.other (by omega) _ _, (W6.out.gr gw.out (by omega)).setCell (by simp; omega) _⟩
                  · have g1 : (lcode m xf xc == 0) = false := by simpa using hc
                    rw [lkq_same hc] at HQ HE
                    clear hc
                    generalize lcode m xf xc = cd at *
                    go_wp2_with (go_at_call 28; with_reducible refine HQ.out.mono ?_; rintro e V6 ⟨rfl, M6', W6'⟩; have M6 := hide M6'; have W6 := hide W6'; clear M6' W6')
                    go_meet
                    case rel => exact ⟨⟨S, by rw [HE.out]; exact R.out, W6.out.arr B.out (by omega)⟩, by rw [HE.out]; exact M6, by rw [HE.out]; exact W6.out.arr A.out (by omega), W6.out.arr T.out (by omega), W6.out.gr gw.out (by omega)⟩
                · have g0 : (xk == 0) = false := by simpa using h0
                  by_cases h1 : xk = 1
                  · have g1 : (xk == 1) = true := by simpa using h1
                    have HE : Hid (m2 = hrM m xf xz xs xd) := by unfold Hid; rw [HXX.out, if_neg h0, if_pos h1]
                    have HQ := hide (nhearN M.out HZ1.out xf xo xz xs xd)
                    clear HXX h0 h1
                    by_cases hc : hcode m xf xz xs xd = 0
                    · have g2 : (hcode m xf xz xs xd == 0) = true := by simpa using hc
                      obtain ⟨fi, zi, rfl, rfl, hf6, hz6, hE⟩ := hrq_is hc
                      have hfi : (fi : Int) < 6 := by omega
                      have hzi : (zi : Int) < 6 := by omega
                      rw [hE] at HQ HE
                      clear hE hc
                      generalize hcode m fi zi xs xd = cd at *
                      have HSR : Hid (SdRel m2 (updW S fi (updW (S fi) zi (xs, xd)))) := by unfold Hid; rw [HE.out]; exact sd_hear R.out fi zi xs xd
                      have HCO : Hid (m2.cost = m.cost) := by unfold Hid; rw [HE.out]; exact hear_cost m fi zi xs xd
                      rw [← HE.out] at HQ
                      go_upto_region 23 with (go_at_call 29; with_reducible refine HQ.out.mono ?_; rintro e V6 ⟨rfl, M6', W6'⟩; have M6 := hide M6'; have W6 := hide W6'; clear M6' W6')
                      have X6 := hide (W6.out.arr X.out (show z ≠ p by omega))
                      have A6 := hide (W6.out.arr A.out (show y ≠ p by omega))
                      have B6 := hide (W6.out.arr B.out (show y + 1 ≠ p by omega))
                      have T6 := hide (W6.out.arr T.out (show z + 1 ≠ p by omega))
                      have G6 := hide (W6.out.gr gw.out (by omega))
                      have t2 := ZArr.cell X6.out (j := 2) (by omega)
                      have t4 := ZArr.cell X6.out (j := 4) (by omega)
                      have t5 := ZArr.cell X6.out (j := 5) (by omega)
                      have t6 := ZArr.cell X6.out (j := 6) (by omega)
                      simp only [stpF] at t2 t4 t5 t6
                      have tl := ZArr.lt X6.out
                      have r0 := ZArr.cell B6.out (j := fi * 12 + zi * 2) (by omega)
                      have r1 := ZArr.cell B6.out (j := fi * 12 + zi * 2 + 1) (by omega)
                      have rf := ZArr.free B6.out
                      have rl := ZArr.lt B6.out
                      clear k0 k1 k2 k3 k4 k5 k6 xl HQ
                      go_still_tail 15, (by kernel_rfl)
                      go_wp2_with fail
                      go_meet
                      case rel => exact ⟨⟨_, HSR.out, (sdG_put B6.out hz6 xs xd).gr (Gr.refl _).drew⟩, ((M6.out.other ((Wr.refl (y + 1) _).set _ _) (by omega)).other ((Wr.refl (y + 1) _).set _ _) (by omega)).gr (Gr.refl _).drew, by rw [HCO.out]; exact ((A6.out.other (by omega) _ _).other (by omega) _ _).gr (Gr.refl _).drew, ((T6.out.other (by omega) _ _).other (by omega) _ _).gr (Gr.refl _).drew, ((G6.out.setCell (by simp; omega) _).setCell (by simp; omega) _).drew⟩
                    · have g2 : (hcode m xf xz xs xd == 0) = false := by simpa using hc
                      rw [hrq_same hc] at HQ HE
                      clear hc
                      generalize hcode m xf xz xs xd = cd at *
                      go_wp2_with (go_at_call 29; with_reducible refine HQ.out.mono ?_; rintro e V6 ⟨rfl, M6', W6'⟩; have M6 := hide M6'; have W6 := hide W6'; clear M6' W6')
                      go_meet
                      case rel => exact ⟨⟨S, by rw [HE.out]; exact R.out, W6.out.arr B.out (by omega)⟩, by rw [HE.out]; exact M6, by rw [HE.out]; exact W6.out.arr A.out (by omega), W6.out.arr T.out (by omega), W6.out.gr gw.out (by omega)⟩
                  · have g1 : (xk == 1) = false := by simpa using h1
                    by_cases h2 : xk = 2
                    · have g2 : (xk == 2) = true := by simpa using h2
                      have HE : Hid (m2 = tickM m) := by unfold Hid; rw [HXX.out, if_neg h0, if_neg h1, if_pos h2]
                      have HQ := hide (ntickN M.out HZ1.out HAG.out)
                      have HSR : Hid (SdRel m2 S) := by unfold Hid; rw [HE.out]; exact R.out
                      have HCO : Hid (m2.cost = m.cost) := by unfold Hid; rw [HE.out]; rfl
                      rw [← HE.out] at HQ
                      clear HXX h0 h1 h2
                      go_wp2_with (go_at_call 30; with_reducible refine HQ.out.mono ?_; rintro e V6 ⟨rfl, M6', W6'⟩; have M6 := hide M6'; have W6 := hide W6'; clear M6' W6')
                      go_meet
                      case rel => exact ⟨⟨S, HSR.out, W6.out.arr B.out (by omega)⟩, M6, by rw [HCO.out]; exact W6.out.arr A.out (by omega), W6.out.arr T.out (by omega), W6.out.gr gw.out (by omega)⟩
                    · have g2 : (xk == 2) = false := by simpa using h2
                      have HE : Hid (m2 = m) := by unfold Hid; rw [HXX.out, if_neg h0, if_neg h1, if_neg h2]
                      clear HXX h0 h1 h2
                      go_wp2_with fail
                      go_meet
                      case rel => exact ⟨⟨S, by rw [HE.out]; exact R.out, B.out⟩, by rw [HE.out]; exact M, by rw [HE.out]; exact A, T, gw⟩
              case rest =>
                clear X T M A B gw k0 k1 k2 k3 k4 k5 k6 xl R HXX HZ1 HAG
                obtain ⟨hS2, M2, A2, T2, gw2⟩ := hcut
                obtain ⟨S2, R2', B2'⟩ := hS2.out
                have R2 := hide R2'
                have B2 := hide B2'
                clear hS2 R2' B2'
                have HWA := hide (fun (k : Nat) (hk : k < 6) => way_asks HZ2.out R2.out hk)
                go_wp2_with fail
                go_loopw [12] (fun v12 wr => ∃ k : Nat, k ≤ 6 ∧ v12 = .int .i64 (k : Int) ∧ Hid (Gr wc wr)) (fun v12 _ => (6 - intOf v12).toNat)
                case atStart => exact ⟨0, by omega, rfl, Gr.refl _⟩
                case round =>
                  obtain ⟨k, hk6, rfl, gk⟩ := hrel
                  by_cases hk : k < 6
                  · have hki : decide ((k : Int) < 6) = true := decide_eq_true (by omega)
                    have hk0 : (k : Int) < 6 := by omega
                    have wk : IntKind.i64.wrap ((k : Int) + 1) = (k : Int) + 1 := by rw [IntKind.wrap_i64]; omega
                    have HBT := hide (nbestG M2.out HZ2.out.ok gk.out hk)
                    have HWY := hide (fun (V : World) (g : Gr wc V) => nwayG M2.out g hk)
                    have HWB := hide (HWO.out k)
                    obtain ⟨q1', q2', q3'⟩ := HWA.out k hk
                    have Q1 := hide q1'
                    have Q2 := hide q2'
                    have Q3 := hide q3'
                    clear q1' q2' q3'
                    rw [hm2] at Q3
                    go_upto_region 30 with (go_at_call 25; with_reducible refine HBT.out.mono ?_; rintro e V7 ⟨rfl, d7, hV7⟩; have g7 : Hid (Gr wc V7) := (by unfold Hid; rw [hV7]; exact gk.out.trans d7.gr); clear hV7 d7)
                    obtain ⟨s0, s1⟩ := bt_cells (T2.out.gr g7.out) hk
                    have sl := ZArr.lt (T2.out.gr g7.out)
                    generalize m.bests k = ob at *
                    generalize m2.bests k = nb at *
                    obtain ⟨os1, od1⟩ := ob
                    obtain ⟨bs, bd⟩ := nb
                    simp only at s0 s1 HWB Q2 Q3
                    refine wp_region_ext (by kernel_rfl) (by kernel_rfl) ?_
                    repeat (go_big_quiet_step ((go_at_call 27; with_reducible exact rbetter_ext HWB.out _)))
                    refine wpQuiet_nil ?_
                    rintro _ ⟨d8, rfl⟩
                    have g8 := hide (g7.out.trans d8.gr)
                    clear s0 s1 sl HBT
                    generalize hwv : m2.ways k = wv at *
                    obtain ⟨vs, vd, vh⟩ := wv
                    simp only at Q1 Q2 Q3 HWY
                    clear hwv
                    go_upto_region 33 with (go_at_call 23; with_reducible refine (HWY.out _ g8.out).mono ?_; rintro e V9 ⟨rfl, d9, hV9⟩; have g9 : Hid (Gr wc V9) := (by unfold Hid; rw [hV9]; exact g8.out.trans d9.gr); clear hV9 d9)
                    refine wp_gen (fun V => Hid (ZArr V 51 3 V9.heap.size (wayF (vs, vd, vh))) ∧ Hid (Gr wc V)) ⟨ZArr.new V9 51 3 (wayF (vs, vd, vh)), g9.out.alloc _⟩ ?_
                    have hzl : z + 1 < V9.heap.size := ZArr.lt (T2.out.gr g9.out)
                    generalize V9.heap.size = yw at *
                    clear g9 g8 d8 HWY
                    rintro V ⟨W, gV⟩
                    have x0 : V.cell? ⟨yw, 0, none⟩ = some (iv vs) := W.out.cell (by omega)
                    have x1 : V.cell? ⟨yw, 1, none⟩ = some (iv vd) := W.out.cell (by omega)
                    have x2 : V.cell? ⟨yw, 2, none⟩ = some (iv vh) := W.out.cell (by omega)
                    have xl := W.out.lt
                    by_cases hvh : vh = -1
                    · have e1 : (vh == -1) = true := by simpa using hvh
                      have e2 : (vd != 200) = false := by have := Q1.out hvh; simpa using this
                      clear hvh Q1 Q2 Q3
                      go_wp2_with fail
                      go_roundw
                      case rel => exact ⟨k + 1, by omega, by congr 1, gV⟩
                      case measure => simp [intOf]; omega
                    · have e1 : (vh == -1) = false := by simpa using hvh
                      have HB2 := hide (Q2.out hvh)
                      by_cases hka : k = a
                      · have e2 : ((k : Int) == (a : Int)) = true := by simp; omega
                        clear hvh Q1 Q2 Q3 hka
                        go_wp2_with (go_at_call 27; with_reducible refine (rbetter_is HB2.out _).mono ?_; rintro e w1 ⟨rfl, hw1⟩; have hw2 := hw1.symm; clear hw1; subst hw2)
                        go_roundw
                        case rel => exact ⟨k + 1, by omega, by congr 1, gV⟩
                        case measure => simp [intOf]; omega
                      · have e2 : ((k : Int) == (a : Int)) = false := by simp; omega
                        obtain ⟨j, hj6, hwj, hcj, hs0, hs2, hc0, hc2, hbj⟩ := Q3.out hvh hka
                        simp only [Prod.mk.injEq] at hwj
                        obtain ⟨hv0, hv1, hv2⟩ := hwj
                        have hji : (j : Int) < 6 := by omega
                        have BN : Hid (decide (0 ≤ (j : Int) ∧ (j : Int) < 6) = true) := decide_eq_true ⟨by omega, hji⟩
                        have HBJ := hide hbj
                        clear hvh Q1 Q2 Q3 hka hbj
                        have u0 := ZArr.cell (B2.out.gr gV.out) (j := j * 12 + k * 2) (by omega)
                        have u1 := ZArr.cell (B2.out.gr gV.out) (j := j * 12 + k * 2 + 1) (by omega)
                        rw [(sdG_at S2 j hk).1] at u0
                        rw [(sdG_at S2 j hk).2] at u1
                        have ul := ZArr.lt (B2.out.gr gV.out)
                        have cj := ZArr.cell (A2.out.gr gV.out) hj6
                        generalize S2 j k = sv at *
                        obtain ⟨hs1, hd1⟩ := sv
                        simp only at hv0 hv1 hs0 hs2 u0 u1 HBJ
                        subst hv0 hv1 hv2
                        go_upto_region 42 with (first | (go_at_call 27; with_reducible refine (rbetter_is HB2.out _).mono ?_; rintro e w1 ⟨rfl, hw1⟩; have hw2 := hw1.symm; clear hw1; subst hw2) | (go_at_call 10; with_reducible refine (isNode_is BN.out _).mono ?_; rintro e w1 ⟨rfl, hw1⟩; have hw2 := hw1.symm; clear hw1; subst hw2))
                        refine wp_gen (fun X => Hid (ZArr X 56 2 V.heap.size (sdF vs hd1)) ∧ Hid (ZArr X 51 3 yw (wayF (vs, hd1 + m2.cost j, (j : Int)))) ∧ Hid (Gr wc X)) ⟨ZArr.new V 56 2 (sdF vs hd1), W.out.gr ((Gr.refl _).alloc _), gV.out.alloc _⟩ ?_
                        clear x0 x1 x2 xl u0 u1 ul cj
                        generalize V.heap.size = yh at *
                        rintro X ⟨Hh, Ww, gX⟩
                        have cj := ZArr.cell (A2.out.gr gX.out) hj6
                        have cl := ZArr.lt (A2.out.gr gX.out)
                        generalize m2.cost j = cc at *
                        have x0 : X.cell? ⟨yw, 0, none⟩ = some (iv vs) := Ww.out.cell (by omega)
                        have x1 : X.cell? ⟨yw, 1, none⟩ = some (iv (hd1 + cc)) := Ww.out.cell (by omega)
                        have x2 : X.cell? ⟨yw, 2, none⟩ = some (iv (j : Int)) := Ww.out.cell (by omega)
                        have xl := Ww.out.lt
                        have h0 : X.cell? ⟨yh, 0, none⟩ = some (iv vs) := Hh.out.cell (by omega)
                        have h1 : X.cell? ⟨yh, 1, none⟩ = some (iv hd1) := Hh.out.cell (by omega)
                        have hl := Hh.out.lt
                        have e3 : (cc == 0) = false := by simpa using hcj
                        have wb : IntKind.i64.wrap (hd1 + cc) = hd1 + cc := by rw [IntKind.wrap_i64]; omega
                        clear hcj hs0 hs2 hc0 hc2 W gV Hh Ww
                        refine wp_region_ext (by kernel_rfl) (by kernel_rfl) ?_
                        repeat (go_big_quiet_step ((go_at_call 27; with_reducible exact rbetter_ext HBJ.out _)))
                        refine wpQuiet_nil ?_
                        rintro _ ⟨d12, rfl⟩
                        go_wp2_with fail
                        go_roundw
                        case rel => exact ⟨k + 1, by omega, by congr 1, gX.out.trans d12.gr⟩
                        case measure => simp [intOf]; omega
                  · have hki : decide ((k : Int) < 6) = false := decide_eq_false (by omega)
                    go_wp2_with fail
                    go_roundw
                    case rel => exact ⟨i + 1, S2, by omega, by congr 1, by rw [HM2.out]; exact R2, by rw [HM2.out]; exact M2.out.gr gk.out, by rw [HM2.out]; exact A2.out.gr gk.out, B2.out.gr gk.out, gw2.out.trans gk.out⟩
                    case measure => simp [intOf]; omega
      · have hii : decide ((i : Int) < (n : Int)) = false := decide_eq_false (by omega)
        go_wp2_with fail
        go_ret
        exact ⟨rfl, gw.out⟩
  · have hnil := nnew_nil hme
    go_wp2_with (go_at_call 17; with_reducible refine (hnil _).mono ?_; rintro e w1 ⟨rfl, hw1⟩; subst hw1)
    go_ret
    exact ⟨rfl, d1.gr⟩

end Go.Proofs.Ytohbkhmpdegapad
