/- handpostlaw.NodeStale ANSWERS true. -/
import Derived.Test.YtohbkhmpdegapadLN
namespace Go.Proofs.Ytohbkhmpdegapad
open Go.RowKit
attribute [local go_sem] Ext.all Ext.cell Ext.frozen Ext.lt Ext.lt1 Ext.lt2 Ext.ne Ext.ne' field_hop

theorem hr_same {m : Md} {f z s d : Int} (h : hcode m f z s d ≠ 0) : hrM m f z s d = m := by
  unfold hcode at h
  unfold hrM
  by_cases q : hrOk m f z s d
  · rw [if_pos q] at h
    by_cases hc : m.cost f.toNat = 0
    · rw [if_neg (fun x => x.2 hc)]
    · rw [if_neg hc] at h
      exact absurd rfl h
  · rw [if_neg (fun x => q x.1)]
theorem hr_is {m : Md} {f z s d : Int} (h : hcode m f z s d = 0) : ∃ i k : Nat, f = (i : Int) ∧ z = (k : Int) ∧ i < 6 ∧ k < 6 ∧ i ≠ m.me ∧ m.cost i ≠ 0 ∧ 0 ≤ s ∧ 0 ≤ d ∧ d ≤ 200 ∧ hrM m f z s d = hearM m i k s d := by
  unfold hcode at h
  by_cases q : hrOk m f z s d
  · rw [if_pos q] at h
    by_cases hc : m.cost f.toNat = 0
    · rw [if_pos hc] at h; omega
    · refine ⟨f.toNat, z.toNat, by omega, by omega, by omega, by omega, by omega, hc, q.2.2.1, q.2.2.2.1, q.2.2.2.2, ?_⟩
      unfold hrM
      rw [if_pos ⟨q, hc⟩]
  · rw [if_neg q] at h; omega

set_option maxRecDepth 20000 in
set_option maxHeartbeats 8000000 in
theorem nstale_any (w : World) (me : Int) (ao : Option Addr) (n cp : Nat) (l : List Stp) (f o z s d : Int) (H : StpAt w ao l) (hn : l.length = n) :
    Calls Try.prog 7 #[iv me, .slice ao n cp, .agg #[iv f, iv o, iv z, iv s, iv d]] w fun e w' => e = .returned (.bool true) ∧ Gr w w' := by
  have HS := hide (fun (X : World) (g : Gr w X) => H.gr g)
  clear H
  go_enter Try.func7, Try.ntmps7
  go_upto_region 1 with (fail)
  refine wp_gen (fun V => Hid (ZArr V 44 5 w.heap.size (nwF f o z s d)) ∧ Hid (Gr w V)) ⟨ZArr.new w 44 5 (nwF f o z s d), (Gr.refl _).alloc _⟩ ?_
  rintro V ⟨A, gV⟩
  go_upto_region 3 with (go_at_call 16; with_reducible refine (nbegun_any _).mono ?_; rintro e _ ⟨rfl, d1, rfl⟩)
  by_cases hme : 0 ≤ me ∧ me < 6
  · obtain ⟨a, rfl⟩ : ∃ a : Nat, me = (a : Int) := ⟨me.toNat, by omega⟩
    have ha : a < 6 := by omega
    clear hme
    go_upto_region 4 with (go_at_call 17; with_reducible refine (nnew_ok ha _).mono ?_; rintro e V2 ⟨rfl, M2', g2'⟩; have M2 := hide M2'; have G2 := hide g2'; clear M2' g2')
    have B2 : Hid (ZArr V2 44 5 w.heap.size (nwF f o z s d)) := (A.out.gr d1.gr).gr G2.out
    have gw2 : Hid (Gr w V2) := (gV.out.trans d1.gr).trans G2.out
    have hpw : w.heap.size < d1.out.heap.size := by have := A.out.lt; have := Below.size d1.gr; omega
    clear A gV G2
    generalize d1.out.heap.size = p at *
    clear d1
    by_cases h200 : 200 < n
    · have gd : decide ((200 : Int) < (n : Int)) = true := decide_eq_true (by omega)
      go_wp2_with fail
      go_ret
      exact ⟨rfl, gw2.out⟩
    · have gd : decide ((200 : Int) < (n : Int)) = false := decide_eq_false (by omega)
      go_upto_region 7 with (go_at_call 18; with_reducible refine (newMind_ok ha _).mono ?_; rintro e V3 ⟨rfl, J3', g3'⟩; have J3 := hide J3'; have G3 := hide g3'; clear J3' g3')
      have M3 := hide (M2.out.gr G3.out)
      have B3 := hide (B2.out.gr G3.out)
      have gw3 : Hid (Gr w V3) := gw2.out.trans G3.out
      have hpq : p < V2.heap.size := M2.out.lt
      clear M2 B2 gw2 G3
      generalize V2.heap.size = q at *
      have R0 := hide (show runM (newM a) l 0 = newM a from rfl)
      have HZ := hide (fun i => run_z (new_z ha) l i)
      have HA := hide (fun i => run_age (newM a) l i)
      have HSU := hide (fun i (h : i < l.length) => run_succ (newM a) l h)
      have HME := hide (fun i => run_me (newM a) l i)
      go_wp2_with fail
      go_loopw [9] (fun v9 wr => ∃ i : Nat, i ≤ n ∧ v9 = .int .i64 (i : Int) ∧ Hid (DAt wr p (sel (runM (newM a) l i))) ∧ Hid (MAt wr q (runM (newM a) l i)) ∧ Hid (ZArr wr 44 5 w.heap.size (nwF f o z s d)) ∧ Hid (Gr w wr)) (fun v9 _ => (n - intOf v9).toNat)
      case atStart => exact ⟨0, by omega, rfl, M3, J3, B3, gw3⟩
      case round =>
        clear M3 J3 B3 gw3
        obtain ⟨i, hin, rfl, M, J, B, gw⟩ := hrel
        by_cases hi : i < n
        · have hii : decide ((i : Int) < (n : Int)) = true := decide_eq_true (by omega)
          have wi : IntKind.i64.wrap ((i : Int) + 1) = (i : Int) + 1 := by rw [IntKind.wrap_i64]; omega
          have HSI := hide (HSU.out i (by omega))
          have hil : i < l.length := by omega
          rcases HS.out _ gw.out with h0 | ⟨b, oo, rfl, hb, hc⟩
          · exfalso; rw [h0] at hil; simp at hil
          obtain ⟨c0, c1, c2, c3, c4, c5, c6⟩ := hc i hil
          have HQ := hide (nstep_any M.out J.out (show p ≠ q by omega) (HZ.out i) (by have := HA.out i; rw [age_new] at this; omega) l[i])
          clear hc
          unfold Stp.val at HQ
          generalize l[i] = x at *
          obtain ⟨xk, xc, xf, xo, xz, xs, xd⟩ := x
          simp only at c0 c1 c2 c3 c4 c5 c6 HQ
          go_wp2_with (go_at_call 19; with_reducible refine HQ.out.mono ?_; rintro e V4 ⟨rfl, M4', J4', W4'⟩; have M4 := hide M4'; have J4 := hide J4'; have W4 := hide W4'; clear M4' J4' W4')
          go_roundw
          case rel => exact ⟨i + 1, by omega, by congr 1, by rw [HSI.out]; exact M4, by rw [HSI.out]; exact J4, W4.out.arr B.out (by omega) (by omega), W4.out.gr gw.out (by omega) (by omega)⟩
          case measure => simp [intOf]; omega
        · have ei : i = n := by omega
          subst ei
          have hii : decide ((i : Int) < (i : Int)) = false := decide_eq_false (by omega)
          have HQL := hide J.out.lt
          clear J HSU HA hi hin
          have HZ1 := hide (HZ.out i)
          have hm1 : (runM (newM a) l i).me = a := HME.out i
          clear HZ R0 HME
          generalize runM (newM a) l i = m at *
          go_upto_region 12 with (fail)
          have hqr : q < wr.heap.size := by have := HQL.out; exact this
          refine wp_gen (fun V => Hid (ZArr V 59 18 wr.heap.size (wasF m 0)) ∧ Hid (DAt V p (sel m)) ∧ Hid (ZArr V 44 5 w.heap.size (nwF f o z s d)) ∧ Hid (Gr w V)) ⟨ZArr.new wr 59 18 (wasF m 0), M.out.gr ((Gr.refl _).alloc _), B.out.gr ((Gr.refl _).alloc _), gw.out.alloc _⟩ ?_
          clear M B gw
          generalize wr.heap.size = y at *
          rintro V4 ⟨Y, M, B, gw⟩
          go_wp2_with fail
          go_loopw [11] (fun v11 wr => ∃ k : Nat, k ≤ 6 ∧ v11 = .int .i64 (k : Int) ∧ Hid (ZArr wr 59 18 y (wasF m k)) ∧ Hid (DAt wr p (sel m)) ∧ Hid (ZArr wr 44 5 w.heap.size (nwF f o z s d)) ∧ Hid (Gr w wr)) (fun v11 _ => (6 - intOf v11).toNat)
          case atStart => exact ⟨0, by omega, rfl, Y, M, B, gw⟩
          case round =>
            clear Y M B gw
            obtain ⟨k, hk6, rfl, Y, M, B, gw⟩ := hrel
            by_cases hk : k < 6
            · have hki : decide ((k : Int) < 6) = true := decide_eq_true (by omega)
              have hk0 : (k : Int) < 6 := by omega
              have wk : IntKind.i64.wrap ((k : Int) + 1) = (k : Int) + 1 := by rw [IntKind.wrap_i64]; omega
              go_upto_region 15 with (fail)
              have HWY := hide (nwayG M.out (Gr.refl _) hk)
              have HY := hide (fun (X : World) (g : Gr _ X) => Y.out.gr g)
              have HYf := hide (fun (X : World) (g : Gr _ X) => ZArr.free (Y.out.gr g))
              go_wp2_with (go_at_call 23; with_reducible refine HWY.out.mono ?_; rintro e V5 ⟨rfl, d5, hV5⟩; have g5 : Hid (Gr _ V5) := (by unfold Hid; rw [hV5]; exact d5.gr); clear hV5 d5; have y0 := ZArr.cell (HY.out _ g5.out) (j := k * 3) (by omega); have y1 := ZArr.cell (HY.out _ g5.out) (j := k * 3 + 1) (by omega); have y2 := ZArr.cell (HY.out _ g5.out) (j := k * 3 + 2) (by omega); have yf := HYf.out _ g5.out; have yl := ZArr.lt (HY.out _ g5.out))
              go_roundw
              case rel => exact ⟨k + 1, by omega, by congr 1, was_put (HY.out _ g5.out) hk, ((((M.out.gr g5.out).other ((Wr.refl y _).set _ _) (by omega)).other ((Wr.refl y _).set _ _) (by omega)).other ((Wr.refl y _).set _ _) (by omega)), ((((B.out.gr g5.out).other (by omega) _ _).other (by omega) _ _).other (by omega) _ _), (((gw.out.trans g5.out).setCell (by simp; omega) _).setCell (by simp; omega) _).setCell (by simp; omega) _⟩
              case measure => simp [intOf]; omega
            · have ek : k = 6 := by omega
              subst ek
              clear hk hk6
              have b0 := ZArr.cell B.out (j := 0) (by omega)
              have b1 := ZArr.cell B.out (j := 1) (by omega)
              have b2 := ZArr.cell B.out (j := 2) (by omega)
              have b3 := ZArr.cell B.out (j := 3) (by omega)
              have b4 := ZArr.cell B.out (j := 4) (by omega)
              simp only [nwF] at b0 b1 b2 b3 b4
              have bl := ZArr.lt B.out
              have HQ := hide (nhearN M.out HZ1.out f o z s d)
              by_cases hc : hcode m f z s d = 0
              · have g1 : (hcode m f z s d != 0) = false := by simpa using hc
                obtain ⟨fi, zi, rfl, rfl, hf6, hz6, hfm, hcf, hs0, hd0, hd2, hE⟩ := hr_is hc
                rw [hE] at HQ
                have HZ2 := hide (hear_z HZ1.out (f := fi) (z := zi) hs0 hd0 hd2)
                have HWS := hide (fun (k : Nat) (hk : k ≠ zi) => (@hear_ways m fi zi s d k hk).1)
                have HGN := hide (fun (h1 : zi ≠ m.me) (h2 : ((hearM m fi zi s d).ways zi).2.2 = (fi : Int)) => hear_gone HZ1.out.ok hs0 hd0 hd2 hz6 h1 h2)
                clear hE hc hs0 hd0 hd2 hfm hcf
                generalize hearM m fi zi s d = m2 at *
                generalize hcode m fi zi s d = cd at *
                go_upto_region 23 with (go_at_call 29; with_reducible refine HQ.out.mono ?_; rintro e V6 ⟨rfl, M6', W6'⟩; have M6 := hide M6'; have W6 := hide W6'; clear M6' W6')
                have Y6 := hide (W6.out.arr Y.out (by omega))
                have B6 := hide (W6.out.arr B.out (by omega))
                have G6 := hide (W6.out.gr gw.out (by omega))
                clear b0 b1 b2 b3 b4 bl Y M B gw HQ W6
                go_wp2_with fail
                go_loopw [13] (fun v13 wr => ∃ k : Nat, k ≤ 6 ∧ v13 = .int .i64 (k : Int) ∧ Hid (Gr V6 wr)) (fun v13 _ => (6 - intOf v13).toNat)
                case atStart => exact ⟨0, by omega, rfl, Gr.refl _⟩
                case round =>
                  obtain ⟨k, hk6, rfl, gk⟩ := hrel
                  by_cases hk : k < 6
                  · have hki : decide ((k : Int) < 6) = true := decide_eq_true (by omega)
                    have hk0 : (k : Int) < 6 := by omega
                    have wk : IntKind.i64.wrap ((k : Int) + 1) = (k : Int) + 1 := by rw [IntKind.wrap_i64]; omega
                    have HBT := hide (nbestG M6.out HZ2.out.ok gk.out hk)
                    go_upto_region 27 with (go_at_call 25; with_reducible refine HBT.out.mono ?_; rintro e V7 ⟨rfl, d7, hV7⟩; have g7 : Hid (Gr V6 V7) := (by unfold Hid; rw [hV7]; exact gk.out.trans d7.gr); clear hV7 d7)
                    have b0 := ZArr.cell (B6.out.gr g7.out) (j := 0) (by omega)
                    have b2 := ZArr.cell (B6.out.gr g7.out) (j := 2) (by omega)
                    have b3 := ZArr.cell (B6.out.gr g7.out) (j := 3) (by omega)
                    have b4 := ZArr.cell (B6.out.gr g7.out) (j := 4) (by omega)
                    simp only [nwF] at b0 b2 b3 b4
                    have bl := ZArr.lt (B6.out.gr g7.out)
                    obtain ⟨y0, y1, y2⟩ := was_cells (Y6.out.gr g7.out) hk
                    have yl := ZArr.lt (Y6.out.gr g7.out)
                    have M7 := hide (M6.out.gr g7.out)
                    by_cases hkz : k = zi
                    · have e1 : ((k : Int) != (zi : Int)) = false := by simp; omega
                      have e2 : ((k : Int) == (zi : Int)) = true := by simp; omega
                      refine wp_region_ext (by kernel_rfl) (by kernel_rfl) ?_
                      repeat (go_big_quiet_step (fail))
                      refine wpQuiet_nil ?_
                      rintro _ ⟨d8, rfl⟩
                      go_upto_region 29 with (fail)
                      obtain ⟨bv, hbv⟩ : ∃ bv, bet s d (m2.bests k).1 (m2.bests k).2 = bv := ⟨_, rfl⟩
                      have HBV := hide hbv
                      have M8 := hide (M7.out.gr d8.gr)
                      have b0' := (d8.cell w.heap.size 0 bl).trans b0
                      have b2' := (d8.cell w.heap.size 2 bl).trans b2
                      have b3' := (d8.cell w.heap.size 3 bl).trans b3
                      have b4' := (d8.cell w.heap.size 4 bl).trans b4
                      have bl' := d8.lt _ bl
                      have g8 := hide (g7.out.trans d8.gr)
                      clear b0 b2 b3 b4 bl y0 y1 y2 yl
                      generalize d8.out = V8 at *
                      cases bv
                      · have HGN2 : Hid (k ≠ a → (m2.ways k).2.2 = (fi : Int) → False) := fun h1 h2 => by
                          have := HGN.out (by rw [hm1]; omega) (by rw [← hkz]; exact h2)
                          rw [← hkz, hbv] at this
                          cases this
                        clear hbv hkz
                        generalize hwv : m2.ways k = wv at *
                        obtain ⟨ws, wd, wh⟩ := wv
                        simp only at HGN2
                        have HW8 : Hid (∀ x : Ext V8, Calls Try.prog 23 #[pv p, iv k] x.out fun e w' => e = .returned (.agg #[iv ws, iv wd, iv wh]) ∧ ∃ d : Ext V8, w' = d.out) := fun x => by
                          have := nwayE x M8.out hk
                          rw [hwv] at this
                          exact this
                        clear hwv
                        by_cases hh : wh = (fi : Int)
                        · have e3 : (wh == (fi : Int)) = true := by simpa using hh
                          have e4 : ((k : Int) != (a : Int)) = false := by
                            by_cases q : k = a
                            · simp; omega
                            · exact absurd (HGN2.out q hh) id
                          clear HGN2 hh
                          refine wp_region_ext (by kernel_rfl) (by kernel_rfl) ?_
                          repeat (go_big_quiet_step (first | (go_at_call 27; with_reducible exact rbetter_ext HBV.out _) | (go_at_call 23; with_reducible exact HW8.out _)))
                          refine wpQuiet_nil ?_
                          rintro _ ⟨d9, rfl⟩
                          go_wp2_with fail
                          go_roundw
                          case rel => exact ⟨k + 1, by omega, by congr 1, g8.out.trans d9.gr⟩
                          case measure => simp [intOf]; omega
                        · have e3 : (wh == (fi : Int)) = false := by simpa using hh
                          clear HGN2 hh
                          refine wp_region_ext (by kernel_rfl) (by kernel_rfl) ?_
                          repeat (go_big_quiet_step (first | (go_at_call 27; with_reducible exact rbetter_ext HBV.out _) | (go_at_call 23; with_reducible exact HW8.out _)))
                          refine wpQuiet_nil ?_
                          rintro _ ⟨d9, rfl⟩
                          go_wp2_with fail
                          go_roundw
                          case rel => exact ⟨k + 1, by omega, by congr 1, g8.out.trans d9.gr⟩
                          case measure => simp [intOf]; omega
                      · clear hbv hkz
                        refine wp_region_ext (by kernel_rfl) (by kernel_rfl) ?_
                        repeat (go_big_quiet_step (first | (go_at_call 27; with_reducible exact rbetter_ext HBV.out _)))
                        refine wpQuiet_nil ?_
                        rintro _ ⟨d9, rfl⟩
                        go_wp2_with fail
                        go_roundw
                        case rel => exact ⟨k + 1, by omega, by congr 1, g8.out.trans d9.gr⟩
                        case measure => simp [intOf]; omega
                    · have e1 : ((k : Int) != (zi : Int)) = true := by simp; omega
                      have e2 : ((k : Int) == (zi : Int)) = false := by simp; omega
                      rw [← HWS.out k hkz] at y0 y1 y2
                      clear hkz
                      refine wp_region_ext (by kernel_rfl) (by kernel_rfl) ?_
                      repeat (go_big_quiet_step ((go_at_call 23; with_reducible exact nwayE _ M7.out hk)))
                      refine wpQuiet_nil ?_
                      rintro _ ⟨d8, rfl⟩
                      go_upto_region 29 with (fail)
                      have b2' := (d8.cell w.heap.size 2 bl).trans b2
                      have bl' := d8.lt _ bl
                      have g8 := hide (g7.out.trans d8.gr)
                      clear b0 b2 b3 b4 bl y0 y1 y2 yl
                      generalize d8.out = V8 at *
                      refine wp_region_ext (by kernel_rfl) (by kernel_rfl) ?_
                      repeat (go_big_quiet_step (fail))
                      refine wpQuiet_nil ?_
                      rintro _ ⟨d9, rfl⟩
                      go_wp2_with fail
                      go_roundw
                      case rel => exact ⟨k + 1, by omega, by congr 1, g8.out.trans d9.gr⟩
                      case measure => simp [intOf]; omega
                  · have ek : k = 6 := by omega
                    subst ek
                    go_wp2_with fail
                    go_ret
                    exact ⟨rfl, G6.out.trans gk.out⟩
              · have g1 : (hcode m f z s d != 0) = true := by simpa using hc
                rw [hr_same hc] at HQ
                clear hc
                generalize hcode m f z s d = cd at *
                go_upto_region 17 with (go_at_call 29; with_reducible refine HQ.out.mono ?_; rintro e V6 ⟨rfl, M6', W6'⟩; have M6 := hide M6'; have W6 := hide W6'; clear M6' W6')
                have Y6 := hide (W6.out.arr Y.out (by omega))
                have G6 := hide (W6.out.gr gw.out (by omega))
                clear b0 b1 b2 b3 b4 bl Y M B gw HQ W6
                go_wp2_with fail
                go_loopw [12] (fun v12 wr => ∃ k : Nat, k ≤ 6 ∧ v12 = .int .i64 (k : Int) ∧ Hid (Gr V6 wr)) (fun v12 _ => (6 - intOf v12).toNat)
                case atStart => exact ⟨0, by omega, rfl, Gr.refl _⟩
                case round =>
                  obtain ⟨k, hk6, rfl, gk⟩ := hrel
                  by_cases hk : k < 6
                  · have hki : decide ((k : Int) < 6) = true := decide_eq_true (by omega)
                    have hk0 : (k : Int) < 6 := by omega
                    have wk : IntKind.i64.wrap ((k : Int) + 1) = (k : Int) + 1 := by rw [IntKind.wrap_i64]; omega
                    go_upto_region 20 with (fail)
                    obtain ⟨y0, y1, y2⟩ := was_cells (Y6.out.gr gk.out) hk
                    have yl := ZArr.lt (Y6.out.gr gk.out)
                    have M7 := hide (M6.out.gr gk.out)
                    refine wp_region_ext (by kernel_rfl) (by kernel_rfl) ?_
                    repeat (go_big_quiet_step ((go_at_call 23; with_reducible exact nwayE _ M7.out hk)))
                    refine wpQuiet_nil ?_
                    rintro _ ⟨d8, rfl⟩
                    go_wp2_with fail
                    go_roundw
                    case rel => exact ⟨k + 1, by omega, by congr 1, gk.out.trans d8.gr⟩
                    case measure => simp [intOf]; omega
                  · have ek : k = 6 := by omega
                    subst ek
                    go_wp2_with fail
                    go_ret
                    exact ⟨rfl, G6.out.trans gk.out⟩
  · have hnil := nnew_nil hme
    go_wp2_with (go_at_call 17; with_reducible refine (hnil _).mono ?_; rintro e w1 ⟨rfl, hw1⟩; subst hw1)
    go_ret
    exact ⟨rfl, gV.out.trans d1.gr⟩

end Go.Proofs.Ytohbkhmpdegapad
