import Derived.Test.YtfcknkanbcndjagGreatDoorD2
/- THE REFERENCE'S Mind IN MEMORY. -/
namespace Go.Proofs.YtfcknkanbcndjagGreatDoor
open Go.RowKit

abbrev MAt (w : World) (p : Nat) (m : Md) : Prop := NdAt 177 w p m

end Go.Proofs.YtfcknkanbcndjagGreatDoor

/- CONTRACT OF handpostref.Better. -/
namespace Go.Proofs.YtfcknkanbcndjagGreatDoor
open Go.RowKit
attribute [local go_sem] Ext.all Ext.cell Ext.frozen Ext.lt Ext.lt1 Ext.lt2 Ext.ne Ext.ne'
theorem rbetter_is {s d s2 d2 : Int} {v : Bool} (h : bet s d s2 d2 = v) (w : World) : Calls Tryz.prog 145 #[iv s, iv d, iv s2, iv d2] w fun e w' => e = .returned (.bool v) ∧ w' = w := by
  subst h
  by_cases e : s = s2
  · subst e
    have hb : bet s d s d2 = decide (d < d2) := by unfold bet; rw [if_pos rfl]
    rw [hb]
    go_enter Tryz.func145, Tryz.ntmps145
    go_wp2
    go_ret
    exact ⟨rfl, rfl⟩
  · have hb : bet s d s2 d2 = decide (s2 < s) := by unfold bet; rw [if_neg e]
    have hn : (s != s2) = true := by simpa using e
    rw [hb]
    clear hb e
    go_enter Tryz.func145, Tryz.ntmps145
    go_wp2
    go_ret
    exact ⟨rfl, rfl⟩

theorem rbetter_ext {s d s2 d2 : Int} {v : Bool} (h : bet s d s2 d2 = v) {B : World} (x : Ext B) : Calls Tryz.prog 145 #[iv s, iv d, iv s2, iv d2] x.out fun e w' => e = .returned (.bool v) ∧ ∃ m : Ext B, w' = m.out :=
  (rbetter_is h x.out).mono fun _ _ ⟨he, hw⟩ => ⟨he, x, hw⟩

end Go.Proofs.YtfcknkanbcndjagGreatDoor

/- CONTRACTS OF handpostref: Better, Mind.look. -/
namespace Go.Proofs.YtfcknkanbcndjagGreatDoor
open Go.RowKit
attribute [local go_sem] Ext.all Ext.cell Ext.frozen Ext.lt Ext.lt1 Ext.lt2 Ext.ne Ext.ne'
set_option maxRecDepth 20000 in
set_option maxHeartbeats 8000000 in
theorem mlook_any {w : World} {p : Nat} {m : Md} (H : MAt w p m) {z : Nat} (ht : z < 6) (hcs : ∀ r, 0 ≤ m.cost r ∧ m.cost r ≤ 15) (hsd : ∀ r, 0 ≤ (m.heard r z).2 ∧ (m.heard r z).2 ≤ 200) :
    Calls Tryz.prog 102 #[pv p, iv z] w fun e w' => e = .returned (.tuple #[]) ∧ MAt w' p (lookM m z) ∧ Wr p w w' := by
  have c0 := H.me
  have hp := H.lt
  by_cases hme : z = m.me
  · have hb : ((z : Int) == (m.me : Int)) = true := by simp; omega
    have HE : Hid (lookM m z = m) := by unfold Hid lookM; rw [if_pos hme]
    clear hme
    go_enter Tryz.func102, Tryz.ntmps102
    go_wp2_with fail
    refine bodyPost_ret (results_none rfl _ _ _) rfl ?_
    exact ⟨rfl, by rw [HE.out]; exact H, Wr.refl _ _⟩
  have hb : ((z : Int) == (m.me : Int)) = false := by simp; omega
  obtain ⟨b0, b1⟩ := H.bests ht
  have HM := hide (fun (X : World) (g : Gr w X) => H.gr g)
  have HME := hide hme
  have hti : (z : Int) < 6 := by omega
  have HPS0 : Hid (∀ s r : Nat, 5 - s = r → pkD m z (s + 1) = if mayB m z r = true then (if (pkD m z s).2.2 = -1 ∨ bet (pkD m z s).1 (pkD m z s).2.1 (wayBy m z r).1 (wayBy m z r).2.1 = false then wayBy m z r else pkD m z s) else pkD m z s) := fun s r e => by rw [← e]; rfl
  have HMB0 : Hid (∀ r, mayB m z r = (decide (m.cost r ≠ 0) && decide ((m.heard r z).2 + m.cost r < 200) && bet (m.heard r z).1 (m.heard r z).2 (m.bests z).1 (m.bests z).2)) := fun _ => rfl
  have HP0 : Hid (pkD m z 0 = ((m.bests z).1, 200, -1)) := rfl
  have HLK : Hid (lookM m z = { m with ways := updW m.ways z (pkD m z 6), bests := if (pkD m z 6).2.2 ≠ -1 ∧ bet (pkD m z 6).1 (pkD m z 6).2.1 (m.bests z).1 (m.bests z).2 = true then updW m.bests z ((pkD m z 6).1, (pkD m z 6).2.1) else m.bests }) := by unfold Hid lookM; rw [if_neg hme]
  generalize hbv : m.bests z = bv at *
  obtain ⟨bs, bd⟩ := bv
  simp only at b0 b1 HMB0 HP0 HLK
  clear H hme hbv
  go_enter Tryz.func102, Tryz.ntmps102
  go_upto_region 3 with (fail)
  refine wp_gen (fun Y => Hid (ZArr Y 173 2 w.heap.size (sdF bs bd)) ∧ Hid (ZArr Y 119 3 (w.heap.size + 1) (wayF (pkD m z 0))) ∧ Gr w Y) ⟨(ZArr.new w 173 2 (sdF bs bd)).gr ((Gr.refl _).alloc _), ?_, ((Gr.refl _).alloc _).alloc _⟩ ?_
  · have := ZArr.new (w.alloc (.cells (zcells 2 (sdF bs bd)) 173)) 119 3 (wayF (pkD m z 0))
    rw [show (w.alloc (.cells (zcells 2 (sdF bs bd)) 173)).heap.size = w.heap.size + 1 by simp] at this
    rw [HP0.out] at this ⊢
    exact this
  rintro Y ⟨A1, A2, gY⟩
  clear c0 b0 b1
  go_wp2_with fail
  go_loopw [6] (fun v6 wr => ∃ s : Nat, s ≤ 6 ∧ v6 = .int .i64 (5 - (s : Int)) ∧ Hid (ZArr wr 173 2 w.heap.size (sdF bs bd)) ∧ Hid (ZArr wr 119 3 (w.heap.size + 1) (wayF (pkD m z s))) ∧ Gr w wr) (fun v6 _ => (intOf v6 + 1).toNat)
  case atStart => exact ⟨0, by omega, by simp, A1, A2, gY⟩
  case round =>
    clear A1 A2 gY
    obtain ⟨s, hs6, rfl, A1, A2, gw⟩ := hrel
    by_cases hs : s < 6
    · obtain ⟨r, hr⟩ : ∃ r : Nat, 5 - (s : Int) = (r : Int) := ⟨(5 - (s : Int)).toNat, by omega⟩
      have hr6 : r < 6 := by omega
      have er : 5 - s = r := by omega
      have HPS := hide (HPS0.out s r er)
      have HMB := hide (HMB0.out r)
      have hcb := hcs r
      have hsb := hsd r
      have hr0 : (0 : Int) ≤ (r : Int) := by omega
      have hri : (r : Int) < 6 := by omega
      obtain ⟨x1, x2⟩ := (HM.out _ gw).heard hr6 ht
      have hpw := (HM.out _ gw).lt
      rw [hr]
      have HR := hide hr
      clear hr er
      go_upto_region 7 with (fail)
      refine wp_gen (fun X => Hid (ZArr X 173 2 wr.heap.size (sdF (m.heard r z).1 (m.heard r z).2)) ∧ Hid (ZArr X 173 2 w.heap.size (sdF bs bd)) ∧ Hid (ZArr X 119 3 (w.heap.size + 1) (wayF (pkD m z s))) ∧ Gr w X) ⟨ZArr.new wr 173 2 (sdF (m.heard r z).1 (m.heard r z).2), A1.out.gr ((Gr.refl _).alloc _), A2.out.gr ((Gr.refl _).alloc _), gw.alloc _⟩ ?_
      rintro X ⟨A0, A1', A2', gX⟩
      clear A1 A2 gw x1 x2 hpw
      have A1 := A1'
      have A2 := A2'
      clear A1' A2'
      generalize wr.heap.size = q at *
      have k0 : X.cell? ⟨q, 0, none⟩ = some (iv (m.heard r z).1) := A0.out.cell (by omega)
      have k1 : X.cell? ⟨q, 1, none⟩ = some (iv (m.heard r z).2) := A0.out.cell (by omega)
      have k2 : X.cell? ⟨w.heap.size, 0, none⟩ = some (iv bs) := A1.out.cell (by omega)
      have k3 : X.cell? ⟨w.heap.size, 1, none⟩ = some (iv bd) := A1.out.cell (by omega)
      have k4 := (HM.out _ gX).cost hr6
      have j0 := A0.out.lt
      have j1 := A1.out.lt
      have j2 := A2.out.lt
      have j3 := (HM.out _ gX).lt
      generalize hhv : m.heard r z = hv at *
      obtain ⟨hs1, hd1⟩ := hv
      generalize hcv : m.cost r = cc at *
      simp only at k0 k1 k2 k3 hsb HMB
      have wb : IntKind.i64.wrap (hd1 + cc) = hd1 + cc := by rw [IntKind.wrap_i64]; omega
      by_cases hc0 : cc = 0
      · have g1 : (cc == 0) = true := by simpa using hc0
        have HPK : Hid (pkD m z (s + 1) = pkD m z s) := by unfold Hid; rw [HPS.out, if_neg (by rw [HMB.out]; simp [hc0])]
        clear hcv HMB HPS
        subst hc0
        go_wp2_with fail
        refine wp_region_ext (by kernel_rfl) (by kernel_rfl) ?_
        repeat (go_big_quiet_step (fail))
        refine wpQuiet_nil ?_
        rintro _ ⟨d1, rfl⟩
        go_wp2_with fail
        go_roundw
        case rel => exact ⟨s + 1, by omega, by congr 1; have := HR.out; omega, A1.out.gr d1.gr, by rw [HPK.out]; exact A2.out.gr d1.gr, gX.trans d1.gr⟩
        case measure => have := HR.out; simp [intOf]; try omega
      · have g1 : (cc == 0) = false := by simpa using hc0
        by_cases h2 : hd1 + cc < 200
        · have g2 : decide ((200 : Int) ≤ hd1 + cc) = false := decide_eq_false (by omega)
          cases hbt : bet hs1 hd1 bs bd
          · have HB1 := hide hbt
            have HPK : Hid (pkD m z (s + 1) = pkD m z s) := by unfold Hid; rw [HPS.out, if_neg (by rw [HMB.out]; simp [hbt])]
            clear HMB HPS hbt hc0 h2
            go_wp2_with fail
            refine wp_region_ext (by kernel_rfl) (by kernel_rfl) ?_
            repeat (go_big_quiet_step ((go_at_call 145; with_reducible exact rbetter_ext HB1.out _)))
            refine wpQuiet_nil ?_
            rintro _ ⟨d1, rfl⟩
            go_wp2_with fail
            go_roundw
            case rel => exact ⟨s + 1, by omega, by congr 1; have := HR.out; omega, A1.out.gr d1.gr, by rw [HPK.out]; exact A2.out.gr d1.gr, gX.trans d1.gr⟩
            case measure => have := HR.out; simp [intOf]; try omega
          · have HB1 := hide hbt
            have hw9 : wayBy m z r = (hs1, hd1 + cc, (r : Int)) := by unfold wayBy; rw [hhv, hcv]
            have HPK0 : Hid (pkD m z (s + 1) = if (pkD m z s).2.2 = -1 ∨ bet (pkD m z s).1 (pkD m z s).2.1 hs1 (hd1 + cc) = false then (hs1, hd1 + cc, (r : Int)) else pkD m z s) := by unfold Hid; rw [HPS.out, if_pos (by rw [HMB.out, hbt]; simp [hc0, h2]), hw9]
            clear HMB HPS hbt hc0 h2 hw9
            go_wp2_with fail
            refine wp_region_ext (by kernel_rfl) (by kernel_rfl) ?_
            repeat (go_big_quiet_step ((go_at_call 145; with_reducible exact rbetter_ext HB1.out _)))
            refine wpQuiet_nil ?_
            rintro _ ⟨d1, rfl⟩
            go_upto_region 8 with (fail)
            refine wp_gen (fun V => Hid (ZArr V 173 2 q (sdF hs1 hd1)) ∧ Hid (ZArr V 173 2 w.heap.size (sdF bs bd)) ∧ Hid (ZArr V 119 3 (w.heap.size + 1) (wayF (pkD m z s))) ∧ Gr w V) ⟨A0.out.gr d1.gr, A1.out.gr d1.gr, A2.out.gr d1.gr, gX.trans d1.gr⟩ ?_
            clear A0 A1 A2 gX k0 k1 k2 k3 k4 j0 j1 j2 j3
            rintro X2 ⟨A0, A1, A2, gX⟩
            generalize pkD m z s = pw at *
            obtain ⟨ps, pd, ph⟩ := pw
            simp only at HPK0
            have k0 : X2.cell? ⟨q, 0, none⟩ = some (iv hs1) := A0.out.cell (by omega)
            have k1 : X2.cell? ⟨q, 1, none⟩ = some (iv hd1) := A0.out.cell (by omega)
            have k2 : X2.cell? ⟨w.heap.size, 0, none⟩ = some (iv bs) := A1.out.cell (by omega)
            have k3 : X2.cell? ⟨w.heap.size, 1, none⟩ = some (iv bd) := A1.out.cell (by omega)
            have y0 : X2.cell? ⟨w.heap.size + 1, 0, none⟩ = some (iv ps) := A2.out.cell (by omega)
            have y1 : X2.cell? ⟨w.heap.size + 1, 1, none⟩ = some (iv pd) := A2.out.cell (by omega)
            have y2 : X2.cell? ⟨w.heap.size + 1, 2, none⟩ = some (iv ph) := A2.out.cell (by omega)
            have k4 := (HM.out _ gX).cost hr6
            rw [hcv] at k4
            have j0 := A0.out.lt
            have j1 := A1.out.lt
            have j2 := A2.out.lt
            have j3 := (HM.out _ gX).lt
            by_cases hph : ph = -1
            · subst hph
              have HPK : Hid (pkD m z (s + 1) = (hs1, hd1 + cc, (r : Int))) := by unfold Hid; rw [HPK0.out, if_pos (.inl rfl)]
              clear HPK0
              go_wp2_with fail
              refine wp_region_ext (by kernel_rfl) (by kernel_rfl) ?_
              repeat (go_big_quiet_step (fail))
              refine wpQuiet_nil ?_
              rintro _ ⟨d2, rfl⟩
              go_upto_region 9 with (fail)
              refine wp_gen (fun V => Hid (ZArr V 173 2 q (sdF hs1 hd1)) ∧ Hid (ZArr V 173 2 w.heap.size (sdF bs bd)) ∧ Hid (ZArr V 119 3 (w.heap.size + 1) (wayF (ps, pd, -1))) ∧ Gr w V) ⟨A0.out.gr d2.gr, A1.out.gr d2.gr, A2.out.gr d2.gr, gX.trans d2.gr⟩ ?_
              rintro V ⟨V0, V1, V2, gV⟩
              have v0 : V.cell? ⟨q, 0, none⟩ = some (iv hs1) := V0.out.cell (by omega)
              have v1 : V.cell? ⟨q, 1, none⟩ = some (iv hd1) := V0.out.cell (by omega)
              have v2 : V.cell? ⟨w.heap.size + 1, 0, none⟩ = some (iv ps) := V2.out.cell (by omega)
              have v3 : V.cell? ⟨w.heap.size + 1, 1, none⟩ = some (iv pd) := V2.out.cell (by omega)
              have v4 : V.cell? ⟨w.heap.size + 1, 2, none⟩ = some (iv (-1)) := V2.out.cell (by omega)
              have v5 := (HM.out _ gV).cost hr6
              rw [hcv] at v5
              have fz := V2.out.free
              have i0 := V0.out.lt
              have i1 := V2.out.lt
              have i2 := (HM.out _ gV).lt
              have S2 := hide (V2.out.put3 hs1 (hd1 + cc) (r : Int))
              have S1 := hide (((V1.out.other (q := w.heap.size + 1) (by omega) 0 (iv hs1)).other (q := w.heap.size + 1) (by omega) 1 (iv (hd1 + cc))).other (q := w.heap.size + 1) (by omega) 2 (iv (r : Int)))
              have SG := hide (gr_put3 (p := w.heap.size + 1) gV (by omega) (iv hs1) (iv (hd1 + cc)) (iv (r : Int)))
              clear A0 A1 A2 V0 V1 V2 k0 k1 k2 k3 k4 y0 y1 y2 j0 j1 j2 j3
              go_still_tail 13, (by kernel_rfl)
              go_wp2_with fail
              go_roundw
              case rel => exact ⟨s + 1, by omega, by congr 1; have := HR.out; omega, S1.out.gr (Gr.refl _).drew, by rw [HPK.out]; exact S2.out.gr (Gr.refl _).drew, SG.out.drew⟩
              case measure => have := HR.out; simp [intOf]; try omega
            · have hpb : (ph == -1) = false := by simpa using hph
              cases hb2 : bet ps pd hs1 (hd1 + cc)
              · have HB2 := hide hb2
                have HPK : Hid (pkD m z (s + 1) = (hs1, hd1 + cc, (r : Int))) := by unfold Hid; rw [HPK0.out, if_pos (.inr hb2)]
                clear HPK0 hb2 hph
                go_wp2_with fail
                refine wp_region_ext (by kernel_rfl) (by kernel_rfl) ?_
                repeat (go_big_quiet_step ((go_at_call 145; with_reducible exact rbetter_ext HB2.out _)))
                refine wpQuiet_nil ?_
                rintro _ ⟨d2, rfl⟩
                go_upto_region 9 with (fail)
                refine wp_gen (fun V => Hid (ZArr V 173 2 q (sdF hs1 hd1)) ∧ Hid (ZArr V 173 2 w.heap.size (sdF bs bd)) ∧ Hid (ZArr V 119 3 (w.heap.size + 1) (wayF (ps, pd, ph))) ∧ Gr w V) ⟨A0.out.gr d2.gr, A1.out.gr d2.gr, A2.out.gr d2.gr, gX.trans d2.gr⟩ ?_
                rintro V ⟨V0, V1, V2, gV⟩
                have v0 : V.cell? ⟨q, 0, none⟩ = some (iv hs1) := V0.out.cell (by omega)
                have v1 : V.cell? ⟨q, 1, none⟩ = some (iv hd1) := V0.out.cell (by omega)
                have v2 : V.cell? ⟨w.heap.size + 1, 0, none⟩ = some (iv ps) := V2.out.cell (by omega)
                have v3 : V.cell? ⟨w.heap.size + 1, 1, none⟩ = some (iv pd) := V2.out.cell (by omega)
                have v4 : V.cell? ⟨w.heap.size + 1, 2, none⟩ = some (iv ph) := V2.out.cell (by omega)
                have v5 := (HM.out _ gV).cost hr6
                rw [hcv] at v5
                have fz := V2.out.free
                have i0 := V0.out.lt
                have i1 := V2.out.lt
                have i2 := (HM.out _ gV).lt
                have S2 := hide (V2.out.put3 hs1 (hd1 + cc) (r : Int))
                have S1 := hide (((V1.out.other (q := w.heap.size + 1) (by omega) 0 (iv hs1)).other (q := w.heap.size + 1) (by omega) 1 (iv (hd1 + cc))).other (q := w.heap.size + 1) (by omega) 2 (iv (r : Int)))
                have SG := hide (gr_put3 (p := w.heap.size + 1) gV (by omega) (iv hs1) (iv (hd1 + cc)) (iv (r : Int)))
                clear A0 A1 A2 V0 V1 V2 k0 k1 k2 k3 k4 y0 y1 y2 j0 j1 j2 j3
                go_still_tail 13, (by kernel_rfl)
                go_wp2_with fail
                go_roundw
                case rel => exact ⟨s + 1, by omega, by congr 1; have := HR.out; omega, S1.out.gr (Gr.refl _).drew, by rw [HPK.out]; exact S2.out.gr (Gr.refl _).drew, SG.out.drew⟩
                case measure => have := HR.out; simp [intOf]; try omega
              · have HB2 := hide hb2
                have HPK : Hid (pkD m z (s + 1) = (ps, pd, ph)) := by unfold Hid; rw [HPK0.out, if_neg (by simp [hph, hb2])]
                clear HPK0 hb2 hph
                go_wp2_with fail
                refine wp_region_ext (by kernel_rfl) (by kernel_rfl) ?_
                repeat (go_big_quiet_step ((go_at_call 145; with_reducible exact rbetter_ext HB2.out _)))
                refine wpQuiet_nil ?_
                rintro _ ⟨d2, rfl⟩
                go_wp2_with fail
                go_roundw
                case rel => exact ⟨s + 1, by omega, by congr 1; have := HR.out; omega, A1.out.gr d2.gr, by rw [HPK.out]; exact A2.out.gr d2.gr, gX.trans d2.gr⟩
                case measure => have := HR.out; simp [intOf]; try omega
        · have g2 : decide ((200 : Int) ≤ hd1 + cc) = true := decide_eq_true (by omega)
          have HPK : Hid (pkD m z (s + 1) = pkD m z s) := by unfold Hid; rw [HPS.out, if_neg (by rw [HMB.out]; simp [h2])]
          clear HMB HPS hc0 h2
          go_wp2_with fail
          refine wp_region_ext (by kernel_rfl) (by kernel_rfl) ?_
          repeat (go_big_quiet_step (fail))
          refine wpQuiet_nil ?_
          rintro _ ⟨d1, rfl⟩
          go_wp2_with fail
          go_roundw
          case rel => exact ⟨s + 1, by omega, by congr 1; have := HR.out; omega, A1.out.gr d1.gr, by rw [HPK.out]; exact A2.out.gr d1.gr, gX.trans d1.gr⟩
          case measure => have := HR.out; simp [intOf]; try omega
    · have es : s = 6 := by omega
      subst es
      clear hs hs6
      rw [show (5 : Int) - ((6 : Nat) : Int) = -1 from rfl]
      clear HPS0 HMB0 HP0
      generalize pkD m z 6 = pw at *
      obtain ⟨ps, pd, ph⟩ := pw
      simp only at HLK
      have hpw : p ≠ w.heap.size := by omega
      have hpw1 : p ≠ w.heap.size + 1 := by omega
      go_upto_region 10 with (fail)
      have y0 : wr.cell? ⟨w.heap.size + 1, 0, none⟩ = some (iv ps) := A2.out.cell (by omega)
      have y1 : wr.cell? ⟨w.heap.size + 1, 1, none⟩ = some (iv pd) := A2.out.cell (by omega)
      have y2 : wr.cell? ⟨w.heap.size + 1, 2, none⟩ = some (iv ph) := A2.out.cell (by omega)
      have fz := ZArr.free (HM.out _ gw)
      obtain ⟨q0, q1, q2⟩ := (HM.out _ gw).ways ht
      have j2 := A2.out.lt
      have j3 := (HM.out _ gw).lt
      have SM := hide ((HM.out _ gw).setWays ht ps pd ph)
      have S1 := hide (((A1.out.other (q := p) (by omega) (79 + z * 3) (iv ps)).other (q := p) (by omega) (79 + z * 3 + 1) (iv pd)).other (q := p) (by omega) (79 + z * 3 + 2) (iv ph))
      have S2 := hide (((A2.out.other (q := p) (by omega) (79 + z * 3) (iv ps)).other (q := p) (by omega) (79 + z * 3 + 1) (iv pd)).other (q := p) (by omega) (79 + z * 3 + 2) (iv ph))
      have SW := hide ((((gw.wr p).set (79 + z * 3) (iv ps)).set (79 + z * 3 + 1) (iv pd)).set (79 + z * 3 + 2) (iv ph))
      clear A1 A2 gw
      go_still_tail 6, (by kernel_rfl)
      go_upto_region 11 with (fail)
      refine wp_gen (fun V => Hid (MAt V p { m with ways := updW m.ways z (ps, pd, ph) }) ∧ Hid (ZArr V 173 2 w.heap.size (sdF bs bd)) ∧ Hid (ZArr V 119 3 (w.heap.size + 1) (wayF (ps, pd, ph))) ∧ Hid (Wr p w V)) ⟨SM.out.gr (Gr.refl _).drew, S1.out.gr (Gr.refl _).drew, S2.out.gr (Gr.refl _).drew, SW.out.trans ((Gr.refl _).drew.wr p)⟩ ?_
      clear SM S1 S2 SW y0 y1 y2 q0 q1 q2 fz j2 j3
      rintro V ⟨M0, A1, A2, gW⟩
      have k2 : V.cell? ⟨w.heap.size, 0, none⟩ = some (iv bs) := A1.out.cell (by omega)
      have k3 : V.cell? ⟨w.heap.size, 1, none⟩ = some (iv bd) := A1.out.cell (by omega)
      have y0 : V.cell? ⟨w.heap.size + 1, 0, none⟩ = some (iv ps) := A2.out.cell (by omega)
      have y1 : V.cell? ⟨w.heap.size + 1, 1, none⟩ = some (iv pd) := A2.out.cell (by omega)
      have y2 : V.cell? ⟨w.heap.size + 1, 2, none⟩ = some (iv ph) := A2.out.cell (by omega)
      have j1 := A1.out.lt
      have j2 := A2.out.lt
      have j3 := M0.out.lt
      by_cases hph : ph = -1
      · subst hph
        have HL : Hid (lookM m z = { m with ways := updW m.ways z (ps, pd, -1) }) := by unfold Hid; rw [HLK.out, if_neg (by simp)]
        clear HLK
        go_wp2_with fail
        refine bodyPost_end (results_none rfl _ _ _) rfl ?_
        exact ⟨rfl, by rw [HL.out]; exact M0.out, gW.out⟩
      · have hpb : (ph != -1) = true := by simpa using hph
        cases hb2 : bet ps pd bs bd
        · have HB2 := hide hb2
          have HL : Hid (lookM m z = { m with ways := updW m.ways z (ps, pd, ph) }) := by unfold Hid; rw [HLK.out, if_neg (by simp [hb2])]
          clear HLK hb2 hph
          go_wp2_with (go_at_call 145; with_reducible refine (rbetter_is HB2.out _).mono ?_; rintro e _ ⟨rfl, rfl⟩)
          refine bodyPost_end (results_none rfl _ _ _) rfl ?_
          exact ⟨rfl, by rw [HL.out]; exact M0.out, gW.out⟩
        · have HB2 := hide hb2
          have HL : Hid (lookM m z = { m with ways := updW m.ways z (ps, pd, ph), bests := updW m.bests z (ps, pd) }) := by unfold Hid; rw [HLK.out, if_pos ⟨hph, hb2⟩]
          clear HLK hb2 hph
          go_upto_region 12 with (first | (go_at_call 145; with_reducible refine (rbetter_is HB2.out _).mono ?_; rintro e _ ⟨rfl, rfl⟩))
          refine wp_gen (fun V => Hid (MAt V p { m with ways := updW m.ways z (ps, pd, ph) }) ∧ Hid (ZArr V 119 3 (w.heap.size + 1) (wayF (ps, pd, ph))) ∧ Hid (Wr p w V)) ⟨M0.out, A2.out, gW.out⟩ ?_
          clear M0 A1 A2 gW k2 k3 y0 y1 y2 j1 j2 j3
          rintro V2 ⟨M0, A2, gW⟩
          have y0 : V2.cell? ⟨w.heap.size + 1, 0, none⟩ = some (iv ps) := A2.out.cell (by omega)
          have y1 : V2.cell? ⟨w.heap.size + 1, 1, none⟩ = some (iv pd) := A2.out.cell (by omega)
          have fz := ZArr.free M0.out
          obtain ⟨q0, q1⟩ := M0.out.bests ht
          have j2 := A2.out.lt
          have j3 := M0.out.lt
          have SM := hide (M0.out.setBests ht ps pd)
          have SW := hide ((gW.out.set (97 + z * 2) (iv ps)).set (97 + z * 2 + 1) (iv pd))
          clear M0 A2 gW
          go_still_tail 10, (by kernel_rfl)
          go_wp2_with fail
          refine bodyPost_end (results_none rfl _ _ _) rfl ?_
          exact ⟨rfl, by rw [HL.out]; exact SM.out.gr (Gr.refl _).drew, SW.out.trans ((Gr.refl _).drew.wr p)⟩

end Go.Proofs.YtfcknkanbcndjagGreatDoor
