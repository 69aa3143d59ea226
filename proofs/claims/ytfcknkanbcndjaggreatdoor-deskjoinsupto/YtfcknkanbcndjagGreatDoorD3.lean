/- CONTRACTS OF package node: choose. -/
import Derived.Test.YtfcknkanbcndjagGreatDoorD2
namespace Go.Proofs.YtfcknkanbcndjagGreatDoor
open Go.RowKit
attribute [local go_sem] Ext.all Ext.cell Ext.frozen Ext.lt Ext.lt1 Ext.lt2 Ext.ne Ext.ne'
/-- One of the six numbers of an array, for the walk to take. -/
theorem idx_six {C : Array Value} {g : Nat → Int} (hC : #[iv (g 0), iv (g 1), iv (g 2), iv (g 3), iv (g 4), iv (g 5)] = C) {s : Nat} (hs : s < 6) (w : World) :
    (Instr.index 41 (.agg C) (iv s)).run Tryz.prog w = .ok (iv (g s)) w := by
  subst hC
  rcases (show s = 0 ∨ s = 1 ∨ s = 2 ∨ s = 3 ∨ s = 4 ∨ s = 5 by omega) with rfl | rfl | rfl | rfl | rfl | rfl <;> kernel_rfl

set_option maxRecDepth 20000 in
set_option maxHeartbeats 8000000 in
theorem nchoose_any {w : World} {p : Nat} {m : Md} (H : DAt w p m) {z : Nat} (hz : z < 6) (hne : z ≠ m.me) (hcs : ∀ r, 0 ≤ m.cost r ∧ m.cost r ≤ 15) (hsd : ∀ r, 0 ≤ (m.heard r z).2 ∧ (m.heard r z).2 ≤ 200) (hbd : (m.bests z).2 ≤ 200) :
    Calls Tryz.prog 147 #[pv p, iv z] w fun e w' => e = .returned (.tuple #[]) ∧ DAt w' p (lookM m z) ∧ Wr p w w' := by
  have hp := H.lt
  have HPW := hide hp
  obtain ⟨b0, b1⟩ := H.bests hz
  have HM := hide (fun (X : World) (g : Gr w X) => H.gr g)
  have hzi : (z : Int) < 6 := by omega
  have HPS0 : Hid (∀ s : Nat, pkU m z (s + 1) = if mayB m z s = true ∧ bet (wayBy m z s).1 (wayBy m z s).2.1 (pkU m z s).1 (pkU m z s).2.1 = true then wayBy m z s else pkU m z s) := fun s => rfl
  have HP0 : Hid (pkU m z 0 = ((m.bests z).1, 200, -1)) := rfl
  have HLK := hide (look_u m hne hbd)
  have HSD := hide hsd
  have HCS := hide hcs
  generalize hbv : m.bests z = bv at *
  obtain ⟨bs, bd⟩ := bv
  simp only at b0 b1 HP0 HLK hbd
  clear H hne hbv hsd hcs
  go_enter Tryz.func147, Tryz.ntmps147
  go_upto_region 1 with (fail)
  refine wp_gen (fun Y => Hid (ZArr Y 121 2 w.heap.size (sdF bs bd)) ∧ Hid (Gr w Y)) ⟨ZArr.new w 121 2 (sdF bs bd), (Gr.refl _).alloc _⟩ ?_
  clear b0 b1 hp
  rintro Y ⟨A1, gY⟩
  have k0 : Y.cell? ⟨w.heap.size, 0, none⟩ = some (iv bs) := A1.out.cell (by omega)
  have j1 := A1.out.lt
  go_upto_region 2 with (go_at_call 144; with_reducible refine (noWay_any bs _).mono ?_; rintro e _ ⟨rfl, d1, rfl⟩)
  have hq0 : w.heap.size < d1.out.heap.size := d1.lt _ j1
  refine wp_gen (fun Y2 => Hid (ZArr Y2 121 2 w.heap.size (sdF bs bd)) ∧ Hid (ZArr Y2 119 3 d1.out.heap.size (wayF (pkU m z 0))) ∧ Hid (Gr w Y2)) ⟨(A1.out.gr d1.gr).gr ((Gr.refl _).alloc _), ?_, (gY.out.trans d1.gr).alloc _⟩ ?_
  · have := ZArr.new d1.out 119 3 (wayF (pkU m z 0))
    rw [HP0.out] at this ⊢
    exact this
  clear A1 gY k0 j1
  generalize d1.out.heap.size = q at *
  rintro Y2 ⟨A1, A2, gY⟩
  clear d1
  have c0 : Y2.cell? ⟨p, 1, none⟩ = some (iv (m.cost 0)) := (HM.out _ gY.out).cost (j := 0) (by omega)
  have c1 : Y2.cell? ⟨p, 2, none⟩ = some (iv (m.cost 1)) := (HM.out _ gY.out).cost (j := 1) (by omega)
  have c2 : Y2.cell? ⟨p, 3, none⟩ = some (iv (m.cost 2)) := (HM.out _ gY.out).cost (j := 2) (by omega)
  have c3 : Y2.cell? ⟨p, 4, none⟩ = some (iv (m.cost 3)) := (HM.out _ gY.out).cost (j := 3) (by omega)
  have c4 : Y2.cell? ⟨p, 5, none⟩ = some (iv (m.cost 4)) := (HM.out _ gY.out).cost (j := 4) (by omega)
  have c5 : Y2.cell? ⟨p, 6, none⟩ = some (iv (m.cost 5)) := (HM.out _ gY.out).cost (j := 5) (by omega)
  have hp := (HM.out _ gY.out).lt
  go_wp2_with fail
  clear c0 c1 c2 c3 c4 c5
  generalize hC : (#[iv (m.cost 0), iv (m.cost 1), iv (m.cost 2), iv (m.cost 3), iv (m.cost 4), iv (m.cost 5)] : Array Value) = C
  have HIX := hide (fun (s : Nat) (hs : s < 6) => idx_six (g := m.cost) hC hs)
  clear hC
  go_loopw [22] (fun v22 wr => ∃ s : Nat, s ≤ 6 ∧ v22 = .int .i64 (s : Int) ∧ Hid (ZArr wr 121 2 w.heap.size (sdF bs bd)) ∧ Hid (ZArr wr 119 3 q (wayF (pkU m z s))) ∧ Hid (Gr w wr)) (fun v22 _ => (6 - intOf v22).toNat)
  case atStart => exact ⟨0, by omega, rfl, A1, A2, gY⟩
  case round =>
    clear A1 A2 gY hp
    obtain ⟨s, hs6, rfl, A1, A2, gw⟩ := hrel
    by_cases hs : s < 6
    · have hsi : decide ((s : Int) < 6) = true := decide_eq_true (by omega)
      have wk : IntKind.i64.wrap ((s : Int) + 1) = (s : Int) + 1 := by rw [IntKind.wrap_i64]; omega
      have hix := HIX.out s hs
      have HPS := hide (HPS0.out s)
      have hcb := HCS.out s
      have hsb := HSD.out s
      have hs0 : (s : Int) < 6 := by omega
      obtain ⟨x1, x2⟩ := (HM.out _ gw.out).heard hs hz
      have hpw := (HM.out _ gw.out).lt
      go_upto_region 6 with (fail)
      refine wp_gen (fun X => Hid (ZArr X 121 2 wr.heap.size (sdF (m.heard s z).1 (m.heard s z).2)) ∧ Hid (ZArr X 121 2 w.heap.size (sdF bs bd)) ∧ Hid (ZArr X 119 3 q (wayF (pkU m z s))) ∧ Hid (Gr w X)) ⟨ZArr.new wr 121 2 (sdF (m.heard s z).1 (m.heard s z).2), A1.out.gr ((Gr.refl _).alloc _), A2.out.gr ((Gr.refl _).alloc _), gw.out.alloc _⟩ ?_
      rintro X ⟨A0, A1', A2', gX⟩
      clear A1 A2 gw x1 x2 hpw hix
      have A1 := A1'
      have A2 := A2'
      clear A1' A2'
      generalize wr.heap.size = q0 at *
      obtain ⟨mv, hmv⟩ : ∃ mv, mayB m z s = mv := ⟨_, rfl⟩
      have HMV := hide (fun (V : World) (g : Gr w V) => nmay_any (HM.out V g) hs hz hcb hsb hmv)
      have hw9 := hide (show wayBy m z s = ((m.heard s z).1, (m.heard s z).2 + m.cost s, (s : Int)) from rfl)
      have k0 : X.cell? ⟨q0, 0, none⟩ = some (iv (m.heard s z).1) := A0.out.cell (by omega)
      have k1 : X.cell? ⟨q0, 1, none⟩ = some (iv (m.heard s z).2) := A0.out.cell (by omega)
      have j0 := A0.out.lt
      have j2 := A2.out.lt
      cases mv
      · have HPK : Hid (pkU m z (s + 1) = pkU m z s) := by unfold Hid; rw [HPS.out, if_neg (by rw [hmv]; simp)]
        clear HPS hmv hcb hsb hw9
        go_wp2_with (go_at_call 178; with_reducible refine (HMV.out _ gX.out).mono ?_; rintro e _ ⟨rfl, d2, rfl⟩)
        go_roundw
        case rel => exact ⟨s + 1, by omega, by congr 1, A1.out.gr d2.gr, by rw [HPK.out]; exact A2.out.gr d2.gr, gX.out.trans d2.gr⟩
        case measure => simp [intOf]; omega
      · generalize pkU m z s = pw at *
        obtain ⟨ps, pd, ph⟩ := pw
        have HPK0 : Hid (pkU m z (s + 1) = if bet (m.heard s z).1 ((m.heard s z).2 + m.cost s) ps pd = true then ((m.heard s z).1, (m.heard s z).2 + m.cost s, (s : Int)) else (ps, pd, ph)) := by
          unfold Hid
          rw [HPS.out, hmv, hw9.out]
          simp only [true_and]
        clear HPS hmv hw9
        generalize m.heard s z = hv at *
        obtain ⟨hs1, hd1⟩ := hv
        generalize m.cost s = cc at *
        simp only at k0 k1 hsb HPK0
        have y0 : X.cell? ⟨q, 0, none⟩ = some (iv ps) := A2.out.cell (by omega)
        have y1 : X.cell? ⟨q, 1, none⟩ = some (iv pd) := A2.out.cell (by omega)
        have wb : IntKind.i64.wrap (hd1 + cc) = hd1 + cc := by rw [IntKind.wrap_i64]; omega
        cases hb2 : bet hs1 (hd1 + cc) ps pd
        · have HB2 := hide hb2
          have HPK : Hid (pkU m z (s + 1) = (ps, pd, ph)) := by unfold Hid; rw [HPK0.out, hb2, if_neg (by simp)]
          clear HPK0 hb2 hcb hsb
          go_wp2_with (first | (go_at_call 178; with_reducible refine (HMV.out _ gX.out).mono ?_; rintro e _ ⟨rfl, d2, rfl⟩) | (go_at_call 179; with_reducible refine (nbetter_is HB2.out _).mono ?_; rintro e _ ⟨rfl, rfl⟩))
          go_roundw
          case rel => exact ⟨s + 1, by omega, by congr 1, A1.out.gr d2.gr, by rw [HPK.out]; exact A2.out.gr d2.gr, gX.out.trans d2.gr⟩
          case measure => simp [intOf]; omega
        · have HB2 := hide hb2
          have HPK : Hid (pkU m z (s + 1) = (hs1, hd1 + cc, (s : Int))) := by unfold Hid; rw [HPK0.out, hb2, if_pos rfl]
          clear HPK0 hb2 hcb hsb
          go_upto_region 7 with (first | (go_at_call 178; with_reducible refine (HMV.out _ gX.out).mono ?_; rintro e _ ⟨rfl, d2, rfl⟩) | (go_at_call 179; with_reducible refine (nbetter_is HB2.out _).mono ?_; rintro e _ ⟨rfl, rfl⟩))
          refine wp_gen (fun V => Hid (ZArr V 121 2 q0 (sdF hs1 hd1)) ∧ Hid (ZArr V 121 2 w.heap.size (sdF bs bd)) ∧ Hid (ZArr V 119 3 q (wayF (ps, pd, ph))) ∧ Hid (Gr w V)) ⟨A0.out.gr d2.gr, A1.out.gr d2.gr, A2.out.gr d2.gr, gX.out.trans d2.gr⟩ ?_
          rintro V ⟨V0, V1, V2, gV⟩
          have v0 : V.cell? ⟨q0, 0, none⟩ = some (iv hs1) := V0.out.cell (by omega)
          have v1 : V.cell? ⟨q0, 1, none⟩ = some (iv hd1) := V0.out.cell (by omega)
          have v2 : V.cell? ⟨q, 0, none⟩ = some (iv ps) := V2.out.cell (by omega)
          have v3 : V.cell? ⟨q, 1, none⟩ = some (iv pd) := V2.out.cell (by omega)
          have v4 : V.cell? ⟨q, 2, none⟩ = some (iv ph) := V2.out.cell (by omega)
          have fz := V2.out.free
          have i0 := V0.out.lt
          have i1 := V2.out.lt
          have hqw : w.heap.size ≠ q := by omega
          have S2 := hide (V2.out.put3 hs1 (hd1 + cc) (s : Int))
          have S1 := hide (((V1.out.other (q := q) hqw 0 (iv hs1)).other (q := q) hqw 1 (iv (hd1 + cc))).other (q := q) hqw 2 (iv (s : Int)))
          have SG := hide (gr_put3 (p := q) gV.out (by omega) (iv hs1) (iv (hd1 + cc)) (iv (s : Int)))
          clear A0 A1 A2 V0 V1 V2 k0 k1 y0 y1 j0 j2 d2 gX
          go_wp2_with fail
          go_roundw
          case rel => exact ⟨s + 1, by omega, by congr 1, S1, by rw [HPK.out]; exact S2, SG⟩
          case measure => simp [intOf]; omega
    · have hsi : decide ((s : Int) < 6) = false := decide_eq_false (by omega)
      have es : s = 6 := by omega
      subst es
      clear hs hs6 HPS0 HP0 HIX
      generalize pkU m z 6 = pw at *
      obtain ⟨ps, pd, ph⟩ := pw
      simp only at HLK
      go_upto_region 9 with (fail)
      have y0 : wr.cell? ⟨q, 0, none⟩ = some (iv ps) := A2.out.cell (by omega)
      have y1 : wr.cell? ⟨q, 1, none⟩ = some (iv pd) := A2.out.cell (by omega)
      have y2 : wr.cell? ⟨q, 2, none⟩ = some (iv ph) := A2.out.cell (by omega)
      have hpw0 := HPW.out
      have hpq : p ≠ q := by omega
      have fz := ZArr.free (HM.out _ gw.out)
      obtain ⟨q0, q1, q2⟩ := (HM.out _ gw.out).ways hz
      have j2 := A2.out.lt
      have j3 := (HM.out _ gw.out).lt
      have SM := hide ((HM.out _ gw.out).setWays hz ps pd ph)
      have S1 := hide (((A1.out.other (q := p) (by omega) (79 + z * 3) (iv ps)).other (q := p) (by omega) (79 + z * 3 + 1) (iv pd)).other (q := p) (by omega) (79 + z * 3 + 2) (iv ph))
      have S2 := hide (((A2.out.other (q := p) (by omega) (79 + z * 3) (iv ps)).other (q := p) (by omega) (79 + z * 3 + 1) (iv pd)).other (q := p) (by omega) (79 + z * 3 + 2) (iv ph))
      have SW := hide ((((gw.out.wr p).set (79 + z * 3) (iv ps)).set (79 + z * 3 + 1) (iv pd)).set (79 + z * 3 + 2) (iv ph))
      clear A1 A2 gw
      go_still_tail 6, (by kernel_rfl)
      go_upto_region 10 with (fail)
      refine wp_gen (fun V => Hid (DAt V p { m with ways := updW m.ways z (ps, pd, ph) }) ∧ Hid (ZArr V 121 2 w.heap.size (sdF bs bd)) ∧ Hid (ZArr V 119 3 q (wayF (ps, pd, ph))) ∧ Hid (Wr p w V)) ⟨SM.out.gr (Gr.refl _).drew, S1.out.gr (Gr.refl _).drew, S2.out.gr (Gr.refl _).drew, SW.out.trans ((Gr.refl _).drew.wr p)⟩ ?_
      clear SM S1 S2 SW y0 y1 y2 q0 q1 q2 fz j2 j3
      rintro V ⟨M0, A1, A2, gW⟩
      have k2 : V.cell? ⟨w.heap.size, 0, none⟩ = some (iv bs) := A1.out.cell (by omega)
      have k3 : V.cell? ⟨w.heap.size, 1, none⟩ = some (iv bd) := A1.out.cell (by omega)
      have y0 : V.cell? ⟨q, 0, none⟩ = some (iv ps) := A2.out.cell (by omega)
      have y1 : V.cell? ⟨q, 1, none⟩ = some (iv pd) := A2.out.cell (by omega)
      have j1 := A1.out.lt
      have j2 := A2.out.lt
      have j3 := M0.out.lt
      cases hb2 : bet ps pd bs bd
      · have HB2 := hide hb2
        have HL : Hid (lookM m z = { m with ways := updW m.ways z (ps, pd, ph) }) := by unfold Hid; rw [HLK.out, hb2, if_neg (by simp)]
        clear HLK hb2
        go_wp2_with (go_at_call 179; with_reducible refine (nbetter_is HB2.out _).mono ?_; rintro e _ ⟨rfl, rfl⟩)
        refine bodyPost_end (results_none rfl _ _ _) rfl ?_
        exact ⟨rfl, by rw [HL.out]; exact M0.out, gW.out⟩
      · have HB2 := hide hb2
        have HL : Hid (lookM m z = { m with ways := updW m.ways z (ps, pd, ph), bests := updW m.bests z (ps, pd) }) := by unfold Hid; rw [HLK.out, hb2, if_pos rfl]
        clear HLK hb2
        go_upto_region 11 with (first | (go_at_call 179; with_reducible refine (nbetter_is HB2.out _).mono ?_; rintro e _ ⟨rfl, rfl⟩))
        refine wp_gen (fun V => Hid (DAt V p { m with ways := updW m.ways z (ps, pd, ph) }) ∧ Hid (ZArr V 119 3 q (wayF (ps, pd, ph))) ∧ Hid (Wr p w V)) ⟨M0.out, A2.out, gW.out⟩ ?_
        clear M0 A1 A2 gW k2 k3 y0 y1 j1 j2 j3
        rintro V2 ⟨M0, A2, gW⟩
        have y0 : V2.cell? ⟨q, 0, none⟩ = some (iv ps) := A2.out.cell (by omega)
        have y1 : V2.cell? ⟨q, 1, none⟩ = some (iv pd) := A2.out.cell (by omega)
        have fz := ZArr.free M0.out
        obtain ⟨q0, q1⟩ := M0.out.bests hz
        have j2 := A2.out.lt
        have j3 := M0.out.lt
        have SM := hide (M0.out.setBests hz ps pd)
        have SW := hide ((gW.out.set (97 + z * 2) (iv ps)).set (97 + z * 2 + 1) (iv pd))
        clear M0 A2 gW
        go_still_tail 10, (by kernel_rfl)
        go_wp2_with fail
        refine bodyPost_end (results_none rfl _ _ _) rfl ?_
        exact ⟨rfl, by rw [HL.out]; exact SM.out.gr (Gr.refl _).drew, SW.out.trans ((Gr.refl _).drew.wr p)⟩

end Go.Proofs.YtfcknkanbcndjagGreatDoor
