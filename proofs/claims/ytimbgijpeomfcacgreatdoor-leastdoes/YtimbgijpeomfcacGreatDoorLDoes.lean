/- LeastDoes: the walk. -/
import Derived.Test.YtimbgijpeomfcacGreatDoorS10c
import Derived.Test.YtimbgijpeomfcacGreatDoorW8
import Derived.Test.YtimbgijpeomfcacGreatDoorP3
import Derived.Test.YtimbgijpeomfcacGreatDoorP4
import Derived.Test.YtimbgijpeomfcacGreatDoorR2
import Derived.Test.YtimbgijpeomfcacGreatDoorD1
import Derived.Test.YtimbgijpeomfcacGreatDoorQ21
import Derived.Test.YtimbgijpeomfcacGreatDoorLAid
namespace Go.Proofs.YtimbgijpeomfcacGreatDoor
open Go.RowKit
attribute [local go_sem] Ext.all Ext.cell Ext.frozen Ext.lt Ext.lt1 Ext.lt2 Ext.ne Ext.ne'

theorem Both.grw {w w' : World} {tb : Nat} {ro : Option Addr} {rs : List Rt} (h : Both w w' tb ro rs) : Gr w w' := h.old

theorem Is.mk' {B : World} {M : Nat → Prop} {tb : Nat} {v : Value} {rs : List Rt} (h : TabS B M tb v rs) : Is B tb rs := ⟨M, v, h⟩
theorem want_any {B : World} {g : Nat} {rs : List Rt} (hT : Tab rs) (H : Nums B g 0 256 (fun j => lookL rs j)) :
    Calls Tryz.prog 6 #[pfx 0 0, .slice (some ⟨g, 0, none⟩) 256 256, iv (-1)] B fun e w' => ∃ ao c, e = .returned (.slice ao (lstL rs).length c) ∧ RowAt w' (fun _ => True) ao (lstL rs) ∧ Gr B w' := by
  refine (leastOf_any (fun j => lookL rs j) (fun j => hT.hops j) g 8 0 0 0 256 256 (-1) B Sp.root rfl (by decide) (by decide) (by decide) H).mono ?_
  rintro e w' ⟨v, rfl, o, g⟩
  obtain ⟨ao, c, rfl, _, hR⟩ := o.shape
  exact ⟨ao, c, rfl, hR.mono (fun _ _ _ => trivial), g⟩

set_option maxRecDepth 100000 in
set_option maxHeartbeats 8000000 in
theorem ldoes_any (w : World) (h64 : Tab64 w) (N1 N2 : Nat → Prop) (ao1 ao2 ao3 : Option Addr) (n1 n2 n3 c1 c2 c3 : Nat) (ls1 ls2 : List Rt) (cs : List Ch)
    (H1 : n1 ≤ 120 → RowAt w N1 ao1 ls1 ∧ ls1.length = n1) (H2 : n2 ≤ 120 → RowAt w N2 ao2 ls2 ∧ ls2.length = n2) (H3 : n3 ≤ 120 → ChAt w (fun k => k < w.heap.size) ao3 cs ∧ cs.length = n3) :
    Calls Tryz.prog 3 #[.slice ao1 n1 c1, .slice ao2 n2 c2, .slice ao3 n3 c3] w fun e w' => e = .returned (.bool true) ∧ Gr w w' := by
  have HB := hide (lbegun_any w h64)
  by_cases hbig : 120 < n1
  · have hd : decide ((120 : Int) < (n1 : Int)) = true := decide_eq_true (by omega)
    clear H1 H2 H3 h64
    go_enter Tryz.func3, Tryz.ntmps3
    go_wp2_with (go_at_call 4; refine HB.out.mono ?_; rintro e w1 ⟨rfl, g1⟩)
    go_ret
    exact ⟨rfl, g1⟩
  have hd : decide ((120 : Int) < (n1 : Int)) = false := decide_eq_false (by omega)
  by_cases hbig2 : 120 < n2
  · have hd2 : decide ((120 : Int) < (n2 : Int)) = true := decide_eq_true (by omega)
    clear H1 H2 H3 h64
    go_enter Tryz.func3, Tryz.ntmps3
    go_wp2_with (go_at_call 4; refine HB.out.mono ?_; rintro e w1 ⟨rfl, g1⟩)
    go_ret
    exact ⟨rfl, g1⟩
  have hd2 : decide ((120 : Int) < (n2 : Int)) = false := decide_eq_false (by omega)
  by_cases hbig3 : 120 < n3
  · have hd3 : decide ((120 : Int) < (n3 : Int)) = true := decide_eq_true (by omega)
    clear H1 H2 H3 h64
    go_enter Tryz.func3, Tryz.ntmps3
    go_wp2_with (go_at_call 4; refine HB.out.mono ?_; rintro e w1 ⟨rfl, g1⟩)
    go_ret
    exact ⟨rfl, g1⟩
  have hd3 : decide ((120 : Int) < (n3 : Int)) = false := decide_eq_false (by omega)
  obtain ⟨r1, rfl⟩ := H1 (by omega)
  obtain ⟨r2, rfl⟩ := H2 (by omega)
  obtain ⟨r3, hn3⟩ := H3 (by omega)
  clear H1 H2 H3
  have HT1 := hide (fun (wX : World) (gX : Gr w wX) => tablesC_any wX N1 ao1 c1 ls1 (r1.gr gX) (by omega))
  have HT2 := hide (fun (wX : World) (gX : Gr w wX) => tablesC_any wX N2 ao2 c2 ls2 (r2.gr gX) (by omega))
  have HC := hide r3
  have TR := hide (setAll_tab ls1)
  have TS := hide (setAll_tab ls2)
  have H64 := hide h64
  clear r1 r2 r3 h64
  generalize setAll ls1 = rs at *
  generalize setAll ls2 = ss at *
  go_enter Tryz.func3, Tryz.ntmps3
  go_upto_region 7 with (first
    | (go_at_call 4; refine HB.out.mono ?_; rintro e w1 ⟨rfl, g1⟩; have G1 := hide g1; clear g1)
    | (go_at_call 5; with_reducible refine (HT1.out w1 G1.out).mono ?_; rintro e w2 ⟨tb, ro, cr, rfl, hcr, b2⟩; have B2 := hide b2; have G2 := hide (G1.out.trans b2.grw); have HCR := hide hcr; clear b2 hcr)
    | (go_at_call 5; with_reducible refine (HT2.out w2 G2.out).mono ?_; rintro e w3 ⟨ub, so, cv, rfl, hcv, b3⟩; have B3 := hide b3; have G3 := hide b3.grw; clear b3 hcv)
    | fail)
  obtain ⟨M, v, hS, hR, hM⟩ := B2.out.tab
  obtain ⟨M2, v2, hS2, hR2, _⟩ := B3.out.tab
  have S3 := hide (hS.gr G3.out)
  have R3 := hide (hR.gr G3.out)
  have U3 := hide hS2
  have V3 := hide hR2
  have HM : Hid (∀ k, k < w.heap.size → M k) := fun k hk => hM k (Nat.lt_of_lt_of_le hk (Below.size G1.out))
  have GW3 := hide (G2.out.trans G3.out)
  have HMW : Hid (w.heap.size ≤ w3.heap.size) := Below.size GW3.out
  clear B2 B3 hS hR hS2 hR2 hM HT1 HT2 HB G1 G2 G3 hd hd2 hd3
  have HL := hide (lst_tab TR.out)
  have hl := HL.out.len
  have hrl := TR.out.len
  have hsl := TS.out.len
  have HALL := hide (fun (wX : World) (gX : Gr w3 wX) => allOf_gr R3.out TR.out.toSrt cr wX gX)
  have HLO := hide (fun (wX : World) (gX : Gr w3 wX) => (Is.gr ⟨M, v, S3.out⟩ gX).lof (H64.out.gr (GW3.out.trans gX)) TR.out rfl)
  have HCN := hide (fun (wX : World) (gX : Gr w3 wX) => (Is.gr ⟨M, v, S3.out⟩ gX).lcount (H64.out.gr (GW3.out.trans gX)) TR.out rfl)
  have HDF := hide (fun (wX : World) (gX : Gr w3 wX) => Is.diff (Is.gr ⟨M, v, S3.out⟩ gX) (Is.gr ⟨M2, v2, U3.out⟩ gX) TR.out TS.out (fun _ => pdq_ok (by omega)))
  have HCH := hide (fun (wX : World) (gX : Gr w3 wX) => changesOf_any wX M M2 ro so cr cv rs ss (R3.out.gr gX) (V3.out.gr gX) TR.out TS.out HCR.out)
  have HWN := hide (fun (B : World) (g : Nat) (h : Nums B g 0 256 (fun j => lookL rs j)) => want_any TR.out h)
  generalize lstL rs = want at *
  have hle : ((want.length : Int) ≤ 40) := by omega
  have hwl : ((want.length : Int) != (want.length : Int)) = false := by simp
  go_upto_region 9 with (first
    | (go_at_call 7; with_reducible refine (HALL.out _ (Gr.refl _)).mono ?_; rintro e w4 ⟨g, rfl, nm, g4⟩; have NM := hide nm; have G4 := hide g4; clear nm g4)
    | (go_at_call 6; refine (HWN.out _ _ NM.out).mono ?_; rintro e w5 ⟨wo, wc5, rfl, rw5, g5⟩; have RW := hide rw5; have G5 := hide (G4.out.trans g5); clear rw5 g5)
    | (go_at_call 8; with_reducible refine (HLO.out _ G5.out).mono ?_; rintro e w6 ⟨xb, rfl, x6, g6⟩; have X6 := hide x6; have RW6 := hide (RW.out.gr g6); have G6 := hide (G5.out.trans g6); clear x6 g6)
    | fail)
  clear HALL HLO HWN RW NM
  have HUQ : Hid (∀ ds, IsDiff rs ss ds → ds = chgR rs ss) := fun ds h => h.unique (chg_is TR.out TS.out)
  generalize chgR rs ss = chg at *
  go_upto_region 11 with (first
    | (go_at_call 10; with_reducible refine (X6.out.list HL.out).mono ?_; rintro e w7 ⟨ao7, c7, rfl, r7, g7⟩; have G7 := hide (G6.out.trans g7); have S7 := hide (same_any w7 _ _ ao7 wo want.length c7 wc5 want r7 (RW6.out.gr g7) rfl (by omega)); clear r7 g7)
    | (go_at_call 9; with_reducible refine S7.out.mono ?_; rintro e _ ⟨rfl, d8, rfl⟩; have G8 := hide (G7.out.ext d8))
    | (go_at_call 11; with_reducible refine (HCN.out _ G8.out).mono ?_; rintro e w9 ⟨rfl, g9⟩; have G9 := hide (G8.out.trans g9); clear g9)
    | (go_at_call 13; with_reducible refine (HDF.out _ G9.out).mono ?_; rintro e w10 ⟨da, dc, ds, rfl, hD, hCd, hlen, g10⟩; obtain rfl := HUQ.out ds hD; have DC := hide hCd; have G10 := hide (G9.out.trans g10); have HL10 := hide hlen; clear hD hCd g10 hlen)
    | (go_at_call 14; with_reducible refine (HCH.out _ G10.out).mono ?_; rintro e w11 ⟨v11, rfl, o11, g11⟩; obtain ⟨ca, cb, hv11, t11⟩ := o11.shape; subst hv11; have G11 := hide (G10.out.trans g11); have S11 := hide (sameCh_any w11 _ _ da ca dc cb _ _ (DC.out.gr g11) t11 HL10.out HL10.out); rw [decide_eq_true rfl] at S11; clear o11 t11 g11)
    | (go_at_call 12; with_reducible refine S11.out.mono ?_; rintro e _ ⟨rfl, d12, rfl⟩; have G12 := hide (G11.out.ext d12))
    | fail)
  have TX := hide (S3.out.gr G12.out)
  have RX := hide (R3.out.gr G12.out)
  have CX : Hid (ChAt d12.out M ao3 cs) := by
    have h := HC.out.gr (GW3.out.trans G12.out)
    rcases h with h | ⟨b, o, ha, hb, hMb, hc⟩
    · exact .inl h
    · exact .inr ⟨b, o, ha, hb, HM.out b hMb, hc⟩
  have GX := hide (GW3.out.trans G12.out)
  have HFT := hide (doneL_tab TR.out cs)
  have HDO := hide (do_any (m := n3) (c := c3) (ss := (doneL rs cs).1) (code := (doneL rs cs).2) TX.out TR.out CX.out hn3 (by omega) rfl)
  have HDN := hide (fun (w' : World) (K : Kp M d12.out w') => done_any w' M M ro ao3 cr c3 n3 rs cs (RX.out.kept K) TR.out (CX.out.kept K) hn3 (by omega))
  generalize hdl : doneL rs cs = fin at *
  obtain ⟨fs, fc⟩ := fin
  simp only at HFT HDO HDN
  have hfl := HFT.out.len
  clear hdl HCN HDF HCH S7 S11 DC HL10 G7 G8 G9 G10 G11 G4 G5 G6 X6 RW6 HUQ
  have hfc : (fc == fc) = true := by simp
  go_wp2_with (first
    | (go_at_call 15; with_reducible refine HDO.out.mono ?_; rintro e w13 ⟨rfl, v13, s13, k13⟩; have S13 := hide s13; have H14 := hide (HDN.out _ k13); have K13 := hide k13; clear s13 k13)
    | (go_at_call 16; with_reducible refine H14.out.mono ?_; rintro e w14 ⟨fo, fcp, rfl, r14, g14⟩; have R14 := hide r14; have G14 := hide g14; have L14 := hide ((Is.mk' (S13.out.gr g14)).list HFT.out); clear r14 g14)
    | (go_at_call 10; with_reducible refine L14.out.mono ?_; rintro e w15 ⟨ao15, c15, rfl, r15, g15⟩; have S15 := hide (same_any w15 _ _ ao15 fo fs.length c15 fcp fs r15 (R14.out.gr g15) rfl (by omega)); have G15 := hide (G14.out.trans g15); clear r15 g15)
    | (go_at_call 9; with_reducible refine S15.out.mono ?_; rintro e _ ⟨rfl, d16, rfl⟩)
    | fail)
  go_ret
  have e1 : Gr w w13 := Below.trans GX.out (K13.out.below (Below.size GX.out) HM.out)
  exact ⟨rfl, (e1.trans G15.out).ext d16⟩

end Go.Proofs.YtimbgijpeomfcacGreatDoor
