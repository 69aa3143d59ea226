/- TrieDoes: the walk. -/
import Derived.Test.YtmlmcpopkcgflabT9
namespace Go.Proofs.Ytmlmcpopkcgflab
open Go.RowKit
attribute [local go_sem] Ext.all Ext.cell Ext.frozen Ext.lt Ext.lt1 Ext.lt2 Ext.ne Ext.ne'

set_option maxRecDepth 20000 in
set_option maxHeartbeats 4000000 in
theorem tdoes_any (w : World) (N N2 : Nat → Prop) (ao bo : Option Addr) (n m c c' : Nat) (ls ms : List Rt) (a : Int) (H : n ≤ 120 → RowAt w N ao ls ∧ ls.length = n) (K : m ≤ 120 → RowAt w N2 bo ms ∧ ms.length = m) :
    Calls Try.prog 6 #[.slice ao n c, .slice bo m c', .int .i64 a] w fun e w' => e = .returned (.bool true) ∧ ∃ d : Ext w, w' = d.out := by
  by_cases hbig : 120 < n
  · have hd : decide ((120 : Int) < (n : Int)) = true := decide_eq_true (by omega)
    clear H K
    go_enter Try.func6, Try.ntmps6
    go_wp2_with (go_at_call 18; refine (tbegun_any _).mono ?_; rintro e _ ⟨rfl, d1, rfl⟩)
    go_ret
    exact ⟨rfl, _, rfl⟩
  obtain ⟨hrow, rfl⟩ := H (by omega)
  clear H
  have hd : decide ((120 : Int) < (ls.length : Int)) = false := by simp; omega
  by_cases hbig2 : 120 < m
  · have hd2 : decide ((120 : Int) < (m : Int)) = true := decide_eq_true (by omega)
    clear K hrow
    go_enter Try.func6, Try.ntmps6
    go_wp2_with (go_at_call 18; refine (tbegun_any _).mono ?_; rintro e _ ⟨rfl, d1, rfl⟩)
    go_ret
    exact ⟨rfl, _, rfl⟩
  obtain ⟨krow, rfl⟩ := K (by omega)
  clear K
  have hd2 : decide ((120 : Int) < (ms.length : Int)) = false := by simp; omega
  have HT1 := hide (fun (wX : World) (gX : Gr w wX) => tables_gr hrow (by omega) c wX gX)
  have HT2 := hide (fun (wX : World) (gX : Gr w wX) => tables_gr krow (by omega) c' wX gX)
  have TR := hide (setAll_tab ls)
  have TS := hide (setAll_tab ms)
  clear hrow krow
  generalize setAll ls = rs at *
  generalize setAll ms = ss at *
  obtain ⟨x, hx⟩ : ∃ x, lookL rs a = x := ⟨_, rfl⟩
  have HLX := hide hx
  have HTX := hide ((trT_look rs a).trans hx)
  have HNO := hide (fun h => (look_no (rs := rs) (a := a) h).symm.trans hx)
  clear hx
  obtain ⟨z, hz⟩ : ∃ z, eqF (fun j : Nat => lookL rs j) (fun j : Nat => lookL ss j) = z := ⟨_, rfl⟩
  have HZ := hide hz
  clear hz
  obtain ⟨L, hL⟩ : ∃ L, (trT rs).leaves = L := ⟨_, rfl⟩
  have hm : L.length ≤ 256 := by rw [← hL]; exact len_trT rs
  have HLE := hide hL
  have HLO := hide (fun (wX : World) (g : Nat) (h : Nums wX g 0 256 (fun j => lookL rs j)) => (show Calls Try.prog 20 #[pfx 0 0, .slice (some ⟨g, 0, none⟩) 256 256] wX fun e w' => ∃ ao c, e = .returned (.slice ao L.length c) ∧ RowAt w' (fun _ => True) ao L ∧ Gr wX w' from hL ▸ leavesOf_gr h))
  have HLV := hide (fun (B : World) (q : Nat) (h : Tr B (trT rs) q) (wX : World) (gX : Gr B wX) => (show Calls Try.prog 23 #[pv q] wX fun e w' => ∃ ao c, e = .returned (.slice ao L.length c) ∧ RowAt w' (fun _ => True) ao L ∧ Gr wX w' from hL ▸ leaves_gr h (by have := len_trT rs; omega) wX gX))
  clear hL
  have ways : (0 ≤ a ∧ a < 256) ∨ ((a < 0 ∨ 256 ≤ a) ∧ x = -1) := by
    by_cases h : 0 ≤ a ∧ a < 256
    · exact .inl h
    · exact .inr ⟨by omega, (HNO.out h).symm⟩
  clear HNO
  have e4 : (z == z) = true := by simp
  have e5 : (x == x) = true := by simp
  go_enter Try.func6, Try.ntmps6
  go_upto_region 12 with (first
    | (go_at_call 18; refine (tbegun_any _).mono ?_; rintro e _ ⟨rfl, d1, rfl⟩)
    | (go_at_call 10; with_reducible refine (HT1.out _ d1.gr).mono ?_; rintro e w2 ⟨tb, ro, c2, rfl, l1, g1⟩; have LT := hide l1; have G2 := hide (d1.gr.trans g1); clear l1 g1)
    | (go_at_call 10; with_reducible refine (HT2.out _ G2.out).mono ?_; rintro e w3 ⟨ub, so, c3, rfl, l2, g2⟩; have LU := hide l2; have LT3 := hide (LT.out.gr g2); have G3 := hide (G2.out.trans g2); clear l2 g2)
    | (go_at_call 19; refine (LT3.out.tof TR.out _ (Gr.refl _)).mono ?_; rintro e w4 ⟨q, rfl, t4, g4⟩; have TQ := hide t4; have G4 := hide g4; clear t4 g4)
    | (go_at_call 21; refine (LT3.out.allOf TR.out c2 _ G4.out).mono ?_; rintro e w5 ⟨g5, rfl, n5, gr5⟩; have N5 := hide n5; have G45 := hide gr5; have G5 := hide (G4.out.trans gr5); clear n5 gr5)
    | (go_at_call 20; refine (HLO.out w5 g5 N5.out).mono ?_; rintro e w6 ⟨o6, c6, rfl, r6, g6⟩; have R6 := hide r6; have G46 := hide (G45.out.trans g6); have G6 := hide (G5.out.trans g6); clear r6 g6))
  rcases ways with ⟨a0, a1⟩ | ⟨a0 | a0, rfl⟩
  · have hd0 : decide ((0 : Int) ≤ a) = true := decide_eq_true a0
    have hd1 : decide (a < 256) = true := decide_eq_true a1
    go_wp2_with (first
      | (go_at_call 22; refine (LT3.out.rlook TR.out HLX.out c2 _ G6.out).mono ?_; rintro e w7 ⟨rfl, g7⟩; have G67 := hide g7; clear g7)
      | (go_at_call 23; refine (HLV.out w4 q TQ.out _ (G46.out.trans G67.out)).mono ?_; rintro e w8 ⟨o8, c8, rfl, r8, g8⟩; have R8 := hide r8; have G68 := hide (G67.out.trans g8); clear r8 g8)
      | (go_at_call 17; refine (same_gr (z := true) R8.out (R6.out.gr G68.out) (by omega) (by omega) (by simp) c8 c6).mono ?_; rintro e w9 ⟨rfl, g9⟩; have G69 := hide (G68.out.trans g9); clear g9)
      | (go_at_call 24; refine (size_gr TQ.out (congrArg List.length HLE.out) (by omega) _ (G46.out.trans G69.out)).mono ?_; rintro e w10 ⟨rfl, g10⟩; have G610 := hide (G69.out.trans g10); clear g10)
      | (go_at_call 25; refine (look_gr TQ.out HTX.out _ (G46.out.trans G610.out)).mono ?_; rintro e w11 ⟨rfl, g11⟩; have G611 := hide (G610.out.trans g11); clear g11)
      | (go_at_call 26; have X := LT3.out.tsame LU.out TR.out TS.out _ (G6.out.trans G611.out); rw [HZ.out] at X; refine X.mono ?_; clear X; rintro e w12 ⟨rfl, g12⟩; have G612 := hide (G611.out.trans g12); clear g12)
      | (go_at_call 21; with_reducible refine (LT3.out.allOf TR.out c2 w12 (G6.out.trans G612.out)).mono ?_; rintro e w13 ⟨g13, rfl, n13, gr13⟩; have N13 := hide n13; have G613 := hide (G612.out.trans gr13); clear n13 gr13)
      | (go_at_call 21; with_reducible refine (LU.out.allOf TS.out c3 w13 (G6.out.trans G613.out)).mono ?_; rintro e w14 ⟨g14, rfl, n14, gr14⟩; have N14 := hide n14; have N13' := hide (N13.out.gr gr14); have G614 := hide (G613.out.trans gr14); clear n14 gr14)
      | (go_at_call 27; refine (sameInts_gr N13'.out N14.out HZ.out).mono ?_; rintro e w15 ⟨rfl, g15⟩; have G615 := hide (G614.out.trans g15); clear g15))
    go_ret
    exact ⟨by simp, ext_mk (((G3.out.trans G6.out).trans G615.out))⟩
  · have hd0 : decide ((0 : Int) ≤ a) = false := by simp; omega
    have G67 := hide (Gr.refl w6)
    go_wp2_with (first
      | (go_at_call 23; refine (HLV.out w4 q TQ.out _ (G46.out.trans G67.out)).mono ?_; rintro e w8 ⟨o8, c8, rfl, r8, g8⟩; have R8 := hide r8; have G68 := hide (G67.out.trans g8); clear r8 g8)
      | (go_at_call 17; refine (same_gr (z := true) R8.out (R6.out.gr G68.out) (by omega) (by omega) (by simp) c8 c6).mono ?_; rintro e w9 ⟨rfl, g9⟩; have G69 := hide (G68.out.trans g9); clear g9)
      | (go_at_call 24; refine (size_gr TQ.out (congrArg List.length HLE.out) (by omega) _ (G46.out.trans G69.out)).mono ?_; rintro e w10 ⟨rfl, g10⟩; have G610 := hide (G69.out.trans g10); clear g10)
      | (go_at_call 25; refine (look_gr TQ.out HTX.out _ (G46.out.trans G610.out)).mono ?_; rintro e w11 ⟨rfl, g11⟩; have G611 := hide (G610.out.trans g11); clear g11)
      | (go_at_call 26; have X := LT3.out.tsame LU.out TR.out TS.out _ (G6.out.trans G611.out); rw [HZ.out] at X; refine X.mono ?_; clear X; rintro e w12 ⟨rfl, g12⟩; have G612 := hide (G611.out.trans g12); clear g12)
      | (go_at_call 21; with_reducible refine (LT3.out.allOf TR.out c2 w12 (G6.out.trans G612.out)).mono ?_; rintro e w13 ⟨g13, rfl, n13, gr13⟩; have N13 := hide n13; have G613 := hide (G612.out.trans gr13); clear n13 gr13)
      | (go_at_call 21; with_reducible refine (LU.out.allOf TS.out c3 w13 (G6.out.trans G613.out)).mono ?_; rintro e w14 ⟨g14, rfl, n14, gr14⟩; have N14 := hide n14; have N13' := hide (N13.out.gr gr14); have G614 := hide (G613.out.trans gr14); clear n14 gr14)
      | (go_at_call 27; refine (sameInts_gr N13'.out N14.out HZ.out).mono ?_; rintro e w15 ⟨rfl, g15⟩; have G615 := hide (G614.out.trans g15); clear g15))
    go_ret
    exact ⟨by simp, ext_mk ((G3.out.trans G6.out).trans G615.out)⟩
  · have hd0 : decide ((0 : Int) ≤ a) = true := decide_eq_true (by omega)
    have hd1 : decide (a < 256) = false := by simp; omega
    have G67 := hide (Gr.refl w6)
    go_wp2_with (first
      | (go_at_call 23; refine (HLV.out w4 q TQ.out _ (G46.out.trans G67.out)).mono ?_; rintro e w8 ⟨o8, c8, rfl, r8, g8⟩; have R8 := hide r8; have G68 := hide (G67.out.trans g8); clear r8 g8)
      | (go_at_call 17; refine (same_gr (z := true) R8.out (R6.out.gr G68.out) (by omega) (by omega) (by simp) c8 c6).mono ?_; rintro e w9 ⟨rfl, g9⟩; have G69 := hide (G68.out.trans g9); clear g9)
      | (go_at_call 24; refine (size_gr TQ.out (congrArg List.length HLE.out) (by omega) _ (G46.out.trans G69.out)).mono ?_; rintro e w10 ⟨rfl, g10⟩; have G610 := hide (G69.out.trans g10); clear g10)
      | (go_at_call 25; refine (look_gr TQ.out HTX.out _ (G46.out.trans G610.out)).mono ?_; rintro e w11 ⟨rfl, g11⟩; have G611 := hide (G610.out.trans g11); clear g11)
      | (go_at_call 26; have X := LT3.out.tsame LU.out TR.out TS.out _ (G6.out.trans G611.out); rw [HZ.out] at X; refine X.mono ?_; clear X; rintro e w12 ⟨rfl, g12⟩; have G612 := hide (G611.out.trans g12); clear g12)
      | (go_at_call 21; with_reducible refine (LT3.out.allOf TR.out c2 w12 (G6.out.trans G612.out)).mono ?_; rintro e w13 ⟨g13, rfl, n13, gr13⟩; have N13 := hide n13; have G613 := hide (G612.out.trans gr13); clear n13 gr13)
      | (go_at_call 21; with_reducible refine (LU.out.allOf TS.out c3 w13 (G6.out.trans G613.out)).mono ?_; rintro e w14 ⟨g14, rfl, n14, gr14⟩; have N14 := hide n14; have N13' := hide (N13.out.gr gr14); have G614 := hide (G613.out.trans gr14); clear n14 gr14)
      | (go_at_call 27; refine (sameInts_gr N13'.out N14.out HZ.out).mono ?_; rintro e w15 ⟨rfl, g15⟩; have G615 := hide (G614.out.trans g15); clear g15))
    go_ret
    exact ⟨by simp, ext_mk ((G3.out.trans G6.out).trans G615.out)⟩

end Go.Proofs.Ytmlmcpopkcgflab
