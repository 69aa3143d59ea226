/- handpostlaw.LinksDoes ANSWERS true. -/
import Derived.Test.YtimbgijpeomfcacK4
import Derived.Test.YtimbgijpeomfcacK6
import Derived.Test.YtimbgijpeomfcacK7
import Derived.Test.YtimbgijpeomfcacK8
namespace Go.Proofs.Ytimbgijpeomfcac
open Go.RowKit
attribute [local go_sem] Ext.all Ext.cell Ext.frozen Ext.lt Ext.lt1 Ext.lt2 Ext.ne Ext.ne'

set_option maxRecDepth 20000 in
set_option maxHeartbeats 4000000 in
theorem kdoes_any (w : World) (ao : Option Addr) (n k : Nat) (xs : List (Int × Int × Int)) (a b : Int) (H : LinkAt w ao xs) (hn : xs.length = n) :
    Calls Try.prog 3 #[.slice ao n k, iv a, iv b] w fun e w' => e = .returned (.bool true) ∧ Gr w w' := by
  have HB := hide (kbegun_any w)
  by_cases h200 : 200 < n
  · have hd : decide ((200 : Int) < (n : Int)) = true := decide_eq_true (by omega)
    clear H
    go_enter Try.func3, Try.ntmps3
    go_wp2_with (first | (go_at_call 4; with_reducible refine HB.out.mono ?_; rintro e w1 ⟨rfl, g1⟩))
    go_ret
    exact ⟨rfl, g1⟩
  have hd : decide ((200 : Int) < (n : Int)) = false := decide_eq_false (by omega)
  have HM := hide (fun (X : World) (g : Gr w X) => maps_any X ao n k xs (H.gr g) hn (by omega))
  have hc := hide (costs_lk xs)
  clear H
  generalize costs xs = c at *
  go_enter Try.func3, Try.ntmps3
  go_upto_region 5 with (first | (go_at_call 4; with_reducible refine HB.out.mono ?_; rintro e w1 ⟨rfl, g1⟩))
  have H1 := hide (HM.out _ g1)
  clear HB HM
  go_upto_region 6 with (first | (go_at_call 5; with_reducible refine H1.out.mono ?_; rintro e X ⟨p, q, rfl, T⟩))
  have HF := hide (fun (Y : World) (g : Gr X Y) => far_any (T.l.gr g) hc.out a)
  have HMF := hide (fun (Y : World) (g : Gr X Y) => mfar_any (T.m.gr g) hc.out a)
  have hnn : (nodeB a != nodeB a) = false := by simp
  have TX := hide T
  clear T H1
  go_upto_region 11 with (first
    | (go_at_call 6; with_reducible refine (node_is (v := nodeB a) rfl _).mono ?_; rintro e wn ⟨rfl, hwn⟩; subst hwn)
    | (go_at_call 7; with_reducible refine (isNode_is (v := nodeB a) rfl _).mono ?_; rintro e wn ⟨rfl, hwn⟩; subst hwn)
    | (go_at_call 9; with_reducible refine (HF.out _ (Gr.refl _)).mono ?_; rintro e w2 ⟨f1, rfl, n1, _, g2⟩; have N1 := hide n1; clear n1)
    | (go_at_call 10; with_reducible refine (HMF.out _ g2).mono ?_; rintro e w3 ⟨f2, rfl, n2, _, g3⟩; have S3 := hide (sameInts_eq w3 (some ⟨f1, 0, none⟩) (some ⟨f2, 0, none⟩) 6 6 6 _ (N1.out.gr g3).numAt n2.numAt (by simp) (by decide)); clear n2)
    | (go_at_call 8; with_reducible refine S3.out.mono ?_; rintro e w4 ⟨rfl, g4⟩))
  refine wp_gen (fun Y => Hid (Two w1 p q c c Y)) (TX.out.to ((g2.trans g3).trans g4)) ?_
  intro Y T
  clear TX HF HMF S3 N1 g2 g3 g4
  have HK := hide (fun (Z : World) (g : Gr Y Z) => klist_any (T.out.l.gr g) hc.out)
  have HO := hide (fun (Z : World) (g : Gr Y Z) => kof_any (T.out.l.gr g) hc.out a)
  have HC := hide (fun (Z : World) (g : Gr Y Z) => cost_any (T.out.l.gr g) hc.out a b)
  have HQ := hide (fun (Z : World) (g : Gr Y Z) (i j : Nat) (hi : i < 6) (hj : j < 6) => (T.out.m.gr g).cell hi hj)
  have hq : Hid (∀ Z, Gr Y Z → q < Z.heap.size) := fun Z g => (T.out.m.gr g).lt
  have gY := hide (g1.trans T.out.gr)
  clear T g1 hc
  go_wp2_with fail
  go_loopw [11, 12, 13] (fun v11 v12 v13 wr => ∃ k : Nat, k ≤ 6 ∧ v13 = .int .i64 k ∧ Hid (OwnI Y wr v11 (ofB c a k)) ∧ Hid (OwnK Y wr v12 (allTo c k)) ∧ Gr Y wr) (fun _ _ v13 _ => 6 - (intOf v13).toNat)
  case atStart => exact ⟨0, by omega, rfl, OwnI.nil _ _, OwnK.nil _ _, Gr.refl _⟩
  case round =>
    obtain ⟨k, hk, rfl, OI, OK, gk⟩ := hrel
    by_cases hlt : k < 6
    · have hki : (k : Int) < 6 := by omega
      have hql := hq.out _ gk
      go_upto_region 14 with (fail)
      go_cut [11, 62] from 51 to 62 (fun v11 v62 wc => v62 = .bool (decide (0 < cst c a k)) ∧ v11 = u11 ∧ wc = wr)
      case first =>
        by_cases hA : nodeB a = true
        · have A := hide hA
          obtain ⟨a0, a6⟩ := node_iff.1 hA
          obtain ⟨m, rfl⟩ : ∃ m : Nat, a = m := ⟨a.toNat, by omega⟩
          have hm : m < 6 := by omega
          have cc := HQ.out _ gk m k hm hlt
          have HE : Hid (cst c m k = c m k) := by
            unfold Hid cst
            rw [if_pos ⟨hA, node_iff.2 (by omega)⟩]; rfl
          clear hA
          go_wp2_with (first | (go_at_call 7; with_reducible refine (isNode_is A.out _).mono ?_; rintro e wn ⟨rfl, hwn⟩; subst hwn))
          go_meet
          case rel => exact ⟨by simp [HE.out], rfl, rfl⟩
        · have A := hide (Bool.eq_false_iff.2 hA)
          have HE : Hid (cst c a k = 0) := by
            unfold Hid cst
            rw [if_neg (fun h => hA h.1)]
          clear hA
          go_wp2_with (first | (go_at_call 7; with_reducible refine (isNode_is A.out _).mono ?_; rintro e wn ⟨rfl, hwn⟩; subst hwn))
          go_meet
          case rel => exact ⟨by simp [HE.out], rfl, rfl⟩
      case rest =>
        obtain ⟨rfl, rfl, rfl⟩ := hcut
        have HX : Hid (ofB c a (k + 1) = ofB c a k ++ (if cst c a k = 0 then [] else [k])) := rfl
        have hN : (ofB c a k).length ≤ k := of_len _ 0 k
        generalize cst c a k = z at *
        go_upto_if 62 with (fail)
        go_cut [11] from 51 to 66 (fun v11 wc => Hid (OwnI Y wc v11 (ofB c a (k + 1))) ∧ Hid (OwnK Y wc u12 (allTo c k)) ∧ Gr Y wc)
        case first =>
          by_cases hz : z = 0
          · have hzp : ¬ 0 < z := by omega
            have HX2 : Hid (ofB c a (k + 1) = ofB c a k) := by unfold Hid; rw [HX.out, if_pos hz, List.append_nil]
            clear hz HX
            go_wp2_with fail
            go_meet
            case rel => exact ⟨by rw [HX2.out]; exact OI, OK, gk⟩
          · have hzp : 0 < z := by omega
            have HX2 : Hid (ofB c a (k + 1) = ofB c a k ++ [k]) := by unfold Hid; rw [HX.out, if_neg hz]
            obtain ⟨v', w', hrun, ho1, ho2, hgr⟩ := OwnI.app2 30 OI.out OK.out gk k (by omega)
            have HR := hide hrun
            have HW1 := hide ho1
            have HW2 := hide ho2
            clear hz HX hrun ho1 ho2
            go_wp2_with (first | (at_builtin; refine Lib.wpList_append_run _ rfl _ _ _ _ rfl _ _ rfl rfl _ _ HR.out ?_))
            go_meet
            case rel => exact ⟨by rw [HX2.out]; exact HW1, HW2, hgr⟩
        case rest =>
          clear OI OK gk HX hN
          obtain ⟨OI, OK, gk⟩ := hcut
          go_wp2_with fail
          go_loopw [12, 14] (fun v12 v14 wr => ∃ b : Nat, k < b ∧ b ≤ 6 ∧ v14 = .int .i64 b ∧ Hid (OwnI Y wr u11 (ofB c a (k + 1))) ∧ Hid (OwnK Y wr v12 (allTo c k ++ rowTo c k (b - (k + 1)))) ∧ Gr Y wr) (fun _ v14 _ => 6 - (intOf v14).toNat)
          case atStart => exact ⟨k + 1, by omega, by omega, by go_num, OI, by rw [Nat.sub_self, rowTo, List.append_nil]; exact OK, gk⟩
          case round =>
            clear OI OK gk
            obtain ⟨i, hik, hi6, rfl, OI, OK, gi⟩ := hrel
            by_cases hi : i < 6
            · have hii : (i : Int) < 6 := by omega
              have hql2 := hq.out _ gi
              have cc := HQ.out _ gi k i hlt hi
              have hN := all_len c k
              have hR := row_len c k (i - (k + 1))
              have HX := hide (row_next c hik)
              generalize c k i = y at *
              by_cases hy : y = 0
              · have hd : decide ((0 : Int) < (y : Int)) = false := decide_eq_false (by omega)
                have HX2 : Hid (rowTo c k (i + 1 - (k + 1)) = rowTo c k (i - (k + 1))) := by unfold Hid; rw [HX.out, if_pos hy, List.append_nil]
                have hyi : ¬ (0 : Int) < (y : Int) := by omega
                clear hy HX
                go_wp2_with fail
                go_roundw
                case rel => exact ⟨i + 1, by omega, by omega, by go_num, OI, by rw [HX2.out]; exact OK, gi⟩
                case measure => simp [intOf]; omega
              · have hd : decide ((0 : Int) < (y : Int)) = true := decide_eq_true (by omega)
                have hyi : (0 : Int) < (y : Int) := by omega
                have HX2 : Hid (rowTo c k (i + 1 - (k + 1)) = rowTo c k (i - (k + 1)) ++ [(k, i, y)]) := by unfold Hid; rw [HX.out, if_neg hy]
                obtain ⟨v', w', hrun, ho1, ho2, hgr⟩ := OwnK.app2 22 OK.out OI.out gi (k, i, y) (by rw [List.length_append]; omega)
                have HR := hide hrun
                have HW1 := hide ho1
                have HW2 := hide ho2
                clear hy HX hrun ho1 ho2
                go_wp2_with (first | (at_builtin; refine Lib.wpList_append_run _ rfl _ _ _ _ rfl _ _ rfl rfl _ _ HR.out ?_))
                go_roundw
                case rel => exact ⟨i + 1, by omega, by omega, by go_num, HW2, by rw [HX2.out, ← List.append_assoc]; exact HW1, hgr⟩
                case measure => simp [intOf]; omega
            · have e6 : ¬ (i : Int) < 6 := by omega
              have HZ : Hid (allTo c (k + 1) = allTo c k ++ rowTo c k (i - (k + 1))) := by unfold Hid; rw [allTo, show 5 - k = i - (k + 1) by omega]
              go_wp2_with fail
              go_roundw
              case rel => exact ⟨k + 1, by omega, by go_num, OI, by rw [HZ.out]; exact OK, gi⟩
              case measure => simp [intOf]; omega
    · have e6 : k = 6 := by omega
      have hki : ¬ (k : Int) < 6 := by omega
      have OI6 : Hid (OwnI Y wr u11 (ofB c a 6)) := by rw [← e6]; exact OI
      have OK6 : Hid (OwnK Y wr u12 (allTo c 6)) := by rw [← e6]; exact OK
      clear e6 OI OK
      have hql := hq.out _ gk
      go_upto_region 21 with (fail)
      go_cut [99] from 94 to 99 (fun v99 wc => ∃ t : Bool, v99 = .bool t ∧ Hid (t = (nodeB a && nodeB b)) ∧ wc = wr)
      case first =>
        by_cases hA : nodeB a = true
        · have A := hide hA
          by_cases hB : nodeB b = true
          · have B := hide hB
            have HT : Hid (true = (nodeB a && nodeB b)) := by unfold Hid; rw [hA, hB]; rfl
            clear hA hB
            go_wp2_with (first
              | (go_at_call 7; with_reducible refine (isNode_is A.out _).mono ?_; rintro e wn ⟨rfl, hwn⟩; subst hwn)
              | (go_at_call 7; with_reducible refine (isNode_is B.out _).mono ?_; rintro e wn ⟨rfl, hwn⟩; subst hwn))
            go_meet
            case rel => exact ⟨true, rfl, HT, rfl⟩
          · have B := hide (Bool.eq_false_iff.2 hB)
            have HT : Hid (false = (nodeB a && nodeB b)) := by unfold Hid; rw [hA, B.out]; rfl
            clear hA hB
            go_wp2_with (first
              | (go_at_call 7; with_reducible refine (isNode_is A.out _).mono ?_; rintro e wn ⟨rfl, hwn⟩; subst hwn)
              | (go_at_call 7; with_reducible refine (isNode_is B.out _).mono ?_; rintro e wn ⟨rfl, hwn⟩; subst hwn))
            go_meet
            case rel => exact ⟨false, rfl, HT, rfl⟩
        · have A := hide (Bool.eq_false_iff.2 hA)
          have HT : Hid (false = (nodeB a && nodeB b)) := by unfold Hid; rw [A.out]; rfl
          clear hA
          go_wp2_with (first
            | (go_at_call 7; with_reducible refine (isNode_is A.out _).mono ?_; rintro e wn ⟨rfl, hwn⟩; subst hwn))
          go_meet
          case rel => exact ⟨false, rfl, HT, rfl⟩
      case rest =>
        obtain ⟨t, rfl, HT, rfl⟩ := hcut
        go_upto_if 99 with (fail)
        go_cut [10] from 94 to 106 (fun v10 wc' => v10 = iv (cst c a b) ∧ wc' = wc)
        case first =>
          cases t
          · have HE : Hid (cst c a b = 0) := by
              unfold Hid cst
              rw [if_neg (fun h => ?_)]
              have := HT.out
              rw [h.1, h.2] at this
              cases this
            clear HT
            go_wp2_with fail
            go_meet
            case rel => exact ⟨by rw [HE.out]; rfl, rfl⟩
          · have hAB : nodeB a = true ∧ nodeB b = true := by
              have := HT.out.symm
              simpa using this
            obtain ⟨a0, a6⟩ := node_iff.1 hAB.1
            obtain ⟨b0, b6⟩ := node_iff.1 hAB.2
            have HE : Hid (cst c a b = c a.toNat b.toNat) := by
              unfold Hid cst
              rw [if_pos hAB]
            have cc := HQ.out _ gk a.toNat b.toNat (by omega) (by omega)
            clear HT hAB
            obtain ⟨m, rfl⟩ : ∃ m : Nat, a = m := ⟨a.toNat, by omega⟩
            obtain ⟨m', rfl⟩ : ∃ m : Nat, b = m := ⟨b.toNat, by omega⟩
            simp only [Int.toNat_natCast] at cc HE
            go_wp2_with fail
            go_meet
            case rel => exact ⟨by rw [HE.out], rfl⟩
        case rest =>
          obtain ⟨rfl, rfl⟩ := hcut
          clear HT HQ
          have HK1 := hide (HK.out _ gk)
          go_upto_region 24 with (first | (go_at_call 11; with_reducible refine HK1.out.mono ?_; rintro e w5 ⟨v5, rfl, o5, g5⟩))
          obtain ⟨la, lc, rfl, tl⟩ := o5.shape
          obtain ⟨aa, ac, rfl, ta⟩ := OK6.out.shape
          obtain ⟨ia, ic, rfl, ti⟩ := OI6.out.shape
          have TA := hide (ta.gr g5)
          have TI := hide (ti.gr g5)
          have TL := hide tl
          have HC1 := hide (HC.out _ (gk.trans g5))
          have HO1 := hide (HO.out _ (gk.trans g5))
          have gX := hide ((gY.out.trans gk).trans g5)
          have hlen := all_len c 6
          have hle2 : (ofB c a 6).length ≤ 6 := of_len _ 0 6
          clear o5 tl ta ti OK6 OI6 HK HO HC HK1 hq hql gk g5 gY
          generalize allTo c 6 = l at *
          generalize ofB c a 6 = l2 at *
          generalize cst c a b = z at *
          have hzz : ((z : Int) != (z : Int)) = false := by simp
          have hll : ((l.length : Int) != (l.length : Int)) = false := by simp
          go_upto_region 26 with (first
            | (go_at_call 12; with_reducible refine HC1.out.mono ?_; rintro e wn ⟨rfl, hwn⟩; subst hwn)
            | (go_at_call 13; with_reducible refine HO1.out.mono ?_; rintro e w6 ⟨v6, rfl, o6, g6⟩; obtain ⟨oa, oc, rfl, t6⟩ := o6.shape; have S6 := hide (sameInts_eq w6 oa ia l2.length oc ic l2 t6 (TI.out.gr g6) rfl (by omega)); clear o6 t6)
            | (go_at_call 8; with_reducible refine S6.out.mono ?_; rintro e w7 ⟨rfl, g7⟩))
          refine wp_gen (fun Z => Hid (TriAt Z aa l) ∧ Hid (TriAt Z la l) ∧ Gr w Z) ⟨(TA.out.gr g6).gr g7, (TL.out.gr g6).gr g7, (gX.out.trans g6).trans g7⟩ ?_
          rintro Z ⟨ZA, ZL, gZ⟩
          clear TA TI TL HC1 HO1 S6 g6 g7 gX
          go_wp2_with fail
          go_loopw [16] (fun v16 wr => ∃ i : Nat, i ≤ l.length ∧ v16 = .int .i64 i ∧ Gr Z wr) (fun v16 _ => l.length - (intOf v16).toNat)
          case atStart => exact ⟨0, by omega, rfl, Gr.refl _⟩
          case round =>
            obtain ⟨i, hi, rfl, gi⟩ := hrel
            obtain ⟨d, rfl⟩ := ext_mk gi
            by_cases hil : i < l.length
            · have hii : (i : Int) < (l.length : Int) := by omega
              rcases ZA.out with h | ⟨b1, o1, rfl, hb1, hc1⟩
              · rw [h] at hil; simp at hil
              rcases ZL.out with h | ⟨b2, o2, rfl, hb2, hc2⟩
              · rw [h] at hil; simp at hil
              obtain ⟨x1, x2, x3⟩ := hc1 i hil
              obtain ⟨y1, y2, y3⟩ := hc2 i hil
              clear hc1 hc2 ZA ZL
              generalize l[i] = x at *
              obtain ⟨xa, xb, xc⟩ := x
              simp only at x1 x2 x3 y1 y2 y3
              go_wp2_with fail
              refine wp_region_ext_of (by kernel_rfl) (by kernel_rfl) ?_
              repeat (go_big_quiet_step (fail))
              refine wpQuiet_nil ?_
              rintro _ ⟨d1, rfl⟩
              go_wp2_with fail
              go_roundw
              case rel => exact ⟨i + 1, by omega, by go_num, d1.gr⟩
              case measure => simp [intOf]; omega
            · have hii : ¬ (i : Int) < (l.length : Int) := by omega
              go_wp2_with fail
              go_ret
              exact ⟨rfl, gZ.ext d⟩

end Go.Proofs.Ytimbgijpeomfcac
