/- handpostlaw.NetAgain ANSWERS true. -/
import Derived.Test.YthiojjkgodffnaeLPl
namespace Go.Proofs.Ythiojjkgodffnae
open Go.RowKit
attribute [local go_sem] Ext.all Ext.cell Ext.frozen Ext.lt Ext.lt1 Ext.lt2 Ext.ne Ext.ne' fld1

/-- In a settled net each way is as long as the links say. -/
theorem Ag.len {T : Tn} {c : Nat → Nat → Nat} {S : Nat → Int} (h : Ag T c S) {a z : Nat} (ha : a < 6) (hz : z < 6) : ((T.nd a).ways z).2.1 = farZ c a z := by
  rw [((h.st z hz).way h.a hz ha).1]
  unfold farZ
  rw [dst_back h.a.s.tc.lk hz ha]

set_option maxRecDepth 20000 in
set_option maxHeartbeats 32000000 in
theorem netAgain_any (w : World) (ao bo : Option Addr) (n cp m cq : Nat) (l lm : List Sx) (H : SpAt w ao l) (hn : l.length = n) (J : SpAt w bo lm) (hm : lm.length = m) :
    Calls Try.prog 6 #[.slice ao n cp, .slice bo m cq] w fun e w' => e = .returned (.bool true) ∧ Gr w w' := by
  have HS := hide (fun (X : World) (g : Gr w X) => H.gr g)
  have HJ := hide (fun (X : World) (g : Gr w X) => J.gr g)
  have HNL := hide hn
  have HML := hide hm
  clear H hn J hm
  go_enter Try.func6, Try.ntmps6
  go_upto_region 3 with (go_at_call 9; with_reducible refine (netBegun_ok _).mono ?_; rintro e V0 ⟨rfl, g0'⟩; have G0 := hide g0'; clear g0')
  by_cases h150 : 150 < n
  · have gd : decide ((150 : Int) < (n : Int)) = true := decide_eq_true (by omega)
    go_wp2_with fail
    go_ret
    exact ⟨rfl, G0.out⟩
  · have gd : decide ((150 : Int) < (n : Int)) = false := decide_eq_false (by omega)
    by_cases h100 : 100 < m
    · have gd2 : decide ((100 : Int) < (m : Int)) = true := decide_eq_true (by omega)
      go_wp2_with fail
      go_ret
      exact ⟨rfl, G0.out⟩
    · have gd2 : decide ((100 : Int) < (m : Int)) = false := decide_eq_false (by omega)
      have HPL := hide (played_ok V0 ao n cp l (HS.out _ G0.out) HNL.out (by omega))
      clear HS HNL
      go_upto_region 6 with (go_at_call 25; with_reducible refine HPL.out.mono ?_; rintro e V1 ⟨p, k, q, v, c, rfl, H0'⟩; have H0 := hide H0'; clear H0')
      have HST := hide (H0.out.settle (by omega) 14 (by omega))
      have HAG := hide (Ag.start H0.out.a (r := 14) (by omega))
      clear HPL
      generalize playT newT (spsOf l) n = t0 at *
      have e14 : (14 : Int).toNat = 14 := rfl
      rw [e14] at HST
      clear e14
      generalize (fun z => agT t0 z + 1) = S at *
      generalize settleT t0 14 = ts at *
      go_upto_region 8 with (go_at_call 20; with_reducible refine HST.out.mono ?_; rintro e V2 ⟨v1, rfl, H1'⟩; have H1 := hide H1'; clear H1')
      clear H0 HST
      have gB : Hid (∀ (W : World) (v : Value) (t : Tn) (N : Nat), Nl (fun b => b < V0.heap.size) V0 W p k q v c t N → Gr w W) := fun W v t N h => G0.out.trans (h.h.kp.below (Nat.le_refl _) (fun _ h => h))
      go_loopw [6] (fun v6 wr => ∃ (i : Nat) (v : Value) (t : Tn), i ≤ m ∧ v6 = .int .i64 (i : Int) ∧ Hid (Ag t c S) ∧ Hid (Nl (fun b => b < V0.heap.size) V0 wr p k q v c t (n + 1 + i))) (fun v6 _ => (m - intOf v6).toNat)
      case atStart => exact ⟨0, v1, ts, by omega, rfl, HAG, H1⟩
      case round =>
        clear H1 HAG v1
        obtain ⟨i, v, t, him, rfl, HAG, H0⟩ := hrel
        by_cases hi : i < m
        · have hii : decide ((i : Int) < (m : Int)) = true := decide_eq_true (by omega)
          have hi0 : (i : Int) < (m : Int) := by omega
          have hil : i < lm.length := by have := HML.out; omega
          have wi : IntKind.i64.wrap ((i : Int) + 1) = (i : Int) + 1 := by rw [IntKind.wrap_i64]; omega
          obtain ⟨bn, on, hao, hbn, s0, s1, s2, s3, s4, s5⟩ := (HJ.out _ (gB.out _ _ _ _ H0.out)).get hil
          subst hao
          generalize lm[i] = x at *
          obtain ⟨⟨kd, xa, xb, xn⟩, xl, xt⟩ := x
          simp only at s0 s1 s2 s3 s4 s5
          have hcase : ((kd == 1) = true ∧ (kd != 1) = false) ∨ (((kd == 1) = false ∧ (kd != 1) = true) ∧ (kd == 2) = true ∧ (kd != 2) = false) ∨ (((kd == 1) = false ∧ (kd != 1) = true) ∧ ((kd == 2) = false ∧ (kd != 2) = true) ∧ Hid (kd ≠ 1 ∧ kd ≠ 2)) := by
            by_cases e1 : kd = 1
            · exact .inl ⟨by simpa using e1, by simpa using e1⟩
            · by_cases e2 : kd = 2
              · exact .inr (.inl ⟨⟨by simpa using e1, by simpa using e1⟩, by simpa using e2, by simpa using e2⟩)
              · exact .inr (.inr ⟨⟨by simpa using e1, by simpa using e1⟩, ⟨by simpa using e2, by simpa using e2⟩, ⟨e1, e2⟩⟩)
          rcases hcase with ⟨k1, k2⟩ | ⟨⟨k1, k2⟩, k3, k4⟩ | ⟨⟨k1, k2⟩, ⟨k3, k4⟩, hk⟩
          case' inl =>
            go_upto_region 12 with (fail)
            refine wp_gen (fun V => ∃ (v1 : Value) (t1 : Tn), Hid (Ag t1 c S) ∧ Hid (Nl (fun b => b < V0.heap.size) V0 V p k q v1 c t1 (n + 1 + (i + 1)))) ⟨v, t, HAG, H0.out.more (by omega)⟩ ?_
          case' inr.inl =>
            go_upto_region 12 with (fail)
            refine wp_gen (fun V => ∃ (v1 : Value) (t1 : Tn), Hid (Ag t1 c S) ∧ Hid (Nl (fun b => b < V0.heap.size) V0 V p k q v1 c t1 (n + 1 + (i + 1)))) ⟨v, t, HAG, H0.out.more (by omega)⟩ ?_
          case' inr.inr =>
            have HD := H0.out.do (by omega) ⟨kd, xa, xb, xn⟩ (iv xl) (iv xt)
            have EC : nextC c ⟨kd, xa, xb, xn⟩ = c := by
              unfold nextC
              rw [if_neg (fun x => hk.out.1 x.1)]
            rw [EC] at HD
            have HD2 := hide HD
            have HAN := hide (HAG.out.step ⟨kd, xa, xb, xn⟩ hk.out.1 hk.out.2)
            clear HD EC
            simp only at HD2
            generalize (doT t ⟨kd, xa, xb, xn⟩).1 = t2 at *
            generalize (doT t ⟨kd, xa, xb, xn⟩).2 = rc at *
            go_upto_region 12 with (go_at_call 12; with_reducible refine HD2.out.mono ?_; rintro e V3 ⟨v2, rfl, T2'⟩; have T2 := hide T2'; clear T2')
            refine wp_gen (fun V => ∃ (v1 : Value) (t1 : Tn), Hid (Ag t1 c S) ∧ Hid (Nl (fun b => b < V0.heap.size) V0 V p k q v1 c t1 (n + 1 + (i + 1)))) ⟨v2, t2, HAN, T2⟩ ?_
            clear HD2 T2
          all_goals
            clear HAG H0 s0 s1 s2 s3 s4 s5 hbn
            rintro V4 ⟨v1, t1, HAG, T3⟩
            have HLEN := hide (fun (a z : Nat) (ha : a < 6) (hz : z < 6) => HAG.out.len ha hz)
            generalize hN1 : n + 1 + (i + 1) = N1 at T3
            have HN1 := hide hN1
            clear hN1
            go_wp2_with fail
            go_loopw [7] (fun va wr => ∃ a : Nat, a ≤ 6 ∧ va = .int .i64 (a : Int) ∧ Hid (Nl (fun b => b < V0.heap.size) V0 wr p k q v1 c t1 N1)) (fun va _ => (6 - intOf va).toNat)
            case atStart => exact ⟨0, by omega, rfl, T3⟩
            case round =>
              clear T3
              obtain ⟨a, ha6, rfl, T3⟩ := hrel
              by_cases ha : a < 6
              · have hai : decide ((a : Int) < 6) = true := decide_eq_true (by omega)
                have ha0 : (a : Int) < 6 := by omega
                have wa : IntKind.i64.wrap ((a : Int) + 1) = (a : Int) + 1 := by rw [IntKind.wrap_i64]; omega
                have l0 := T3.out.h.links
                have hp := T3.out.h.blk.lt
                have HF := hide (T3.out.far6 a)
                go_upto_region 16 with (go_at_call 26; with_reducible refine HF.out.mono ?_; rintro e V5 ⟨rfl, g5'⟩; have G5 := hide g5'; clear g5')
                refine wp_gen (fun V => Hid (Nl (fun b => b < V0.heap.size) V0 V p k q v1 c t1 N1) ∧ Hid (ZArr V 56 6 V5.heap.size (farZ c a))) ⟨T3.out.ext (G5.out.alloc _), far6_at V5 c a⟩ ?_
                clear T3 G5 HF l0 hp
                generalize V5.heap.size = X at *
                rintro V6 ⟨T3, X3⟩
                go_wp2_with fail
                go_loopw [9] (fun vt wr => ∃ z : Nat, z ≤ 6 ∧ vt = .int .i64 (z : Int) ∧ Hid (Nl (fun b => b < V0.heap.size) V0 wr p k q v1 c t1 N1) ∧ Hid (ZArr wr 56 6 X (farZ c a))) (fun vt _ => (6 - intOf vt).toNat)
                case atStart => exact ⟨0, by omega, rfl, T3, X3⟩
                case round =>
                  clear T3 X3
                  obtain ⟨z, hz6, rfl, T3, X3⟩ := hrel
                  by_cases hz : z < 6
                  · have hzi : decide ((z : Int) < 6) = true := decide_eq_true (by omega)
                    have hz0 : (z : Int) < 6 := by omega
                    have wz : IntKind.i64.wrap ((z : Int) + 1) = (z : Int) + 1 := by rw [IntKind.wrap_i64]; omega
                    have c0 := X3.out.cell hz
                    have hX := X3.out.lt
                    have HW : Hid (∀ x : Ext wr, Calls Try.prog 18 #[pv p, iv (a : Int), iv (z : Int)] x.out fun e w' => e = .returned (.agg #[iv ((t1.nd a).ways z).1, iv (farZ c a z), iv ((t1.nd a).ways z).2.2]) ∧ ∃ d : Ext wr, w' = d.out) := fun x => by
                      have := Calls.ext_of (d := x) ((T3.out.ext x.gr).way ha hz)
                      rw [HLEN.out a z ha hz] at this
                      exact this
                    generalize ((t1.nd a).ways z).1 = ws at *
                    generalize ((t1.nd a).ways z).2.2 = wh at *
                    generalize farZ c a z = wd at *
                    go_upto_region 19 with (fail)
                    refine wp_region_ext (by kernel_rfl) (by kernel_rfl) ?_
                    repeat (go_big_quiet_step ((go_at_call 18; with_reducible exact HW.out _)))
                    refine wpQuiet_nil ?_
                    rintro _ ⟨d5, rfl⟩
                    go_wp2_with fail
                    go_roundw
                    case rel => exact ⟨z + 1, by omega, by congr 1, T3.out.ext d5.gr, X3.out.gr d5.gr⟩
                    case measure => simp [intOf]; omega
                  · have hzi : decide ((z : Int) < 6) = false := decide_eq_false (by omega)
                    go_wp2_with fail
                    go_roundw
                    case rel => exact ⟨a + 1, by omega, by congr 1, T3⟩
                    case measure => simp [intOf]; omega
              · have hai : decide ((a : Int) < 6) = false := decide_eq_false (by omega)
                go_wp2_with fail
                go_roundw
                case rel => exact ⟨i + 1, v1, t1, by omega, by congr 1, HAG, by rw [HN1.out]; exact T3⟩
                case measure => simp [intOf]; omega
        · have hii : decide ((i : Int) < (m : Int)) = false := decide_eq_false (by omega)
          have HST := hide (H0.out.settle (by omega) 14 (by omega))
          have HAG2 := hide (Ag.start H0.out.a (r := 14) (by omega))
          have e14 : (14 : Int).toNat = 14 := rfl
          rw [e14] at HST
          clear e14 HAG
          generalize (fun z => agT t z + 1) = S2 at *
          generalize settleT t 14 = t1 at *
          go_upto_region 23 with (go_at_call 20; with_reducible refine HST.out.mono ?_; rintro e V2 ⟨v1, rfl, H1'⟩; have T3 := hide H1'; clear H1')
          clear H0 HST
          have HLEN := hide (fun (a z : Nat) (ha : a < 6) (hz : z < 6) => HAG2.out.len ha hz)
          generalize n + 1 + i + 1 = N1 at *
          go_loopw [10] (fun va wr => ∃ a : Nat, a ≤ 6 ∧ va = .int .i64 (a : Int) ∧ Hid (Nl (fun b => b < V0.heap.size) V0 wr p k q v1 c t1 N1)) (fun va _ => (6 - intOf va).toNat)
          case atStart => exact ⟨0, by omega, rfl, T3⟩
          case round =>
            clear T3
            obtain ⟨a, ha6, rfl, T3⟩ := hrel
            by_cases ha : a < 6
            · have hai : decide ((a : Int) < 6) = true := decide_eq_true (by omega)
              have ha0 : (a : Int) < 6 := by omega
              have wa : IntKind.i64.wrap ((a : Int) + 1) = (a : Int) + 1 := by rw [IntKind.wrap_i64]; omega
              have l0 := T3.out.h.links
              have hp := T3.out.h.blk.lt
              have HF := hide (T3.out.far6 a)
              go_upto_region 26 with (go_at_call 26; with_reducible refine HF.out.mono ?_; rintro e V5 ⟨rfl, g5'⟩; have G5 := hide g5'; clear g5')
              refine wp_gen (fun V => Hid (Nl (fun b => b < V0.heap.size) V0 V p k q v1 c t1 N1) ∧ Hid (ZArr V 56 6 V5.heap.size (farZ c a))) ⟨T3.out.ext (G5.out.alloc _), far6_at V5 c a⟩ ?_
              clear T3 G5 HF l0 hp
              generalize V5.heap.size = X at *
              rintro V6 ⟨T3, X3⟩
              go_wp2_with fail
              go_loopw [12] (fun vt wr => ∃ z : Nat, z ≤ 6 ∧ vt = .int .i64 (z : Int) ∧ Hid (Nl (fun b => b < V0.heap.size) V0 wr p k q v1 c t1 N1) ∧ Hid (ZArr wr 56 6 X (farZ c a))) (fun vt _ => (6 - intOf vt).toNat)
              case atStart => exact ⟨0, by omega, rfl, T3, X3⟩
              case round =>
                clear T3 X3
                obtain ⟨z, hz6, rfl, T3, X3⟩ := hrel
                by_cases hz : z < 6
                · have hzi : decide ((z : Int) < 6) = true := decide_eq_true (by omega)
                  have hz0 : (z : Int) < 6 := by omega
                  have wz : IntKind.i64.wrap ((z : Int) + 1) = (z : Int) + 1 := by rw [IntKind.wrap_i64]; omega
                  have c0 := X3.out.cell hz
                  have hX := X3.out.lt
                  have HW : Hid (∀ x : Ext wr, Calls Try.prog 18 #[pv p, iv (a : Int), iv (z : Int)] x.out fun e w' => e = .returned (.agg #[iv ((t1.nd a).ways z).1, iv (farZ c a z), iv ((t1.nd a).ways z).2.2]) ∧ ∃ d : Ext wr, w' = d.out) := fun x => by
                    have := Calls.ext_of (d := x) ((T3.out.ext x.gr).way ha hz)
                    rw [HLEN.out a z ha hz] at this
                    exact this
                  generalize ((t1.nd a).ways z).1 = ws at *
                  generalize ((t1.nd a).ways z).2.2 = wh at *
                  generalize farZ c a z = wd at *
                  go_upto_region 29 with (fail)
                  refine wp_region_ext (by kernel_rfl) (by kernel_rfl) ?_
                  repeat (go_big_quiet_step ((go_at_call 18; with_reducible exact HW.out _)))
                  refine wpQuiet_nil ?_
                  rintro _ ⟨d5, rfl⟩
                  go_wp2_with fail
                  go_roundw
                  case rel => exact ⟨z + 1, by omega, by congr 1, T3.out.ext d5.gr, X3.out.gr d5.gr⟩
                  case measure => simp [intOf]; omega
                · have hzi : decide ((z : Int) < 6) = false := decide_eq_false (by omega)
                  go_wp2_with fail
                  go_roundw
                  case rel => exact ⟨a + 1, by omega, by congr 1, T3⟩
                  case measure => simp [intOf]; omega
            · have hai : decide ((a : Int) < 6) = false := decide_eq_false (by omega)
              go_wp2_with fail
              go_ret
              exact ⟨rfl, gB.out _ _ _ _ T3.out⟩

end Go.Proofs.Ythiojjkgodffnae
