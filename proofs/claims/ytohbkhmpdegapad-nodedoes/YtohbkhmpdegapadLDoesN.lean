/- handpostlaw.NodeDoes ANSWERS true. -/
import Derived.Test.YtohbkhmpdegapadLN
import Derived.Test.YtohbkhmpdegapadN7
namespace Go.Proofs.Ytohbkhmpdegapad
open Go.RowKit
attribute [local go_sem] Ext.all Ext.cell Ext.frozen Ext.lt Ext.lt1 Ext.lt2 Ext.ne Ext.ne' field_hop

set_option maxRecDepth 20000 in
set_option maxHeartbeats 8000000 in
theorem ndoes_any (w : World) (me : Int) (ao : Option Addr) (n cp : Nat) (l : List Stp) (who : Int) (H : StpAt w ao l) (hn : l.length = n) :
    Calls Try.prog 5 #[iv me, .slice ao n cp, iv who] w fun e w' => e = .returned (.bool true) ∧ Gr w w' := by
  have HS := hide (fun (X : World) (g : Gr w X) => H.gr g)
  clear H
  go_enter Try.func5, Try.ntmps5
  go_upto_region 3 with (go_at_call 16; with_reducible refine (nbegun_any _).mono ?_; rintro e _ ⟨rfl, d1, rfl⟩)
  by_cases h200 : 200 < n
  · have gd : decide ((200 : Int) < (n : Int)) = true := decide_eq_true (by omega)
    go_wp2_with fail
    go_ret
    exact ⟨rfl, d1.gr⟩
  have gd : decide ((200 : Int) < (n : Int)) = false := decide_eq_false (by omega)
  by_cases hme : 0 ≤ me ∧ me < 6
  · have B1 : Hid (decide (0 ≤ me ∧ me < 6) = true) := decide_eq_true hme
    obtain ⟨a, rfl⟩ : ∃ a : Nat, me = (a : Int) := ⟨me.toNat, by omega⟩
    have ha : a < 6 := by omega
    clear hme
    go_upto_region 6 with (go_at_call 17; with_reducible refine (nnew_ok ha _).mono ?_; rintro e V2 ⟨rfl, M2', g2'⟩; have M2 := hide M2'; have G2 := hide g2'; clear M2' g2')
    have gw2 : Hid (Gr w V2) := d1.gr.trans G2.out
    have hpw : w.heap.size ≤ d1.out.heap.size := Below.size d1.gr
    clear G2
    generalize d1.out.heap.size = p at *
    clear d1
    go_upto_region 11 with (first
      | (go_at_call 10; with_reducible refine (isNode_is B1.out _).mono ?_; rintro e w1 ⟨rfl, hw1⟩; have hw2 := hw1.symm; clear hw1; subst hw2)
      | (go_at_call 18; with_reducible refine (newMind_ok ha _).mono ?_; rintro e V3 ⟨rfl, J3', g3'⟩; have J3 := hide J3'; have G3 := hide g3'; clear J3' g3'))
    have M3 := hide (M2.out.gr G3.out)
    have gw3 : Hid (Gr w V3) := gw2.out.trans G3.out
    have hpq : p < V2.heap.size := M2.out.lt
    clear M2 gw2 G3
    generalize V2.heap.size = q at *
    have HZ := hide (fun i => run_z (new_z ha) l i)
    have HA := hide (fun i => run_age (newM a) l i)
    have HSU := hide (fun i (h : i < l.length) => run_succ (newM a) l h)
    go_wp2_with fail
    go_loopw [9] (fun v9 wr => ∃ i : Nat, i ≤ n ∧ v9 = .int .i64 (i : Int) ∧ Hid (DAt wr p (sel (runM (newM a) l i))) ∧ Hid (MAt wr q (runM (newM a) l i)) ∧ Hid (Gr w wr)) (fun v9 _ => (n - intOf v9).toNat)
    case atStart => exact ⟨0, by omega, rfl, M3, J3, gw3⟩
    case round =>
      clear M3 J3 gw3
      obtain ⟨i, hin, rfl, M, J, gw⟩ := hrel
      by_cases hi : i < n
      · have hii : decide ((i : Int) < (n : Int)) = true := decide_eq_true (by omega)
        have hi0 : (i : Int) < (n : Int) := by omega
        have wi : IntKind.i64.wrap ((i : Int) + 1) = (i : Int) + 1 := by rw [IntKind.wrap_i64]; omega
        have hil : i < l.length := by omega
        have HSB := hide (fun (X : World) (g : Gr w X) => HS.out X g)
        rcases HS.out _ gw.out with h0 | ⟨b, oo, rfl, hb, hc⟩
        · exfalso; rw [h0] at hil; simp at hil
        obtain ⟨c0, c1, c2, c3, c4, c5, c6⟩ := hc i hil
        have HCS : Hid (∀ X : World, Gr w X → b < X.heap.size ∧ X.cell? ⟨b, oo + i * 7 + 2, none⟩ = some (iv l[i].f) ∧ X.cell? ⟨b, oo + i * 7 + 3, none⟩ = some (iv l[i].o) ∧ X.cell? ⟨b, oo + i * 7 + 4, none⟩ = some (iv l[i].z) ∧ X.cell? ⟨b, oo + i * 7 + 5, none⟩ = some (iv l[i].s) ∧ X.cell? ⟨b, oo + i * 7 + 6, none⟩ = some (iv l[i].d)) := fun X g => by
          rcases HSB.out X g with h0 | ⟨b', oo', e', hb', hc'⟩
          · exfalso; rw [h0] at hil; simp at hil
          · simp only [Option.some.injEq, Addr.mk.injEq, and_true] at e'
            obtain ⟨rfl, rfl⟩ := e'
            obtain ⟨_, _, e2, e3, e4, e5, e6⟩ := hc' i hil
            exact ⟨hb', e2, e3, e4, e5, e6⟩
        have HQ := hide (nstep_any M.out J.out (show p ≠ q by omega) (HZ.out i) (by have := HA.out i; rw [age_new] at this; omega) l[i])
        rw [← HSU.out i hil] at HQ
        have HZ2 := hide (HZ.out (i + 1))
        clear hc HSB
        unfold Stp.val at HQ
        generalize l[i] = x at *
        generalize runM (newM a) l i = m1 at *
        have RN : Hid (runM (newM a) l (i + 1) = runM (newM a) l (i + 1)) := rfl
        generalize hM : runM (newM a) l (i + 1) = m at HQ HZ2
        have HM2 := hide hM
        clear hM RN
        obtain ⟨xk, xc, xf, xo, xz, xs, xd⟩ := x
        simp only at c0 c1 c2 c3 c4 c5 c6 HQ HCS
        obtain ⟨wv, hwv⟩ : ∃ t, wayOf m who = t := ⟨_, rfl⟩
        obtain ⟨ws, wd, wh⟩ := wv
        have HT1 : Hid (∀ V : World, DAt V p (sel m) → Calls Try.prog 21 #[pv p, iv who] V fun e w' => ∃ ao c, e = .returned (.slice ao 6 c) ∧ NewsAt w' ao (tellL m who 6) ∧ Gr V w') := fun V h =>
          (ntell_any h who).mono fun e w' ⟨v, he, ho, hg⟩ => by
            obtain ⟨ao, c, hv, ha, _⟩ := OwnN.shape ho
            rw [tell_len] at hv
            exact ⟨ao, c, by rw [he, hv], ha, hg⟩
        have HT2 : Hid (∀ V : World, MAt V q m → Calls Try.prog 22 #[pv q, iv who] V fun e w' => ∃ ao c, e = .returned (.slice ao 6 c) ∧ NewsAt w' ao (tellL m who 6) ∧ Gr V w') := fun V h =>
          (mtell_any h who).mono fun e w' ⟨v, he, ho, hg⟩ => by
            obtain ⟨ao, c, hv, ha, _⟩ := OwnN.shape ho
            rw [tell_len] at hv
            exact ⟨ao, c, by rw [he, hv], ha, hg⟩
        have HW1 : Hid (∀ V : World, DAt V p (sel m) → Calls Try.prog 23 #[pv p, iv who] V fun e w' => e = .returned (.agg #[iv ws, iv wd, iv wh]) ∧ Gr V w') := fun V h => by
          refine (nway_any h who).mono fun e w' ⟨he, d, hd⟩ => ⟨?_, by rw [hd]; exact d.gr⟩
          rw [he, show wayOf (sel m) who = wayOf m who from rfl, hwv]; rfl
        have HW2 : Hid (∀ V : World, MAt V q m → Calls Try.prog 24 #[pv q, iv who] V fun e w' => e = .returned (.agg #[iv ws, iv wd, iv wh]) ∧ Gr V w') := fun V h => by
          refine (mway_any h who).mono fun e w' ⟨he, d, hd⟩ => ⟨?_, by rw [hd]; exact d.gr⟩
          rw [he, hwv]; rfl
        have HL6 := hide (tell_len m who 6)
        clear hwv
        go_upto_region 16 with (first
          | (go_at_call 19; with_reducible refine HQ.out.mono ?_; rintro e V4 ⟨rfl, M4', J4', W4'⟩; have M4 := hide M4'; have J4 := hide J4'; have W4 := hide W4'; clear M4' J4' W4')
          | (go_at_call 21; with_reducible refine (HT1.out _ M4.out).mono ?_; rintro e V5 ⟨a5, k5, rfl, N5', g5'⟩; have N5 := hide N5'; have G5 := hide g5'; clear N5' g5')
          | (go_at_call 22; with_reducible refine (HT2.out _ (J4.out.gr G5.out)).mono ?_; rintro e V6 ⟨a6, k6, rfl, N6', g6'⟩; have N6 := hide N6'; have G6 := hide g6'; clear N6' g6')
          | (go_at_call 20; with_reducible refine (sameNews_same HL6.out (by omega) (N5.out.gr G6.out) N6.out).mono ?_; rintro e V7 ⟨rfl, d7, hd7⟩; have G7 := hide d7.gr; rw [← hd7] at G7; clear hd7 d7)
          | (go_at_call 23; with_reducible refine (HW1.out _ (((M4.out.gr G5.out).gr G6.out).gr G7.out)).mono ?_; rintro e V8 ⟨rfl, g8'⟩; have G8 := hide g8'; clear g8')
          | (go_at_call 24; with_reducible refine (HW2.out _ ((((J4.out.gr G5.out).gr G6.out).gr G7.out).gr G8.out)).mono ?_; rintro e V9 ⟨rfl, g9'⟩; have G9 := hide g9'; clear g9'))
        have GG : Hid (Gr V4 V9) := (((G5.out.trans G6.out).trans G7.out).trans G8.out).trans G9.out
        have M9 := hide (M4.out.gr GG.out)
        have J9 := hide (J4.out.gr GG.out)
        have gw9 : Hid (Gr w V9) := (W4.out.gr gw.out (by omega) (by omega)).trans GG.out
        have HS9 := hide (HCS.out _ gw9.out)
        clear GG M4 J4 W4 M J gw HQ HT1 HT2 HW1 HW2 N5 N6 G5 G6 G7 G8 G9 c0 c1 c2 c3 c4 c5 c6 hb
        go_wp2_with fail
        go_loopw [10] (fun v10 wr => ∃ k : Nat, k ≤ 6 ∧ v10 = .int .i64 (k : Int) ∧ Hid (Gr V9 wr)) (fun v10 _ => (6 - intOf v10).toNat)
        case atStart => exact ⟨0, by omega, rfl, Gr.refl _⟩
        case round =>
          obtain ⟨k, hk6, rfl, gk⟩ := hrel
          by_cases hk : k < 6
          · have hki : decide ((k : Int) < 6) = true := decide_eq_true (by omega)
            have hk0 : (k : Int) < 6 := by omega
            have wk : IntKind.i64.wrap ((k : Int) + 1) = (k : Int) + 1 := by rw [IntKind.wrap_i64]; omega
            have HBT := hide (nbestG M9.out HZ2.out.ok gk.out hk)
            have HWE := hide (fun (V : World) (g : Gr V9 V) (x : Ext V) => nwayE x (M9.out.gr g) hk)
            have HJC : Hid (∀ V : World, Gr V9 V → q < V.heap.size ∧ (V.cell? ⟨q, 79 + k * 3, none⟩ = some (iv (m.ways k).1) ∧ V.cell? ⟨q, 79 + k * 3 + 1, none⟩ = some (iv (m.ways k).2.1) ∧ V.cell? ⟨q, 79 + k * 3 + 2, none⟩ = some (iv (m.ways k).2.2)) ∧ V.cell? ⟨q, 97 + k * 2, none⟩ = some (iv (m.bests k).1) ∧ V.cell? ⟨q, 97 + k * 2 + 1, none⟩ = some (iv (m.bests k).2)) := fun V g => ⟨(J9.out.gr g).lt, (J9.out.gr g).ways hk, (J9.out.gr g).bests hk⟩
            generalize m.ways k = wv at *
            generalize m.bests k = bv at *
            obtain ⟨vs, vd, vh⟩ := wv
            obtain ⟨bs, bd⟩ := bv
            simp only at HJC
            go_upto_region 20 with (go_at_call 25; with_reducible refine HBT.out.mono ?_; rintro e V10 ⟨rfl, d10, hV10⟩; have g10 : Hid (Gr V9 V10) := (by unfold Hid; rw [hV10]; exact gk.out.trans d10.gr); clear hV10 d10)
            obtain ⟨ql, ⟨y0, y1, y2⟩, z0, z1⟩ := HJC.out _ g10.out
            refine wp_region_ext (by kernel_rfl) (by kernel_rfl) ?_
            repeat (go_big_quiet_step ((go_at_call 23; with_reducible exact HWE.out _ g10.out _)))
            refine wpQuiet_nil ?_
            rintro _ ⟨d11, rfl⟩
            go_wp2_with fail
            go_roundw
            case rel => exact ⟨k + 1, by omega, by congr 1, g10.out.trans d11.gr⟩
            case measure => simp [intOf]; omega
          · have hki : decide ((k : Int) < 6) = false := decide_eq_false (by omega)
            obtain ⟨bl, e2, e3, e4, e5, e6⟩ := HCS.out _ (gw9.out.trans gk.out)
            obtain ⟨bv, hbv⟩ : ∃ bv, bet xs xd xf xz = bv := ⟨_, rfl⟩
            have HBV := hide hbv
            clear hbv
            go_upto_region 23 with (fail)
            refine wp_gen (fun V => Hid (ZArr V 44 5 wr.heap.size (nwF xf xo xz xs xd)) ∧ Hid (Gr V9 V)) ⟨ZArr.new wr 44 5 (nwF xf xo xz xs xd), gk.out.alloc _⟩ ?_
            generalize wr.heap.size = y at *
            clear e2 e3 e4 e5 e6 bl
            rintro V ⟨A, gV⟩
            have k0 : V.cell? ⟨y, 0, none⟩ = some (iv xf) := A.out.cell (by omega)
            have k2 : V.cell? ⟨y, 2, none⟩ = some (iv xz) := A.out.cell (by omega)
            have k3 : V.cell? ⟨y, 3, none⟩ = some (iv xs) := A.out.cell (by omega)
            have k4 : V.cell? ⟨y, 4, none⟩ = some (iv xd) := A.out.cell (by omega)
            have yl := A.out.lt
            clear A
            refine wp_region_ext (by kernel_rfl) (by kernel_rfl) ?_
            repeat (go_big_quiet_step (first | (go_at_call 26; with_reducible exact nbetter_ext HBV.out _) | (go_at_call 27; with_reducible exact rbetter_ext HBV.out _)))
            refine wpQuiet_nil ?_
            rintro _ ⟨d12, rfl⟩
            go_wp2_with fail
            go_roundw
            case rel => exact ⟨i + 1, by omega, by congr 1, by rw [HM2.out]; exact M9.out.gr (gV.out.trans d12.gr), by rw [HM2.out]; exact J9.out.gr (gV.out.trans d12.gr), gw9.out.trans (gV.out.trans d12.gr)⟩
            case measure => simp [intOf]; omega
      · have hii : decide ((i : Int) < (n : Int)) = false := decide_eq_false (by omega)
        have HB1 : Hid (∀ V : World, Gr _ V → Calls Try.prog 25 #[pv p, iv (-1)] V fun e w' => e = .returned (.tuple #[iv 0, iv 200]) ∧ ∃ d : Ext V, w' = d.out) := fun V g => by
          have := nbest_any (M.out.gr g) (-1)
          rw [show bestOf (sel (runM (newM a) l i)) (-1) = (0, 200) by unfold bestOf; rw [if_neg (by omega)]] at this
          exact this
        have HW1 : Hid (∀ V : World, Gr _ V → Calls Try.prog 23 #[pv p, iv 6] V fun e w' => e = .returned (.agg #[iv 0, iv 200, iv (-1)]) ∧ ∃ d : Ext V, w' = d.out) := fun V g => by
          have := nway_any (M.out.gr g) 6
          rw [show wayOf (sel (runM (newM a) l i)) 6 = (0, 200, -1) by unfold wayOf; rw [if_neg (by omega)]] at this
          exact this
        go_wp2_with (first
          | (go_at_call 25; with_reducible refine (HB1.out _ (Gr.refl _)).mono ?_; rintro e _ ⟨rfl, d10, rfl⟩)
          | (go_at_call 23; with_reducible refine (HW1.out _ d10.gr).mono ?_; rintro e _ ⟨rfl, d11, rfl⟩))
        go_ret
        exact ⟨rfl, (gw.out.trans d10.gr).trans d11.gr⟩
  · have B1 : Hid (decide (0 ≤ me ∧ me < 6) = false) := decide_eq_false hme
    have hnil := nnew_nil hme
    go_wp2_with (first | (go_at_call 17; with_reducible refine (hnil _).mono ?_; rintro e w1 ⟨rfl, hw1⟩; subst hw1) | (go_at_call 10; with_reducible refine (isNode_is B1.out _).mono ?_; rintro e w1 ⟨rfl, hw1⟩; subst hw1))
    go_ret
    exact ⟨rfl, d1.gr⟩

end Go.Proofs.Ytohbkhmpdegapad
