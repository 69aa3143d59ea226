/- handpostlaw.NodeLearns ANSWERS true. -/
import Derived.Test.YtohbkhmpdegapadLN
namespace Go.Proofs.Ytohbkhmpdegapad
open Go.RowKit
attribute [local go_sem] Ext.all Ext.cell Ext.frozen Ext.lt Ext.lt1 Ext.lt2 Ext.ne Ext.ne' field_hop

theorem tell_z {x : Md} (h : MdZ x) {m : Md} (hm : MdX m) (me : Nat) : ∀ j, j ≤ 6 → MdZ (tellAll x me m.ways j)
  | 0, _ => h
  | j + 1, hj => by
    obtain ⟨_, t1, t2, t3⟩ := hm.tells (k := j) (by omega)
    exact hear_z (tell_z h hm me j (by omega)) t1 t2 t3
/-- All that the law asks of the new one. -/
structure Lnd (m : Md) (b : Nat) (c : Int) (X : Nat → Md) : Prop where
  zero : lnkM (newM b) (m.me : Int) c = X 0
  code0 : lcode (newM b) (m.me : Int) c = 0
  code : ∀ i, i < 6 → hcode (X i) (m.me : Int) (i : Int) (m.ways i).1 (m.ways i).2.1 = 0
  step : ∀ i, i < 6 → hrM (X i) (m.me : Int) (i : Int) (m.ways i).1 (m.ways i).2.1 = X (i + 1)
  z : ∀ i, i ≤ 6 → MdZ (X i)
  self : (X 6).ways b = (0, 0, (b : Int))
  way : ∀ k, k < 6 → k ≠ b → (X 6).ways k = tgt m.me c (m.ways k)
  drop : ∀ k, k < 6 → (m.ways k).2.2 = -1 → (m.ways k).2.1 = 200
  len : ∀ k, k < 6 → 0 ≤ (m.ways k).2.1 ∧ (m.ways k).2.1 ≤ 200
theorem lnd {m : Md} (h : MdZ m) {b : Nat} (hb : b < 6) (hne : m.me ≠ b) {c : Int} (hc0 : 1 ≤ c) (hc : c ≤ 15) : ∃ X, Lnd m b c X := by
  have hme := h.ok.me
  have ok : lkOk (newM b) (m.me : Int) c := ⟨⟨⟨by omega, by omega⟩, by show (m.me : Int) ≠ (b : Int); omega⟩, by omega, hc⟩
  have hl := fun j hj => learns h.ok (who := b) (c := c) (fun k hk => (h.x.tells hk).2.1) hne hc0 j hj
  have hz := fun j hj => tell_z (link_z (new_z hb) (who := m.me) (c := c) (by omega) hc) h.x m.me j hj
  have hrok : ∀ i, i < 6 → hrOk (tellAll (linkM (newM b) m.me c) m.me m.ways i) (m.me : Int) (i : Int) (m.ways i).1 (m.ways i).2.1 ∧ (tellAll (linkM (newM b) m.me c) m.me m.ways i).cost m.me ≠ 0 := fun i hi => by
    obtain ⟨_, t1, t2, t3⟩ := h.x.tells hi
    have hL := hl i (by omega)
    refine ⟨⟨⟨⟨by omega, by omega⟩, by rw [hL.mine]; omega⟩, ⟨by omega, by omega⟩, t1, t2, t3⟩, ?_⟩
    rw [hL.cost, if_pos rfl]; omega
  refine ⟨fun i => tellAll (linkM (newM b) m.me c) m.me m.ways i, ⟨?_, ?_, fun i hi => ?_, fun i hi => ?_, hz, (hl 6 (Nat.le_refl _)).self, fun k hk hkb => (hl 6 (Nat.le_refl _)).old k hkb hk, fun k hk hd => ?_, fun k hk => ⟨(h.x.tells hk).2.2.1, (h.x.tells hk).2.2.2⟩⟩⟩
  · unfold lnkM
    rw [if_pos ok, Int.toNat_natCast]
    rfl
  · unfold lcode
    rw [if_pos ok]
  · unfold hcode
    rw [if_pos (hrok i hi).1, Int.toNat_natCast, if_neg (hrok i hi).2]
  · unfold hrM
    rw [Int.toNat_natCast, Int.toNat_natCast, if_pos (hrok i hi)]
    rfl
  · rw [h.x.none_ k hd]

set_option maxRecDepth 20000 in
set_option maxHeartbeats 8000000 in
theorem nlearns_any (w : World) (me : Int) (ao : Option Addr) (n cp : Nat) (l : List Stp) (c : Int) (H : StpAt w ao l) (hn : l.length = n) :
    Calls Try.prog 8 #[iv me, .slice ao n cp, iv c] w fun e w' => e = .returned (.bool true) ∧ Gr w w' := by
  have HS := hide (fun (X : World) (g : Gr w X) => H.gr g)
  clear H
  go_enter Try.func8, Try.ntmps8
  go_upto_region 3 with (go_at_call 16; with_reducible refine (nbegun_any _).mono ?_; rintro e _ ⟨rfl, d1, rfl⟩)
  by_cases hme : 0 ≤ me ∧ me < 6
  · obtain ⟨a, rfl⟩ : ∃ a : Nat, me = (a : Int) := ⟨me.toNat, by omega⟩
    have ha : a < 6 := by omega
    clear hme
    go_upto_region 4 with (go_at_call 17; with_reducible refine (nnew_ok ha _).mono ?_; rintro e V2 ⟨rfl, M2', g2'⟩; have M2 := hide M2'; have G2 := hide g2'; clear M2' g2')
    have gw2 : Hid (Gr w V2) := d1.gr.trans G2.out
    have hpw : w.heap.size ≤ d1.out.heap.size := Below.size d1.gr
    clear G2
    generalize d1.out.heap.size = p at *
    clear d1
    by_cases hgo : n ≤ 200 ∧ 1 ≤ c ∧ c ≤ 15
    · obtain ⟨h200, hc0, hc15⟩ := hgo
      have gd : decide ((200 : Int) < (n : Int)) = false := decide_eq_false (by omega)
      have gd1 : decide (c < 1) = false := decide_eq_false (by omega)
      have gd2 : decide (15 < c) = false := decide_eq_false (by omega)
      go_upto_region 7 with (go_at_call 18; with_reducible refine (newMind_ok ha _).mono ?_; rintro e V3 ⟨rfl, J3', g3'⟩; have J3 := hide J3'; have G3 := hide g3'; clear J3' g3')
      have M3 := hide (M2.out.gr G3.out)
      have gw3 : Hid (Gr w V3) := gw2.out.trans G3.out
      have hpq : p < V2.heap.size := M2.out.lt
      clear M2 gw2 G3
      generalize V2.heap.size = q at *
      have HZ := hide (fun i => run_z (new_z ha) l i)
      have HA := hide (fun i => run_age (newM a) l i)
      have HSU := hide (fun i (h : i < l.length) => run_succ (newM a) l h)
      have HME := hide (fun i => run_me (newM a) l i)
      go_wp2_with fail
      go_loopw [9] (fun v9 wr => ∃ i : Nat, i ≤ n ∧ v9 = .int .i64 (i : Int) ∧ Hid (DAt wr p (sel (runM (newM a) l i))) ∧ Hid (MAt wr q (runM (newM a) l i)) ∧ Hid (Gr w wr)) (fun v9 _ => (n - intOf v9).toNat)
      case atStart => exact ⟨0, by omega, rfl, M3, J3, gw3⟩
      case round =>
        clear M3 J3 gw3
        obtain ⟨i, hin, rfl, M, J, gw⟩ := hrel
        by_cases hi : i < n
        · have hii : decide ((i : Int) < (n : Int)) = true := decide_eq_true (by omega)
          have wi : IntKind.i64.wrap ((i : Int) + 1) = (i : Int) + 1 := by rw [IntKind.wrap_i64]; omega
          have HSI := hide (HSU.out i (by omega))
          have hil : i < l.length := by omega
          rcases HS.out _ gw.out with h0 | ⟨b, oo, rfl, hb, hc⟩
          · exfalso; rw [h0] at hil; simp at hil
          obtain ⟨c0, c1, c2, c3, c4, c5, c6⟩ := hc i hil
          have HQ := hide (nstep_any M.out J.out (show p ≠ q by omega) (HZ.out i) (by have := HA.out i; rw [age_new] at this; omega) l[i])
          clear hc
          unfold Stp.val at HQ
          generalize l[i] = x at *
          obtain ⟨xk, xc, xf, xo, xz, xs, xd⟩ := x
          simp only at c0 c1 c2 c3 c4 c5 c6 HQ
          go_wp2_with (go_at_call 19; with_reducible refine HQ.out.mono ?_; rintro e V4 ⟨rfl, M4', J4', W4'⟩; have M4 := hide M4'; have J4 := hide J4'; have W4 := hide W4'; clear M4' J4' W4')
          go_roundw
          case rel => exact ⟨i + 1, by omega, by congr 1, by rw [HSI.out]; exact M4, by rw [HSI.out]; exact J4, W4.out.gr gw.out (by omega) (by omega)⟩
          case measure => simp [intOf]; omega
        · have ei : i = n := by omega
          subst ei
          have hii : decide ((i : Int) < (i : Int)) = false := decide_eq_false (by omega)
          clear J HSU HA hi hin
          have HZ1 := hide (HZ.out i)
          have hm1 : (runM (newM a) l i).me = a := HME.out i
          clear HZ HME
          generalize runM (newM a) l i = m at *
          subst hm1
          obtain ⟨b, hb, hbm, hbr⟩ : ∃ b : Nat, b < 6 ∧ m.me ≠ b ∧ Int.tmod ((m.me : Int) + 1) 6 = (b : Int) := by
            refine ⟨(m.me + 1) % 6, by omega, by omega, ?_⟩
            rw [Int.tmod_eq_emod_of_nonneg (by omega)]
            omega
          have wb1 : IntKind.i64.wrap ((m.me : Int) + 1) = (m.me : Int) + 1 := by rw [IntKind.wrap_i64]; omega
          obtain ⟨X, hX⟩ := lnd HZ1.out hb hbm hc0 hc15
          have HX := hide hX
          clear hX
          go_upto_region 12 with (fail)
          go_upto_region 13 with (go_at_call 17; with_reducible refine (nnew_ok hb _).mono ?_; rintro e V5 ⟨rfl, N5', g5'⟩; have N5 := hide N5'; have G5 := hide g5'; clear N5' g5')
          have M5 := hide (M.out.gr G5.out)
          have gw5 := hide (gw.out.trans G5.out)
          have hpr : p < wr.heap.size := M.out.lt
          clear M gw G5
          generalize wr.heap.size = r at *
          have HL : Hid (∀ V : World, DAt V r (sel (newM b)) → Calls Try.prog 28 #[pv r, iv (m.me : Int), iv c] V fun e w' => e = .returned (iv 0) ∧ DAt w' r (sel (X 0)) ∧ Wr r V w') := fun V h => by
            have := nlinkN h (new_z hb) (m.me : Int) c
            rw [HX.out.code0, HX.out.zero] at this
            exact this
          go_upto_region 15 with (go_at_call 28; with_reducible refine (HL.out _ N5.out).mono ?_; rintro e V6 ⟨rfl, N6', W6'⟩; have N6 := hide N6'; have W6 := hide W6'; clear N6' W6')
          have M6 := hide (M5.out.other W6.out (by omega))
          have gw6 := hide (W6.out.gr gw5.out (by omega))
          clear M5 gw5 N5 W6 HL
          have HT : Hid (∀ V : World, DAt V p (sel m) → Calls Try.prog 21 #[pv p, iv (b : Int)] V fun e w' => ∃ ao c, e = .returned (.slice ao 6 c) ∧ NewsAt w' ao (tellL m (b : Int) 6) ∧ (∀ b' o, ao = some ⟨b', o, none⟩ → V.heap.size ≤ b') ∧ Gr V w') := fun V h =>
            (ntell_any h (b : Int)).mono fun e w' ⟨v, he, ho, hg⟩ => by
              obtain ⟨ao, c, hv, ha, hy⟩ := OwnN.shape ho
              rw [tell_len] at hv
              exact ⟨ao, c, by rw [he, hv], ha, hy, hg⟩
          have hrl : r < V6.heap.size := N6.out.lt
          go_upto_region 16 with (go_at_call 21; with_reducible refine (HT.out _ M6.out).mono ?_; rintro e V7 ⟨an, cn, rfl, NA', ny', g7'⟩; have NA := hide NA'; have NY := hide ny'; have G7 := hide g7'; clear NA' ny' g7')
          have M7 := hide (M6.out.gr G7.out)
          have N7 := hide (N6.out.gr G7.out)
          have gw7 := hide (gw6.out.trans G7.out)
          have NY2 : Hid (∀ b' o, an = some ⟨b', o, none⟩ → b' ≠ r ∧ b' ≠ p) := fun b' o e => by have := NY.out b' o e; omega
          clear M6 N6 gw6 G7 HT NY
          go_wp2_with fail
          go_loopw [13] (fun v13 wr => ∃ i : Nat, i ≤ 6 ∧ v13 = .int .i64 (i : Int) ∧ Hid (DAt wr r (sel (X i))) ∧ Hid (DAt wr p (sel m)) ∧ Hid (NewsAt wr an (tellL m (b : Int) 6)) ∧ Hid (Gr w wr)) (fun v13 _ => (6 - intOf v13).toNat)
          case atStart => exact ⟨0, by omega, rfl, N7, M7, NA, gw7⟩
          case round =>
            clear N7 M7 NA gw7
            obtain ⟨j, hj6, rfl, N, M, NA, gw⟩ := hrel
            by_cases hj : j < 6
            · have hji : decide ((j : Int) < 6) = true := decide_eq_true (by omega)
              have hj0 : (j : Int) < 6 := by omega
              have wj : IntKind.i64.wrap ((j : Int) + 1) = (j : Int) + 1 := by rw [IntKind.wrap_i64]; omega
              have hlen := tell_len m (b : Int) 6
              rcases NA.out with h0 | ⟨bn, on, rfl, hbn, hcn⟩
              · exfalso; rw [h0] at hlen; simp at hlen
              obtain ⟨c0, c1, c2, c3, c4⟩ := hcn j (by omega)
              rw [tell_at] at c0 c1 c2 c3 c4
              simp only at c0 c1 c2 c3 c4
              have hbr2 := NY2.out bn on rfl
              have HQ := hide (nhearN N.out (HX.out.z j (by omega)) (m.me : Int) (b : Int) (j : Int) (m.ways j).1 (m.ways j).2.1)
              rw [HX.out.code j hj, HX.out.step j hj] at HQ
              clear hcn
              go_wp2_with (go_at_call 29; with_reducible refine HQ.out.mono ?_; rintro e V8 ⟨rfl, N8', W8'⟩; have N8 := hide N8'; have W8 := hide W8'; clear N8' W8')
              go_roundw
              case rel => exact ⟨j + 1, by omega, by congr 1, N8, M.out.other W8.out (by omega), NA.out.keep (fun b' o e hb' => W8.out.block b' hb' (NY2.out b' o e).1), W8.out.gr gw.out (by omega)⟩
              case measure => simp [intOf]; omega
            · have ej : j = 6 := by omega
              have hji : decide ((j : Int) < 6) = false := decide_eq_false (by omega)
              rw [ej] at N
              clear NA NY2 hj hj6 ej
              go_wp2_with fail
              have HXS := hide HX.out.self
              have HXW := hide HX.out.way
              have HXD := hide HX.out.drop
              have HXL := hide HX.out.len
              clear HX
              generalize X 6 = x at *
              go_loopw [14] (fun v14 wr => ∃ k : Nat, k ≤ 6 ∧ v14 = .int .i64 (k : Int) ∧ Hid (DAt wr r (sel x)) ∧ Hid (DAt wr p (sel m)) ∧ Hid (Gr w wr)) (fun v14 _ => (6 - intOf v14).toNat)
              case atStart => exact ⟨0, by omega, rfl, N, M, gw⟩
              case round =>
                clear N M gw
                obtain ⟨k, hk6, rfl, N, M, gw⟩ := hrel
                by_cases hk : k < 6
                · have hki : decide ((k : Int) < 6) = true := decide_eq_true (by omega)
                  have wk : IntKind.i64.wrap ((k : Int) + 1) = (k : Int) + 1 := by rw [IntKind.wrap_i64]; omega
                  have HW1 := hide (nwayG M.out (Gr.refl _) hk)
                  have HW2 := hide (fun (V : World) (g : Gr _ V) => nwayG N.out g hk)
                  have hlk := HXL.out k hk
                  have hdr := HXD.out k hk
                  have hwy := HXW.out k hk
                  have hself : k = b → x.ways k = (0, 0, (b : Int)) := fun e => by rw [e]; exact HXS.out
                  generalize m.ways k = wv at *
                  generalize x.ways k = vv at *
                  obtain ⟨ws, wd, wh⟩ := wv
                  obtain ⟨vs, vd, vh⟩ := vv
                  simp only at hlk hdr
                  have wb : IntKind.i64.wrap (wd + c) = wd + c := by rw [IntKind.wrap_i64]; omega
                  go_upto_region 27 with (first
                    | (go_at_call 23; with_reducible refine HW1.out.mono ?_; rintro e V1 ⟨rfl, d8, hV1⟩; have g1 := hide d8.gr; rw [← hV1] at g1; clear hV1 d8)
                    | (go_at_call 23; with_reducible refine (HW2.out _ g1.out).mono ?_; rintro e V2 ⟨rfl, d9, hV2⟩; have g2 := hide d9.gr; rw [← hV2] at g2; clear hV2 d9))
                  refine wp_gen (fun V => Hid (ZArr V 51 3 V2.heap.size (wayF (ws, wd, wh))) ∧ Hid (ZArr V 51 3 (V2.heap.size + 1) (wayF (vs, vd, vh))) ∧ Hid (Gr wr V)) ⟨(ZArr.new V2 51 3 (wayF (ws, wd, wh))).gr ((Gr.refl _).alloc _), ?_, ((g1.out.trans g2.out).alloc _).alloc _⟩ ?_
                  · have := ZArr.new (V2.alloc (.cells (zcells 3 (wayF (ws, wd, wh))) 51)) 51 3 (wayF (vs, vd, vh))
                    rw [show (V2.alloc (.cells (zcells 3 (wayF (ws, wd, wh))) 51)).heap.size = V2.heap.size + 1 by simp] at this
                    exact this
                  clear HW1 HW2 g1 g2
                  generalize V2.heap.size = y at *
                  rintro V ⟨A1, A2, gV⟩
                  have x0 : V.cell? ⟨y, 0, none⟩ = some (iv ws) := A1.out.cell (by omega)
                  have x1 : V.cell? ⟨y, 1, none⟩ = some (iv wd) := A1.out.cell (by omega)
                  have x2 : V.cell? ⟨y, 2, none⟩ = some (iv wh) := A1.out.cell (by omega)
                  have z0 : V.cell? ⟨y + 1, 0, none⟩ = some (iv vs) := A2.out.cell (by omega)
                  have z1 : V.cell? ⟨y + 1, 1, none⟩ = some (iv vd) := A2.out.cell (by omega)
                  have z2 : V.cell? ⟨y + 1, 2, none⟩ = some (iv vh) := A2.out.cell (by omega)
                  have l1 := A1.out.lt
                  have l2 := A2.out.lt
                  have HR : Hid (∃ k' : Nat, k' ≤ 6 ∧ Value.int .i64 ((k : Int) + 1) = .int .i64 (k' : Int) ∧ Hid (DAt V r (sel x)) ∧ Hid (DAt V p (sel m)) ∧ Hid (Gr w V)) := ⟨k + 1, by omega, by congr 1, N.out.gr gV.out, M.out.gr gV.out, gw.out.trans gV.out⟩
                  clear A1 A2 gV N M gw
                  by_cases hkb : k = b
                  · have e1 : ((k : Int) == (b : Int)) = true := by simp; omega
                    have := hself hkb
                    simp only [Prod.mk.injEq] at this
                    obtain ⟨rfl, rfl, rfl⟩ := this
                    clear hself hwy hdr hkb
                    go_wp2_with fail
                    go_roundw
                    case rel => exact HR.out
                    case measure => simp [intOf]; omega
                  · have e1 : ((k : Int) == (b : Int)) = false := by simp; omega
                    have hv := hwy hkb
                    clear hself hwy hkb
                    by_cases hlt : wd + c < 200
                    · have e2 : decide ((200 : Int) ≤ wd + c) = false := decide_eq_false (by omega)
                      have e3 : (wh == -1) = false := by
                        by_cases q : wh = -1
                        · have := hdr q; omega
                        · simpa using q
                      unfold tgt at hv
                      rw [if_pos hlt] at hv
                      simp only [Prod.mk.injEq] at hv
                      obtain ⟨rfl, rfl, rfl⟩ := hv
                      clear hdr hlt
                      go_wp2_with fail
                      go_roundw
                      case rel => exact HR.out
                      case measure => simp [intOf]; omega
                    · have e2 : decide ((200 : Int) ≤ wd + c) = true := decide_eq_true (by omega)
                      unfold tgt at hv
                      rw [if_neg hlt] at hv
                      simp only [Prod.mk.injEq] at hv
                      obtain ⟨rfl, rfl, rfl⟩ := hv
                      clear hdr hlt
                      cases e3 : (wh == -1)
                      · go_wp2_with fail
                        go_roundw
                        case rel => exact HR.out
                        case measure => simp [intOf]; omega
                      · go_wp2_with fail
                        go_roundw
                        case rel => exact HR.out
                        case measure => simp [intOf]; omega
                · have ek : k = 6 := by omega
                  subst ek
                  go_wp2_with fail
                  go_ret
                  exact ⟨rfl, gw.out⟩
    · have gg : decide ((200 : Int) < (n : Int)) = true ∨ (decide ((200 : Int) < (n : Int)) = false ∧ decide (c < 1) = true) ∨ (decide ((200 : Int) < (n : Int)) = false ∧ decide (c < 1) = false ∧ decide (15 < c) = true) := by
        simp only [decide_eq_true_eq, decide_eq_false_iff_not]
        omega
      clear hgo
      rcases gg with gd | ⟨gd, gd1⟩ | ⟨gd, gd1, gd2⟩
      all_goals
        go_wp2_with fail
        go_ret
        exact ⟨rfl, gw2.out⟩
  · have hnil := nnew_nil hme
    go_wp2_with (go_at_call 17; with_reducible refine (hnil _).mono ?_; rintro e w1 ⟨rfl, hw1⟩; subst hw1)
    go_ret
    exact ⟨rfl, d1.gr⟩

end Go.Proofs.Ytohbkhmpdegapad
