/- handpostlaw.NetAges ANSWERS true. -/
import Derived.Test.YthiojjkgodffnaeLNt
import Derived.Test.YthiojjkgodffnaeRIs
namespace Go.Proofs.Ythiojjkgodffnae
open Go.RowKit
attribute [local go_sem] Ext.all Ext.cell Ext.frozen Ext.lt Ext.lt1 Ext.lt2 Ext.ne Ext.ne' fld0

/-- The bests' ages as they are noted: those ahead of (a, b) are new. -/
def agY (t t' : Tn) (a b : Nat) : Nat → Int := fun j => if j % 6 < a ∨ (j % 6 = a ∧ j / 6 < b) then ((t'.nd (j / 6)).bests (j % 6)).1 else ((t.nd (j / 6)).bests (j % 6)).1
theorem agY_set {w : World} {ty Y : Nat} {t t' : Tn} {a b : Nat} (h : ZArr w ty 36 Y (agY t t' a b)) (ha : a < 6) (_ : b < 6) : ZArr (w.setCell ⟨Y, b * 6 + a, none⟩ (iv ((t'.nd b).bests a).1)) ty 36 Y (agY t t' a (b + 1)) := by
  refine ZArr.set h fun j hj => ?_
  unfold agY
  by_cases e : j = b * 6 + a
  · subst e
    rw [if_pos rfl, if_pos (by omega), show (b * 6 + a) / 6 = b by omega, show (b * 6 + a) % 6 = a by omega]
  · rw [if_neg e]
    by_cases q : j % 6 < a ∨ (j % 6 = a ∧ j / 6 < b)
    · rw [if_pos q, if_pos (by omega)]
    · rw [if_neg q, if_neg (by omega)]
theorem agY_at {w : World} {ty Y : Nat} {t t' : Tn} {a b : Nat} (h : ZArr w ty 36 Y (agY t t' a b)) (ha : a < 6) (hb : b < 6) : w.cell? ⟨Y, b * 6 + a, none⟩ = some (iv ((t.nd b).bests a).1) := by
  have := h.cell (j := b * 6 + a) (by omega)
  unfold agY at this
  rw [if_neg (by omega), show (b * 6 + a) / 6 = b by omega, show (b * 6 + a) % 6 = a by omega] at this
  exact this
theorem bet_age {s d s2 d2 : Int} (h : bet s d s2 d2 = false) : s ≤ s2 := by
  rcases bet_not.1 h with h | h <;> omega

set_option maxRecDepth 20000 in
set_option maxHeartbeats 32000000 in
theorem netAges_any (w : World) (ao : Option Addr) (n cp : Nat) (l : List Sx) (H : SpAt w ao l) (hn : l.length = n) :
    Calls Try.prog 8 #[.slice ao n cp] w fun e w' => e = .returned (.bool true) ∧ Gr w w' := by
  have HS := hide (fun (X : World) (g : Gr w X) => H.gr g)
  have HNL := hide hn
  clear H hn
  go_enter Try.func8, Try.ntmps8
  go_upto_region 3 with (go_at_call 9; with_reducible refine (netBegun_ok _).mono ?_; rintro e V0 ⟨rfl, g0'⟩; have G0 := hide g0'; clear g0')
  by_cases h150 : 150 < n
  · have gd : decide ((150 : Int) < (n : Int)) = true := decide_eq_true (by omega)
    go_wp2_with fail
    go_ret
    exact ⟨rfl, G0.out⟩
  · have gd : decide ((150 : Int) < (n : Int)) = false := decide_eq_false (by omega)
    have HNN := hide (netNew_nl V0 (fun b => b < V0.heap.size) (fun _ h => h))
    go_upto_region 9 with (go_at_call 10; with_reducible refine HNN.out.mono ?_; rintro e V1 ⟨p, k, q, v, rfl, H0', g1', z1'⟩; have H0 := hide H0'; have G1 := hide g1'; clear H0' g1' z1')
    have gw0 := G0
    refine wp_gen (fun V => Hid (Nl (fun b => b < V0.heap.size) V0 V p k q v (fun _ _ => 0) newT 0) ∧ Hid (ZArr V 56 6 V1.heap.size (fun _ => 0)) ∧ Hid (ZArr V 63 36 (V1.heap.size + 1) (fun _ => 0)) ∧ Hid (rest V p k q v V1.heap.size ∧ rest V p k q v (V1.heap.size + 1)) ∧ Hid (V0.heap.size ≤ V1.heap.size)) ⟨H0.out.ext (((Gr.refl _).alloc _).alloc _), ZArr.gr (show ZArr _ 56 6 V1.heap.size (fun _ => 0) from heap_alloc_new V1 _) ((Gr.refl _).alloc _), by
      have e : (V1.alloc (.cells #[iv 0, iv 0, iv 0, iv 0, iv 0, iv 0] 56)).heap.size = V1.heap.size + 1 := by simp
      rw [← e]
      exact (heap_alloc_new (V1.alloc (.cells #[iv 0, iv 0, iv 0, iv 0, iv 0, iv 0] 56)) _), ⟨H0.out.h.notOwn (((Gr.refl _).alloc _).alloc _) (Nat.le_refl _) (by simp; omega), H0.out.h.notOwn (((Gr.refl _).alloc _).alloc _) (by omega) (by simp)⟩, Below.size G1.out⟩ ?_
    clear H0 G1 HNN
    generalize V1.heap.size = X at *
    rintro V ⟨H0, X0, Y0, R0, hVX⟩
    have N0 : ∀ j, j < 6 → agT newT j = 0 := fun j hj => by rcases (show j = 0 ∨ j = 1 ∨ j = 2 ∨ j = 3 ∨ j = 4 ∨ j = 5 by omega) with rfl | rfl | rfl | rfl | rfl | rfl <;> rfl
    have M0 : ∀ a j, j < 6 → ((newT.nd a).bests j).1 = 0 := fun a j hj => by
      show (updW (fun _ => ((0, 200) : Int × Int)) a (0, 0) j).1 = 0
      unfold updW
      split <;> rfl
    have X1 : Hid (ZArr V 56 6 X (fun a => agT newT a)) := X0.out.congr (fun j hj => (N0 j hj).symm)
    have Y1 : Hid (ZArr V 63 36 (X + 1) (fun j => ((newT.nd (j / 6)).bests (j % 6)).1)) := Y0.out.congr (fun j hj => (M0 _ _ (by omega)).symm)
    clear X0 Y0 N0 M0
    go_loopw [6] (fun v6 wr => ∃ (i : Nat) (v : Value) (c : Nat → Nat → Nat) (t : Tn), i ≤ n ∧ v6 = .int .i64 (i : Int) ∧ Hid (playT newT (spsOf l) i = t) ∧ Hid (Nl (fun b => b < V0.heap.size) V0 wr p k q v c t i) ∧ Hid (ZArr wr 56 6 X (fun a => agT t a)) ∧ Hid (ZArr wr 63 36 (X + 1) (fun j => ((t.nd (j / 6)).bests (j % 6)).1)) ∧ Hid (rest wr p k q v X ∧ rest wr p k q v (X + 1))) (fun v6 _ => (n - intOf v6).toNat)
    case atStart => exact ⟨0, v, _, newT, by omega, rfl, rfl, H0, X1, Y1, R0⟩
    case round =>
      clear H0 X1 Y1 R0 V v
      obtain ⟨i, v, c, t, hin, rfl, HP, H0, X0, Y0, R0⟩ := hrel
      by_cases hi : i < n
      · have hii : decide ((i : Int) < (n : Int)) = true := decide_eq_true (by omega)
        have hi0 : (i : Int) < (n : Int) := by omega
        have hil : i < l.length := by have := HNL.out; omega
        have wi : IntKind.i64.wrap ((i : Int) + 1) = (i : Int) + 1 := by rw [IntKind.wrap_i64]; omega
        have gB : Hid (∀ (W : World) (v : Value) (c : Nat → Nat → Nat) (t : Tn) (m : Nat), Nl (fun b => b < V0.heap.size) V0 W p k q v c t m → Gr w W) := fun W v c t m h => G0.out.trans (h.h.kp.below (Nat.le_refl _) (fun _ h => h))
        obtain ⟨bn, on, hao, hbn, s0, s1, s2, s3, s4, s5⟩ := (HS.out _ (gB.out _ _ _ _ _ H0.out)).get hil
        have HG := hide (fun (X : World) (g : Gr w X) => (HS.out X g).get hil)
        have HPN := hide (play_next l hil)
        rw [HP.out] at HPN
        subst hao
        generalize l[i] = x at *
        obtain ⟨⟨kd, xa, xb, xn⟩, xl, xt⟩ := x
        simp only at s0 s1 s2 s3 s4 s5 HG HPN
        have HD := hide (H0.out.do' (by omega) ⟨kd, xa, xb, xn⟩ (iv xl) (iv xt))
        have HNX := hide (do_nx H0.out.a ⟨kd, xa, xb, xn⟩)
        rw [← HPN.out] at HD HNX
        generalize hc1 : nextC c ⟨kd, xa, xb, xn⟩ = c1 at *
        clear hc1
        generalize ht1 : playT newT (spsOf l) (i + 1) = t1 at *
        have HT1 := hide ht1
        clear ht1 HPN
        generalize (doT t ⟨kd, xa, xb, xn⟩).2 = rc at *
        go_upto_region 12 with (go_at_call 12; with_reducible refine HD.out.mono ?_; rintro e V2 ⟨v2, rfl, T2', F2'⟩; have T2 := hide T2'; have F2 := hide F2'; clear T2' F2')
        have X2 : Hid (ZArr V2 56 6 X (fun a => agT t a)) := F2.out.zarr X0.out R0.out.1
        have Y2 : Hid (ZArr V2 63 36 (X + 1) (fun j => ((t.nd (j / 6)).bests (j % 6)).1)) := F2.out.zarr Y0.out R0.out.2
        have R2 : Hid (rest V2 p k q v2 X ∧ rest V2 p k q v2 (X + 1)) := ⟨F2.out.rst R0.out.1, F2.out.rst R0.out.2⟩
        clear H0 X0 Y0 R0 HD F2 s0 s1 s2 s3 s4 s5 hbn
        obtain ⟨bn', on', hbo, hbn, s0, s1, s2, s3, s4, s5⟩ := HG.out _ (gB.out _ _ _ _ _ T2.out)
        simp only [Option.some.injEq, Addr.mk.injEq] at hbo
        obtain ⟨rfl, rfl, _⟩ := hbo
        clear s2 s3 s4 s5
        have hcase : ((kd == 2) = true ∧ (∃ y : Nat, y < 6 ∧ xa = (y : Int))) ∨ ((kd == 2) = true ∧ ¬ (0 ≤ xa ∧ xa < 6)) ∨ (kd == 2) = false := by
          by_cases e : kd = 2
          · by_cases f : 0 ≤ xa ∧ xa < 6
            · exact .inl ⟨by simpa using e, xa.toNat, by omega, by omega⟩
            · exact .inr (.inl ⟨by simpa using e, f⟩)
          · exact .inr (.inr (by simpa using e))
        have hkd : Hid ((kd == 2) = true ↔ kd = 2) := by unfold Hid; simp
        have hp := T2.out.h.blk.lt
        have hX := X2.out.lt
        have fx := X2.out.free
        rcases hcase with ⟨hk2, y, hy, rfl⟩ | ⟨hk2, hya⟩ | hk2
        case' inl =>
          have B1 : Hid (decide (0 ≤ (y : Int) ∧ (y : Int) < 6) = true) := decide_eq_true ⟨by omega, by omega⟩
          have hy0 : (y : Int) < 6 := by omega
          have c0 := X2.out.cell hy
          have e2 := hkd.out.1 hk2
          have wy : IntKind.i64.wrap (agT t y + 1) = agT t y + 1 := by
            rw [IntKind.wrap_i64]
            have h1 := T2.out.g y hy
            have h2 := HNX.out.age y hy
            have h3 := (T2.out.a.self hy).1
            unfold upA at h2
            rw [if_pos ⟨e2, rfl⟩] at h2
            omega
          have SX : Hid (ZArr (V2.setCell ⟨X, y, none⟩ (iv (agT t y + 1))) 56 6 X (fun a => agT t1 a)) := X2.out.set (fun a ha => by
            rw [HNX.out.age a ha]
            unfold upA
            by_cases e : a = y
            · rw [if_pos ⟨e2, by rw [e]⟩, if_pos e, e]
            · rw [if_neg (fun z => e (by have := z.2; simp only at this; omega)), if_neg e]; omega)
          have SH := hide (T2.out.aside R2.out.1 (by have := hVX.out; omega) ((Wr.refl X V2).set y (iv (agT t y + 1))))
          have SY : Hid (ZArr (V2.setCell ⟨X, y, none⟩ (iv (agT t y + 1))) 63 36 (X + 1) (fun j => ((t.nd (j / 6)).bests (j % 6)).1)) := Y2.out.other (by omega) _ _
          have SR : Hid (rest (V2.setCell ⟨X, y, none⟩ (iv (agT t y + 1))) p k q v2 X ∧ rest (V2.setCell ⟨X, y, none⟩ (iv (agT t y + 1))) p k q v2 (X + 1)) := ⟨rest_wr R2.out.1 ((Wr.refl X V2).set _ _), rest_wr R2.out.2 ((Wr.refl X V2).set _ _)⟩
          subst e2
          clear hk2 hkd
          generalize agT t y = gy at *
          go_upto_region 14 with (go_at_call 29; with_reducible refine (isNode_is B1.out _).mono ?_; rintro e w1 ⟨rfl, hw1⟩; have hw2 := hw1.symm; clear hw1; subst hw2)
          refine wp_gen (fun V => Hid (Nl (fun b => b < V0.heap.size) V0 V p k q v2 c1 t1 (i + 1)) ∧ Hid (ZArr V 56 6 X (fun a => agT t1 a)) ∧ Hid (ZArr V 63 36 (X + 1) (fun j => ((t.nd (j / 6)).bests (j % 6)).1)) ∧ Hid (rest V p k q v2 X ∧ rest V p k q v2 (X + 1))) ⟨SH.out, SX.out, SY.out, SR.out⟩ ?_
          clear SH SX SY SR c0 wy
        case' inr.inl =>
          have B1 : Hid (decide (0 ≤ xa ∧ xa < 6) = false) := decide_eq_false hya
          have SX : Hid (ZArr V2 56 6 X (fun a => agT t1 a)) := X2.out.congr (fun a ha => by
            rw [HNX.out.age a ha]
            unfold upA
            rw [if_neg (fun z => hya (by have := z.2; simp only at this; omega))]; omega)
          clear hkd hya
          go_upto_region 14 with (go_at_call 29; with_reducible refine (isNode_is B1.out _).mono ?_; rintro e w1 ⟨rfl, hw1⟩; have hw2 := hw1.symm; clear hw1; subst hw2)
          refine wp_gen (fun V => Hid (Nl (fun b => b < V0.heap.size) V0 V p k q v2 c1 t1 (i + 1)) ∧ Hid (ZArr V 56 6 X (fun a => agT t1 a)) ∧ Hid (ZArr V 63 36 (X + 1) (fun j => ((t.nd (j / 6)).bests (j % 6)).1)) ∧ Hid (rest V p k q v2 X ∧ rest V p k q v2 (X + 1))) ⟨T2.out, SX.out, Y2.out, R2.out⟩ ?_
          clear SX
        case' inr.inr =>
          have SX : Hid (ZArr V2 56 6 X (fun a => agT t1 a)) := X2.out.congr (fun a ha => by
            rw [HNX.out.age a ha]
            unfold upA
            rw [if_neg (fun z => by have := hkd.out.2 z.1; rw [hk2] at this; cases this)]; omega)
          clear hkd
          go_upto_region 14 with (fail)
          refine wp_gen (fun V => Hid (Nl (fun b => b < V0.heap.size) V0 V p k q v2 c1 t1 (i + 1)) ∧ Hid (ZArr V 56 6 X (fun a => agT t1 a)) ∧ Hid (ZArr V 63 36 (X + 1) (fun j => ((t.nd (j / 6)).bests (j % 6)).1)) ∧ Hid (rest V p k q v2 X ∧ rest V p k q v2 (X + 1))) ⟨T2.out, SX.out, Y2.out, R2.out⟩ ?_
          clear SX
        all_goals
          clear T2 X2 Y2 R2 hp hX fx s0 s1 hbn HG
          rintro V3 ⟨T3, X3, Y3, R3⟩
          have HSELF := hide (fun (a : Nat) (ha : a < 6) => (T3.out.a.self ha).2.1)
          have HWA := hide (fun (b a : Nat) (hb : b < 6) (ha : a < 6) => T3.out.a.wayA hb ha)
          have HBA := hide (fun (b a : Nat) (hb : b < 6) (ha : a < 6) => T3.out.a.bestA b a hb ha)
          have HOLD := hide (fun (b a : Nat) (hb : b < 6) (ha : a < 6) => bet_age (HNX.out.best b a hb ha))
          have HNW := hide T3.out.a.ok.news
          have HNA := hide T3.out.a.newsA
          have Y4 : Hid (ZArr V3 63 36 (X + 1) (agY t t1 0 0)) := Y3.out.congr (fun j _ => by unfold agY; rw [if_neg (by omega)])
          clear Y3 HNX
          go_wp2_with fail
          go_loopw [7] (fun v7 wr => ∃ a : Nat, a ≤ 6 ∧ v7 = .int .i64 (a : Int) ∧ Hid (Nl (fun b => b < V0.heap.size) V0 wr p k q v2 c1 t1 (i + 1)) ∧ Hid (ZArr wr 56 6 X (fun a => agT t1 a)) ∧ Hid (ZArr wr 63 36 (X + 1) (agY t t1 a 0)) ∧ Hid (rest wr p k q v2 X ∧ rest wr p k q v2 (X + 1))) (fun v7 _ => (6 - intOf v7).toNat)
          case atStart => exact ⟨0, by omega, rfl, T3, X3, Y4, R3⟩
          case round =>
            clear T3 X3 Y4 R3
            obtain ⟨a, ha6, rfl, T3, X3, Y3, R3⟩ := hrel
            by_cases ha : a < 6
            · have hai : decide ((a : Int) < 6) = true := decide_eq_true (by omega)
              have ha0 : (a : Int) < 6 := by omega
              have wa : IntKind.i64.wrap ((a : Int) + 1) = (a : Int) + 1 := by rw [IntKind.wrap_i64]; omega
              have c0 := X3.out.cell ha
              have hX := X3.out.lt
              have HW : Hid (∀ x : Ext wr, Calls Try.prog 18 #[pv p, iv (a : Int), iv (a : Int)] x.out fun e w' => e = .returned (.agg #[iv (agT t1 a), iv 0, iv (a : Int)]) ∧ ∃ d : Ext wr, w' = d.out) := fun x => by
                have := Calls.ext_of (d := x) ((T3.out.ext x.gr).way ha ha)
                rw [HSELF.out a ha] at this
                exact this
              go_upto_region 17 with (fail)
              refine wp_region_ext (by kernel_rfl) (by kernel_rfl) ?_
              repeat (go_big_quiet_step ((go_at_call 18; with_reducible exact HW.out _)))
              refine wpQuiet_nil ?_
              rintro _ ⟨d5, rfl⟩
              go_upto_region 19 with (fail)
              refine wp_gen (fun V => Hid (Nl (fun b => b < V0.heap.size) V0 V p k q v2 c1 t1 (i + 1)) ∧ Hid (ZArr V 56 6 X (fun a => agT t1 a)) ∧ Hid (ZArr V 63 36 (X + 1) (agY t t1 a 0)) ∧ Hid (rest V p k q v2 X ∧ rest V p k q v2 (X + 1))) ⟨T3.out.ext d5.gr, X3.out.gr d5.gr, Y3.out.gr d5.gr, ⟨rest_gr R3.out.1 d5.gr, rest_gr R3.out.2 d5.gr⟩⟩ ?_
              clear T3 X3 Y3 R3 c0 hX HW d5
              rintro V4 ⟨T4, X4, Y4, R4⟩
              go_wp2_with fail
              go_loopw [8] (fun v8 wr => ∃ b : Nat, b ≤ 6 ∧ v8 = .int .i64 (b : Int) ∧ Hid (Nl (fun b => b < V0.heap.size) V0 wr p k q v2 c1 t1 (i + 1)) ∧ Hid (ZArr wr 56 6 X (fun a => agT t1 a)) ∧ Hid (ZArr wr 63 36 (X + 1) (agY t t1 a b)) ∧ Hid (rest wr p k q v2 X ∧ rest wr p k q v2 (X + 1))) (fun v8 _ => (6 - intOf v8).toNat)
              case atStart => exact ⟨0, by omega, rfl, T4, X4, Y4, R4⟩
              case round =>
                clear T4 X4 Y4 R4
                obtain ⟨b, hb6, rfl, T4, X4, Y4, R4⟩ := hrel
                by_cases hb : b < 6
                · have hbi : decide ((b : Int) < 6) = true := decide_eq_true (by omega)
                  have hb0 : (b : Int) < 6 := by omega
                  have wb : IntKind.i64.wrap ((b : Int) + 1) = (b : Int) + 1 := by rw [IntKind.wrap_i64]; omega
                  have HB := hide (T4.out.best hb ha)
                  go_upto_region 23 with (go_at_call 22; with_reducible refine HB.out.mono ?_; rintro e _ ⟨rfl, d6, rfl⟩)
                  refine wp_gen (fun V => Hid (Nl (fun b => b < V0.heap.size) V0 V p k q v2 c1 t1 (i + 1)) ∧ Hid (ZArr V 56 6 X (fun a => agT t1 a)) ∧ Hid (ZArr V 63 36 (X + 1) (agY t t1 a b)) ∧ Hid (rest V p k q v2 X ∧ rest V p k q v2 (X + 1))) ⟨T4.out.ext d6.gr, X4.out.gr d6.gr, Y4.out.gr d6.gr, ⟨rest_gr R4.out.1 d6.gr, rest_gr R4.out.2 d6.gr⟩⟩ ?_
                  clear T4 X4 Y4 R4 HB d6
                  rintro V5 ⟨T4, X4, Y4, R4⟩
                  have c0 := X4.out.cell ha
                  have hX := X4.out.lt
                  have hY := Y4.out.lt
                  have c2 := agY_at Y4.out ha hb
                  have SYY := hide (fun (W : World) (h : ZArr W 63 36 (X + 1) (agY t t1 a b)) => And.intro (agY_at h ha hb) (agY_set h ha hb))
                  have HW : Hid (∀ x : Ext V5, Calls Try.prog 18 #[pv p, iv (b : Int), iv (a : Int)] x.out fun e w' => e = .returned (.agg #[iv ((t1.nd b).ways a).1, iv ((t1.nd b).ways a).2.1, iv ((t1.nd b).ways a).2.2]) ∧ ∃ d : Ext V5, w' = d.out) := fun x => Calls.ext_of (d := x) ((T4.out.ext x.gr).way hb ha)
                  have g1 : decide (agT t1 a < ((t1.nd b).ways a).1) = false := decide_eq_false (by have := HWA.out b a hb ha; omega)
                  have g2 : decide (agT t1 a < ((t1.nd b).bests a).1) = false := decide_eq_false (by have := HBA.out b a hb ha; omega)
                  have g3 : decide (((t1.nd b).bests a).1 < ((t.nd b).bests a).1) = false := decide_eq_false (by have := HOLD.out b a hb ha; omega)
                  generalize (t1.nd b).ways a = wv at *
                  obtain ⟨ws, wd, wh⟩ := wv
                  simp only at g1 HW
                  generalize ((t1.nd b).bests a).2 = bd at *
                  generalize ((t1.nd b).bests a).1 = bs at *
                  generalize ((t.nd b).bests a).1 = ob at *
                  refine wp_region_ext (by kernel_rfl) (by kernel_rfl) ?_
                  repeat (go_big_quiet_step ((go_at_call 18; with_reducible exact HW.out _)))
                  refine wpQuiet_nil ?_
                  rintro _ ⟨d7, rfl⟩
                  go_upto_region 25 with (fail)
                  refine wp_gen (fun V => Hid (Nl (fun b => b < V0.heap.size) V0 V p k q v2 c1 t1 (i + 1)) ∧ Hid (ZArr V 56 6 X (fun a => agT t1 a)) ∧ Hid (ZArr V 63 36 (X + 1) (agY t t1 a b)) ∧ Hid (rest V p k q v2 X ∧ rest V p k q v2 (X + 1))) ⟨T4.out.ext d7.gr, X4.out.gr d7.gr, Y4.out.gr d7.gr, ⟨rest_gr R4.out.1 d7.gr, rest_gr R4.out.2 d7.gr⟩⟩ ?_
                  clear T4 X4 Y4 R4 HW d7 c0 c2 hX hY
                  rintro V6 ⟨T4, X4, Y4, R4⟩
                  obtain ⟨c2, SY'⟩ := SYY.out _ Y4.out
                  have SY := hide SY'
                  clear SY' SYY
                  have hY := Y4.out.lt
                  have fy := Y4.out.free
                  have hV0 := hVX.out
                  have SX : Hid (ZArr (V6.setCell ⟨X + 1, b * 6 + a, none⟩ (iv bs)) 56 6 X (fun a => agT t1 a)) := X4.out.other (by omega) _ _
                  have SH := hide (T4.out.aside R4.out.2 (by omega) ((Wr.refl (X + 1) V6).set (b * 6 + a) (iv bs)))
                  have SR : Hid (rest (V6.setCell ⟨X + 1, b * 6 + a, none⟩ (iv bs)) p k q v2 X ∧ rest (V6.setCell ⟨X + 1, b * 6 + a, none⟩ (iv bs)) p k q v2 (X + 1)) := ⟨rest_wr R4.out.1 ((Wr.refl (X + 1) V6).set _ _), rest_wr R4.out.2 ((Wr.refl (X + 1) V6).set _ _)⟩
                  go_wp2_with fail
                  go_roundw
                  case rel => exact ⟨b + 1, by omega, by congr 1, SH, SX, SY, SR⟩
                  case measure => simp [intOf]; omega
                · have hbi : decide ((b : Int) < 6) = false := decide_eq_false (by omega)
                  have eb : b = 6 := by omega
                  subst eb
                  have SY : Hid (ZArr wr 63 36 (X + 1) (agY t t1 (a + 1) 0)) := Y4.out.congr (fun j hj => by
                    unfold agY
                    by_cases e : j % 6 < a ∨ (j % 6 = a ∧ j / 6 < 6)
                    · rw [if_pos e, if_pos (by omega)]
                    · rw [if_neg e, if_neg (by omega)])
                  go_wp2_with fail
                  go_roundw
                  case rel => exact ⟨a + 1, by omega, by congr 1, T4, X4, SY, R4⟩
                  case measure => simp [intOf]; omega
            · have hai : decide ((a : Int) < 6) = false := decide_eq_false (by omega)
              have ea : a = 6 := by omega
              subst ea
              have SY : Hid (ZArr wr 63 36 (X + 1) (fun j => ((t1.nd (j / 6)).bests (j % 6)).1)) := Y3.out.congr (fun j hj => by unfold agY; rw [if_pos (by omega)])
              have HNE : Hid (Calls Try.prog 27 #[pv p] wr fun e w' => ∃ ao2 n2 cp2, e = .returned (.slice ao2 n2 cp2) ∧ n2 = t1.news.length ∧ NewsAt w' ao2 (newsL t1.news) ∧ Gr wr w') := (netNews_any T3.out.h T3.out.l).mono fun e w' ⟨u, he, ho, hg⟩ => by
                obtain ⟨ao2, cp2, hu, hn2, _⟩ := OwnN.shape ho
                rw [newsL_len] at hu
                exact ⟨ao2, _, cp2, by rw [he, hu], rfl, hn2, hg⟩
              have HLN := hide T3.out.l
              go_upto_region 28 with (go_at_call 27; with_reducible refine HNE.out.mono ?_; rintro e V7 ⟨ao2, n2, cp2, rfl, hn2', nw', g7'⟩; have HN2 := hide hn2'; have NW := hide nw'; have G7 := hide g7'; clear hn2' nw' g7')
              have T5 := hide (T3.out.ext G7.out)
              have X5 := hide (X3.out.gr G7.out)
              have Y5 := hide (SY.out.gr G7.out)
              have R5 : Hid (rest V7 p k q v2 X ∧ rest V7 p k q v2 (X + 1)) := ⟨rest_gr R3.out.1 G7.out, rest_gr R3.out.2 G7.out⟩
              clear T3 X3 Y3 R3 SY HNE G7
              go_loopw [12] (fun v12 wr => ∃ m : Nat, m ≤ n2 ∧ v12 = .int .i64 (m : Int) ∧ Hid (Gr V7 wr)) (fun v12 _ => (n2 - intOf v12).toNat)
              case atStart => exact ⟨0, by omega, rfl, Gr.refl _⟩
              case round =>
                obtain ⟨m, hm2, rfl, gw⟩ := hrel
                by_cases hm : m < n2
                · have hmi : decide ((m : Int) < (n2 : Int)) = true := decide_eq_true (by omega)
                  have hm0 : (m : Int) < (n2 : Int) := by omega
                  have wm : IntKind.i64.wrap ((m : Int) + 1) = (m : Int) + 1 := by rw [IntKind.wrap_i64]; have := HN2.out; have := HLN.out; omega
                  have hml : m < t1.news.length := by have := HN2.out; omega
                  obtain ⟨y, hy'⟩ : ∃ y, y = t1.news[m] := ⟨_, rfl⟩
                  have hmem : y ∈ t1.news := by rw [hy']; exact List.getElem_mem hml
                  obtain ⟨en, eo, rfl, hen, e0, e1, e2, e3, e4⟩ : ∃ en eo, ao2 = some ⟨en, eo, none⟩ ∧ en < wr.heap.size ∧ wr.cell? ⟨en, eo + m * 5, none⟩ = some (iv (y.f : Int)) ∧ wr.cell? ⟨en, eo + m * 5 + 1, none⟩ = some (iv (y.g : Int)) ∧ wr.cell? ⟨en, eo + m * 5 + 2, none⟩ = some (iv (y.to : Int)) ∧ wr.cell? ⟨en, eo + m * 5 + 3, none⟩ = some (iv y.s) ∧ wr.cell? ⟨en, eo + m * 5 + 4, none⟩ = some (iv y.d) := by
                    rcases NW.out.gr gw.out with e | ⟨en, eo, e, hen, hc⟩
                    · exfalso
                      have := congrArg List.length e
                      rw [newsL_len] at this
                      simp at this
                      rw [this] at hml
                      simp at hml
                    · have := hc m (by rw [newsL_len]; exact hml)
                      unfold newsL at this
                      rw [List.getElem_map, ← hy'] at this
                      exact ⟨en, eo, e, hen, this⟩
                  clear hy'
                  obtain ⟨n1, n2', n3, n4, _⟩ := HNW.out y hmem
                  have n5 := HNA.out y hmem
                  have B1 : Hid (decide (0 ≤ (y.to : Int) ∧ (y.to : Int) < 6) = true) := decide_eq_true ⟨by omega, by omega⟩
                  have ht0 : (y.to : Int) < 6 := by omega
                  have g1 : decide (agT t1 y.to < y.s) = false := decide_eq_false (by omega)
                  have g2 : ((y.f : Int) == (y.g : Int)) = false := by simp; omega
                  have c0 := (X5.out.gr gw.out).cell n4
                  have hX := (X5.out.gr gw.out).lt
                  go_upto_region 30 with (fail)
                  refine wp_region_ext (by kernel_rfl) (by kernel_rfl) ?_
                  repeat (go_big_quiet_step ((go_at_call 29; with_reducible exact isNode_ext B1.out _)))
                  refine wpQuiet_nil ?_
                  rintro _ ⟨d8, rfl⟩
                  go_wp2_with fail
                  go_roundw
                  case rel => exact ⟨m + 1, by omega, by congr 1, gw.out.trans d8.gr⟩
                  case measure => simp [intOf]; omega
                · have hmi : decide ((m : Int) < (n2 : Int)) = false := decide_eq_false (by omega)
                  go_wp2_with fail
                  go_roundw
                  case rel => exact ⟨i + 1, v2, c1, t1, by omega, by congr 1, HT1, T5.out.ext gw.out, X5.out.gr gw.out, Y5.out.gr gw.out, ⟨rest_gr R5.out.1 gw.out, rest_gr R5.out.2 gw.out⟩⟩
                  case measure => simp [intOf]; omega
      · have hii : decide ((i : Int) < (n : Int)) = false := decide_eq_false (by omega)
        go_wp2_with fail
        go_ret
        exact ⟨rfl, G0.out.trans (H0.out.h.kp.below (Nat.le_refl _) (fun _ h => h))⟩

end Go.Proofs.Ythiojjkgodffnae
