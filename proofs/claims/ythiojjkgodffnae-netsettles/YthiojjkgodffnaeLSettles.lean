/- handpostlaw.NetSettles ANSWERS true. -/
import Derived.Test.YthiojjkgodffnaePthF
namespace Go.Proofs.Ythiojjkgodffnae
open Go.RowKit
attribute [local go_sem] Ext.all Ext.cell Ext.frozen Ext.lt Ext.lt1 Ext.lt2 Ext.ne Ext.ne'

theorem settle_rounds (more : Int) : 14 ≤ wrap64 (14 + wrap64 ((IntKind.u64.wrap more).tmod 6)) ∧ wrap64 (14 + wrap64 ((IntKind.u64.wrap more).tmod 6)) ≤ 19 := by
  have h0 : 0 ≤ IntKind.u64.wrap more := by
    show 0 ≤ more % 18446744073709551616
    omega
  rw [Int.tmod_eq_emod_of_nonneg h0]
  generalize IntKind.u64.wrap more = u at *
  have h1 : wrap64 (u % 6) = u % 6 := by unfold wrap64; omega
  rw [h1]
  have h2 : wrap64 (14 + u % 6) = 14 + u % 6 := by unfold wrap64; omega
  rw [h2]
  omega
theorem Ag.len' {T : Tn} {c : Nat → Nat → Nat} {S : Nat → Int} (h : Ag T c S) {a z : Nat} (ha : a < 6) (hz : z < 6) : ((T.nd a).ways z).2.1 = farZ c a z := by
  rw [((h.st z hz).way h.a hz ha).1]
  unfold farZ
  rw [dst_back h.a.s.tc.lk hz ha]
theorem sumC_le {c : Nat → Nat → Nat} (hc : Lk c) (l : List Nat) : ∀ k, sumC c l k ≤ 15 * k
  | 0 => Nat.le_refl _
  | k + 1 => by
    have ih := sumC_le hc l k
    rw [sumC]
    split
    · have := hc.le (l[k]'(by omega)) (l[k + 1]'(by omega)); omega
    · omega
theorem sumC_next {c : Nat → Nat → Nat} {l : List Nat} {k : Nat} (h : k + 1 < l.length) : sumC c l (k + 1) = sumC c l k + c (l[k]'(by omega)) l[k + 1] := by
  rw [sumC, dif_pos h]
theorem Nl.newsCall' {M : Nat → Prop} {B w : World} {p k : Nat} {q : Nat → Nat} {v : Value} {c : Nat → Nat → Nat} {t : Tn} {n : Nat} (H : Nl M B w p k q v c t n) : Calls Try.prog 27 #[pv p] w fun e w' => ∃ ao2 n2 cp2, e = .returned (.slice ao2 n2 cp2) ∧ n2 = t.news.length ∧ Gr w w' :=
  (netNews_any H.h H.l).mono fun e w' ⟨u, he, ho, hg⟩ => by
    obtain ⟨ao2, cp2, hu, _, _⟩ := OwnN.shape ho
    rw [newsL_len] at hu
    exact ⟨ao2, _, cp2, by rw [he, hu], rfl, hg⟩
set_option maxRecDepth 20000 in
set_option maxHeartbeats 32000000 in
theorem netSettles_any (w : World) (ao : Option Addr) (n cp : Nat) (l : List Sx) (more : Int) (H : SpAt w ao l) (hn : l.length = n) :
    Calls Try.prog 5 #[.slice ao n cp, iv more] w fun e w' => e = .returned (.bool true) ∧ Gr w w' := by
  have HS := hide (fun (X : World) (g : Gr w X) => H.gr g)
  have HNL := hide hn
  clear H hn
  go_enter Try.func5, Try.ntmps5
  go_upto_region 3 with (go_at_call 9; with_reducible refine (netBegun_ok _).mono ?_; rintro e V0 ⟨rfl, g0'⟩; have G0 := hide g0'; clear g0')
  by_cases h150 : 150 < n
  · have gd : decide ((150 : Int) < (n : Int)) = true := decide_eq_true (by omega)
    go_wp2_with fail
    go_ret
    exact ⟨rfl, G0.out⟩
  · have gd : decide ((150 : Int) < (n : Int)) = false := decide_eq_false (by omega)
    have HPL := hide (played_ok V0 ao n cp l (HS.out _ G0.out) HNL.out (by omega))
    clear HS HNL
    go_upto_region 6 with (go_at_call 25; with_reducible refine HPL.out.mono ?_; rintro e V1 ⟨p, k, q, v, c, rfl, H0'⟩; have H0 := hide H0'; clear H0')
    obtain ⟨R, hR⟩ : ∃ R, wrap64 (14 + wrap64 ((IntKind.u64.wrap more).tmod 6)) = R := ⟨_, rfl⟩
    have hR2 := settle_rounds more
    rw [hR] at hR2
    have HST := hide (H0.out.settle (by omega) R (by omega))
    rw [← hR] at HST
    have HAG := hide (Ag.start H0.out.a (r := R.toNat) (by omega))
    have HNW := hide (settleT_news (playT newT (spsOf l) n) R.toNat)
    rw [← hR] at HAG HNW
    clear HPL hR hR2
    generalize playT newT (spsOf l) n = t0 at *
    generalize (fun z => agT t0 z + 1) = S at *
    generalize settleT t0 (wrap64 (14 + wrap64 ((IntKind.u64.wrap more).tmod 6))).toNat = t1 at *
    go_upto_region 8 with (go_at_call 20; with_reducible refine HST.out.mono ?_; rintro e V2 ⟨v1, rfl, H1'⟩; have T3 := hide H1'; clear H1')
    clear H0 HST
    generalize n + 1 = N1 at *
    have gB : Hid (∀ (W : World), Nl (fun b => b < V0.heap.size) V0 W p k q v1 c t1 N1 → Gr w W) := fun W h => G0.out.trans (h.h.kp.below (Nat.le_refl _) (fun _ h => h))
    go_loopw [6] (fun va wr => ∃ a : Nat, a ≤ 6 ∧ va = .int .i64 (a : Int) ∧ Hid (Nl (fun b => b < V0.heap.size) V0 wr p k q v1 c t1 N1)) (fun va _ => (6 - intOf va).toNat)
    case atStart => exact ⟨0, by omega, rfl, T3⟩
    case round =>
      clear T3
      obtain ⟨a, ha6, rfl, T3⟩ := hrel
      by_cases ha : a < 6
      · have hai : decide ((a : Int) < 6) = true := decide_eq_true (by omega)
        have ha0 : (a : Int) < 6 := by omega
        have wa : IntKind.i64.wrap ((a : Int) + 1) = (a : Int) + 1 := by rw [IntKind.wrap_i64]; omega
        have l0 := T3.out.h.links
        have hp := T3.out.h.blk.lt
        have HF := hide (T3.out.far6 a)
        go_upto_region 11 with (go_at_call 26; with_reducible refine HF.out.mono ?_; rintro e V5 ⟨rfl, g5'⟩; have G5 := hide g5'; clear g5')
        refine wp_gen (fun V => Hid (Nl (fun b => b < V0.heap.size) V0 V p k q v1 c t1 N1) ∧ Hid (ZArr V 56 6 V5.heap.size (farZ c a))) ⟨T3.out.ext (G5.out.alloc _), far6_at V5 c a⟩ ?_
        clear T3 G5 HF l0 hp
        generalize V5.heap.size = X at *
        rintro V6 ⟨T3, X3⟩
        go_wp2_with fail
        go_loopw [8] (fun vt wr => ∃ z : Nat, z ≤ 6 ∧ vt = .int .i64 (z : Int) ∧ Hid (Nl (fun b => b < V0.heap.size) V0 wr p k q v1 c t1 N1) ∧ Hid (ZArr wr 56 6 X (farZ c a))) (fun vt _ => (6 - intOf vt).toNat)
        case atStart => exact ⟨0, by omega, rfl, T3, X3⟩
        case round =>
          clear T3 X3
          obtain ⟨z, hz6, rfl, T3, X3⟩ := hrel
          by_cases hz : z < 6
          · have hzi : decide ((z : Int) < 6) = true := decide_eq_true (by omega)
            have hz0 : (z : Int) < 6 := by omega
            have wz : IntKind.i64.wrap ((z : Int) + 1) = (z : Int) + 1 := by rw [IntKind.wrap_i64]; omega
            have HW : Hid (Calls Try.prog 18 #[pv p, iv (a : Int), iv (z : Int)] wr fun e w' => e = .returned (.agg #[iv ((t1.nd a).ways z).1, iv (farZ c a z), iv ((t1.nd a).ways z).2.2]) ∧ ∃ d : Ext wr, w' = d.out) := by
              have := T3.out.way ha hz
              rw [HAG.out.len' ha hz] at this
              exact this
            have hbk : (dst c (z : Int) a : Int) = farZ c a z := by unfold farZ; rw [dst_back T3.out.a.s.tc.lk hz ha]
            obtain ⟨pl, pe, hpl, hch, hp6, hp0, hpn, hps⟩ := settled_path (HAG.out.st z hz) T3.out.a hz ha
            have HPT := hide (fun (W : World) (h : Nl (fun b => b < V0.heap.size) V0 W p k q v1 c t1 N1) => h.path hz hpl)
            have HP6 := hide hp6
            have HPN := hide (And.intro hp0 hpn)
            have HSM : Hid (farZ c a z < 200 → (∀ h : pl.length - 1 < pl.length, pl[pl.length - 1]'h = z) ∧ (sumC c pl (pl.length - 1) : Int) = farZ c a z) := fun hq => by
              rw [← hbk] at hq ⊢
              obtain ⟨e1, e2⟩ := hps (by omega)
              exact ⟨fun h => by rw [hch.last h, e1], by rw [e2]⟩
            have HHP : (((t1.nd a).ways z).2.2 == -1) = (farZ c a z == 200) := by
              have h1 := ((HAG.out.st z hz).way T3.out.a hz ha).2.1
              rw [← hbk]
              by_cases q1 : dst c (z : Int) a = 200
              · rw [h1.2 q1, q1]; rfl
              · have q2 : ¬ ((t1.nd a).ways z).2.2 = -1 := fun e => q1 (h1.1 e)
                have r1 : (((t1.nd a).ways z).2.2 == -1) = false := by simpa using q2
                have r2 : ((dst c (z : Int) a : Int) == 200) = false := by simp; omega
                rw [r1, r2]
            have HLK := hide T3.out.a.s.tc.lk
            clear hpl hch hp6 hp0 hpn hps hbk
            have hfc := X3.out.cell hz
            generalize ((t1.nd a).ways z).1 = ws at *
            generalize ((t1.nd a).ways z).2.2 = wh at *
            generalize hfz : farZ c a z = fz at *
            obtain ⟨bb, e2⟩ : ∃ bb, (fz == 200) = bb := ⟨_, rfl⟩
            rw [e2] at HHP
            have HFC : Hid (∀ W, ZArr W 56 6 X (farZ c a) → W.cell? ⟨X, z, none⟩ = some (iv fz)) := fun W h => by rw [← hfz]; exact h.cell hz
            clear hfz hfc
            go_upto_region 15 with (go_at_call 18; with_reducible refine HW.out.mono ?_; rintro e _ ⟨rfl, x1, rfl⟩)
            refine wp_gen (fun V => Hid (Nl (fun b => b < V0.heap.size) V0 V p k q v1 c t1 N1) ∧ Hid (ZArr V 56 6 X (farZ c a)) ∧ Hid (ZArr V 39 3 x1.out.heap.size (wayF (ws, fz, wh)))) ⟨T3.out.ext (x1.gr.alloc _), X3.out.gr (x1.gr.alloc _), (show ZArr _ 39 3 x1.out.heap.size (wayF (ws, fz, wh)) from heap_alloc_new x1.out _)⟩ ?_
            clear T3 X3 HW
            generalize x1.out.heap.size = Y at *
            clear x1
            rintro V7 ⟨T3, X3, Y3⟩
            have c0 := HFC.out _ X3.out
            have hX := X3.out.lt
            have hY := Y3.out.lt
            obtain ⟨y0, y1, y2⟩ := wayF_cells Y3.out
            refine wp_region_ext (by kernel_rfl) (by kernel_rfl) ?_
            repeat (go_big_quiet_step (fail))
            refine wpQuiet_nil ?_
            rintro _ ⟨d5, rfl⟩
            have HPW := hide (HPT.out _ (T3.out.ext d5.gr))
            go_upto_region 18 with (go_at_call 15; with_reducible refine HPW.out.mono ?_; rintro e V8 ⟨ap, np, cpp, rfl, hnp', nm', g5'⟩; have HNP := hide hnp'; have NM := hide nm'; have G5 := hide g5'; clear hnp' nm' g5')
            have T4 := hide ((T3.out.ext d5.gr).ext G5.out)
            have X4 := hide ((X3.out.gr d5.gr).gr G5.out)
            clear T3 X3 Y3 c0 hX hY y0 y1 y2 HPT HPW G5 d5 HHP e2
            have n1 : (((np : Nat) : Int) == 0) = false := by have := HNP.out; have := HPN.out.1; simp; omega
            have n1' : (np == 0) = false := by have := HNP.out; have := HPN.out.1; simp; omega
            have n1'' : ¬ np = 0 := by have := HNP.out; have := HPN.out.1; omega
            have n3 : np ≤ 6 := by have := HNP.out; have := HPN.out.2; omega
            have c0 := HFC.out _ X4.out
            have hX := X4.out.lt
            obtain ⟨r, hr⟩ : ∃ r : Nat, np = r + 1 := ⟨np - 1, by omega⟩
            have hr0 : (r : Int) < (np : Int) := by omega
            have wr' : IntKind.i64.wrap ((np : Int) - 1) = (r : Int) := by rw [IntKind.wrap_i64]; omega
            have hrl : r < pl.length := by have := HNP.out; omega
            have HSM2 : Hid (fz < 200 → pl[r] = z ∧ (sumC c pl r : Int) = fz) := fun hq => by
              have e : pl.length - 1 = r := by have := HNP.out; omega
              obtain ⟨q1, q2⟩ := HSM.out hq
              rw [e] at q2
              exact ⟨by rw [← q1 (by omega)]; congr 1; omega, q2⟩
            have HRN := hide hr
            clear HSM hr
            obtain ⟨fb, e3⟩ : ∃ fb, decide (fz < 200) = fb := ⟨_, rfl⟩
            have HX25 : Hid (¬ fz < 200 ∨ ((((sumC c pl r : Nat) : Int) == fz) = true ∧ (((sumC c pl r : Nat) : Int) != fz) = false)) := by
              by_cases hq : fz < 200
              · have e4 := (HSM2.out hq).2
                exact .inr ⟨by rw [e4]; exact beq_self_eq_true _, by rw [e4]; exact bne_self_eq_false _⟩
              · exact .inl hq
            have HFZ : Hid (fb = true → pl[r] = z) := fun q => (HSM2.out (of_decide_eq_true (e3.trans q))).1
            clear HSM2
            obtain ⟨en, eo, hap, hen, hcl⟩ : ∃ en eo, ap = some ⟨en, eo, none⟩ ∧ en < V8.heap.size ∧ ∀ i (h : i < pl.length), V8.cell? ⟨en, eo + i, none⟩ = some (iv ((pl[i] : Nat) : Int)) := by
              rcases NM.out with e | h
              · exfalso; rw [e] at hrl; simp at hrl
              · exact h
            subst hap
            have HCL : Hid (∀ W, Gr V8 W → en < W.heap.size ∧ ∀ i (h : i < pl.length), W.cell? ⟨en, eo + i, none⟩ = some (iv ((pl[i] : Nat) : Int))) := fun W g => ⟨Nat.lt_of_lt_of_le hen (Below.size g), fun i h => (Below.cell g (p := ⟨en, eo + i, none⟩) hen).trans (hcl i h)⟩
            have HCZ := hide (hcl r hrl)
            clear hcl
            cases fb
            case' false =>
              go_upto_region 20 with (fail)
            case' true =>
              have cz := HCZ.out
              rw [HFZ.out rfl] at cz
              go_upto_region 20 with (fail)
            all_goals
              go_wp2_with fail
              go_loopw [12, 13] (fun v12 v13 wr => ∃ j : Nat, v12 = iv (sumC c pl j : Int) ∧ v13 = .int .i64 ((j + 1 : Nat) : Int) ∧ Hid (j ≤ r) ∧ Hid (Gr V8 wr)) (fun _ v13 _ => (np - intOf v13).toNat)
              case atStart => exact ⟨0, rfl, rfl, Nat.zero_le _, Gr.refl _⟩
              case round =>
                obtain ⟨j, rfl, rfl, hjr, gw⟩ := hrel
                obtain ⟨m, hm⟩ : ∃ m : Nat, m = j + 1 := ⟨_, rfl⟩
                rw [← hm]
                have HMJ := hide hm
                clear hm
                by_cases hmn : m < np
                · have hmi : decide ((m : Int) < (np : Int)) = true := decide_eq_true (by omega)
                  have hm0 : (m : Int) < (np : Int) := by omega
                  have hj0 : (j : Int) < (np : Int) := by have := HMJ.out; omega
                  have wm : IntKind.i64.wrap ((m : Int) + 1) = (m : Int) + 1 := by rw [IntKind.wrap_i64]; omega
                  have wj : IntKind.i64.wrap ((m : Int) - 1) = (j : Int) := by rw [IntKind.wrap_i64]; have := HMJ.out; omega
                  have hjl : j + 1 < pl.length := by have := HNP.out; have := HMJ.out; omega
                  obtain ⟨y, hy⟩ : ∃ y, y = pl[j + 1] := ⟨_, rfl⟩
                  obtain ⟨x, hx⟩ : ∃ x, x = pl[j]'(by omega) := ⟨_, rfl⟩
                  have hy6 : y < 6 := by rw [hy]; exact HP6.out _ (List.getElem_mem hjl)
                  have hx6 : x < 6 := by rw [hx]; exact HP6.out _ (List.getElem_mem (by omega))
                  have HSN : Hid (sumC c pl (j + 1) = sumC c pl j + c x y) := by
                    unfold Hid
                    rw [sumC_next hjl, hx, hy]
                  have hsb := sumC_le HLK.out pl j
                  have hcb := HLK.out.le x y
                  have ws' : IntKind.i64.wrap ((sumC c pl j : Int) + (c x y : Int)) = (sumC c pl j : Int) + (c x y : Int) := by rw [IntKind.wrap_i64]; have := HMJ.out; omega
                  obtain ⟨hen', hcl⟩ := HCL.out _ gw.out
                  have c1' : wr.cell? ⟨en, eo + m, none⟩ = some (iv (y : Int)) := by
                    have := HMJ.out
                    rw [hy, this]; exact hcl (j + 1) hjl
                  have c2' : wr.cell? ⟨en, eo + j, none⟩ = some (iv (x : Int)) := by rw [hx]; exact hcl j (by omega)
                  clear hcl
                  clear hy hx hjl
                  have T5 := hide (T4.out.ext gw.out)
                  have l0 := T5.out.h.links
                  have hp := T5.out.h.blk.lt
                  have HCE := hide (fun (f : Ext wr) => Nl.costE T5.out hx6 hy6 f)
                  clear T5
                  generalize c x y = cc at *
                  generalize hsj : sumC c pl j = sj at *
                  clear hsj
                  go_upto_region 24 with (fail)
                  refine wp_region_ext (by kernel_rfl) (by kernel_rfl) ?_
                  repeat (go_big_quiet_step ((go_at_call 23; with_reducible exact HCE.out _)))
                  refine wpQuiet_nil ?_
                  rintro _ ⟨d6, rfl⟩
                  go_wp2_with fail
                  go_roundw
                  case rel => exact ⟨j + 1, by rw [HSN.out]; rfl, by have := HMJ.out; congr 1; omega, (by have := HRN.out; have := HMJ.out; unfold Hid; omega), gw.out.trans d6.gr⟩
                  case measure => simp [intOf]; omega
                · have hmi : decide ((m : Int) < (np : Int)) = false := decide_eq_false (by omega)
                  have ej : j = r := by have := HRN.out; have := HMJ.out; have := hjr.out; omega
                  have c9 := HFC.out _ (X4.out.gr gw.out)
                  have hX9 := (X4.out.gr gw.out).lt
                  rw [ej]
                  clear ej
                  rcases HX25.out with e5 | ⟨e5, e6⟩
                  · have e7 : decide (fz < 200) = false := decide_eq_false (by omega)
                    clear HX25
                    first
                      | (exfalso
                         rw [e3] at e7
                         cases e7
                         done)
                      | (go_wp2_with fail
                         go_roundw
                         case rel => exact ⟨z + 1, by omega, by congr 1, T4.out.ext gw.out, X4.out.gr gw.out⟩
                         case measure => simp [intOf]; omega)
                  · clear HX25
                    go_wp2_with fail
                    go_roundw
                    case rel => exact ⟨z + 1, by omega, by congr 1, T4.out.ext gw.out, X4.out.gr gw.out⟩
                    case measure => simp [intOf]; omega
          · have hzi : decide ((z : Int) < 6) = false := decide_eq_false (by omega)
            go_wp2_with fail
            go_roundw
            case rel => exact ⟨a + 1, by omega, by congr 1, T3⟩
            case measure => simp [intOf]; omega
      · have hai : decide ((a : Int) < 6) = false := decide_eq_false (by omega)
        have HNC := hide T3.out.newsCall'
        have GW := hide (gB.out _ T3.out)
        go_wp2_with (go_at_call 27; with_reducible refine HNC.out.mono ?_; rintro e V9 ⟨ao9, n9, cp9, rfl, hn9, g9'⟩; have G9 := hide g9'; rw [HNW.out] at hn9; simp only [List.length_nil] at hn9; subst hn9; clear g9')
        go_ret
        exact ⟨rfl, GW.out.trans G9.out⟩

end Go.Proofs.Ythiojjkgodffnae
