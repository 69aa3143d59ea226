/- CONTRACTS OF package least: doOne, doThose, Do. (Written by tools/gendo.py.) -/
import Derived.Test.YtimbgijpeomfcacGreatDoorLAid
namespace Go.Proofs.YtimbgijpeomfcacGreatDoor
open Go.RowKit
attribute [local go_sem] Ext.all Ext.cell Ext.frozen Ext.lt Ext.lt1 Ext.lt2 Ext.ne Ext.ne'

def oneD (rs : List Rt) (l b x y : Int) : List Rt × Int := if getL rs l b ≠ x then (rs, 11) else setL rs l b y
theorem oneD_tab {rs : List Rt} (h : Tab rs) (l b x y : Int) : Tab (oneD rs l b x y).1 := by
  unfold oneD
  split
  · exact h
  · exact h.set_tab _ _ _
theorem passD_skip (z : Bool) (rs : List Rt) (l b x y : Int) (cs : List Ch) (h : decide (y = -2) ≠ z) : passD z rs ((l, b, x, y) :: cs) = passD z rs cs := by
  rw [passD, if_pos h]
theorem passD_do (z : Bool) {rs : List Rt} (hT : Tab rs) (l b x y : Int) (cs : List Ch) (h : decide (y = -2) = z) : passD z rs ((l, b, x, y) :: cs) = if (oneD rs l b x y).2 ≠ 0 then oneD rs l b x y else passD z (oneD rs l b x y).1 cs := by
  rw [passD, if_neg (by simp [h])]
  unfold oneD
  by_cases h1 : getL rs l b ≠ x
  · rw [if_pos h1, if_pos h1, if_pos (by simp)]
  · rw [if_neg h1, if_neg h1]
    by_cases h2 : (setL rs l b y).2 ≠ 0
    · rw [if_pos h2, if_pos h2]
      rcases hT.set l b y with h3 | ⟨_, h3, _⟩
      · exact Prod.ext h3.1.symm rfl
      · exact absurd h3 h2
    · rw [if_neg h2, if_neg h2]

set_option maxHeartbeats 1000000 in
theorem doOne_any {w : World} {M : Nat → Prop} {tb : Nat} {v : Value} {rs : List Rt} (S : TabS w M tb v rs) (hT : Tab rs) (l b x y : Int) :
    Calls Tryz.prog 55 #[pv tb, .agg #[iv l, iv b, iv x, iv y]] w fun e w' => e = .returned (iv (oneD rs l b x y).2) ∧ ∃ v', TabS w' M tb v' (oneD rs l b x y).1 ∧ Kp M w w' := by
  obtain ⟨A, hA⟩ : ∃ A, A = w.alloc (.cells #[iv l, iv b, iv x, iv y] 60) := ⟨_, rfl⟩
  have gA : Gr w A := by rw [hA]; exact (Gr.refl w).alloc _
  have SA := S.gr gA
  have hq : A.heap[w.heap.size]? = some (.cells #[iv l, iv b, iv x, iv y] 60 (0, 0)) := by rw [hA]; exact heap_alloc_new w _
  obtain ⟨z, z0, z1, z2, z3, _⟩ := cell4 hq
  obtain ⟨g, hg⟩ : ∃ g, getL rs l b = g := ⟨_, rfl⟩
  have HG := hide (fun (m : Ext A) => get_is (l := l) (b := b) SA hT hg m)
  have HA := hide hA
  have tlt := SA.lt
  clear hA hq
  by_cases hgx : g = x
  · have hne : (g != x) = false := by simpa using hgx
    obtain ⟨rs', code, hS1⟩ : ∃ rs' code, setL rs l b y = (rs', code) := ⟨_, _, rfl⟩
    have HE : Hid (oneD rs l b x y = (rs', code)) := by unfold Hid oneD; rw [hg, if_neg (by simpa using hgx), hS1]
    rw [HE.out]
    have HS1 := hide hS1
    clear hg hgx hS1
    go_enter Tryz.func55, Tryz.ntmps55
    go_upto_region 1 with (fail)
    rw [← HA.out]
    refine wp_region_ext (by kernel_rfl) (by kernel_rfl) ?_
    repeat (go_big_quiet_step (first | (go_at_call 29; exact Calls.ext_of (HG.out _)) | fail))
    refine wpQuiet_nil ?_
    rintro _ ⟨d1, rfl⟩
    go_wp2_with (go_at_call 18; refine (set_is (SA.gr d1.gr) hT HS1.out).mono ?_; rintro e w' ⟨rfl, v', S', K'⟩)
    go_ret
    exact ⟨rfl, v', S', ((gA.trans d1.gr).kp M).trans K'⟩
  · have hne : (g != x) = true := by simpa using hgx
    have HE : Hid (oneD rs l b x y = (rs, 11)) := by unfold Hid oneD; rw [hg, if_pos hgx]
    rw [HE.out]
    clear hg hgx
    go_enter Tryz.func55, Tryz.ntmps55
    go_upto_region 1 with (fail)
    rw [← HA.out]
    refine wp_region_ext (by kernel_rfl) (by kernel_rfl) ?_
    repeat (go_big_quiet_step (first | (go_at_call 29; exact Calls.ext_of (HG.out _)) | fail))
    refine wpQuiet_nil ?_
    rintro _ ⟨d1, rfl⟩
    go_wp2
    go_ret
    exact ⟨rfl, v, SA.gr d1.gr, (gA.trans d1.gr).kp M⟩

theorem do1_enters : ∀ args w, (callFunc 33 args).run Tryz.prog w = .ok (.enter 33 args) w := enters_of Tryz.func33 (by kernel_rfl) rfl
theorem do1_any (l b x y : Int) (w : World) : Calls Tryz.prog 33 #[.agg #[iv l, iv b, iv x, iv y]] w fun e w' => e = .returned (.bool (y == -2)) ∧ Gr w w' := by
  have gA := (Gr.refl w).alloc (.cells #[iv l, iv b, iv x, iv y] 60)
  go_enter Tryz.func33, Tryz.ntmps33
  go_wp2
  go_ret
  exact ⟨rfl, gA⟩

set_option maxHeartbeats 2000000 in
set_option maxRecDepth 100000 in
theorem those_do1 {w : World} {M : Nat → Prop} {tb : Nat} {v : Value} {rs : List Rt} {ao : Option Addr} {m c : Nat} {cs : List Ch} (S : TabS w M tb v rs) (hT : Tab rs) (hC : ChAt w M ao cs) (hm : cs.length = m) (hm2 : m ≤ 1000) :
    Calls Tryz.prog 32 #[pv tb, .slice ao m c, .func (.func 33) #[] #[]] w fun e w' => e = .returned (iv (passD true rs cs).2) ∧ ∃ v', TabS w' M tb v' (passD true rs cs).1 ∧ Kp M w w' := by
  have eg := do1_enters
  have HC := hide hC
  obtain ⟨PR, hPR⟩ : ∃ PR, passD true rs cs = PR := ⟨_, rfl⟩
  rw [hPR]
  have HP : Hid (passD true rs (cs.drop 0) = PR) := hPR
  clear hPR hC
  go_enter Tryz.func32, Tryz.ntmps32
  go_wp2
  go_loopw [8, 9, 12] (fun _ _ v12 wr => ∃ (k : Nat) (rk : List Rt) (vk : Value), k ≤ m ∧ v12 = .int .i64 k ∧ Hid (TabS wr M tb vk rk) ∧ Hid (Tab rk) ∧ Hid (Kp M w wr) ∧ Hid (passD true rk (cs.drop k) = PR)) (fun _ _ v12 _ => m - (intOf v12).toNat)
  case atStart => exact ⟨0, rs, v, by omega, rfl, S, hT, Kp.refl _ _, HP⟩
  case round =>
    obtain ⟨k, rk, vk, hk, rfl, HS, HT, HK, HX⟩ := hrel
    by_cases hlt : k < m
    · rcases HC.out.kept HK.out with h | ⟨q, o, rfl, hq, hMq, hcs⟩
      · rw [h] at hm; simp at hm; omega
      obtain ⟨c0, c1, c2, c3⟩ := hcs k (by omega)
      have HDR : Hid (cs.drop k = cs[k] :: cs.drop (k + 1)) := List.drop_eq_getElem_cons (by omega)
      have HX1 : Hid (passD true rk (cs[k] :: cs.drop (k + 1)) = PR) := by rw [← HDR.out]; exact HX
      clear hcs HX HDR
      generalize cs[k] = ch at *
      obtain ⟨l, b, x, y⟩ := ch
      simp only at c0 c1 c2 c3
      obtain ⟨X, hX⟩ : ∃ X, X = wr.alloc (.cells #[iv l, iv b, iv x, iv y] 60) := ⟨_, rfl⟩
      have gX : Gr wr X := by rw [hX]; exact (Gr.refl _).alloc _
      have hq2 : X.heap[wr.heap.size]? = some (.cells #[iv l, iv b, iv x, iv y] 60 (0, 0)) := by rw [hX]; exact heap_alloc_new wr _
      have HB : Hid (∀ w', Gr X w' → w'.heap[wr.heap.size]? = some (.cells #[iv l, iv b, iv x, iv y] 60 (0, 0))) := fun w' g => g.blk hq2
      obtain ⟨z, z0, z1, z2, z3, _⟩ := cell4 hq2
      have HXX := hide hX
      have HM := hide (do1_any l b x y X)
      clear hX hq2
      go_upto_region 4 with (fail)
      rw [← HXX.out]
      by_cases hy : y = -2
      · subst hy
        have hyb : ((-2 : Int) == -2) = true := by rfl
        rw [hyb] at HM
        have HN : Hid ((if (oneD rk l b x (-2)).2 ≠ 0 then oneD rk l b x (-2) else passD true (oneD rk l b x (-2)).1 (cs.drop (k + 1))) = PR) := by unfold Hid; rw [← HX1.out, passD_do _ HT.out _ _ _ _ _ (by simp)]
        have HD := hide (fun w2 (g2 : Gr X w2) => doOne_any (HS.out.gr (gX.trans g2)) HT.out l b x (-2))
        have HTn := hide (oneD_tab HT.out l b x (-2))
        generalize oneD rk l b x (-2) = O at *
        obtain ⟨ro, code⟩ := O
        by_cases hc : code = 0
        · subst hc
          have HN1 : Hid (passD true ro (cs.drop (k + 1)) = PR) := by unfold Hid; rw [← HN.out, if_neg (by simp)]
          go_wp2_with (first
            | (go_at_fn 33; refine HM.out.mono ?_; rintro e w2 ⟨rfl, g2⟩; obtain ⟨y', y0, y1, y2, y3, _⟩ := cell4 (HB.out _ g2))
            | (go_at_call 55; refine (HD.out _ g2).mono ?_; rintro e w3 ⟨rfl, v3, S3, K3⟩))
          go_roundw
          case rel => exact ⟨k + 1, ro, v3, by omega, by go_num, S3, HTn, HK.out.trans (((gX.trans g2).kp M).trans K3), HN1⟩
          case measure => simp [intOf]; omega
        · have hcb : (code != 0) = true := by simpa using hc
          have HE : Hid (PR = (ro, code)) := by unfold Hid; rw [← HN.out, if_pos hc]
          obtain rfl := HE.out
          go_wp2_with (first
            | (go_at_fn 33; refine HM.out.mono ?_; rintro e w2 ⟨rfl, g2⟩; obtain ⟨y', y0, y1, y2, y3, _⟩ := cell4 (HB.out _ g2))
            | (go_at_call 55; refine (HD.out _ g2).mono ?_; rintro e w3 ⟨rfl, v3, S3, K3⟩))
          go_ret
          first | exact ⟨rfl, v3, S3, HK.out.trans (((gX.trans g2).kp M).trans K3)⟩ | exact ⟨rfl, ⟨v3, S3⟩, HK.out.trans (((gX.trans g2).kp M).trans K3)⟩
      · have hyb : (y == -2) = false := by simp [hy]
        rw [hyb] at HM
        have HN : Hid (passD true rk (cs.drop (k + 1)) = PR) := by unfold Hid; rw [← HX1.out, passD_skip _ _ _ _ _ _ _ (by simp [hy])]
        go_wp2_with (go_at_fn 33; refine HM.out.mono ?_; rintro e w2 ⟨rfl, g2⟩)
        go_roundw
        case rel => exact ⟨k + 1, rk, vk, by omega, by go_num, HS.out.gr (gX.trans g2), HT, HK.out.trans ((gX.trans g2).kp M), HN⟩
        case measure => simp [intOf]; omega
    · have hkm : k = m := by omega
      subst hkm
      have HE : Hid (PR = (rk, 0)) := by unfold Hid; rw [← HX.out, List.drop_eq_nil_of_le (by omega)]; rfl
      obtain rfl := HE.out
      go_wp2
      go_ret
      first | exact ⟨rfl, vk, HS.out, HK.out⟩ | exact ⟨rfl, ⟨vk, HS.out⟩, HK.out⟩

theorem do2_enters : ∀ args w, (callFunc 34 args).run Tryz.prog w = .ok (.enter 34 args) w := enters_of Tryz.func34 (by kernel_rfl) rfl
theorem do2_any (l b x y : Int) (w : World) : Calls Tryz.prog 34 #[.agg #[iv l, iv b, iv x, iv y]] w fun e w' => e = .returned (.bool (y != -2)) ∧ Gr w w' := by
  have gA := (Gr.refl w).alloc (.cells #[iv l, iv b, iv x, iv y] 60)
  go_enter Tryz.func34, Tryz.ntmps34
  go_wp2
  go_ret
  exact ⟨rfl, gA⟩

set_option maxHeartbeats 2000000 in
set_option maxRecDepth 100000 in
theorem those_do2 {w : World} {M : Nat → Prop} {tb : Nat} {v : Value} {rs : List Rt} {ao : Option Addr} {m c : Nat} {cs : List Ch} (S : TabS w M tb v rs) (hT : Tab rs) (hC : ChAt w M ao cs) (hm : cs.length = m) (hm2 : m ≤ 1000) :
    Calls Tryz.prog 32 #[pv tb, .slice ao m c, .func (.func 34) #[] #[]] w fun e w' => e = .returned (iv (passD false rs cs).2) ∧ ∃ v', TabS w' M tb v' (passD false rs cs).1 ∧ Kp M w w' := by
  have eg := do2_enters
  have HC := hide hC
  obtain ⟨PR, hPR⟩ : ∃ PR, passD false rs cs = PR := ⟨_, rfl⟩
  rw [hPR]
  have HP : Hid (passD false rs (cs.drop 0) = PR) := hPR
  clear hPR hC
  go_enter Tryz.func32, Tryz.ntmps32
  go_wp2
  go_loopw [8, 9, 12] (fun _ _ v12 wr => ∃ (k : Nat) (rk : List Rt) (vk : Value), k ≤ m ∧ v12 = .int .i64 k ∧ Hid (TabS wr M tb vk rk) ∧ Hid (Tab rk) ∧ Hid (Kp M w wr) ∧ Hid (passD false rk (cs.drop k) = PR)) (fun _ _ v12 _ => m - (intOf v12).toNat)
  case atStart => exact ⟨0, rs, v, by omega, rfl, S, hT, Kp.refl _ _, HP⟩
  case round =>
    obtain ⟨k, rk, vk, hk, rfl, HS, HT, HK, HX⟩ := hrel
    by_cases hlt : k < m
    · rcases HC.out.kept HK.out with h | ⟨q, o, rfl, hq, hMq, hcs⟩
      · rw [h] at hm; simp at hm; omega
      obtain ⟨c0, c1, c2, c3⟩ := hcs k (by omega)
      have HDR : Hid (cs.drop k = cs[k] :: cs.drop (k + 1)) := List.drop_eq_getElem_cons (by omega)
      have HX1 : Hid (passD false rk (cs[k] :: cs.drop (k + 1)) = PR) := by rw [← HDR.out]; exact HX
      clear hcs HX HDR
      generalize cs[k] = ch at *
      obtain ⟨l, b, x, y⟩ := ch
      simp only at c0 c1 c2 c3
      obtain ⟨X, hX⟩ : ∃ X, X = wr.alloc (.cells #[iv l, iv b, iv x, iv y] 60) := ⟨_, rfl⟩
      have gX : Gr wr X := by rw [hX]; exact (Gr.refl _).alloc _
      have hq2 : X.heap[wr.heap.size]? = some (.cells #[iv l, iv b, iv x, iv y] 60 (0, 0)) := by rw [hX]; exact heap_alloc_new wr _
      have HB : Hid (∀ w', Gr X w' → w'.heap[wr.heap.size]? = some (.cells #[iv l, iv b, iv x, iv y] 60 (0, 0))) := fun w' g => g.blk hq2
      obtain ⟨z, z0, z1, z2, z3, _⟩ := cell4 hq2
      have HXX := hide hX
      have HM := hide (do2_any l b x y X)
      clear hX hq2
      go_upto_region 4 with (fail)
      rw [← HXX.out]
      by_cases hy : y = -2
      · subst hy
        have hyb : ((-2 : Int) != -2) = false := by rfl
        rw [hyb] at HM
        have HN : Hid (passD false rk (cs.drop (k + 1)) = PR) := by unfold Hid; rw [← HX1.out, passD_skip _ _ _ _ _ _ _ (by simp)]
        go_wp2_with (go_at_fn 34; refine HM.out.mono ?_; rintro e w2 ⟨rfl, g2⟩)
        go_roundw
        case rel => exact ⟨k + 1, rk, vk, by omega, by go_num, HS.out.gr (gX.trans g2), HT, HK.out.trans ((gX.trans g2).kp M), HN⟩
        case measure => simp [intOf]; omega
      · have hyb : (y != -2) = true := by simp [hy]
        rw [hyb] at HM
        have HN : Hid ((if (oneD rk l b x y).2 ≠ 0 then oneD rk l b x y else passD false (oneD rk l b x y).1 (cs.drop (k + 1))) = PR) := by unfold Hid; rw [← HX1.out, passD_do _ HT.out _ _ _ _ _ (by simp [hy])]
        have HD := hide (fun w2 (g2 : Gr X w2) => doOne_any (HS.out.gr (gX.trans g2)) HT.out l b x y)
        have HTn := hide (oneD_tab HT.out l b x y)
        generalize oneD rk l b x y = O at *
        obtain ⟨ro, code⟩ := O
        by_cases hc : code = 0
        · subst hc
          have HN1 : Hid (passD false ro (cs.drop (k + 1)) = PR) := by unfold Hid; rw [← HN.out, if_neg (by simp)]
          go_wp2_with (first
            | (go_at_fn 34; refine HM.out.mono ?_; rintro e w2 ⟨rfl, g2⟩; obtain ⟨y', y0, y1, y2, y3, _⟩ := cell4 (HB.out _ g2))
            | (go_at_call 55; refine (HD.out _ g2).mono ?_; rintro e w3 ⟨rfl, v3, S3, K3⟩))
          go_roundw
          case rel => exact ⟨k + 1, ro, v3, by omega, by go_num, S3, HTn, HK.out.trans (((gX.trans g2).kp M).trans K3), HN1⟩
          case measure => simp [intOf]; omega
        · have hcb : (code != 0) = true := by simpa using hc
          have HE : Hid (PR = (ro, code)) := by unfold Hid; rw [← HN.out, if_pos hc]
          obtain rfl := HE.out
          go_wp2_with (first
            | (go_at_fn 34; refine HM.out.mono ?_; rintro e w2 ⟨rfl, g2⟩; obtain ⟨y', y0, y1, y2, y3, _⟩ := cell4 (HB.out _ g2))
            | (go_at_call 55; refine (HD.out _ g2).mono ?_; rintro e w3 ⟨rfl, v3, S3, K3⟩))
          go_ret
          first | exact ⟨rfl, v3, S3, HK.out.trans (((gX.trans g2).kp M).trans K3)⟩ | exact ⟨rfl, ⟨v3, S3⟩, HK.out.trans (((gX.trans g2).kp M).trans K3)⟩
    · have hkm : k = m := by omega
      subst hkm
      have HE : Hid (PR = (rk, 0)) := by unfold Hid; rw [← HX.out, List.drop_eq_nil_of_le (by omega)]; rfl
      obtain rfl := HE.out
      go_wp2
      go_ret
      first | exact ⟨rfl, vk, HS.out, HK.out⟩ | exact ⟨rfl, ⟨vk, HS.out⟩, HK.out⟩

theorem do_any {w : World} {M : Nat → Prop} {tb : Nat} {v : Value} {rs ss : List Rt} {code : Int} {ao : Option Addr} {m c : Nat} {cs : List Ch} (S : TabS w M tb v rs) (hT : Tab rs) (hC : ChAt w M ao cs) (hm : cs.length = m) (hm2 : m ≤ 1000) (e : doneL rs cs = (ss, code)) :
    Calls Tryz.prog 15 #[pv tb, .slice ao m c] w fun e w' => e = .returned (iv code) ∧ ∃ v', TabS w' M tb v' ss ∧ Kp M w w' := by
  have H1 := hide (those_do1 (c := c) S hT hC hm hm2)
  have HT1 := hide (passD_tab true cs hT)
  have HC := hide hC
  have HE : Hid (doneL rs cs = (ss, code)) := e
  unfold doneL at HE
  generalize passD true rs cs = P1 at *
  obtain ⟨r1, k1⟩ := P1
  have H2 := hide (fun w1 v1 (S1 : TabS w1 M tb v1 r1) (K1 : Kp M w w1) => those_do2 (c := c) S1 HT1.out (HC.out.kept K1) hm hm2)
  simp only at HE H2
  clear S hT hC e
  by_cases h1 : k1 = 0
  · subst h1
    rw [if_neg (by simp)] at HE
    rw [HE.out] at H2
    go_enter Tryz.func15, Tryz.ntmps15
    go_wp2_with (first
      | (go_at_call 32; with_reducible refine H1.out.mono ?_; rintro e w1 ⟨rfl, v1, S1, K1⟩)
      | (go_at_call 32; with_reducible refine (H2.out _ _ S1 K1).mono ?_; rintro e w2 ⟨rfl, v2, S2, K2⟩))
    go_ret
    exact ⟨rfl, v2, S2, K1.trans K2⟩
  · have hb : (k1 != 0) = true := by simpa using h1
    rw [if_pos h1] at HE
    obtain ⟨rfl, rfl⟩ : r1 = ss ∧ k1 = code := by simpa using HE.out
    go_enter Tryz.func15, Tryz.ntmps15
    go_wp2_with (go_at_call 32; refine H1.out.mono ?_; rintro e w1 ⟨rfl, v1, S1, K1⟩)
    go_ret
    exact ⟨rfl, v1, S1, K1⟩

end Go.Proofs.YtimbgijpeomfcacGreatDoor
