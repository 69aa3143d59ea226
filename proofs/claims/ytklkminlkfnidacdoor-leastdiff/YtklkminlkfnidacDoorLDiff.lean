import Derived.Test.YtklkminlkfnidacDoorLAid
import Derived.Test.YtklkminlkfnidacDoorQ21
/- CONTRACTS OF package least: doOne, doThose, Do. (Written by tools/gendo.py.) -/
namespace Go.Proofs.YtklkminlkfnidacDoor
open Go.RowKit
attribute [local go_sem] Ext.all Ext.cell Ext.frozen Ext.lt Ext.lt1 Ext.lt2 Ext.ne Ext.ne'

def oneD (rs : List Rt) (l b x y : Int) : List Rt × Int := if getL rs l b ≠ x then (rs, 11) else setL rs l b y
theorem oneD_tab {rs : List Rt} (h : Tab rs) (l b x y : Int) : Tab (oneD rs l b x y).1 := by
  unfold oneD
  split
  · exact h
  · exact h.set_tab _ _ _
theorem passD_skip (z : Bool) (rs : List Rt) (l b x y : Int) (cs : List Ch) (h : decide (y = -2) ≠ z) : passD z rs ((l, b, x, y) :: cs) = passD z rs cs := by
  rw [passD, if_pos h]
theorem passD_do (z : Bool) {rs : List Rt} (hT : Tab rs) (l b x y : Int) (cs : List Ch) (h : decide (y = -2) = z) : passD z rs ((l, b, x, y) :: cs) = if (oneD rs l b x y).2 ≠ 0 then oneD rs l b x y else passD z (oneD rs l b x y).1 cs := by
  rw [passD, if_neg (by simp [h])]
  unfold oneD
  by_cases h1 : getL rs l b ≠ x
  · rw [if_pos h1, if_pos h1, if_pos (by simp)]
  · rw [if_neg h1, if_neg h1]
    by_cases h2 : (setL rs l b y).2 ≠ 0
    · rw [if_pos h2, if_pos h2]
      rcases hT.set l b y with h3 | ⟨_, h3, _⟩
      · exact Prod.ext h3.1.symm rfl
      · exact absurd h3 h2
    · rw [if_neg h2, if_neg h2]

set_option maxHeartbeats 1000000 in
theorem doOne_any {w : World} {M : Nat → Prop} {tb : Nat} {v : Value} {rs : List Rt} (S : TabS w M tb v rs) (hT : Tab rs) (l b x y : Int) :
    Calls Tryd.prog 66 #[pv tb, .agg #[iv l, iv b, iv x, iv y]] w fun e w' => e = .returned (iv (oneD rs l b x y).2) ∧ ∃ v', TabS w' M tb v' (oneD rs l b x y).1 ∧ Kp M w w' := by
  obtain ⟨A, hA⟩ : ∃ A, A = w.alloc (.cells #[iv l, iv b, iv x, iv y] 55) := ⟨_, rfl⟩
  have gA : Gr w A := by rw [hA]; exact (Gr.refl w).alloc _
  have SA := S.gr gA
  have hq : A.heap[w.heap.size]? = some (.cells #[iv l, iv b, iv x, iv y] 55 (0, 0)) := by rw [hA]; exact heap_alloc_new w _
  obtain ⟨z, z0, z1, z2, z3, _⟩ := cell4 hq
  obtain ⟨g, hg⟩ : ∃ g, getL rs l b = g := ⟨_, rfl⟩
  have HG := hide (fun (m : Ext A) => get_is (l := l) (b := b) SA hT hg m)
  have HA := hide hA
  have tlt := SA.lt
  clear hA hq
  by_cases hgx : g = x
  · have hne : (g != x) = false := by simpa using hgx
    obtain ⟨rs', code, hS1⟩ : ∃ rs' code, setL rs l b y = (rs', code) := ⟨_, _, rfl⟩
    have HE : Hid (oneD rs l b x y = (rs', code)) := by unfold Hid oneD; rw [hg, if_neg (by simpa using hgx), hS1]
    rw [HE.out]
    have HS1 := hide hS1
    clear hg hgx hS1
    go_enter Tryd.func66, Tryd.ntmps66
    go_upto_region 1 with (fail)
    rw [← HA.out]
    refine wp_region_ext (by kernel_rfl) (by kernel_rfl) ?_
    repeat (go_big_quiet_step (first | (go_at_call 23; exact Calls.ext_of (HG.out _)) | fail))
    refine wpQuiet_nil ?_
    rintro _ ⟨d1, rfl⟩
    go_wp2_with (go_at_call 20; refine (set_is (SA.gr d1.gr) hT HS1.out).mono ?_; rintro e w' ⟨rfl, v', S', K'⟩)
    go_ret
    exact ⟨rfl, v', S', ((gA.trans d1.gr).kp M).trans K'⟩
  · have hne : (g != x) = true := by simpa using hgx
    have HE : Hid (oneD rs l b x y = (rs, 11)) := by unfold Hid oneD; rw [hg, if_pos hgx]
    rw [HE.out]
    clear hg hgx
    go_enter Tryd.func66, Tryd.ntmps66
    go_upto_region 1 with (fail)
    rw [← HA.out]
    refine wp_region_ext (by kernel_rfl) (by kernel_rfl) ?_
    repeat (go_big_quiet_step (first | (go_at_call 23; exact Calls.ext_of (HG.out _)) | fail))
    refine wpQuiet_nil ?_
    rintro _ ⟨d1, rfl⟩
    go_wp2
    go_ret
    exact ⟨rfl, v, SA.gr d1.gr, (gA.trans d1.gr).kp M⟩

theorem do1_enters : ∀ args w, (callFunc 47 args).run Tryd.prog w = .ok (.enter 47 args) w := enters_of Tryd.func47 (by kernel_rfl) rfl
theorem do1_any (l b x y : Int) (w : World) : Calls Tryd.prog 47 #[.agg #[iv l, iv b, iv x, iv y]] w fun e w' => e = .returned (.bool (y == -2)) ∧ Gr w w' := by
  have gA := (Gr.refl w).alloc (.cells #[iv l, iv b, iv x, iv y] 55)
  go_enter Tryd.func47, Tryd.ntmps47
  go_wp2
  go_ret
  exact ⟨rfl, gA⟩

set_option maxHeartbeats 2000000 in
set_option maxRecDepth 100000 in
theorem those_do1 {w : World} {M : Nat → Prop} {tb : Nat} {v : Value} {rs : List Rt} {ao : Option Addr} {m c : Nat} {cs : List Ch} (S : TabS w M tb v rs) (hT : Tab rs) (hC : ChAt w M ao cs) (hm : cs.length = m) (hm2 : m ≤ 1000) :
    Calls Tryd.prog 46 #[pv tb, .slice ao m c, .func (.func 47) #[] #[]] w fun e w' => e = .returned (iv (passD true rs cs).2) ∧ ∃ v', TabS w' M tb v' (passD true rs cs).1 ∧ Kp M w w' := by
  have eg := do1_enters
  have HC := hide hC
  obtain ⟨PR, hPR⟩ : ∃ PR, passD true rs cs = PR := ⟨_, rfl⟩
  rw [hPR]
  have HP : Hid (passD true rs (cs.drop 0) = PR) := hPR
  clear hPR hC
  go_enter Tryd.func46, Tryd.ntmps46
  go_wp2
  go_loopw [8, 9, 12] (fun _ _ v12 wr => ∃ (k : Nat) (rk : List Rt) (vk : Value), k ≤ m ∧ v12 = .int .i64 k ∧ Hid (TabS wr M tb vk rk) ∧ Hid (Tab rk) ∧ Hid (Kp M w wr) ∧ Hid (passD true rk (cs.drop k) = PR)) (fun _ _ v12 _ => m - (intOf v12).toNat)
  case atStart => exact ⟨0, rs, v, by omega, rfl, S, hT, Kp.refl _ _, HP⟩
  case round =>
    obtain ⟨k, rk, vk, hk, rfl, HS, HT, HK, HX⟩ := hrel
    by_cases hlt : k < m
    · rcases HC.out.kept HK.out with h | ⟨q, o, rfl, hq, hMq, hcs⟩
      · rw [h] at hm; simp at hm; omega
      obtain ⟨c0, c1, c2, c3⟩ := hcs k (by omega)
      have HDR : Hid (cs.drop k = cs[k] :: cs.drop (k + 1)) := List.drop_eq_getElem_cons (by omega)
      have HX1 : Hid (passD true rk (cs[k] :: cs.drop (k + 1)) = PR) := by rw [← HDR.out]; exact HX
      clear hcs HX HDR
      generalize cs[k] = ch at *
      obtain ⟨l, b, x, y⟩ := ch
      simp only at c0 c1 c2 c3
      obtain ⟨X, hX⟩ : ∃ X, X = wr.alloc (.cells #[iv l, iv b, iv x, iv y] 55) := ⟨_, rfl⟩
      have gX : Gr wr X := by rw [hX]; exact (Gr.refl _).alloc _
      have hq2 : X.heap[wr.heap.size]? = some (.cells #[iv l, iv b, iv x, iv y] 55 (0, 0)) := by rw [hX]; exact heap_alloc_new wr _
      have HB : Hid (∀ w', Gr X w' → w'.heap[wr.heap.size]? = some (.cells #[iv l, iv b, iv x, iv y] 55 (0, 0))) := fun w' g => g.blk hq2
      obtain ⟨z, z0, z1, z2, z3, _⟩ := cell4 hq2
      have HXX := hide hX
      have HM := hide (do1_any l b x y X)
      clear hX hq2
      go_upto_region 4 with (fail)
      rw [← HXX.out]
      by_cases hy : y = -2
      · subst hy
        have hyb : ((-2 : Int) == -2) = true := by rfl
        rw [hyb] at HM
        have HN : Hid ((if (oneD rk l b x (-2)).2 ≠ 0 then oneD rk l b x (-2) else passD true (oneD rk l b x (-2)).1 (cs.drop (k + 1))) = PR) := by unfold Hid; rw [← HX1.out, passD_do _ HT.out _ _ _ _ _ (by simp)]
        have HD := hide (fun w2 (g2 : Gr X w2) => doOne_any (HS.out.gr (gX.trans g2)) HT.out l b x (-2))
        have HTn := hide (oneD_tab HT.out l b x (-2))
        generalize oneD rk l b x (-2) = O at *
        obtain ⟨ro, code⟩ := O
        by_cases hc : code = 0
        · subst hc
          have HN1 : Hid (passD true ro (cs.drop (k + 1)) = PR) := by unfold Hid; rw [← HN.out, if_neg (by simp)]
          go_wp2_with (first
            | (go_at_fn 47; refine HM.out.mono ?_; rintro e w2 ⟨rfl, g2⟩; obtain ⟨y', y0, y1, y2, y3, _⟩ := cell4 (HB.out _ g2))
            | (go_at_call 66; refine (HD.out _ g2).mono ?_; rintro e w3 ⟨rfl, v3, S3, K3⟩))
          go_roundw
          case rel => exact ⟨k + 1, ro, v3, by omega, by go_num, S3, HTn, HK.out.trans (((gX.trans g2).kp M).trans K3), HN1⟩
          case measure => simp [intOf]; omega
        · have hcb : (code != 0) = true := by simpa using hc
          have HE : Hid (PR = (ro, code)) := by unfold Hid; rw [← HN.out, if_pos hc]
          obtain rfl := HE.out
          go_wp2_with (first
            | (go_at_fn 47; refine HM.out.mono ?_; rintro e w2 ⟨rfl, g2⟩; obtain ⟨y', y0, y1, y2, y3, _⟩ := cell4 (HB.out _ g2))
            | (go_at_call 66; refine (HD.out _ g2).mono ?_; rintro e w3 ⟨rfl, v3, S3, K3⟩))
          go_ret
          first | exact ⟨rfl, v3, S3, HK.out.trans (((gX.trans g2).kp M).trans K3)⟩ | exact ⟨rfl, ⟨v3, S3⟩, HK.out.trans (((gX.trans g2).kp M).trans K3)⟩
      · have hyb : (y == -2) = false := by simp [hy]
        rw [hyb] at HM
        have HN : Hid (passD true rk (cs.drop (k + 1)) = PR) := by unfold Hid; rw [← HX1.out, passD_skip _ _ _ _ _ _ _ (by simp [hy])]
        go_wp2_with (go_at_fn 47; refine HM.out.mono ?_; rintro e w2 ⟨rfl, g2⟩)
        go_roundw
        case rel => exact ⟨k + 1, rk, vk, by omega, by go_num, HS.out.gr (gX.trans g2), HT, HK.out.trans ((gX.trans g2).kp M), HN⟩
        case measure => simp [intOf]; omega
    · have hkm : k = m := by omega
      subst hkm
      have HE : Hid (PR = (rk, 0)) := by unfold Hid; rw [← HX.out, List.drop_eq_nil_of_le (by omega)]; rfl
      obtain rfl := HE.out
      go_wp2
      go_ret
      first | exact ⟨rfl, vk, HS.out, HK.out⟩ | exact ⟨rfl, ⟨vk, HS.out⟩, HK.out⟩

theorem do2_enters : ∀ args w, (callFunc 48 args).run Tryd.prog w = .ok (.enter 48 args) w := enters_of Tryd.func48 (by kernel_rfl) rfl
theorem do2_any (l b x y : Int) (w : World) : Calls Tryd.prog 48 #[.agg #[iv l, iv b, iv x, iv y]] w fun e w' => e = .returned (.bool (y != -2)) ∧ Gr w w' := by
  have gA := (Gr.refl w).alloc (.cells #[iv l, iv b, iv x, iv y] 55)
  go_enter Tryd.func48, Tryd.ntmps48
  go_wp2
  go_ret
  exact ⟨rfl, gA⟩

set_option maxHeartbeats 2000000 in
set_option maxRecDepth 100000 in
theorem those_do2 {w : World} {M : Nat → Prop} {tb : Nat} {v : Value} {rs : List Rt} {ao : Option Addr} {m c : Nat} {cs : List Ch} (S : TabS w M tb v rs) (hT : Tab rs) (hC : ChAt w M ao cs) (hm : cs.length = m) (hm2 : m ≤ 1000) :
    Calls Tryd.prog 46 #[pv tb, .slice ao m c, .func (.func 48) #[] #[]] w fun e w' => e = .returned (iv (passD false rs cs).2) ∧ ∃ v', TabS w' M tb v' (passD false rs cs).1 ∧ Kp M w w' := by
  have eg := do2_enters
  have HC := hide hC
  obtain ⟨PR, hPR⟩ : ∃ PR, passD false rs cs = PR := ⟨_, rfl⟩
  rw [hPR]
  have HP : Hid (passD false rs (cs.drop 0) = PR) := hPR
  clear hPR hC
  go_enter Tryd.func46, Tryd.ntmps46
  go_wp2
  go_loopw [8, 9, 12] (fun _ _ v12 wr => ∃ (k : Nat) (rk : List Rt) (vk : Value), k ≤ m ∧ v12 = .int .i64 k ∧ Hid (TabS wr M tb vk rk) ∧ Hid (Tab rk) ∧ Hid (Kp M w wr) ∧ Hid (passD false rk (cs.drop k) = PR)) (fun _ _ v12 _ => m - (intOf v12).toNat)
  case atStart => exact ⟨0, rs, v, by omega, rfl, S, hT, Kp.refl _ _, HP⟩
  case round =>
    obtain ⟨k, rk, vk, hk, rfl, HS, HT, HK, HX⟩ := hrel
    by_cases hlt : k < m
    · rcases HC.out.kept HK.out with h | ⟨q, o, rfl, hq, hMq, hcs⟩
      · rw [h] at hm; simp at hm; omega
      obtain ⟨c0, c1, c2, c3⟩ := hcs k (by omega)
      have HDR : Hid (cs.drop k = cs[k] :: cs.drop (k + 1)) := List.drop_eq_getElem_cons (by omega)
      have HX1 : Hid (passD false rk (cs[k] :: cs.drop (k + 1)) = PR) := by rw [← HDR.out]; exact HX
      clear hcs HX HDR
      generalize cs[k] = ch at *
      obtain ⟨l, b, x, y⟩ := ch
      simp only at c0 c1 c2 c3
      obtain ⟨X, hX⟩ : ∃ X, X = wr.alloc (.cells #[iv l, iv b, iv x, iv y] 55) := ⟨_, rfl⟩
      have gX : Gr wr X := by rw [hX]; exact (Gr.refl _).alloc _
      have hq2 : X.heap[wr.heap.size]? = some (.cells #[iv l, iv b, iv x, iv y] 55 (0, 0)) := by rw [hX]; exact heap_alloc_new wr _
      have HB : Hid (∀ w', Gr X w' → w'.heap[wr.heap.size]? = some (.cells #[iv l, iv b, iv x, iv y] 55 (0, 0))) := fun w' g => g.blk hq2
      obtain ⟨z, z0, z1, z2, z3, _⟩ := cell4 hq2
      have HXX := hide hX
      have HM := hide (do2_any l b x y X)
      clear hX hq2
      go_upto_region 4 with (fail)
      rw [← HXX.out]
      by_cases hy : y = -2
      · subst hy
        have hyb : ((-2 : Int) != -2) = false := by rfl
        rw [hyb] at HM
        have HN : Hid (passD false rk (cs.drop (k + 1)) = PR) := by unfold Hid; rw [← HX1.out, passD_skip _ _ _ _ _ _ _ (by simp)]
        go_wp2_with (go_at_fn 48; refine HM.out.mono ?_; rintro e w2 ⟨rfl, g2⟩)
        go_roundw
        case rel => exact ⟨k + 1, rk, vk, by omega, by go_num, HS.out.gr (gX.trans g2), HT, HK.out.trans ((gX.trans g2).kp M), HN⟩
        case measure => simp [intOf]; omega
      · have hyb : (y != -2) = true := by simp [hy]
        rw [hyb] at HM
        have HN : Hid ((if (oneD rk l b x y).2 ≠ 0 then oneD rk l b x y else passD false (oneD rk l b x y).1 (cs.drop (k + 1))) = PR) := by unfold Hid; rw [← HX1.out, passD_do _ HT.out _ _ _ _ _ (by simp [hy])]
        have HD := hide (fun w2 (g2 : Gr X w2) => doOne_any (HS.out.gr (gX.trans g2)) HT.out l b x y)
        have HTn := hide (oneD_tab HT.out l b x y)
        generalize oneD rk l b x y = O at *
        obtain ⟨ro, code⟩ := O
        by_cases hc : code = 0
        · subst hc
          have HN1 : Hid (passD false ro (cs.drop (k + 1)) = PR) := by unfold Hid; rw [← HN.out, if_neg (by simp)]
          go_wp2_with (first
            | (go_at_fn 48; refine HM.out.mono ?_; rintro e w2 ⟨rfl, g2⟩; obtain ⟨y', y0, y1, y2, y3, _⟩ := cell4 (HB.out _ g2))
            | (go_at_call 66; refine (HD.out _ g2).mono ?_; rintro e w3 ⟨rfl, v3, S3, K3⟩))
          go_roundw
          case rel => exact ⟨k + 1, ro, v3, by omega, by go_num, S3, HTn, HK.out.trans (((gX.trans g2).kp M).trans K3), HN1⟩
          case measure => simp [intOf]; omega
        · have hcb : (code != 0) = true := by simpa using hc
          have HE : Hid (PR = (ro, code)) := by unfold Hid; rw [← HN.out, if_pos hc]
          obtain rfl := HE.out
          go_wp2_with (first
            | (go_at_fn 48; refine HM.out.mono ?_; rintro e w2 ⟨rfl, g2⟩; obtain ⟨y', y0, y1, y2, y3, _⟩ := cell4 (HB.out _ g2))
            | (go_at_call 66; refine (HD.out _ g2).mono ?_; rintro e w3 ⟨rfl, v3, S3, K3⟩))
          go_ret
          first | exact ⟨rfl, v3, S3, HK.out.trans (((gX.trans g2).kp M).trans K3)⟩ | exact ⟨rfl, ⟨v3, S3⟩, HK.out.trans (((gX.trans g2).kp M).trans K3)⟩
    · have hkm : k = m := by omega
      subst hkm
      have HE : Hid (PR = (rk, 0)) := by unfold Hid; rw [← HX.out, List.drop_eq_nil_of_le (by omega)]; rfl
      obtain rfl := HE.out
      go_wp2
      go_ret
      first | exact ⟨rfl, vk, HS.out, HK.out⟩ | exact ⟨rfl, ⟨vk, HS.out⟩, HK.out⟩

theorem do_any {w : World} {M : Nat → Prop} {tb : Nat} {v : Value} {rs ss : List Rt} {code : Int} {ao : Option Addr} {m c : Nat} {cs : List Ch} (S : TabS w M tb v rs) (hT : Tab rs) (hC : ChAt w M ao cs) (hm : cs.length = m) (hm2 : m ≤ 1000) (e : doneL rs cs = (ss, code)) :
    Calls Tryd.prog 25 #[pv tb, .slice ao m c] w fun e w' => e = .returned (iv code) ∧ ∃ v', TabS w' M tb v' ss ∧ Kp M w w' := by
  have H1 := hide (those_do1 (c := c) S hT hC hm hm2)
  have HT1 := hide (passD_tab true cs hT)
  have HC := hide hC
  have HE : Hid (doneL rs cs = (ss, code)) := e
  unfold doneL at HE
  generalize passD true rs cs = P1 at *
  obtain ⟨r1, k1⟩ := P1
  have H2 := hide (fun w1 v1 (S1 : TabS w1 M tb v1 r1) (K1 : Kp M w w1) => those_do2 (c := c) S1 HT1.out (HC.out.kept K1) hm hm2)
  simp only at HE H2
  clear S hT hC e
  by_cases h1 : k1 = 0
  · subst h1
    rw [if_neg (by simp)] at HE
    rw [HE.out] at H2
    go_enter Tryd.func25, Tryd.ntmps25
    go_wp2_with (first
      | (go_at_call 46; with_reducible refine H1.out.mono ?_; rintro e w1 ⟨rfl, v1, S1, K1⟩)
      | (go_at_call 46; with_reducible refine (H2.out _ _ S1 K1).mono ?_; rintro e w2 ⟨rfl, v2, S2, K2⟩))
    go_ret
    exact ⟨rfl, v2, S2, K1.trans K2⟩
  · have hb : (k1 != 0) = true := by simpa using h1
    rw [if_pos h1] at HE
    obtain ⟨rfl, rfl⟩ : r1 = ss ∧ k1 = code := by simpa using HE.out
    go_enter Tryd.func25, Tryd.ntmps25
    go_wp2_with (go_at_call 46; refine H1.out.mono ?_; rintro e w1 ⟨rfl, v1, S1, K1⟩)
    go_ret
    exact ⟨rfl, v1, S1, K1⟩

end Go.Proofs.YtklkminlkfnidacDoor

/- LeastDiff: the walk. -/
namespace Go.Proofs.YtklkminlkfnidacDoor
open Go.RowKit
attribute [local go_sem] Ext.all Ext.cell Ext.frozen Ext.lt Ext.lt1 Ext.lt2 Ext.ne Ext.ne'

theorem tables_new {w : World} {N : Nat → Prop} {ao : Option Addr} {ls : List Rt} (H : RowAt w N ao ls) (hm : ls.length ≤ 120) (c : Nat) (wX : World) (gX : Gr w wX) :
    Calls Tryd.prog 8 #[.slice ao ls.length c] wX fun e w' => ∃ tb ro c' v, e = .returned (.tuple #[pv tb, .slice ro (setAll ls).length c', .bool true]) ∧ TabS w' (fun k => k < wX.heap.size) tb v (setAll ls) ∧ Gr wX w' := by
  refine (tables_st ⟨wX, gX⟩ N ao c ls H hm).mono ?_
  rintro e w' ⟨tb, ro, c', rfl, B⟩
  obtain ⟨M, v, hS, hR, hM⟩ := B.tab
  exact ⟨tb, ro, c', v, rfl, ⟨hS.cell, hS.own, fun h => hS.notTb (hM _ h), fun g hg h => hS.notRow g hg (hM _ h), fun k hk => Nat.lt_of_lt_of_le hk (Below.size B.old)⟩, B.old⟩

theorem Is.of {B : World} {M : Nat → Prop} {tb : Nat} {v : Value} {rs : List Rt} (h : TabS B M tb v rs) : Is B tb rs := ⟨M, v, h⟩
/-- Two tables and a list of changes, each in memory of its own. -/
structure Two (W w : World) (tb ub : Nat) (rs ss : List Rt) (ao : Option Addr) (ds : List Ch) : Prop where
  t : ∃ v M, TabS w M tb v rs ∧ (∀ k, k < W.heap.size → M k) ∧ M ub ∧ ChAt w M ao ds ∧ ∃ u N, TabS w N ub u ss ∧ ∀ g, u.ownBlock = some g → M g
  gr : Gr W w
theorem Two.step {W w w' : World} {tb ub : Nat} {rs ss : List Rt} {ao : Option Addr} {ds : List Ch} (h : Two W w tb ub rs ss ao ds) (g : Gr w w') : Two W w' tb ub rs ss ao ds := by
  obtain ⟨v, M, h1, h2, h3, h4, u, N, h5, h6⟩ := h.t
  exact ⟨⟨v, M, h1.gr g, h2, h3, h4.gr g, u, N, h5.gr g, h6⟩, h.gr.trans g⟩
theorem Two.mk' {W w1 w2 w3 w4 : World} {tb ub : Nat} {v u : Value} {rs ss : List Rt} {ao : Option Addr} {ds : List Ch} (g1 : Gr W w1) (g2 : Gr w1 w2) (g3 : Gr w2 w3) (g4 : Gr w3 w4)
    (hS : TabS w2 (fun k => k < w1.heap.size) tb v rs) (hU : TabS w3 (fun k => k < w2.heap.size) ub u ss) (hC : ChAt w4 (fun k => w3.heap.size ≤ k) ao ds) : Two W w4 tb ub rs ss ao ds := by
  have s1 : W.heap.size ≤ w1.heap.size := Below.size g1
  have s3 : w2.heap.size ≤ w3.heap.size := Below.size g3
  have s4 : w3.heap.size ≤ w4.heap.size := Below.size g4
  have hub := hU.lt
  refine ⟨⟨v, _, hS.more (g3.trans g4), fun k hk => .inl (by show k < w1.heap.size; omega), .inr ⟨by have h := hU.notTb; show w2.heap.size ≤ ub; exact Nat.le_of_not_lt h, by omega⟩, ?_, u, _, hU.gr g4, fun g hg => ?_⟩, g1.trans (g2.trans (g3.trans g4))⟩
  · rcases hC with h | ⟨b, o, h1, h2, h3, h4⟩
    · exact .inl h
    · exact .inr ⟨b, o, h1, h2, .inr ⟨by have h3' : w3.heap.size ≤ b := h3; omega, h2⟩, h4⟩
  · have h1 := hU.notRow g hg
    have h2 := (hU.own.lt g hg).2
    exact .inr ⟨Nat.le_of_not_lt h1, by omega⟩
theorem Two.get1 {W w : World} {tb ub : Nat} {rs ss : List Rt} {ao : Option Addr} {ds : List Ch} {l b x : Int} (h : Two W w tb ub rs ss ao ds) (hT : Tab rs) (e : getL rs l b = x) (m : Ext w) :
    Calls Tryd.prog 23 #[pv tb, pfx l b] m.out fun e w' => e = .returned (iv x) ∧ ∃ d : Ext m.out, w' = d.out := by
  obtain ⟨v, M, h1, _⟩ := h.t
  exact get_is h1 hT e m
theorem Two.get2 {W w : World} {tb ub : Nat} {rs ss : List Rt} {ao : Option Addr} {ds : List Ch} {l b x : Int} (h : Two W w tb ub rs ss ao ds) (hT : Tab ss) (e : getL ss l b = x) (m : Ext w) :
    Calls Tryd.prog 23 #[pv ub, pfx l b] m.out fun e w' => e = .returned (iv x) ∧ ∃ d : Ext m.out, w' = d.out := by
  obtain ⟨v, M, _, _, _, _, u, N, h5, _⟩ := h.t
  exact get_is h5 hT e m
theorem Two.self {W w : World} {tb ub : Nat} {rs ss : List Rt} {ao : Option Addr} {ds : List Ch} (h : Two W w tb ub rs ss ao ds) (hT : Tab rs) :
    Calls Tryd.prog 22 #[pv tb, pv tb] w fun e w' => ∃ ao c, e = .returned (.slice ao 0 c) ∧ Gr w w' := by
  obtain ⟨v, M, h1, _⟩ := h.t
  have hl := hT.len
  refine (Is.diff ⟨M, v, h1⟩ ⟨M, v, h1⟩ hT hT (fun _ => pdq_ok (by omega))).mono ?_
  rintro e w' ⟨ao', c, ds', rfl, hD, _, _, g⟩
  have := hD.self
  subst this
  exact ⟨ao', c, rfl, g⟩
theorem Two.do {W w : World} {tb ub m c : Nat} {rs ss : List Rt} {ao : Option Addr} {ds : List Ch} (h : Two W w tb ub rs ss ao ds) (hT : Tab rs) (hm : ds.length = m) (hm2 : m ≤ 1000) (e : doneL rs ds = (ss, 0)) :
    Calls Tryd.prog 25 #[pv tb, .slice ao m c] w fun e w' => e = .returned (iv 0) ∧ Is w' tb ss ∧ Is w' ub ss ∧ Gr W w' := by
  obtain ⟨v, M, h1, h2, h3, h4, u, N, h5, h6⟩ := h.t
  refine (do_any (c := c) h1 hT h4 hm hm2 e).mono ?_
  rintro e w' ⟨rfl, v', S', K⟩
  exact ⟨rfl, ⟨M, v', S'⟩, ⟨N, u, h5.kept K h3 h6⟩, Below.trans h.gr (K.below (Below.size h.gr) h2)⟩

set_option maxRecDepth 100000 in
set_option maxHeartbeats 8000000 in
theorem ldiff_any (w : World) (h64 : Tab64 w) (N1 N2 : Nat → Prop) (ao1 ao2 : Option Addr) (n1 n2 c1 c2 : Nat) (ls1 ls2 : List Rt) (H1 : n1 ≤ 120 → RowAt w N1 ao1 ls1 ∧ ls1.length = n1) (H2 : n2 ≤ 120 → RowAt w N2 ao2 ls2 ∧ ls2.length = n2) :
    Calls Tryd.prog 6 #[.slice ao1 n1 c1, .slice ao2 n2 c2] w fun e w' => e = .returned (.bool true) ∧ Gr w w' := by
  have HB := hide (lbegun_any w h64)
  clear h64
  by_cases hbig : 120 < n1
  · have hd : decide ((120 : Int) < (n1 : Int)) = true := decide_eq_true (by omega)
    clear H1 H2
    go_enter Tryd.func6, Tryd.ntmps6
    go_wp2_with (go_at_call 7; refine HB.out.mono ?_; rintro e w1 ⟨rfl, g1⟩)
    go_ret
    exact ⟨rfl, g1⟩
  have hd : decide ((120 : Int) < (n1 : Int)) = false := decide_eq_false (by omega)
  by_cases hbig2 : 120 < n2
  · have hd2 : decide ((120 : Int) < (n2 : Int)) = true := decide_eq_true (by omega)
    clear H1 H2
    go_enter Tryd.func6, Tryd.ntmps6
    go_wp2_with (go_at_call 7; refine HB.out.mono ?_; rintro e w1 ⟨rfl, g1⟩)
    go_ret
    exact ⟨rfl, g1⟩
  have hd2 : decide ((120 : Int) < (n2 : Int)) = false := decide_eq_false (by omega)
  obtain ⟨r1, rfl⟩ := H1 (by omega)
  obtain ⟨r2, rfl⟩ := H2 (by omega)
  clear H1 H2
  have HT1 := hide (fun (wX : World) (gX : Gr w wX) => tables_new r1 (by omega) c1 wX gX)
  have HT2 := hide (fun (wX : World) (gX : Gr w wX) => tables_new r2 (by omega) c2 wX gX)
  have TR := hide (setAll_tab ls1)
  have TS := hide (setAll_tab ls2)
  clear r1 r2
  generalize setAll ls1 = rs at *
  generalize setAll ls2 = ss at *
  have hl1 := TR.out.len
  have hl2 := TS.out.len
  go_enter Tryd.func6, Tryd.ntmps6
  go_upto_region 8 with (first
    | (go_at_call 7; refine HB.out.mono ?_; rintro e w1 ⟨rfl, g1⟩; have G1 := hide g1; clear g1)
    | (go_at_call 8; with_reducible refine (HT1.out w1 G1.out).mono ?_; rintro e w2 ⟨tb, ro, cc, v, rfl, s2, g2⟩; have S2 := hide s2; have G2 := hide g2; clear s2 g2)
    | (go_at_call 8; with_reducible refine (HT2.out w2 (G1.out.trans G2.out)).mono ?_; rintro e w3 ⟨ub, ru, cu, u, rfl, s3, g3⟩; have S3 := hide s3; have G3 := hide g3; clear s3 g3)
    | (go_at_call 22; with_reducible refine (Is.diff (Is.of (S2.out.gr G3.out)) (Is.of S3.out) TR.out TS.out (fun _ => pdq_ok (by omega))).mono ?_; rintro e w4 ⟨ao, c, ds, rfl, hD, hC, hlen, g4⟩; have T4 := hide (Two.mk' G1.out G2.out G3.out g4 S2.out S3.out hC); have HD := hide hD; have HC := hide hC; clear hD hC g4)
    | fail)
  have HDN := hide (done_diff TR.out TS.out HD.out)
  clear S2 S3 G1 G2 G3 HT1 HT2 HB hd hd2 hbig hbig2
  go_wp2_with fail
  go_loopw [12] (fun v12 wr => ∃ k : Nat, k ≤ ds.length ∧ v12 = .int .i64 k ∧ Gr w4 wr) (fun v12 _ => ds.length - (intOf v12).toNat)
  case atStart => exact ⟨0, by omega, rfl, Gr.refl _⟩
  case round =>
    obtain ⟨k, hk, rfl, gr⟩ := hrel
    by_cases hlt : k < ds.length
    · rcases HC.out.gr gr with h | ⟨q, o, rfl, hq, _, hcs⟩
      · rw [h] at hlt; simp at hlt
      obtain ⟨z0, z1, z2, z3⟩ := hcs k hlt
      have hmem : ds[k] ∈ ds := List.getElem_mem hlt
      have HPW : Hid (∀ j (hj : j < k), lessB (ds[j]'(by omega)).1 (ds[j]'(by omega)).2.1 ds[k].1 ds[k].2.1 = true) := fun j hj => List.pairwise_iff_getElem.1 HD.out.srt j k (by omega) hlt hj
      have T5 := hide (T4.out.step gr)
      have HLT : Hid (0 < k → ∃ l' b', wr.cell? ⟨q, o + (k - 1) * 4, none⟩ = some (iv l') ∧ wr.cell? ⟨q, o + (k - 1) * 4 + 1, none⟩ = some (iv b') ∧ lessB l' b' ds[k].1 ds[k].2.1 = true) := fun h => by
        obtain ⟨y0, y1, _, _⟩ := hcs (k - 1) (by omega)
        exact ⟨_, _, y0, y1, HPW.out (k - 1) (by omega)⟩
      clear HPW hcs
      generalize ds[k] = ch at *
      obtain ⟨l, b, x, y⟩ := ch
      obtain ⟨e1, e2, e3⟩ := (HD.out.mem l b x y).1 hmem
      simp only at z0 z1 z2 z3 HLT
      have hxy : (x == y) = false := by simpa using e3
      have HG1 := hide (fun (m : Ext wr) => T5.out.get1 TR.out e1 m)
      have HG2 := hide (fun (m : Ext wr) => T5.out.get2 TS.out e2 m)
      have hdl : decide ((k : Int) < (ds.length : Int)) = true := decide_eq_true (by omega)
      clear hmem e1 e2 e3
      by_cases h0 : 0 < k
      · obtain ⟨l', b', p0, p1, hls⟩ := HLT.out h0
        have HLS := hide hls
        have hd0 : decide ((0 : Int) < (k : Int)) = true := decide_eq_true (by omega)
        have hk1 : (k : Int) - 1 < (ds.length : Int) := by omega
        have hk2 : (0 : Int) ≤ (k : Int) - 1 := by omega
        have hk3 : ((k : Int) - 1).toNat = k - 1 := by omega
        clear hls HLT
        go_upto_region 11 with (fail)
        refine wp_region_ext (by kernel_rfl) (by kernel_rfl) ?_
        repeat (go_big_quiet_step (first | (go_at_call 23; with_reducible exact Calls.ext_of (HG1.out _)) | (go_at_call 23; with_reducible exact Calls.ext_of (HG2.out _)) | (go_at_call 24; with_reducible exact Calls.ext_of (rless_is HLS.out _)) | fail))
        refine wpQuiet_nil ?_
        rintro _ ⟨d3, rfl⟩
        go_wp2_with fail
        go_roundw
        case rel => exact ⟨k + 1, by omega, by go_num, gr.trans d3.gr⟩
        case measure => simp [intOf]; omega
      · have hd0 : decide ((0 : Int) < (k : Int)) = false := decide_eq_false (by omega)
        clear HLT
        go_upto_region 11 with (fail)
        refine wp_region_ext (by kernel_rfl) (by kernel_rfl) ?_
        repeat (go_big_quiet_step (first | (go_at_call 23; with_reducible exact Calls.ext_of (HG1.out _)) | (go_at_call 23; with_reducible exact Calls.ext_of (HG2.out _)) | fail))
        refine wpQuiet_nil ?_
        rintro _ ⟨d3, rfl⟩
        go_wp2_with fail
        go_roundw
        case rel => exact ⟨k + 1, by omega, by go_num, gr.trans d3.gr⟩
        case measure => simp [intOf]; omega
    · have hdl : decide ((k : Int) < (ds.length : Int)) = false := decide_eq_false (by omega)
      have T5 := hide (T4.out.step gr)
      go_upto_region 15 with (first
        | (go_at_call 22; refine (T5.out.self TR.out).mono ?_; rintro e w5 ⟨ao5, c5, rfl, g5⟩; have T6 := hide (T5.out.step g5); clear g5)
        | (go_at_call 25; refine (T6.out.do TR.out rfl hlen HDN.out).mono ?_; rintro e w6 ⟨rfl, i1, i2, g6⟩; have I1 := hide i1; have I2 := hide i2; have G6 := hide g6; clear i1 i2 g6)
        | fail)
      go_wp2_with (first
        | (go_at_call 14; with_reducible refine (I1.out.list TS.out).mono ?_; rintro e w7 ⟨ao7, c7, rfl, r7, g7⟩; have R7 := hide r7; have G7 := hide g7; clear r7 g7)
        | (go_at_call 14; with_reducible refine ((I2.out.gr G7.out).list TS.out).mono ?_; rintro e w8 ⟨ao8, c8, rfl, r8, g8⟩; have R8 := hide r8; have G8 := hide g8; clear r8 g8)
        | (go_at_call 13; refine (same_any w8 _ _ ao7 ao8 ss.length c7 c8 ss (R7.out.gr G8.out) R8.out rfl (by omega)).mono ?_; rintro e _ ⟨rfl, d9, rfl⟩)
        | fail)
      go_ret
      exact ⟨rfl, ((G6.out.trans G7.out).trans G8.out).trans d9.gr⟩

end Go.Proofs.YtklkminlkfnidacDoor
