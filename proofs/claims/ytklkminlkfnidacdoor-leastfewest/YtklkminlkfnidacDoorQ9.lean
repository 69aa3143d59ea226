/- CONTRACT OF package least: prefixes, the walk. -/
import Derived.Test.YtklkminlkfnidacDoorQ8
namespace Go.Proofs.YtklkminlkfnidacDoor
open Go.RowKit Go.Sort Go.Lib
attribute [local go_sem] Ext.all Ext.cell Ext.frozen Ext.lt Ext.lt1 Ext.lt2 Ext.ne Ext.ne'

theorem gr_but {a b c : World} {bx : Nat} (g : Gr a b) (k : Kp (fun k => k ≠ bx) b c) (h : a.heap.size ≤ bx) : Gr a c :=
  ⟨k.os.trans (Below.os g), k.tape.trans (Below.tape g), k.output.trans (Below.output g), Nat.le_trans (Below.size g) k.size, fun i hi => (k.block i (Nat.lt_of_lt_of_le hi (Below.size g)) (by omega)).trans (Below.block g i hi)⟩
theorem cmpGo_le : ∀ (L : List Pf) (q : Pf), (cmpGo q L).length ≤ L.length
  | [], _ => by simp [cmpGo]
  | p :: L, q => by
    rw [cmpGo]
    split
    · have := cmpGo_le L q; simp; omega
    · have := cmpGo_le L p; simp; omega
theorem cmpL_le (L : List Pf) : (cmpL L).length ≤ L.length := by
  cases L with
  | nil => simp [cmpL]
  | cons p L => have := cmpGo_le L p; simp [cmpL]; omega
theorem pfAt_holds {X : World} {g : Nat} {ps : List Pf} (h : HoldsK encP 2 X g 0 ps.toArray) (hg : g < X.heap.size) : PfAt X (some ⟨g, 0, none⟩) ps := by
  refine .inr ⟨g, rfl, hg, fun i hi => ?_⟩
  have := holds_at h (i := i) (by simpa using hi)
  rw [getElem!_pos ps.toArray i (by simpa using hi)] at this
  simpa using this

/-- The end: sorted, each once. -/
def PfEnd (rs ss : List Rt) (w : World) (e : Ending) (w' : World) : Prop := ∃ ao m c ps L, e = .returned (.slice ao m c) ∧ ps.length = m ∧ PfAt w' ao ps ∧ L.Perm (keyL rs ++ keyL ss) ∧ SrtP L ∧ ps = cmpL L ∧ Gr w w'

set_option maxHeartbeats 2000000 in
set_option maxRecDepth 50000 in
theorem prefixes_any {B : World} {Ma Mb : Nat → Prop} {ta tb : Nat} {va vb : Value} {rs ss : List Rt} (hA : TabS B Ma ta va rs) (hB : TabS B Mb tb vb ss) (hr : rs.length ≤ 400) (hs : ss.length ≤ 400) (hP : 2 ≤ rs.length + ss.length → PdqOK (rs.length + ss.length)) (wX : World) (gX : Gr B wX) :
    Calls Tryd.prog 44 #[pv ta, pv tb] wX fun e w' => PfEnd rs ss wX e w' := by
  have HA := hide (fun w g => hA.listOwn (by omega) w g)
  have HB := hide (fun w g => hB.listOwn (by omega) w g)
  obtain ⟨W0, hW0⟩ : ∃ W0, W0 = wX.alloc (.cells #[.slice none 0 0] 81) := ⟨_, rfl⟩
  have g0 : Gr wX W0 := by rw [hW0]; exact (Gr.refl _).alloc _
  have hbx : W0.heap[wX.heap.size]? = some (.cells #[.slice none 0 0] 81 (0, 0)) := by rw [hW0]; exact heap_alloc_new wX _
  have HBX := hide hbx
  have HW0 := hide hW0
  have HP := hide hP
  clear hbx hW0 hA hB hP
  generalize hN : rs.length + ss.length = N at *
  go_enter Tryd.func44, Tryd.ntmps44
  go_wp2_with (first
    | (go_at_call 14; rw [← HW0.out]; refine (HA.out W0 (gX.trans g0)).mono ?_; rintro e w1 ⟨v1, rfl, o1, g1⟩; have O1 := hide o1; clear o1)
    | (go_at_call 14; refine (HB.out w1 (gX.trans (g0.trans g1))).mono ?_; rintro e w2 ⟨v2, rfl, o2, g2⟩; obtain ⟨ao2, c2, hv2, _, hR2⟩ := o2.shape; subst hv2; obtain ⟨v3, w3, hr3, hO3, g3, _⟩ := run_app3 (c := c2) 22 (O1.out.gr g2) (g1.trans g2) hR2 rfl (by omega); obtain ⟨ao3, c3, hv3, _, hR3⟩ := hO3.shape; subst hv3; have HR3 := hide hr3; have HO3 := hide hO3; have HRow := hide hR3; clear hr3 hO3 hR3 hR2 o2)
    | (at_builtin; refine Lib.wpList_append_run _ rfl _ _ _ _ rfl _ _ rfl rfl _ _ HR3.out ?_)
    | fail)
  have hlen : (rs ++ ss).length = N := by rw [List.length_append]; exact hN
  have hbl : wX.heap.size < W0.heap.size := lt_of_block HBX.out
  have hlt3 : wX.heap.size < w3.heap.size := Nat.lt_of_lt_of_le hbl (Below.size g3)
  have hQ0 : Hid (BQ w3 w3 wX.heap.size (keyL ((rs ++ ss).take 0))) := ⟨Kp.refl _ _, hlt3, _, (Below.block g3 _ hbl).trans HBX.out, World.ownsRow_nil _ _ _ _⟩
  have HRow' : Hid (∀ wr, Kp (fun k => k ≠ wX.heap.size) w3 wr → RowAt wr (fun k => W0.heap.size ≤ k) ao3 (rs ++ ss)) := fun wr hk => HRow.out.kept (hk.mono fun k _ h => by omega)
  have HK : Hid (∀ k (h : k < (rs ++ ss).length), keyL ((rs ++ ss).take (k + 1)) = keyL ((rs ++ ss).take k) ++ [((rs ++ ss)[k].1, (rs ++ ss)[k].2.1)]) := fun k h => by
    rw [List.take_succ_eq_append_getElem h, keyL_append]; rfl
  have HKA : Hid (keyL ((rs ++ ss).take N) = keyL rs ++ keyL ss) := by unfold Hid; rw [← hlen, List.take_length, keyL_append]
  have HKL : Hid (∀ k, k ≤ N → (keyL ((rs ++ ss).take k)).length = k) := fun k hk => by unfold keyL; rw [List.length_map, List.length_take]; omega
  have gW3 := g0.trans g3
  clear HRow HO3 HR3 O1 HBX HW0 HA HB
  generalize rs ++ ss = al at *
  generalize hkl0 : keyL rs ++ keyL ss = kl at *
  have HKK := hide hkl0
  clear hkl0
  go_loopw [14] (fun v14 wr => ∃ k : Nat, k ≤ N ∧ v14 = .int .i64 k ∧ Hid (BQ w3 wr wX.heap.size (keyL (al.take k)))) (fun v14 _ => N - (intOf v14).toNat)
  case atStart => exact ⟨0, by omega, rfl, hQ0⟩
  case round =>
    obtain ⟨k, hk, rfl, hQ⟩ := hrel
    by_cases hlt : k < N
    · rcases HRow'.out wr hQ.out.kp with h | ⟨b, o, rfl, hb, hM, hcs⟩
      · rw [h] at hlen; simp at hlen; omega
      · obtain ⟨c0, c1, c2⟩ := hcs k (by omega)
        have HK1 := hide (HK.out k (by omega))
        have hkl := HKL.out k (by omega)
        obtain ⟨Y, hY⟩ : ∃ Y, Y = (wr.alloc (.cells #[iv al[k].1, iv al[k].2.1, iv al[k].2.2] 45)).alloc (.cells #[iv al[k].1, iv al[k].2.1] 43) := ⟨_, rfl⟩
        have gY : Gr wr Y := by rw [hY]; exact ((Gr.refl _).alloc _).alloc _
        have hbY : Y.heap[wr.heap.size + 1]? = some (.cells #[iv al[k].1, iv al[k].2.1] 43 (0, 0)) := by
          rw [hY]
          have := heap_alloc_new (wr.alloc (.cells #[iv al[k].1, iv al[k].2.1, iv al[k].2.2] 45)) (.cells #[iv al[k].1, iv al[k].2.1] 43)
          simpa using this
        obtain ⟨v, ao, c, w', x0, y0, hrun, x1, x2, hQ'⟩ := hQ.out.step gY (al[k].1, al[k].2.1) hbY (by rw [hkl]; omega) 81
        rw [← HK1.out] at hQ'
        rw [hkl] at hrun hQ'
        have HQ' := hide hQ'
        have HR := hide hrun
        have HY := hide hY
        have hxl : wX.heap.size < wr.heap.size := Nat.lt_of_lt_of_le hlt3 hQ.out.kp.size
        clear hcs hrun hQ' hY hbY y0 HK1
        generalize al[k].1 = rl at *
        generalize al[k].2.1 = rb at *
        generalize al[k].2.2 = rh at *
        go_wp2_with (at_builtin; refine Lib.wpList_append_run _ rfl _ _ _ _ rfl _ _ rfl rfl _ _ (by rw [← HY.out]; exact HR.out) ?_)
        go_roundw
        case rel => exact ⟨k + 1, by omega, by go_num, HQ'⟩
        case measure => simp [intOf]; omega
    · have hkN : k = N := by omega
      subst hkN
      have hQ1 := hQ.out
      rw [HKA.out] at hQ1
      have hl := HKL.out k (Nat.le_refl _)
      rw [HKA.out] at hl
      obtain ⟨v, hbx, hO⟩ := hQ1.box
      have gWr : Gr wX wr := gr_but gW3 hQ1.kp (Nat.le_refl _)
      have hxl : wX.heap.size < wr.heap.size := Nat.lt_of_lt_of_le hlt3 hQ1.kp.size
      have hs3 : w3.heap.size ≤ wr.heap.size := hQ1.kp.size
      have x0 : wr.cell? ⟨wX.heap.size, 0, none⟩ = some v := cell_of_one hbx
      have HO := hide hO
      have hne := ownP_ne hO hbx
      clear hQ hQ1 hQ0 HK HKL HKA HRow' hbx hO
      by_cases h1 : k ≤ 1
      · obtain ⟨ao, c, hv, _⟩ := own_shape HO.out
        rw [hl] at hv
        subst hv
        have HS := hide (sort_tiny (X := wr) (p := ao) (c := c) #[pv wX.heap.size] h1)
        have HC := hide (fun W => compact_tiny ao k c h1 W)
        go_wp2_with (first
          | (go_at_call 63; refine HS.out.mono ?_; rintro e w4 ⟨rfl, g4⟩; have y0 := (Below.cell g4 (p := ⟨wX.heap.size, 0, none⟩) hxl).trans x0)
          | (go_at_call 65; refine (HC.out _).mono ?_; rintro e _ ⟨rfl, rfl⟩)
          | fail)
        go_ret
        refine ⟨ao, k, c, kl, kl, rfl, hl, ?_, by rw [HKK.out], ?_, ?_, gWr.trans g4⟩
        · by_cases h0 : kl = []
          · exact .inl h0
          · obtain ⟨g, c', hv, _, _, _, hg, hH⟩ := (HO.out.gr g4).holds h0
            cases hv
            exact pfAt_holds hH hg
        · rcases kl with _ | ⟨p, _ | ⟨q, t⟩⟩
          · exact List.Pairwise.nil
          · exact List.pairwise_singleton _ _
          · simp at hl; omega
        · rcases kl with _ | ⟨p, _ | ⟨q, t⟩⟩
          · rfl
          · rfl
          · simp at hl; omega
      · have h0 : kl ≠ [] := by intro e; rw [e] at hl; simp at hl; omega
        obtain ⟨g, c, hv, hlc, hcm, hg3, hg, hH⟩ := HO.out.holds h0
        rw [hl] at hv hlc
        subst hv
        have hgne : wX.heap.size ≠ g := fun e => hne (by rw [← e]; rfl)
        have hcm' : c ≤ 9223372036854775807 := hcm
        have HS := hide (sort_any (c := c) hH (by simpa using hl) hg x0 hxl hgne (by omega) (by omega) (HP.out (by omega)))
        have HD : Hid (kl.toArray.toList = kl) := by unfold Hid; simp
        have hsz : kl.toArray.size = k := by simpa using hl
        generalize kl.toArray = d at *
        have HC := hide (fun (d' : Array Pf) W (hS : SG wr g d' W) (h : d'.size = k) => compact_any hS h (by omega) hlc hcm' (by omega))
        clear hH
        go_wp2_with (first
          | (go_at_call 63; refine HS.out.mono ?_; rintro e w4 ⟨rfl, d', hp, hso, hS4⟩; obtain ⟨hq1, hq2, hq3⟩ := perm_srt hsz hp hso; have y0 := (hS4.other hxl hgne 0).trans x0)
          | (go_at_call 65; refine (HC.out d' w4 hS4 hq3).mono ?_; rintro e w5 ⟨rfl, e', he1, he2, hS5⟩)
          | fail)
        go_ret
        rw [HD.out] at hq1
        have hls : (cmpL d'.toList).length ≤ k := by
          have := cmpL_le d'.toList
          simp at this; omega
        refine ⟨some ⟨g, 0, none⟩, _, c, cmpL d'.toList, d'.toList, rfl, rfl, ?_, by rw [HKK.out]; exact hq1, hq2, rfl, gr_but gWr hS5.kp (by omega)⟩
        refine .inr ⟨g, rfl, hS5.gLt, fun i hi => ?_⟩
        have := holds_at hS5.holds (i := i) (by omega)
        rw [he2 i hi, getElem!_pos _ i hi] at this
        exact this

end Go.Proofs.YtklkminlkfnidacDoor
