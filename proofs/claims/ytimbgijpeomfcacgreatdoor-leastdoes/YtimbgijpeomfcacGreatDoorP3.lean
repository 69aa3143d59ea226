import Derived.Test.YtimbgijpeomfcacGreatDoorW8
import Derived.Test.YtimbgijpeomfcacGreatDoorPlainAll
import Derived.Test.YtimbgijpeomfcacGreatDoorQ11
import Derived.Test.YtimbgijpeomfcacGreatDoorS8
/- CONTRACT OF handpostref.put: a route more, in its order. -/
namespace Go.Proofs.YtimbgijpeomfcacGreatDoor
open Go.RowKit
attribute [local go_sem] Ext.all Ext.cell Ext.frozen Ext.lt Ext.lt1 Ext.lt2 Ext.ne Ext.ne'

theorem while_at (p : Rt → Bool) : ∀ (rs : List Rt) (k : Nat), k ≤ rs.length → (∀ i (h : i < rs.length), i < k → p rs[i] = true) → (∀ (h : k < rs.length), p rs[k] = false) → rs.takeWhile p = rs.take k ∧ rs.dropWhile p = rs.drop k
  | [], k, hk, _, _ => by
    have : k = 0 := by simpa using hk
    subst this; simp
  | r :: rs, 0, _, _, h0 => by
    have e : p r = false := h0 (by simp)
    simp [List.takeWhile, List.dropWhile, e]
  | r :: rs, k + 1, hk, h1, h2 => by
    have e : p r = true := h1 0 (by simp) (by omega)
    obtain ⟨a, b⟩ := while_at p rs k (by simpa using hk) (fun i h hi => h1 (i + 1) (Nat.succ_lt_succ h) (by omega)) (fun h => h2 (Nat.succ_lt_succ h))
    simp [List.takeWhile, List.dropWhile, e, a, b]
theorem RowAt.take {w : World} {M : Nat → Prop} {ao : Option Addr} {rs : List Rt} (h : RowAt w M ao rs) (k : Nat) : RowAt w M ao (rs.take k) := by
  rcases h with rfl | ⟨b, o, ha, hb, hM, hc⟩
  · exact .inl (by simp)
  · refine .inr ⟨b, o, ha, hb, hM, fun i hi => ?_⟩
    have hi' : i < rs.length := by simp at hi; omega
    simp only [List.getElem_take]
    exact hc i hi'
theorem RowAt.drop {w : World} {M : Nat → Prop} {b o : Nat} {rs : List Rt} (h : RowAt w M (some ⟨b, o, none⟩) rs) (k : Nat) : RowAt w M (some ⟨b, o + k * 3, none⟩) (rs.drop k) := by
  rcases h with rfl | ⟨b', o', ha, hb, hM, hc⟩
  · exact .inl (by simp)
  · cases ha
    refine .inr ⟨b, o + k * 3, rfl, hb, hM, fun i hi => ?_⟩
    have hi' : k + i < rs.length := by simp at hi; omega
    have := hc (k + i) hi'
    simp only [List.getElem_drop]
    rw [show o + k * 3 + i * 3 = o + (k + i) * 3 by omega]
    exact this

set_option maxRecDepth 20000 in
set_option maxHeartbeats 4000000 in
theorem put_any (w : World) (M : Nat → Prop) (b o n c : Nat) (rs : List Rt) (rl rb rh : Int) (H : RowAt w M (some ⟨b, o, none⟩) rs) (hn : rs.length = n) (hc : n ≤ c) (h0 : 0 < n) (hm : n ≤ 500) :
    Calls Tryz.prog 31 #[.slice (some ⟨b, o, none⟩) n c, .agg #[iv rl, iv rb, iv rh]] w fun e w' => ∃ v, e = .returned (.tuple #[v, .bool true]) ∧ Own w w' v (insR rs (rl, rb, rh)) ∧ Gr w w' := by
  have HI : Hid (∀ k, k ≤ rs.length → (∀ i (h : i < rs.length), i < k → ltB rs[i] rl rb = true) → (∀ (h : k < rs.length), ltB rs[k] rl rb = false) → insR rs (rl, rb, rh) = rs.take k ++ [(rl, rb, rh)] ++ rs.drop k) := fun k hk h1 h2 => by
    obtain ⟨a, b⟩ := while_at (fun s => ltB s rl rb) rs k hk h1 h2
    unfold insR
    simp only [a, b, List.append_assoc, List.singleton_append]
  generalize insR rs (rl, rb, rh) = res at *
  obtain ⟨W, hW⟩ : ∃ W, W = w.alloc (.cells #[iv rl, iv rb, iv rh] 49) := ⟨_, rfl⟩
  have gW : Gr w W := by rw [hW]; exact (Gr.refl w).alloc _
  have x0 : W.cell? ⟨w.heap.size, 0, none⟩ = some (iv rl) := by rw [hW]; simp [go_sem]
  have x1 : W.cell? ⟨w.heap.size, 1, none⟩ = some (iv rb) := by rw [hW]; simp [go_sem]
  have x2 : W.cell? ⟨w.heap.size, 2, none⟩ = some (iv rh) := by rw [hW]; simp [go_sem]
  have s0 : w.heap.size < W.heap.size := by rw [hW]; simp
  have HR := hide (H.gr gW)
  have HW := hide hW
  clear hW H
  go_enter Tryz.func31, Tryz.ntmps31
  go_upto_region 1 with (fail)
  rw [← HW.out]
  have HK := hide (fun (wX : World) (gX : Gr W wX) => (show wX.cell? ⟨w.heap.size, 0, none⟩ = some (iv rl) ∧ wX.cell? ⟨w.heap.size, 1, none⟩ = some (iv rb) ∧ wX.cell? ⟨w.heap.size, 2, none⟩ = some (iv rh) ∧ w.heap.size < wX.heap.size from ⟨(Below.cell gX (p := ⟨w.heap.size, 0, none⟩) s0).trans x0, (Below.cell gX (p := ⟨w.heap.size, 1, none⟩) s0).trans x1, (Below.cell gX (p := ⟨w.heap.size, 2, none⟩) s0).trans x2, Nat.lt_of_lt_of_le s0 (Below.size gX)⟩))
  have HRG := hide (fun (wX : World) (gX : Gr W wX) => HR.out.gr gX)
  have HK3c := hide (fun (wX : World) (gX : Gr W wX) => (show wX.cell? ⟨w.heap.size, 0, none⟩ = some (iv rl) ∧ wX.cell? ⟨w.heap.size, 1, none⟩ = some (iv rb) ∧ wX.cell? ⟨w.heap.size, 2, none⟩ = some (iv rh) from ⟨(HK.out wX gX).1, (HK.out wX gX).2.1, (HK.out wX gX).2.2.1⟩))
  clear x0 x1 x2 s0 HW HR
  go_wp2_with fail
  go_loopw [6] (fun v6 wr => ∃ k : Nat, k ≤ n ∧ v6 = .int .i64 k ∧ Hid (∀ i (h : i < rs.length), i < k → ltB rs[i] rl rb = true) ∧ Gr W wr) (fun v6 _ => n - (intOf v6).toNat)
  case atStart => exact ⟨0, by omega, rfl, (fun i _ hi => by omega), Gr.refl _⟩
  case round =>
    obtain ⟨k, hk, rfl, HE, gk⟩ := hrel
    obtain ⟨x0, x1, x2, s0⟩ := HK.out _ gk
    by_cases hgo : ∃ h : k < rs.length, ltB rs[k] rl rb = true
    · obtain ⟨hlt, hless⟩ := hgo
      have hkn : k < n := by omega
      have hki : (k : Int) < (n : Int) := by omega
      have hkd : decide ((k : Int) < (n : Int)) = true := decide_eq_true hki
      have HE2 : Hid (∀ i (h : i < rs.length), i < k + 1 → ltB rs[i] rl rb = true) := fun i h hi => by
        rcases Nat.lt_or_eq_of_le (Nat.le_of_lt_succ hi) with e | e
        · exact HE.out i h e
        · subst e; exact hless
      obtain ⟨hb, hcs⟩ : b < wr.heap.size ∧ ∀ i (h : i < rs.length), wr.cell? ⟨b, o + i * 3, none⟩ = some (iv rs[i].1) ∧ wr.cell? ⟨b, o + i * 3 + 1, none⟩ = some (iv rs[i].2.1) ∧ wr.cell? ⟨b, o + i * 3 + 2, none⟩ = some (iv rs[i].2.2) := by
        rcases HRG.out _ gk with e | ⟨b', o', ha, hb', _, hc'⟩
        · rw [e] at hlt; simp at hlt
        · cases ha; exact ⟨hb', hc'⟩
      obtain ⟨c1, c2, c3⟩ := hcs k hlt
      have HLS : Hid (lessB rs[k].1 rs[k].2.1 rl rb = true) := hless
      clear hcs HE hless
      generalize rs[k] = r at *
      obtain ⟨pl, pb, ph⟩ := r
      simp only at c1 c2 c3 HLS
      go_wp2_with fail
      refine wp_region_ext (by kernel_rfl) (by kernel_rfl) ?_
      repeat (go_big_quiet_step ((go_at_call 44; with_reducible exact Calls.ext_of (rless_is HLS.out _))))
      refine wpQuiet_nil ?_
      rintro _ ⟨d1, rfl⟩
      go_wp2_with fail
      go_roundw
      case rel => exact ⟨k + 1, by omega, by go_num, HE2, gk.ext d1⟩
      case measure => simp [intOf]; omega
    · have HX : Hid (res = rs.take k ++ [(rl, rb, rh)] ++ rs.drop k) := HI.out k (by omega) HE.out (fun h => by
        cases e : ltB rs[k] rl rb
        · rfl
        · exact absurd ⟨h, e⟩ hgo)
      have HRT := hide (fun (wX : World) (gX : Gr W wX) => (HRG.out wX gX).take k)
      have HRD := hide (fun (wX : World) (gX : Gr W wX) => (HRG.out wX gX).drop k)
      have lT : (rs.take k).length = k := by simp; omega
      have lD : (rs.drop k).length = n - k := by simp; omega
      have ways : (∃ pl pb ph : Int, decide ((k : Int) < (n : Int)) = true ∧ (k : Int) < (n : Int) ∧ b < wr.heap.size ∧ wr.cell? ⟨b, o + k * 3, none⟩ = some (iv pl) ∧ wr.cell? ⟨b, o + k * 3 + 1, none⟩ = some (iv pb) ∧ wr.cell? ⟨b, o + k * 3 + 2, none⟩ = some (iv ph) ∧ Hid (lessB pl pb rl rb = false)) ∨ (decide ((k : Int) < (n : Int)) = false ∧ decide (k < n) = false) := by
        by_cases hlt : k < rs.length
        · left
          rcases HRG.out _ gk with e | ⟨b', o', ha, hb', _, hc'⟩
          · rw [e] at hlt; simp at hlt
          · cases ha
            obtain ⟨c1, c2, c3⟩ := hc' k hlt
            refine ⟨_, _, _, decide_eq_true (by omega), by omega, hb', c1, c2, c3, ?_⟩
            cases e : ltB rs[k] rl rb
            · exact e
            · exact absurd ⟨hlt, e⟩ hgo
        · exact .inr ⟨decide_eq_false (by omega), decide_eq_false (by omega)⟩
      clear HI HE hgo
      have hk0 : (k : Int) ≤ (c : Int) := by omega
      have hkn' : (k : Int) ≤ (n : Int) := by omega
      have hkc : k ≤ c := by omega
      rcases ways with ⟨pl, pb, ph, hkd, hki, hb, c1, c2, c3, HLS⟩ | ⟨hkd, hkdn⟩
      all_goals
        go_wp2_with fail
        refine wp_region_ext (by kernel_rfl) (by kernel_rfl) ?_
        repeat (go_big_quiet_step (first | (go_at_call 44; with_reducible exact Calls.ext_of (rless_is HLS.out _)) | fail))
        refine wpQuiet_nil ?_
        rintro _ ⟨d1, rfl⟩
        go_upto_region 5 with (fail)
        refine wp_gen (fun X => Gr W X) (gk.ext d1) ?_
        intro X gX
        clear x0 x1 x2 s0 gk
        obtain ⟨x0, x1, x2, s0⟩ := HK.out X gX
        go_cut [7] from 24 to 31 (fun v7 wc => Hid (Own W wc v7 (rs.take k ++ [(rl, rb, rh)])) ∧ Gr W wc)
        case first =>
          have rowR : ∀ Y, Gr W Y → RowAt (Y.alloc (.cells #[iv rl, iv rb, iv rh] 49)) (fun _ => True) (some ⟨Y.heap.size, 0, none⟩) [(rl, rb, rh)] := fun Y _ => by
            refine .inr ⟨Y.heap.size, 0, rfl, by simp, trivial, fun i hi => ?_⟩
            have : i = 0 := by simpa using hi
            subst this
            refine ⟨?_, ?_, ?_⟩ <;> simp [go_sem]
          obtain ⟨v1, w1, hr1, ow1, gr1⟩ := run_append_new X.drew M 22 (some ⟨b, o, none⟩) k c (rs.take k) (HRT.out _ gX.drew) lT (by omega)
          have g1 : Gr X.drew w1 := (Gr.refl _).grown gr1 (fun k h => by cases h)
          have o1 : Own W w1 v1 (rs.take k) := Own.mono (B := X.drew) (by unfold Own; rw [lT]; exact ow1) gX.drew
          have gW1 := gX.drew.trans g1
          obtain ⟨v2, w2, hr2, o2, g2⟩ := run_app' (c := 1) 22 (o1.gr ((Gr.refl _).alloc (.cells #[iv rl, iv rb, iv rh] 49))) (gW1.alloc _) (rowR w1 gW1) (by simp; omega)
          have rB : RowAt (X.alloc (.cells #[iv rl, iv rb, iv rh] 49)).drew (fun _ => True) (some ⟨X.heap.size, 0, none⟩) [(rl, rb, rh)] := (rowR X gX).gr (Gr.refl _).drew
          obtain ⟨u1, y1, hs1, ow3, gr3⟩ := run_append_new (X.alloc (.cells #[iv rl, iv rb, iv rh] 49)).drew M 22 (some ⟨b, o, none⟩) k c (rs.take k) (HRT.out _ (gX.alloc _).drew) lT (by omega)
          have g3 : Gr (X.alloc (.cells #[iv rl, iv rb, iv rh] 49)).drew y1 := (Gr.refl _).grown gr3 (fun k h => by cases h)
          have o3 : Own W y1 u1 (rs.take k) := Own.mono (B := (X.alloc (.cells #[iv rl, iv rb, iv rh] 49)).drew) (by unfold Own; rw [lT]; exact ow3) (gX.alloc _).drew
          have gW3 := (gX.alloc (.cells #[iv rl, iv rb, iv rh] 49)).drew.trans g3
          obtain ⟨u2, y2, hs2, o4, g4⟩ := run_app' (c := 1) 22 o3 gW3 (rB.gr g3) (by simp; omega)
          have HR1 := hide hr1
          have HR2 := hide hr2
          have HS1 := hide hs1
          have HS2 := hide hs2
          have O2 := hide o2
          have O4 := hide o4
          have HK1 := hide (HK3c.out _ gW1)
          have HK2 := hide (HK3c.out _ g2)
          have HK3 := hide (HK3c.out _ gW3)
          have HK4 := hide (HK3c.out _ g4)
          clear hr1 hr2 hs1 hs2 o1 o2 o3 o4 ow1 ow3 gr1 gr3 rB rowR HRT HRD HRG
          go_wp2_with fail
          go_region_held3 (fun w' => w'.cell? ⟨w.heap.size, 0, none⟩ = some (iv rl) ∧ w'.cell? ⟨w.heap.size, 1, none⟩ = some (iv rb) ∧ w'.cell? ⟨w.heap.size, 2, none⟩ = some (iv rh)) (first | exact HK1.out | exact HK2.out | exact HK3.out | exact HK4.out | exact ⟨x0, x1, x2⟩ | go_keep)
            (first
            | (refine step_append_eq rfl (.tmp 24) (.tmp 27) 22 22 rfl (.slice none 0 0) (.slice (some ⟨b, o, none⟩) k c) rfl rfl (v' := v1) (w' := w1) HR1.out ?_)
            | (refine step_append_eq rfl (.tmp 24) (.tmp 27) 22 22 rfl (.slice none 0 0) (.slice (some ⟨b, o, none⟩) k c) rfl rfl (v' := u1) (w' := y1) HS1.out ?_)
            | (refine step_append_eq rfl (.tmp 28) (.tmp 30) 22 22 rfl v1 (.slice (some ⟨w1.heap.size, 0, none⟩) 1 1) rfl rfl (v' := v2) (w' := w2) HR2.out ?_)
            | (refine step_append_eq rfl (.tmp 28) (.tmp 30) 22 22 rfl u1 (.slice (some ⟨X.heap.size, 0, none⟩) 1 1) rfl rfl (v' := u2) (w' := y2) HS2.out ?_)
            | fail)
          all_goals
            go_wp2_with fail
            go_meet
            case rel => first | exact ⟨O2, g2⟩ | exact ⟨O4, g4⟩
        case rest =>
          obtain ⟨OC, gC⟩ := hcut
          by_cases hck : c = k
          · have e0 : rs.drop k = [] := List.eq_nil_of_length_eq_zero (by omega)
            obtain ⟨v3, w3, hr3, o3, g3⟩ := run_app' (c := 0) (ao := some ⟨b, o, none⟩) (xs := []) (M := M) 22 OC.out gC (.inl rfl) (by simp; omega)
            rw [List.append_nil] at o3
            have HR3 : Hid ((Builtin.append_ #[22, 22] 22 #[u7, .slice (some ⟨b, o, none⟩) 0 0]).run Tryz.prog wc = .ok v3 w3) := hr3
            have O3 : Hid (Own W w3 v3 res) := by unfold Hid; rw [HX.out, e0, List.append_nil]; exact o3
            have hnk : n = k := by omega
            clear hr3 o3 e0 OC HX HRT HRD HRG
            subst hck
            subst hnk
            go_wp2_with (first | (at_builtin; refine Lib.wpList_append_run _ rfl _ _ _ _ rfl _ _ rfl rfl _ _ HR3.out ?_))
            go_ret2
            exact ⟨_, rfl, O3.out.mono gW, gW.trans g3⟩
          · obtain ⟨v3, w3, hr3, o3, g3⟩ := run_app' (c := c - k) 22 OC.out gC (HRD.out _ gC) (by simp; omega)
            rw [lD] at hr3
            have HR3 := hide hr3
            have O3 : Hid (Own W w3 v3 res) := by unfold Hid; rw [HX.out]; exact o3
            clear hr3 o3 OC HX HRT HRD HRG
            go_wp2_with (first | (at_builtin; refine Lib.wpList_append_run _ rfl _ _ _ _ rfl _ _ rfl rfl _ _ HR3.out ?_))
            go_ret2
            exact ⟨_, rfl, O3.out.mono gW, gW.trans g3⟩

end Go.Proofs.YtimbgijpeomfcacGreatDoor

/- CONTRACT OF handpostref.put, upon no route. -/
namespace Go.Proofs.YtimbgijpeomfcacGreatDoor
open Go.RowKit
attribute [local go_sem] Ext.all Ext.cell Ext.frozen Ext.lt Ext.lt1 Ext.lt2 Ext.ne Ext.ne'

theorem app0 {B w : World} {v : Value} {rs : List Rt} (hO : Own B w v rs) (ao : Option Addr) (c : Nat) (ty : TypeId) : (Builtin.append_ #[22, 22] ty #[v, .slice ao 0 c]).run Tryz.prog w = .ok v w := by
  obtain ⟨i0, hi, hz0, hz1, hz2⟩ := info_parts Tryz.info49
  rcases hO.2 with ⟨rfl, hn⟩ | ⟨g', cap, cur, rfl, hb, hgg, hle, rest⟩
  · cases ao <;> simp [Builtin.append_, run_underlying Tryz.underlying22, sizeOf, typeInfo, hi, Builtin.lenOf, Builtin.firstCells, loadCells, loadCellsFrom]
  · cases ao <;> simp [Builtin.append_, run_underlying Tryz.underlying22, sizeOf, typeInfo, hi, Builtin.lenOf, Builtin.firstCells, hle, loadCells, loadCellsFrom, storeCells]

set_option maxRecDepth 20000 in
set_option maxHeartbeats 4000000 in
theorem put_zero (w : World) (ao : Option Addr) (c : Nat) (rl rb rh : Int) :
    Calls Tryz.prog 31 #[.slice ao 0 c, .agg #[iv rl, iv rb, iv rh]] w fun e w' => ∃ v, e = .returned (.tuple #[v, .bool true]) ∧ Own w w' v [(rl, rb, rh)] ∧ Gr w w' := by
  obtain ⟨W, hW⟩ : ∃ W, W = w.alloc (.cells #[iv rl, iv rb, iv rh] 49) := ⟨_, rfl⟩
  have gW : Gr w W := by rw [hW]; exact (Gr.refl w).alloc _
  have x0 : W.cell? ⟨w.heap.size, 0, none⟩ = some (iv rl) := by rw [hW]; simp [go_sem]
  have x1 : W.cell? ⟨w.heap.size, 1, none⟩ = some (iv rb) := by rw [hW]; simp [go_sem]
  have x2 : W.cell? ⟨w.heap.size, 2, none⟩ = some (iv rh) := by rw [hW]; simp [go_sem]
  have s0 : w.heap.size < W.heap.size := by rw [hW]; simp
  have HW := hide hW
  clear hW
  have HK := hide (fun (wX : World) (gX : Gr W wX) => (show wX.cell? ⟨w.heap.size, 0, none⟩ = some (iv rl) ∧ wX.cell? ⟨w.heap.size, 1, none⟩ = some (iv rb) ∧ wX.cell? ⟨w.heap.size, 2, none⟩ = some (iv rh) from ⟨(Below.cell gX (p := ⟨w.heap.size, 0, none⟩) s0).trans x0, (Below.cell gX (p := ⟨w.heap.size, 1, none⟩) s0).trans x1, (Below.cell gX (p := ⟨w.heap.size, 2, none⟩) s0).trans x2⟩))
  clear x0 x1 x2
  have H0 := hide (fun (wX : World) (ao : Option Addr) (c : Nat) => app0 (Own.nil wX wX) ao c 22)
  go_enter Tryz.func31, Tryz.ntmps31
  go_upto_region 1 with (fail)
  rw [← HW.out]
  clear HW
  go_wp2_with fail
  go_loopw [6] (fun v6 wr => v6 = .int .i64 0 ∧ wr = W) (fun _ _ => 0)
  case atStart => exact ⟨rfl, rfl⟩
  case round =>
    obtain ⟨rfl, rfl⟩ := hrel
    go_wp2_with fail
    refine wp_region_ext (by kernel_rfl) (by kernel_rfl) ?_
    repeat (go_big_quiet_step (fail))
    refine wpQuiet_nil ?_
    rintro _ ⟨d1, rfl⟩
    go_upto_region 5 with (fail)
    refine wp_gen (fun X => Gr wr X) d1.gr ?_
    intro X gX
    obtain ⟨x0, x1, x2⟩ := HK.out X gX
    have rowR : ∀ Y : World, RowAt (Y.alloc (.cells #[iv rl, iv rb, iv rh] 49)) (fun _ => True) (some ⟨Y.heap.size, 0, none⟩) [(rl, rb, rh)] := fun Y => by
      refine .inr ⟨Y.heap.size, 0, rfl, by simp, trivial, fun i hi => ?_⟩
      have : i = 0 := by simpa using hi
      subst this
      refine ⟨?_, ?_, ?_⟩ <;> simp [go_sem]
    obtain ⟨v2, w2, hr2, o2, g2⟩ := run_app' (c := 1) 22 (Own.nil wr (X.alloc (.cells #[iv rl, iv rb, iv rh] 49)).drew) (gX.alloc _).drew ((rowR X).gr (Gr.refl _).drew) (by simp)
    have HR2 := hide hr2
    have O2 := hide o2
    have HK2 := hide (HK.out _ g2)
    have H1 := hide (fun (ao : Option Addr) (c : Nat) => app0 (show Own wr w2 v2 [(rl, rb, rh)] from o2) ao c 22)
    clear hr2 o2 rowR
    go_cut [7] from 24 to 31 (fun v7 wc => v7 = v2 ∧ wc = w2)
    case first =>
      clear H1
      go_wp2_with fail
      cases ao
      all_goals
        go_region_held3 (fun w' => w'.cell? ⟨w.heap.size, 0, none⟩ = some (iv rl) ∧ w'.cell? ⟨w.heap.size, 1, none⟩ = some (iv rb) ∧ w'.cell? ⟨w.heap.size, 2, none⟩ = some (iv rh)) (first | exact HK2.out | exact ⟨x0, x1, x2⟩ | go_keep)
          (first
          | (refine step_append_eq rfl (.tmp 28) (.tmp 30) 22 22 rfl (.slice none 0 0) (.slice (some ⟨X.heap.size, 0, none⟩) 1 1) rfl rfl (v' := v2) (w' := w2) HR2.out ?_)
          | (refine step_append_eq rfl (.tmp 24) (.tmp 27) 22 22 rfl (.slice none 0 0) _ rfl rfl (v' := .slice none 0 0) (H0.out _ _ _) ?_)
          | fail)
        all_goals
          go_wp2_with fail
          go_meet
          case rel => exact ⟨rfl, rfl⟩
    case rest =>
      obtain ⟨rfl, rfl⟩ := hcut
      cases ao
      all_goals
        go_wp2_with (first | (at_builtin; refine Lib.wpList_append_run _ rfl _ _ _ _ rfl _ _ rfl rfl _ _ (H1.out _ _) ?_))
        go_ret2
        exact ⟨_, rfl, O2.out.mono gW, gW.trans g2⟩

end Go.Proofs.YtimbgijpeomfcacGreatDoor

/- CONTRACT OF handpostref.ChangesOf. -/
namespace Go.Proofs.YtimbgijpeomfcacGreatDoor
open Go.RowKit
attribute [local go_sem] Ext.all Ext.cell Ext.frozen Ext.lt Ext.lt1 Ext.lt2 Ext.ne Ext.ne'

theorem put_all (w : World) (M : Nat → Prop) (ao : Option Addr) (c : Nat) (rs : List Rt) (rl rb rh : Int) (H : RowAt w M ao rs) (hc : rs.length ≤ c) (hm : rs.length ≤ 500) :
    Calls Tryz.prog 31 #[.slice ao rs.length c, .agg #[iv rl, iv rb, iv rh]] w fun e w' => ∃ v, e = .returned (.tuple #[v, .bool true]) ∧ Own w w' v (insR rs (rl, rb, rh)) ∧ Gr w w' := by
  rcases H with rfl | ⟨b, o, rfl, hb, hM, hcs⟩
  · exact put_zero w ao c rl rb rh
  · by_cases h0 : 0 < rs.length
    · exact put_any w M b o rs.length c rs rl rb rh (.inr ⟨b, o, rfl, hb, hM, hcs⟩) rfl hc h0 hm
    · have e : rs = [] := List.eq_nil_of_length_eq_zero (by omega)
      subst e
      exact put_zero w _ c rl rb rh
theorem ins_len (rs : List Rt) (r : Rt) : (insR rs r).length = rs.length + 1 := by
  have e : rs.takeWhile (fun s => ltB s r.1 r.2.1) ++ rs.dropWhile (fun s => ltB s r.1 r.2.1) = rs := List.takeWhile_append_dropWhile
  have := congrArg List.length e
  rw [List.length_append] at this
  unfold insR
  rw [List.length_append, List.length_cons]
  omega
/-- The routes of both, of the first i of the second one's. -/
def uniT (rs ss : List Rt) (i : Nat) : List Rt := uniR rs (ss.take i)
theorem uniT_next {rs ss : List Rt} {i : Nat} (h : i < ss.length) : uniT rs ss (i + 1) = if getL rs ss[i].1 ss[i].2.1 = -2 then insR (uniT rs ss i) ss[i] else uniT rs ss i := by
  unfold uniT uniR
  rw [List.take_succ_eq_append_getElem h, List.foldl_append]; rfl
theorem uniT_len (rs ss : List Rt) : ∀ i, i ≤ ss.length → (uniT rs ss i).length ≤ rs.length + i
  | 0, _ => by simp [uniT, uniR]
  | i + 1, h => by
    have ih := uniT_len rs ss i (by omega)
    rw [uniT_next (by omega)]
    split
    · rw [ins_len]; omega
    · omega
theorem ownC_mono {A B w : World} {v : Value} {cs : List Ch} (h : OwnC B w v cs) (g : Gr A B) : OwnC A w v cs := by
  have hs := Below.size g
  refine ⟨h.1, ?_⟩
  rcases h.2 with hn | ⟨g', cap, cur, rfl, hb, rest⟩
  · exact .inl hn
  · exact .inr ⟨g', cap, cur, rfl, by omega, rest⟩
/-- The change of a route, if any. -/
def chg1 (rs ss : List Rt) (r : Rt) : Option Ch := if getL rs r.1 r.2.1 ≠ getL ss r.1 r.2.1 then some (r.1, r.2.1, getL rs r.1 r.2.1, getL ss r.1 r.2.1) else none
theorem chg_take {rs ss us : List Rt} {i : Nat} (h : i < us.length) : (us.take (i + 1)).filterMap (chg1 rs ss) = (us.take i).filterMap (chg1 rs ss) ++ (if getL rs us[i].1 us[i].2.1 = getL ss us[i].1 us[i].2.1 then [] else [(us[i].1, us[i].2.1, getL rs us[i].1 us[i].2.1, getL ss us[i].1 us[i].2.1)]) := by
  rw [List.take_succ_eq_append_getElem h, List.filterMap_append]
  congr 1
  by_cases e : getL rs us[i].1 us[i].2.1 = getL ss us[i].1 us[i].2.1
  · rw [if_pos e]; simp [chg1, e]
  · rw [if_neg e]; simp [chg1, e]

set_option maxRecDepth 20000 in
set_option maxHeartbeats 4000000 in
theorem changesOf_any (w : World) (M N : Nat → Prop) (ao bo : Option Addr) (ca cb : Nat) (rs ss : List Rt) (H : RowAt w M ao rs) (K : RowAt w N bo ss) (hT : Tab rs) (hU : Tab ss) (hca : rs.length ≤ ca) :
    Calls Tryz.prog 14 #[.slice ao rs.length ca, .slice bo ss.length cb] w fun e w' => ∃ v, e = .returned v ∧ OwnC w w' v (chgR rs ss) ∧ Gr w w' := by
  have l1 := hT.len
  have l2 := hU.len
  have GA : Hid (∀ (wX : World), Gr w wX → ∀ l b, Calls Tryz.prog 30 #[.slice ao rs.length ca, pfx l b] wX fun e w' => e = .returned (.int .i64 (getL rs l b)) ∧ ∃ d : Ext wX, w' = d.out) := fun wX g l b => by
    have := getOf_any wX M ao rs.length ca rs l b (H.gr g) rfl (by omega)
    rw [hT.getR] at this
    exact this
  have GB : Hid (∀ (wX : World), Gr w wX → ∀ l b, Calls Tryz.prog 30 #[.slice bo ss.length cb, pfx l b] wX fun e w' => e = .returned (.int .i64 (getL ss l b)) ∧ ∃ d : Ext wX, w' = d.out) := fun wX g l b => by
    have := getOf_any wX N bo ss.length cb ss l b (K.gr g) rfl (by omega)
    rw [hU.getR] at this
    exact this
  have HR0 := hide (H.mono (N := fun _ => True) (fun _ _ _ => trivial))
  have HKG := hide (fun (wX : World) (gX : Gr w wX) => K.gr gX)
  have HUL := hide (uniT_len rs ss)
  have HCG : Hid (chgR rs ss = (uniT rs ss ss.length).filterMap (chg1 rs ss)) := by unfold Hid chgR uniT; rw [List.take_length]; rfl
  generalize chgR rs ss = res at *
  clear H K hT hU
  go_enter Tryz.func14, Tryz.ntmps14
  go_wp2_with fail
  go_loopw [6, 7] (fun v6 v7 wr => ∃ (i : Nat) (xo : Option Addr) (xc : Nat), i ≤ ss.length ∧ v7 = .int .i64 i ∧ v6 = .slice xo (uniT rs ss i).length xc ∧ (uniT rs ss i).length ≤ xc ∧ Hid (RowAt wr (fun _ => True) xo (uniT rs ss i)) ∧ Gr w wr) (fun _ v7 _ => ss.length - (intOf v7).toNat)
  case atStart => exact ⟨0, ao, ca, by omega, rfl, rfl, hca, HR0, Gr.refl _⟩
  case round =>
    obtain ⟨i, xo, xc, hi, rfl, rfl, hxc, HX, gi⟩ := hrel
    have hul := HUL.out i hi
    by_cases hlt : i < ss.length
    · have hii : (i : Int) < (ss.length : Int) := by omega
      have HNX := hide (uniT_next (rs := rs) hlt)
      obtain ⟨b, o, rfl, hb, hcs⟩ : ∃ b o, bo = some ⟨b, o, none⟩ ∧ b < wr.heap.size ∧ ∀ i (h : i < ss.length), wr.cell? ⟨b, o + i * 3, none⟩ = some (iv ss[i].1) ∧ wr.cell? ⟨b, o + i * 3 + 1, none⟩ = some (iv ss[i].2.1) ∧ wr.cell? ⟨b, o + i * 3 + 2, none⟩ = some (iv ss[i].2.2) := by
        rcases HKG.out _ gi with e | ⟨b', o', ha, hb', _, hc'⟩
        · rw [e] at hlt; simp at hlt
        · exact ⟨b', o', ha, hb', hc'⟩
      obtain ⟨c1, c2, c3⟩ := hcs i hlt
      clear hcs
      generalize ss[i] = r at *
      obtain ⟨pl, pb, ph⟩ := r
      simp only at c1 c2 c3 HNX
      have H1 := hide (GA.out _ gi pl pb)
      have hul2 := HUL.out (i + 1) (by omega)
      generalize uniT rs ss i = us at *
      generalize getL rs pl pb = x at *
      by_cases hx : x = -2
      · subst hx
        rw [if_pos rfl] at HNX
        have HP := hide (fun (wX : World) (gX : Gr wr wX) => put_all wX (fun _ => True) xo xc us pl pb ph (HX.out.gr gX) hxc (by omega))
        go_upto_region 7 with (first | (go_at_call 30; with_reducible refine H1.out.mono ?_; rintro e _ ⟨rfl, d1, rfl⟩))
        have HP1 := hide (HP.out _ d1.gr)
        clear HP
        go_wp2_with (first | (go_at_call 31; with_reducible refine HP1.out.mono ?_; rintro e w2 ⟨v2, rfl, o2, g2⟩))
        obtain ⟨yo, yc, hv2, hyc, R2⟩ := o2.shape
        subst hv2
        go_roundw
        case rel => exact ⟨i + 1, yo, yc, by omega, by go_num, by rw [HNX.out], by rw [HNX.out]; exact hyc, by rw [HNX.out]; exact R2.mono (fun _ _ _ => trivial), gi.trans (d1.gr.trans g2)⟩
        case measure => simp [intOf]; omega
      · rw [if_neg hx] at HNX
        have hb2 : (x == -2) = false := by simpa using hx
        clear hx
        go_wp2_with (first | (go_at_call 30; with_reducible refine H1.out.mono ?_; rintro e _ ⟨rfl, d1, rfl⟩))
        go_roundw
        case rel => exact ⟨i + 1, xo, xc, by omega, by go_num, by rw [HNX.out], by rw [HNX.out]; exact hxc, by rw [HNX.out]; exact HX.out.gr d1.gr, gi.ext d1⟩
        case measure => simp [intOf]; omega
    · have hii : ¬ (i : Int) < (ss.length : Int) := by omega
      have ei : i = ss.length := by omega
      rw [ei] at HX hul hxc
      rw [ei]
      generalize uniT rs ss ss.length = us at *
      obtain ⟨Y, hY⟩ : ∃ Y, Y = wr := ⟨_, rfl⟩
      subst hY
      have GA2 := hide (fun (wX : World) (gX : Gr Y wX) => GA.out wX (gi.trans gX))
      have GB2 := hide (fun (wX : World) (gX : Gr Y wX) => GB.out wX (gi.trans gX))
      have HO0 := hide (OwnC.nil Y Y)
      clear GA GB HR0 HKG HUL ei hii
      go_wp2_with fail
      go_loopw [5, 8] (fun v5 v8 wc => ∃ j : Nat, j ≤ us.length ∧ v8 = .int .i64 j ∧ Hid (OwnC Y wc v5 ((us.take j).filterMap (chg1 rs ss))) ∧ Gr Y wc) (fun _ v8 _ => us.length - (intOf v8).toNat)
      case atStart => exact ⟨0, by omega, rfl, HO0, Gr.refl _⟩
      case round =>
        obtain ⟨j, hj, rfl, HO, gj⟩ := hrel
        clear HO0
        by_cases hlt : j < us.length
        · have hji : (j : Int) < (us.length : Int) := by omega
          have HNX := hide (chg_take (rs := rs) (ss := ss) hlt)
          obtain ⟨b, o, rfl, hb, hcs⟩ : ∃ b o, xo = some ⟨b, o, none⟩ ∧ b < Y.heap.size ∧ ∀ i (h : i < us.length), Y.cell? ⟨b, o + i * 3, none⟩ = some (iv us[i].1) ∧ Y.cell? ⟨b, o + i * 3 + 1, none⟩ = some (iv us[i].2.1) ∧ Y.cell? ⟨b, o + i * 3 + 2, none⟩ = some (iv us[i].2.2) := by
            rcases HX.out with e | ⟨b', o', ha, hb', _, hc'⟩
            · rw [e] at hlt; simp at hlt
            · exact ⟨b', o', ha, hb', hc'⟩
          obtain ⟨c1, c2, _⟩ := hcs j hlt
          clear hcs
          have x1 := (Below.cell gj (p := ⟨b, _, none⟩) hb).trans c1
          have x2 := (Below.cell gj (p := ⟨b, _, none⟩) hb).trans c2
          have hbj : b < wr.heap.size := Nat.lt_of_lt_of_le hb (Below.size gj)
          clear c1 c2
          have hfl : ((us.take j).filterMap (chg1 rs ss)).length ≤ j := Nat.le_trans (List.length_filterMap_le _ _) (List.length_take_le _ _)
          generalize us[j] = r at *
          obtain ⟨pl, pb, ph⟩ := r
          simp only at x1 x2 HNX
          have HA : Hid (∀ (d : Ext wr), Calls Tryz.prog 30 #[.slice ao rs.length ca, pfx pl pb] d.out fun e w' => e = .returned (.int .i64 (getL rs pl pb)) ∧ ∃ m : Ext wr, w' = m.out) := fun d => Calls.ext_of (GA2.out d.out (gj.trans d.gr) pl pb)
          have HB : Hid (∀ (d : Ext wr), Calls Tryz.prog 30 #[.slice bo ss.length cb, pfx pl pb] d.out fun e w' => e = .returned (.int .i64 (getL ss pl pb)) ∧ ∃ m : Ext wr, w' = m.out) := fun d => Calls.ext_of (GB2.out d.out (gj.trans d.gr) pl pb)
          generalize getL rs pl pb = x at *
          generalize getL ss pl pb = y at *
          go_wp2_with fail
          refine wp_region_ext (by kernel_rfl) (by kernel_rfl) ?_
          repeat (go_big_quiet_step (first | (go_at_call 30; with_reducible exact HA.out _) | (go_at_call 30; with_reducible exact HB.out _)))
          refine wpQuiet_nil ?_
          rintro _ ⟨d1, rfl⟩
          go_upto_region 12 with (fail)
          refine wp_gen (fun Z => Hid (OwnC Y Z u5 ((us.take j).filterMap (chg1 rs ss))) ∧ Z.cell? ⟨b, o + j * 3, none⟩ = some (iv pl) ∧ Z.cell? ⟨b, o + j * 3 + 1, none⟩ = some (iv pb) ∧ b < Z.heap.size ∧ Gr Y Z) ⟨HO.out.gr d1.gr, (d1.cell b _ hbj).trans x1, (d1.cell b _ hbj).trans x2, d1.lt b hbj, gj.trans d1.gr⟩ ?_
          rintro Z ⟨OZ, z1, z2, hbz, gZ⟩
          clear HA HB x1 x2 hbj HO gj
          by_cases hxy : x = y
          · have hne : (x != y) = false := by simpa using hxy
            rw [if_pos hxy, List.append_nil] at HNX
            clear hxy
            go_wp2_with fail
            go_roundw
            case rel => exact ⟨j + 1, by omega, by go_num, by rw [HNX.out]; exact OZ, gZ⟩
            case measure => simp [intOf]; omega
          · have hne : (x != y) = true := by simpa using hxy
            rw [if_neg hxy] at HNX
            clear hxy
            have ga := (Gr.refl Z).alloc (.cells #[iv pl, iv pb, iv x, iv y] 60)
            obtain ⟨v', w', hrun, hO', g'⟩ := run_appC (c := (pl, pb, x, y)) 23 (OZ.out.gr ga) (gZ.trans ga) (heap_alloc_new Z _) (by omega)
            have HR := hide hrun
            have HO' := hide hO'
            clear hrun hO'
            go_wp2_with (first | (at_builtin; refine Lib.wpList_append_run _ rfl _ _ _ _ rfl _ _ rfl rfl _ _ HR.out ?_))
            go_roundw
            case rel => exact ⟨j + 1, by omega, by go_num, by rw [HNX.out]; exact HO', g'⟩
            case measure => simp [intOf]; omega
        · have hji : ¬ (j : Int) < (us.length : Int) := by omega
          have HZ : Hid (OwnC Y wr u5 res) := by unfold Hid; rw [HCG.out]; have := HO.out; rw [List.take_of_length_le (by omega)] at this; exact this
          clear HO HCG
          go_wp2_with fail
          go_ret
          exact ⟨_, rfl, ownC_mono HZ.out gi, gi.trans gj⟩

end Go.Proofs.YtimbgijpeomfcacGreatDoor
