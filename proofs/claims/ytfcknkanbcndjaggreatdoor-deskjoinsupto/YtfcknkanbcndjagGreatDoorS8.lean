import Derived.Test.YtfcknkanbcndjagGreatDoorS6
import Derived.Deep.RegionHeld3
/- CONTRACT: (*Table).Set. -/
namespace Go.Proofs.YtfcknkanbcndjagGreatDoor
open Go.RowKit
attribute [local go_sem] Ext.all Ext.cell Ext.frozen Ext.lt Ext.lt1 Ext.lt2 Ext.ne Ext.ne'
theorem insert_any (w : World) (v : Value) (n vb i : Nat) (rs : List Rt) (x : Rt) (h : w.ownsRow 0 133 3 v n (cels rs)) (hi : i ≤ n) (hm : n ≤ 1000) (hne : v.ownBlock ≠ some vb) (hv : w.heap[vb]? = some (.cells #[iv x.1, iv x.2.1, iv x.2.2] 133 (0, 0))) :
    Calls Tryz.prog 119 #[v, .int .i64 i, .slice (some ⟨vb, 0, none⟩) 1 1] w fun e w' => ∃ ao c, e = .returned (.slice ao (n + 1) c) ∧ w'.ownsRow 0 133 3 (.slice ao (n + 1) c) (n + 1) (cels (rs.take i ++ x :: rs.drop i)) ∧ Moved w w' v (.slice ao (n + 1) c) := by
  have hl : rs.length = n := by have := h.1; rw [cels_length] at this; omega
  by_cases e : i = n
  · subst e
    have e1 : rs.take i ++ x :: rs.drop i = rs ++ [x] := by rw [List.take_of_length_le (by omega), List.drop_of_length_le (by omega)]
    rw [e1]
    exact insert_end w v i vb rs x h hv hm
  · rcases own_rowIs h with ⟨rfl, rfl, rfl⟩ | ⟨g, cap, cur, rfl, hR⟩
    · omega
    · by_cases hroom : n + 1 ≤ cap
      · refine (insert_shift w g n cap i vb cur rs x hR (by omega) hroom hm (fun e => hne (by simp [Value.ownBlock, e])) hv).mono ?_
        rintro e w' ⟨rfl, cur', rfl, hR'⟩
        exact ⟨_, _, rfl, hR'.own, moved_setRow cur'⟩
      · refine (insert_grow w g n cap i vb cur rs x hR (by omega) (by omega) hm hv).mono ?_
        rintro e w' ⟨c, cur', rfl, hg, hR'⟩
        exact ⟨_, _, rfl, hR'.own, ⟨hg.os, hg.tape, hg.output, hg.size, fun k hk _ => hg.block k hk (by simp)⟩, .inr fun k hk => by simp [Value.ownBlock] at hk; omega⟩

theorem set_at {rs : List Rt} {k : Nat} {l b h0 h : Int} (hk : k < rs.length) (e : rs[k] = (l, b, h0)) : (cels rs).set (k * 3 + 2) (iv h) = cels (rs.take k ++ (l, b, h) :: rs.drop (k + 1)) := by
  have hd : rs = rs.take k ++ (l, b, h0) :: rs.drop (k + 1) := by
    conv => lhs; rw [← List.take_append_drop k rs, List.drop_eq_getElem_cons hk, e]
  have hl : (cels (rs.take k)).length = k * 3 := by rw [cels_length, List.length_take]; omega
  conv => lhs; rw [hd]
  rw [cels_append, cels_append, cels_cons, cels_cons, List.set_append_right _ _ (by omega), hl]
  simp

/-- The table behind a Set. -/
def SetOk (w w' : World) (M : Nat → Prop) (tb : Nat) (rs' : List Rt) : Prop := ∃ v', TabS w' M tb v' rs' ∧ Kp M w w'

theorem box_gr (w : World) (l b : Int) : ∃ W, W = w.alloc (.cells #[iv l, iv b] 52) ∧ Gr w W ∧ W.cell? ⟨w.heap.size, 0, none⟩ = some (iv l) ∧ W.cell? ⟨w.heap.size, 1, none⟩ = some (iv b) ∧ w.heap.size < W.heap.size := by
  refine ⟨_, rfl, (Gr.refl w).alloc _, ?_, ?_, ?_⟩ <;> simp [go_sem]

set_option maxRecDepth 20000 in
set_option maxHeartbeats 2000000 in
theorem set_any (w : World) (M : Nat → Prop) (tb : Nat) (v : Value) (rs : List Rt) (l b h : Int) (S : TabS w M tb v rs) (hT : Tab rs) :
    Calls Tryz.prog 66 #[.pointer (some ⟨tb, 0, none⟩), pfx l b, .int .i64 h] w fun e w' => e = .returned (.int .i64 (setL rs l b h).2) ∧ SetOk w w' M tb (setL rs l b h).1 := by
  obtain ⟨ao, c, rfl, H⟩ := S.shape
  obtain ⟨W, hW, g0, b0, b1, s0⟩ := box_gr w l b
  have HW : Hid (W = _) := hW
  clear hW
  have SW := S.gr g0
  have hct := SW.cell0
  have htb := SW.lt
  have hlen : rs.length ≤ 40 := hT.len
  have hle := plc_le rs l b
  have HX : Hid (∀ d : Ext W, SetOk w d.out M tb rs) := fun d => ⟨_, SW.gr d.gr, (g0.ext d).kp M⟩
  have HP : Hid (∀ d : Ext W, Calls Tryz.prog 117 #[.pointer (some ⟨tb, 0, none⟩), pfx l b] d.out fun e w' => e = .returned (.tuple #[.int .i64 (plc rs l b), .bool (fnd rs l b)]) ∧ ∃ d' : Ext d.out, w' = d'.out) := fun d =>
    place_any d.out _ tb ao rs.length c rs l b ((d.cell tb 0 htb).trans hct) (d.lt tb htb) (H.gr (g0.ext d)) rfl hT
  cases ho : okB l b
  · -- no prefix
    have e : setL rs l b h = (rs, 1) := by unfold setL; rw [if_pos (.inl ho)]
    rw [e]
    have HO : Hid (okB l b = false) := ho
    clear ho e
    go_enter Tryz.func66, Tryz.ntmps66
    go_wp2_with (go_at_call 114; rw [← HW.out]; refine (check_is HO.out _).mono ?_; rintro e _ ⟨rfl, d1, rfl⟩)
    go_ret
    exact ⟨rfl, HX.out d1⟩
  have HO : Hid (okB l b = true) := ho
  clear ho
  cases hh : hopB h
  · have HH : Hid (hopB h = false) := hh
    clear hh
    by_cases h2 : h = -2
    · subst h2
      have key : ∀ f, fnd rs l b = f → Hid (fnd rs l b = f) := fun f e => e
      cases hf : fnd rs l b
      · have e : setL rs l b (-2) = (rs, 6) := by unfold setL; rw [if_neg (by simp [HO.out]), if_pos ⟨rfl, hf⟩]
        rw [e]; clear e
        rw [hf] at HP
        clear hf key
        generalize plc rs l b = k at *
        go_enter Tryz.func66, Tryz.ntmps66
        go_wp2_with (first | (go_at_call 114; rw [← HW.out]; refine (check_is HO.out _).mono ?_; rintro e _ ⟨rfl, d1, rfl⟩) | (go_at_call 116; refine (Calls.ext_of (hop_is HH.out _)).mono ?_; rintro e _ ⟨rfl, d2, rfl⟩) | (go_at_call 117; refine (Calls.ext_of (HP.out d2)).mono ?_; rintro e _ ⟨rfl, d3, rfl⟩))
        go_ret
        exact ⟨rfl, HX.out d3⟩
      · have hk : plc rs l b < rs.length := by
          rcases Nat.lt_or_ge (plc rs l b) rs.length with h | h
          · exact h
          · unfold fnd at hf; rw [List.getElem?_eq_none h] at hf; cases hf
        have e : setL rs l b (-2) = (rs.take (plc rs l b) ++ rs.drop (plc rs l b + 1), 0) := by unfold setL; rw [if_neg (by simp [HO.out]), if_neg (by simp [hf]), if_pos rfl]
        rw [e]; clear e
        rw [hf] at HP
        clear hf key
        generalize plc rs l b = k at *
        have HD : Hid (∀ d : Ext W, Calls Tryz.prog 118 #[.slice ao rs.length c, .int .i64 k, .int .i64 ((k : Int) + 1)] d.out fun e w' => ∃ ao' n' c', e = .returned (.slice ao' n' c') ∧ w'.cell? ⟨tb, 0, none⟩ = some (.slice ao rs.length c) ∧ w'.frozen? ⟨tb, 0, none⟩ = false ∧ Hid (SetOk w (w'.setCell ⟨tb, 0, none⟩ (.slice ao' n' c')) M tb (rs.take k ++ rs.drop (k + 1)))) := by
          intro d
          have Sd := SW.gr d.gr
          rcases own_rowIs Sd.own with ⟨_, h0, _⟩ | ⟨g, cap, cur, ev, hR⟩
          · omega
          · cases ev
            have := delete_any d.out g rs.length c k (k + 1) cur rs hR rfl (by omega) (by omega)
            rw [show (((k + 1 : Nat)) : Int) = (k : Int) + 1 by omega] at this
            refine this.mono ?_
            rintro e w' ⟨rfl, cur', rfl, hR'⟩
            have mv := moved_setRow (w := d.out) (g := g) (n := rs.length) (m := rs.length - 1) (cap := c) (cap' := c) cur'
            obtain ⟨⟨c1, c2⟩, T1, T2⟩ := Sd.store mv.1 hR'.own hR'.len mv.2
            exact ⟨_, _, _, rfl, c1, c2, _, T1, ((g0.ext d).kp M).trans T2⟩
        go_enter Tryz.func66, Tryz.ntmps66
        go_wp2_with (first | (go_at_call 114; rw [← HW.out]; refine (check_is HO.out _).mono ?_; rintro e _ ⟨rfl, d1, rfl⟩) | (go_at_call 116; refine (Calls.ext_of (hop_is HH.out _)).mono ?_; rintro e _ ⟨rfl, d2, rfl⟩) | (go_at_call 117; refine (Calls.ext_of (HP.out d2)).mono ?_; rintro e _ ⟨rfl, d3, rfl⟩) | (go_at_call 118; refine (HD.out d3).mono ?_; rintro e w2 ⟨ao', n', c', rfl, hc2, hf2, HS⟩))
        go_ret
        exact ⟨rfl, HS.out⟩
    · have e : setL rs l b h = (rs, 1) := by unfold setL; rw [if_pos (.inr ⟨HH.out, h2⟩)]
      rw [e]; clear e
      have h2' : (h == -2) = false := by simpa using h2
      go_enter Tryz.func66, Tryz.ntmps66
      go_wp2_with (first | (go_at_call 114; rw [← HW.out]; refine (check_is HO.out _).mono ?_; rintro e _ ⟨rfl, d1, rfl⟩) | (go_at_call 116; refine (Calls.ext_of (hop_is HH.out _)).mono ?_; rintro e _ ⟨rfl, d2, rfl⟩))
      go_ret
      exact ⟨rfl, HX.out d2⟩
  · have HH : Hid (hopB h = true) := hh
    have h2 : h ≠ -2 := by intro e; subst e; simp [hopB] at hh
    have h2' : (h == -2) = false := by simpa using h2
    clear hh
    cases hf : fnd rs l b
    · by_cases h40 : 40 ≤ rs.length
      · have e : setL rs l b h = (rs, 9) := by unfold setL; rw [if_neg (by simp [HO.out, HH.out]), if_neg (by simp [h2]), if_neg h2, if_neg (by simp [hf]), if_pos h40]
        rw [e]; clear e
        rw [hf] at HP
        clear hf h2
        generalize plc rs l b = k at *
        go_enter Tryz.func66, Tryz.ntmps66
        go_wp2_with (first | (go_at_call 114; rw [← HW.out]; refine (check_is HO.out _).mono ?_; rintro e _ ⟨rfl, d1, rfl⟩) | (go_at_call 116; refine (Calls.ext_of (hop_is HH.out _)).mono ?_; rintro e _ ⟨rfl, d2, rfl⟩) | (go_at_call 117; refine (Calls.ext_of (HP.out d2)).mono ?_; rintro e _ ⟨rfl, d3, rfl⟩))
        go_ret
        exact ⟨rfl, HX.out d3⟩
      · have e : setL rs l b h = (rs.take (plc rs l b) ++ (l, b, h) :: rs.drop (plc rs l b), 0) := by unfold setL; rw [if_neg (by simp [HO.out, HH.out]), if_neg (by simp [h2]), if_neg h2, if_neg (by simp [hf]), if_neg h40]
        rw [e]; clear e
        rw [hf] at HP
        clear hf h2
        generalize plc rs l b = k at *
        have HI : Hid (∀ w1, Gr W w1 → Calls Tryz.prog 119 #[.slice ao rs.length c, .int .i64 k, .slice (some ⟨w1.heap.size, 0, none⟩) 1 1] (w1.alloc (.cells #[iv l, iv b, iv h] 133)) fun e w' => ∃ ao' n' c', e = .returned (.slice ao' n' c') ∧ w'.cell? ⟨tb, 0, none⟩ = some (.slice ao rs.length c) ∧ w'.frozen? ⟨tb, 0, none⟩ = false ∧ Hid (SetOk w (w'.setCell ⟨tb, 0, none⟩ (.slice ao' n' c')) M tb (rs.take k ++ (l, b, h) :: rs.drop k))) := by
          intro w1 gw
          have S1 := SW.gr gw
          have Sd := S1.gr ((Gr.refl w1).alloc (.cells #[iv l, iv b, iv h] 133))
          have hne : (Value.slice ao rs.length c).ownBlock ≠ some w1.heap.size := by
            intro e
            have := (S1.own.lt _ e).2
            omega
          refine (insert_any (w1.alloc (.cells #[iv l, iv b, iv h] 133)) _ rs.length w1.heap.size k rs (l, b, h) Sd.own (by omega) (by omega) hne (heap_alloc_new w1 _)).mono ?_
          rintro e w' ⟨ao', c', rfl, ho', mv⟩
          obtain ⟨⟨c1, c2⟩, T1, T2⟩ := Sd.store mv.1 ho' (by simp; omega) mv.2
          exact ⟨_, _, _, rfl, c1, c2, _, T1, ((g0.trans (gw.alloc _)).kp M).trans T2⟩
        go_enter Tryz.func66, Tryz.ntmps66
        go_wp2_with (first | (go_at_call 114; rw [← HW.out]; refine (check_is HO.out _).mono ?_; rintro e _ ⟨rfl, d1, rfl⟩) | (go_at_call 116; refine (Calls.ext_of (hop_is HH.out _)).mono ?_; rintro e _ ⟨rfl, d2, rfl⟩) | (go_at_call 117; refine (Calls.ext_of (HP.out d2)).mono ?_; rintro e _ ⟨rfl, d3, rfl⟩))
        go_region_with (go_at_call 119; refine (HI.out d3.out.drew d3.gr.drew).mono ?_; rintro e w2 ⟨ao', n', c', rfl, hc2, hf2, HS⟩)
        all_goals (go_wp2; go_ret; exact ⟨rfl, HS.out⟩)
    · have hk : plc rs l b < rs.length := by
        rcases Nat.lt_or_ge (plc rs l b) rs.length with h | h
        · exact h
        · unfold fnd at hf; rw [List.getElem?_eq_none h] at hf; cases hf
      have hke : ∃ h0, rs[plc rs l b] = (l, b, h0) := by
        unfold fnd at hf
        rw [List.getElem?_eq_getElem hk] at hf
        have : (rs[plc rs l b]).1 = l ∧ (rs[plc rs l b]).2.1 = b := by simpa [sameB] using hf
        exact ⟨(rs[plc rs l b]).2.2, Prod.ext this.1 (Prod.ext this.2 rfl)⟩
      have e : setL rs l b h = (rs.take (plc rs l b) ++ (l, b, h) :: rs.drop (plc rs l b + 1), 0) := by unfold setL; rw [if_neg (by simp [HO.out, HH.out]), if_neg (by simp [h2]), if_neg h2, if_pos hf]
      rw [e]; clear e
      rw [hf] at HP
      clear hf h2
      generalize plc rs l b = k at *
      obtain ⟨h0, hke⟩ := hke
      rcases own_rowIs SW.own with ⟨_, h00, _⟩ | ⟨g, cap, cur, ev, hR⟩
      · omega
      cases ev
      have hgl : g < W.heap.size := lt_of_block hR.block
      have hrc : W.cell? ⟨g, k * 3 + 2, none⟩ = some (iv h0) := by
        refine hR.cell _ _ ?_
        rw [(cels_at rs k hk).2.2, hke]
      have hrf : W.frozen? ⟨g, k * 3 + 2, none⟩ = false := by simp [World.frozen?, hR.block]
      have HS : Hid (∀ d : Ext W, SetOk w (d.out.setCell ⟨g, k * 3 + 2, none⟩ (iv h)) M tb (rs.take k ++ (l, b, h) :: rs.drop (k + 1))) := by
        intro d
        have Sd := SW.gr d.gr
        have st := Sd.own.stored (k * 3 + 2) (iv h)
        rw [set_at hk hke] at st
        have hl' : (rs.take k ++ (l, b, h) :: rs.drop (k + 1)).length = rs.length := by simp; omega
        refine ⟨_, ⟨?_, ?_, Sd.notTb, Sd.notRow, fun j hj => ?_⟩, ((g0.ext d).kp M).trans (Kp.grown st.2 (fun j hj => Sd.notRow j hj))⟩
        · rw [st.2.block tb Sd.lt (fun e => Sd.ne e.symm)]; exact Sd.cell
        · rw [hl']; exact st.1
        · have := Sd.bd j hj; simpa using this
      clear hR hke
      go_enter Tryz.func66, Tryz.ntmps66
      go_wp2_with (first | (go_at_call 114; rw [← HW.out]; refine (check_is HO.out _).mono ?_; rintro e _ ⟨rfl, d1, rfl⟩) | (go_at_call 116; refine (Calls.ext_of (hop_is HH.out _)).mono ?_; rintro e _ ⟨rfl, d2, rfl⟩) | (go_at_call 117; refine (Calls.ext_of (HP.out d2)).mono ?_; rintro e _ ⟨rfl, d3, rfl⟩))
      go_ret
      exact ⟨rfl, HS.out d3⟩

end Go.Proofs.YtfcknkanbcndjagGreatDoor

/- CONTRACTS OF handpostref: GetOf, SameRoutes. -/
namespace Go.Proofs.YtfcknkanbcndjagGreatDoor
open Go.RowKit
attribute [local go_sem] Ext.all Ext.cell Ext.frozen Ext.lt Ext.lt1 Ext.lt2 Ext.ne Ext.ne'
theorem getR_drop {rs : List Rt} {k : Nat} (hk : k < rs.length) (l b : Int) : getR (rs.drop k) l b = if sameB rs[k] l b && okB l b then rs[k].2.2 else getR (rs.drop (k + 1)) l b := by
  rw [List.drop_eq_getElem_cons hk]
  unfold getR
  rw [List.find?_cons]
  cases sameB rs[k] l b && okB l b <;> simp

set_option maxRecDepth 20000 in
theorem getOf_any (w : World) (M : Nat → Prop) (ao : Option Addr) (n c : Nat) (rs : List Rt) (l b : Int) (H : RowAt w M ao rs) (hn : rs.length = n) (hm : n ≤ 1000) :
    Calls Tryz.prog 106 #[.slice ao n c, pfx l b] w fun e w' => e = .returned (.int .i64 (getR rs l b)) ∧ ∃ d : Ext w, w' = d.out := by
  obtain ⟨W, hW, g0, b0, b1, s0⟩ := box_gr w l b
  have HW : Hid (W = _) := hW
  clear hW
  have hrow := H.gr g0
  clear H
  go_enter Tryz.func106, Tryz.ntmps106
  go_wp2
  rw [← HW.out]
  go_loopw [5] (fun i wr => ∃ k : Nat, k ≤ n ∧ i = .int .i64 k ∧ Hid (getR (rs.drop k) l b = getR rs l b) ∧ Gr W wr) (fun i _ => n - (intOf i).toNat)
  case atStart => exact ⟨0, by omega, rfl, rfl, Gr.refl _⟩
  case round =>
    obtain ⟨k, hk, rfl, HL, g⟩ := hrel
    obtain ⟨d, rfl⟩ := ext_mk g
    by_cases hlt : k < n
    · have hkr : k < rs.length := by omega
      rcases hrow with rfl | ⟨rb, o, rfl, hb, hM, hcs⟩
      · simp at hkr
      obtain ⟨c1, c2, c3⟩ := hcs k hkr
      have HS : Hid (getR (rs.drop k) l b = if sameB rs[k] l b && okB l b then rs[k].2.2 else getR (rs.drop (k + 1)) l b) := getR_drop hkr l b
      clear hcs
      generalize rs[k] = r at *
      obtain ⟨rl, rbb, rh⟩ := r
      simp only at c1 c2 c3
      have e3 : ((rl == l) = false ∧ Hid (sameB (rl, rbb, rh) l b = false)) ∨ ((rl == l) = true ∧ (rbb == b) = false ∧ Hid (sameB (rl, rbb, rh) l b = false)) ∨ ((rl == l) = true ∧ (rbb == b) = true ∧ Hid (sameB (rl, rbb, rh) l b = true)) := by
        unfold Hid sameB
        cases h1 : rl == l <;> cases h2 : rbb == b <;> simp at h1 h2 <;> simp [h1, h2]
      rcases e3 with ⟨e1, es⟩ | ⟨e1, e2, es⟩ | ⟨e1, e2, es⟩
      · have HR : Hid (getR (rs.drop (k + 1)) l b = getR rs l b) := by unfold Hid; rw [← HL.out, HS.out, es.out]; simp
        clear HS HL es
        go_wp2_with fail
        refine wp_region_ext_of (by kernel_rfl) (by kernel_rfl) ?_
        repeat (go_big_quiet_step (fail))
        refine wpQuiet_nil ?_
        rintro _ ⟨d1, rfl⟩
        go_wp2
        go_roundw
        case rel => exact ⟨k + 1, by omega, by go_num, HR, d1.gr⟩
        case measure => simp [intOf]; omega
      · have HR : Hid (getR (rs.drop (k + 1)) l b = getR rs l b) := by unfold Hid; rw [← HL.out, HS.out, es.out]; simp
        clear HS HL es
        go_wp2_with fail
        refine wp_region_ext_of (by kernel_rfl) (by kernel_rfl) ?_
        repeat (go_big_quiet_step (fail))
        refine wpQuiet_nil ?_
        rintro _ ⟨d1, rfl⟩
        go_wp2
        go_roundw
        case rel => exact ⟨k + 1, by omega, by go_num, HR, d1.gr⟩
        case measure => simp [intOf]; omega
      · cases ho : okB l b
        · have HR : Hid (getR (rs.drop (k + 1)) l b = getR rs l b) := by unfold Hid; rw [← HL.out, HS.out, es.out, ho]; simp
          have HO : Hid (okB l b = false) := ho
          clear HS HL es ho
          go_wp2_with fail
          refine wp_region_ext_of (by kernel_rfl) (by kernel_rfl) ?_
          repeat (go_big_quiet_step ((go_at_call 104; with_reducible exact Calls.ext_of (isp_is HO.out _))))
          refine wpQuiet_nil ?_
          rintro _ ⟨d1, rfl⟩
          go_wp2
          go_roundw
          case rel => exact ⟨k + 1, by omega, by go_num, HR, d1.gr⟩
          case measure => simp [intOf]; omega
        · have HR : Hid (rh = getR rs l b) := by unfold Hid; rw [← HL.out, HS.out, es.out, ho]; simp
          have HO : Hid (okB l b = true) := ho
          clear HS HL es ho
          go_wp2_with fail
          refine wp_region_ext_of (by kernel_rfl) (by kernel_rfl) ?_
          repeat (go_big_quiet_step ((go_at_call 104; with_reducible exact Calls.ext_of (isp_is HO.out _))))
          refine wpQuiet_nil ?_
          rintro _ ⟨d1, rfl⟩
          go_wp2
          go_ret
          exact ⟨ret_int HR.out, ext_mk (g0.ext d1)⟩
    · have HR : Hid (-2 = getR rs l b) := by unfold Hid; rw [← HL.out, List.drop_of_length_le (by omega)]; rfl
      clear HL hrow
      go_wp2
      go_ret
      exact ⟨ret_int HR.out, ext_mk (g0.ext d)⟩

end Go.Proofs.YtfcknkanbcndjagGreatDoor
