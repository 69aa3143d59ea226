/- CONTRACT OF handpostref.SetOf, with the room of the list that it answers. -/
import Derived.Test.YtfcknkanbcndjagGreatDoorS9
namespace Go.Proofs.YtfcknkanbcndjagGreatDoor
open Go.RowKit
attribute [local go_sem] Ext.all Ext.cell Ext.frozen Ext.lt Ext.lt1 Ext.lt2 Ext.ne Ext.ne'
/-- What SetOf leaves, with the room of its list. -/
def SetROc (w w' : World) (M : Nat → Prop) (e : Ending) (rs' : List Rt) (code : Int) (ok : Prop) : Prop :=
  ∃ ao' c', e = .returned (.tuple #[.slice ao' rs'.length c', .int .i64 code]) ∧ (ok → rs'.length ≤ c') ∧ RowAt w' (fun k => M k ∨ w.heap.size ≤ k) ao' rs' ∧ ∃ d : Ext w, w' = d.out

set_option maxRecDepth 20000 in
set_option maxHeartbeats 2000000 in
theorem setOfC_any (w : World) (M : Nat → Prop) (ao : Option Addr) (c : Nat) (rs : List Rt) (l b h : Int) (H : RowAt w M ao rs) (hT : Tab rs) :
    Calls Tryz.prog 54 #[.slice ao rs.length c, pfx l b, .int .i64 h] w fun e w' => SetROc w w' M e (setL rs l b h).1 (setL rs l b h).2 (rs.length ≤ c) := by
  obtain ⟨W, hW, g0, b0, b1, s0⟩ := box_gr w l b
  have HW : Hid (W = _) := hW
  clear hW
  have hlen := hT.len
  have hrow := H.gr g0
  have HX : Hid (∀ (d : Ext W) (code : Int), SetROc w d.out M (.returned (.tuple #[.slice ao rs.length c, .int .i64 code])) rs code (rs.length ≤ c)) := fun d code => ⟨_, _, rfl, fun h => h, ((H.gr (g0.ext d)).mono fun k _ h => .inl h), ext_mk (g0.ext d)⟩
  cases ho : okB l b
  · have e : setL rs l b h = (rs, 1) := by unfold setL; rw [if_pos (.inl ho)]
    rw [e]
    have HO : Hid (okB l b = false) := ho
    clear ho e
    go_enter Tryz.func54, Tryz.ntmps54
    go_wp2_with (go_at_call 104; rw [← HW.out]; refine (isp_is HO.out _).mono ?_; rintro e _ ⟨rfl, d1, rfl⟩)
    go_ret2
    exact HX.out d1 1
  have HO : Hid (okB l b = true) := ho
  by_cases h1 : hopB h = false ∧ h ≠ -2
  · have e : setL rs l b h = (rs, 1) := by unfold setL; rw [if_pos (.inr h1)]
    rw [e]; clear e
    have HH : Hid (hopB h = false) := h1.1
    have h2' : (h == -2) = false := by simpa using h1.2
    have h2 := h1.2
    clear h1 ho
    go_enter Tryz.func54, Tryz.ntmps54
    go_wp2_with (first | (go_at_call 104; rw [← HW.out]; refine (isp_is HO.out _).mono ?_; rintro e _ ⟨rfl, d1, rfl⟩) | (go_at_call 105; refine (Calls.ext_of (isHop_is HH.out _)).mono ?_; rintro e _ ⟨rfl, d2, rfl⟩))
    go_ret2
    exact HX.out d2 1
  have HG : Hid (∀ d : Ext W, Calls Tryz.prog 106 #[.slice ao rs.length c, pfx l b] d.out fun e w' => e = .returned (.int .i64 (getL rs l b)) ∧ ∃ d' : Ext d.out, w' = d'.out) := fun d => by
    have := getOf_any d.out M ao rs.length c rs l b (H.gr (g0.ext d)) rfl (by omega)
    rw [hT.getR] at this
    exact this
  have hgf := hT.get_fnd ho
  -- which way
  have ways : (h = -2 ∧ Hid (hopB h = false) ∧ (getL rs l b == -2) = true ∧ setL rs l b h = (rs, 6)) ∨
      ((h ≠ -2 ∧ (h == -2) = false) ∧ Hid (hopB h = true) ∧ (getL rs l b == -2) = true ∧ decide ((40 : Int) ≤ (rs.length : Int)) = true ∧ setL rs l b h = (rs, 9)) ∨
      ((setL rs l b h).2 = 0 ∧ ((h = -2 ∧ Hid (hopB h = false) ∧ (getL rs l b == -2) = false) ∨ ((h ≠ -2 ∧ (h == -2) = false) ∧ Hid (hopB h = true) ∧ (getL rs l b == -2) = false) ∨ ((h ≠ -2 ∧ (h == -2) = false) ∧ Hid (hopB h = true) ∧ (getL rs l b == -2) = true ∧ decide ((40 : Int) ≤ (rs.length : Int)) = false))) := by
    have hnot : ¬ (okB l b = false ∨ (hopB h = false ∧ h ≠ -2)) := by
      rintro (e | e)
      · rw [ho] at e; cases e
      · exact h1 e
    have hh : h = -2 → hopB h = false := fun e => by subst e; rfl
    have hh' : h ≠ -2 → hopB h = true := fun e => by
      cases x : hopB h
      · exact absurd ⟨x, e⟩ h1
      · rfl
    unfold setL
    rw [if_neg hnot]
    by_cases h2 : h = -2
    · rcases hgf with ⟨hf, hg⟩ | ⟨hf, hg⟩
      · left
        rw [if_pos ⟨h2, hf⟩]
        exact ⟨h2, hh h2, by simpa using hg, rfl⟩
      · right; right
        rw [if_neg (by simp [hf]), if_pos h2]
        exact ⟨rfl, .inl ⟨h2, hh h2, by simpa using hg⟩⟩
    · rw [if_neg (by simp [h2]), if_neg h2]
      rcases hgf with ⟨hf, hg⟩ | ⟨hf, hg⟩
      · rw [if_neg (by simp [hf])]
        by_cases h4 : 40 ≤ rs.length
        · right; left
          rw [if_pos h4]
          exact ⟨⟨h2, by simpa using h2⟩, hh' h2, by simpa using hg, by simp; omega, rfl⟩
        · right; right
          rw [if_neg h4]
          exact ⟨rfl, .inr (.inr ⟨⟨h2, by simpa using h2⟩, hh' h2, by simpa using hg, by simp; omega⟩)⟩
      · right; right
        rw [if_pos hf]
        exact ⟨rfl, .inr (.inl ⟨⟨h2, by simpa using h2⟩, hh' h2, by simpa using hg⟩)⟩
  clear ho h1 hgf
  rcases ways with ⟨rfl, HH, e2, e⟩ | ⟨⟨e1, e1'⟩, HH, e2, e3, e⟩ | ⟨hz, ways⟩
  · rw [e]; clear e
    generalize getL rs l b = was at *
    go_enter Tryz.func54, Tryz.ntmps54
    go_wp2_with (first | (go_at_call 104; rw [← HW.out]; refine (isp_is HO.out _).mono ?_; rintro e _ ⟨rfl, d1, rfl⟩) | (go_at_call 105; refine (Calls.ext_of (isHop_is HH.out _)).mono ?_; rintro e _ ⟨rfl, d2, rfl⟩) | (go_at_call 106; refine (Calls.ext_of (HG.out _)).mono ?_; rintro e _ ⟨rfl, d3, rfl⟩))
    go_ret2
    exact HX.out d3 6
  · rw [e]; clear e
    generalize getL rs l b = was at *
    go_enter Tryz.func54, Tryz.ntmps54
    go_wp2_with (first | (go_at_call 104; rw [← HW.out]; refine (isp_is HO.out _).mono ?_; rintro e _ ⟨rfl, d1, rfl⟩) | (go_at_call 105; refine (Calls.ext_of (isHop_is HH.out _)).mono ?_; rintro e _ ⟨rfl, d2, rfl⟩) | (go_at_call 106; refine (Calls.ext_of (HG.out _)).mono ?_; rintro e _ ⟨rfl, d3, rfl⟩))
    go_ret2
    exact HX.out d3 9
  · have HOUT : Hid (outR rs l b h = (setL rs l b h).1) := hT.outR l b h hz
    rw [hz]
    clear hz hT HX
    generalize getL rs l b = was at *
    generalize (setL rs l b h).1 = res at *
    rcases ways with ⟨rfl, HH, e2⟩ | ways
    · go_enter Tryz.func54, Tryz.ntmps54
      go_wp2_with (first | (go_at_call 104; rw [← HW.out]; refine (isp_is HO.out _).mono ?_; rintro e _ ⟨rfl, d1, rfl⟩) | (go_at_call 105; refine (Calls.ext_of (isHop_is HH.out _)).mono ?_; rintro e _ ⟨rfl, d2, rfl⟩) | (go_at_call 106; refine (Calls.ext_of (HG.out _)).mono ?_; rintro e _ ⟨rfl, d3, rfl⟩))
      go_loopw [9, 10, 11] (fun out put i wr => ∃ (k : Nat) (xs : List Rt), k ≤ rs.length ∧ i = .int .i64 k ∧ put = .bool true ∧ xs.length ≤ 2 * k ∧ Hid (foldR (rs.take k) l b (-2) = (xs, true)) ∧ Gr W wr ∧ Hid (wr.ownsRow W.heap.size 133 3 out xs.length (cels xs))) (fun _ _ i _ => rs.length - (intOf i).toNat)
      case atStart => exact ⟨0, [], by omega, rfl, by simp, by simp, by unfold Hid; rfl, d3.gr, World.ownsRow_nil _ _ _ _⟩
      case round =>
        obtain ⟨k, xs, hk, rfl, rfl, hx, HF, g, HOW⟩ := hrel
        obtain ⟨d, rfl⟩ := ext_mk g
        by_cases hlt : k < rs.length
        · rcases hrow with rfl | ⟨rb, o, rfl, hb, hM, hcs⟩
          · simp at hlt
          obtain ⟨c1, c2, c3⟩ := hcs k hlt
          have HS := hide (foldR_take hlt l b (-2))
          rw [HF.out] at HS
          clear hcs
          generalize rs[k] = r at *
          obtain ⟨rl, rbb, rh⟩ := r
          simp only at c1 c2 c3
          have e3 : ((rl == l) = true ∧ (rbb == b) = true ∧ Hid (sameB (rl, rbb, rh) l b = true)) ∨ ((rl == l) = false ∧ Hid (sameB (rl, rbb, rh) l b = false)) ∨ ((rl == l) = true ∧ (rbb == b) = false ∧ Hid (sameB (rl, rbb, rh) l b = false)) := by
            unfold Hid sameB
            cases h1 : rl == l <;> cases h2 : rbb == b <;> simp at h1 h2 <;> simp [h1, h2]
          rcases e3 with ⟨s1, s2, es⟩ | ⟨s1, es⟩ | ⟨s1, s2, es⟩
          · have HR : Hid (foldR (rs.take (k + 1)) l b (-2) = (xs, true)) := by unfold Hid; rw [HS.out]; simp [stepR, es.out]
            clear HS HF es
            go_wp2_with fail
            refine wp_region_ext (by kernel_rfl) (by kernel_rfl) ?_
            repeat (go_big_quiet_step (fail))
            refine wpQuiet_nil ?_
            rintro _ ⟨d4, rfl⟩
            have O4 := hide (ownR_gr HOW.out d4.gr)
            have g4 : Gr W d4.out := d.gr.ext d4
            generalize d4.out = w4 at O4 g4 ⊢
            obtain ⟨d5, rfl⟩ := ext_mk g4
            go_wp2
            go_roundw
            case rel => exact ⟨k + 1, xs, by omega, by go_num, rfl, by omega, HR, d5.gr, O4.out⟩
            case measure => simp [intOf]; omega
          all_goals
            have HR : Hid (foldR (rs.take (k + 1)) l b (-2) = (xs ++ [(rl, rbb, rh)], true)) := by unfold Hid; rw [HS.out]; simp [stepR, es.out]
            clear HS HF es
            go_wp2_with fail
            refine wp_region_ext (by kernel_rfl) (by kernel_rfl) ?_
            repeat (go_big_quiet_step (fail))
            refine wpQuiet_nil ?_
            rintro _ ⟨d4, rfl⟩
            have O4 := hide (ownR_gr HOW.out d4.gr)
            have g4 : Gr W d4.out := d.gr.ext d4
            clear HOW
            generalize d4.out = w4 at O4 g4 ⊢
            obtain ⟨d5, rfl⟩ := ext_mk g4
            go_wp2
            refine wp_region_ext (by kernel_rfl) (by kernel_rfl) ?_
            repeat (go_big_quiet_step (fail))
            refine wpQuiet_nil ?_
            rintro _ ⟨d6, rfl⟩
            have O6 := hide (ownR_gr O4.out d6.gr)
            have g6 : Gr W d6.out := d5.gr.ext d6
            clear O4
            generalize d6.out = w6 at O6 g6 ⊢
            obtain ⟨d7, rfl⟩ := ext_mk g6
            go_wp2_with (at_builtin; refine wpList_app_route (rl, rbb, rh) d7 rfl _ _ rfl _ xs rfl rfl O6.out (by omega) ?_; intro v8 d8 O8)
            go_roundw
            case rel => exact ⟨k + 1, xs ++ [(rl, rbb, rh)], by omega, by go_num, rfl, by simp; omega, HR, d8.gr, O8⟩
            case measure => simp [intOf]; omega
        · have HE : Hid (res = xs) := by unfold Hid; rw [← HOUT.out]; have := HF.out; rw [List.take_of_length_le (by omega)] at this; unfold outR; rw [this]; simp
          obtain ⟨ao', c', rfl, hbb⟩ := ownR_shape HOW.out
          have hr0 := rowAt_own (M := fun k => M k ∨ w.heap.size ≤ k) HOW.out (fun a ha => .inr (Nat.le_trans (Below.size g0) (hbb a ha)))
          have hr := hr0.1
          have hcap := hr0.2.2.1
          clear hr0
          clear HF HOW hbb hrow H
          go_wp2
          go_ret2
          refine ⟨ao', c', ?_, fun _ => ?_, ?_, ext_mk (g0.ext d)⟩
          · rw [HE.out]; rfl
          · rw [HE.out]; exact hcap
          · rw [HE.out]; exact hr
    · rcases ways with ⟨⟨e1, e1'⟩, HH, e2⟩ | ⟨⟨e1, e1'⟩, HH, e2, e3⟩
      all_goals
        go_enter Tryz.func54, Tryz.ntmps54
        go_wp2_with (first | (go_at_call 104; rw [← HW.out]; refine (isp_is HO.out _).mono ?_; rintro e _ ⟨rfl, d1, rfl⟩) | (go_at_call 105; refine (Calls.ext_of (isHop_is HH.out _)).mono ?_; rintro e _ ⟨rfl, d2, rfl⟩) | (go_at_call 106; refine (Calls.ext_of (HG.out _)).mono ?_; rintro e _ ⟨rfl, d3, rfl⟩))
        go_loopw [9, 10, 11] (fun out put i wr => ∃ (k : Nat) (xs : List Rt) (pb : Bool), k ≤ rs.length ∧ i = .int .i64 k ∧ put = .bool pb ∧ xs.length ≤ 2 * k ∧ Hid (foldR (rs.take k) l b h = (xs, pb)) ∧ Gr W wr ∧ Hid (wr.ownsRow W.heap.size 133 3 out xs.length (cels xs))) (fun _ _ i _ => rs.length - (intOf i).toNat)
        case atStart => exact ⟨0, [], false, by omega, rfl, rfl, by simp, by unfold Hid foldR; simp [e1], d3.gr, World.ownsRow_nil _ _ _ _⟩
        case round =>
          obtain ⟨k, xs, pb, hk, rfl, rfl, hx, HF, g, HOW⟩ := hrel
          obtain ⟨d, rfl⟩ := ext_mk g
          by_cases hlt : k < rs.length
          · rcases hrow with rfl | ⟨rb, o, rfl, hb, hM, hcs⟩
            · simp at hlt
            obtain ⟨c1, c2, c3⟩ := hcs k hlt
            have HS := hide (foldR_take hlt l b h)
            rw [HF.out] at HS
            clear hcs
            generalize rs[k] = r at *
            obtain ⟨rl, rbb, rh⟩ := r
            simp only at c1 c2 c3
            have e3 : ((rl == l) = true ∧ (rbb == b) = true ∧ Hid (sameB (rl, rbb, rh) l b = true)) ∨ ((rl == l) = false ∧ Hid (sameB (rl, rbb, rh) l b = false)) ∨ ((rl == l) = true ∧ (rbb == b) = false ∧ Hid (sameB (rl, rbb, rh) l b = false)) := by
              unfold Hid sameB
              cases h1 : rl == l <;> cases h2 : rbb == b <;> simp at h1 h2 <;> simp [h1, h2]
            rcases e3 with ⟨s1, s2, es⟩ | e3
            · have HR : Hid (foldR (rs.take (k + 1)) l b h = (xs, pb)) := by unfold Hid; rw [HS.out]; simp [stepR, es.out]
              clear HS HF es
              go_wp2_with fail
              refine wp_region_ext (by kernel_rfl) (by kernel_rfl) ?_
              repeat (go_big_quiet_step (fail))
              refine wpQuiet_nil ?_
              rintro _ ⟨d4, rfl⟩
              have O4 := hide (ownR_gr HOW.out d4.gr)
              have g4 : Gr W d4.out := d.gr.ext d4
              clear HOW
              generalize d4.out = w4 at O4 g4 ⊢
              obtain ⟨d5, rfl⟩ := ext_mk g4
              go_wp2
              go_roundw
              case rel => exact ⟨k + 1, xs, pb, by omega, by go_num, rfl, by omega, HR, d5.gr, O4.out⟩
              case measure => simp [intOf]; omega
            · have hw3 : Hid (sameB (rl, rbb, rh) l b = false) := by rcases e3 with ⟨_, es⟩ | ⟨_, _, es⟩ <;> exact es
              have hp : pb = true ∨ (pb = false ∧ Hid (lessB l b rl rbb = false)) ∨ (pb = false ∧ Hid (lessB l b rl rbb = true)) := by
                cases pb
                · cases hq : lessB l b rl rbb
                  · exact .inr (.inl ⟨rfl, rfl⟩)
                  · exact .inr (.inr ⟨rfl, rfl⟩)
                · exact .inl rfl
              rcases hp with rfl | ⟨rfl, HLS⟩ | ⟨rfl, HLS⟩
              · have HR : Hid (foldR (rs.take (k + 1)) l b h = (xs ++ [(rl, rbb, rh)], true)) := by unfold Hid; rw [HS.out]; simp [stepR, hw3.out]
                clear HS HF hw3
                rcases e3 with ⟨s1, es⟩ | ⟨s1, s2, es⟩
                all_goals
                  go_wp2_with fail
                  refine wp_region_ext (by kernel_rfl) (by kernel_rfl) ?_
                  repeat (go_big_quiet_step (fail))
                  refine wpQuiet_nil ?_
                  rintro _ ⟨d4, rfl⟩
                  have O4 := hide (ownR_gr HOW.out d4.gr)
                  have g4 : Gr W d4.out := d.gr.ext d4
                  clear HOW
                  generalize d4.out = w4 at O4 g4 ⊢
                  obtain ⟨d5, rfl⟩ := ext_mk g4
                  go_wp2
                  refine wp_region_ext (by kernel_rfl) (by kernel_rfl) ?_
                  repeat (go_big_quiet_step (fail))
                  refine wpQuiet_nil ?_
                  rintro _ ⟨d6, rfl⟩
                  have O6 := hide (ownR_gr O4.out d6.gr)
                  have g6 : Gr W d6.out := d5.gr.ext d6
                  clear O4
                  generalize d6.out = w6 at O6 g6 ⊢
                  obtain ⟨d7, rfl⟩ := ext_mk g6
                  go_wp2_with (at_builtin; refine wpList_app_route (rl, rbb, rh) d7 rfl _ _ rfl _ xs rfl rfl O6.out (by omega) ?_; intro v8 d8 O8)
                  go_roundw
                  case rel => exact ⟨k + 1, xs ++ [(rl, rbb, rh)], true, by omega, by go_num, rfl, by simp; omega, HR, d8.gr, O8⟩
                  case measure => simp [intOf]; omega
              · have HR : Hid (foldR (rs.take (k + 1)) l b h = (xs ++ [(rl, rbb, rh)], false)) := by unfold Hid; rw [HS.out]; simp [stepR, hw3.out, HLS.out]
                clear HS HF hw3
                rcases e3 with ⟨s1, es⟩ | ⟨s1, s2, es⟩
                all_goals
                  go_wp2_with fail
                  refine wp_region_ext (by kernel_rfl) (by kernel_rfl) ?_
                  repeat (go_big_quiet_step (fail))
                  refine wpQuiet_nil ?_
                  rintro _ ⟨d4, rfl⟩
                  have O4 := hide (ownR_gr HOW.out d4.gr)
                  have g4 : Gr W d4.out := d.gr.ext d4
                  clear HOW
                  generalize d4.out = w4 at O4 g4 ⊢
                  obtain ⟨d5, rfl⟩ := ext_mk g4
                  go_wp2
                  refine wp_region_ext (by kernel_rfl) (by kernel_rfl) ?_
                  repeat (go_big_quiet_step ((go_at_call 107; with_reducible exact Calls.ext_of (rless_is HLS.out _))))
                  refine wpQuiet_nil ?_
                  rintro _ ⟨d6, rfl⟩
                  have O6 := hide (ownR_gr O4.out d6.gr)
                  have g6 : Gr W d6.out := d5.gr.ext d6
                  clear O4
                  generalize d6.out = w6 at O6 g6 ⊢
                  obtain ⟨d7, rfl⟩ := ext_mk g6
                  go_wp2_with (at_builtin; refine wpList_app_route (rl, rbb, rh) d7 rfl _ _ rfl _ xs rfl rfl O6.out (by omega) ?_; intro v8 d8 O8)
                  go_roundw
                  case rel => exact ⟨k + 1, xs ++ [(rl, rbb, rh)], false, by omega, by go_num, rfl, by simp; omega, HR, d8.gr, O8⟩
                  case measure => simp [intOf]; omega
              · have HR : Hid (foldR (rs.take (k + 1)) l b h = (xs ++ [(l, b, h)] ++ [(rl, rbb, rh)], true)) := by unfold Hid; rw [HS.out]; simp [stepR, hw3.out, HLS.out]
                clear HS HF hw3
                rcases e3 with ⟨s1, es⟩ | ⟨s1, s2, es⟩
                all_goals
                  go_wp2_with fail
                  refine wp_region_ext (by kernel_rfl) (by kernel_rfl) ?_
                  repeat (go_big_quiet_step (fail))
                  refine wpQuiet_nil ?_
                  rintro _ ⟨d4, rfl⟩
                  have O4 := hide (ownR_gr HOW.out d4.gr)
                  have g4 : Gr W d4.out := d.gr.ext d4
                  clear HOW
                  generalize d4.out = w4 at O4 g4 ⊢
                  obtain ⟨d5, rfl⟩ := ext_mk g4
                  go_wp2
                  refine wp_region_ext (by kernel_rfl) (by kernel_rfl) ?_
                  repeat (go_big_quiet_step ((go_at_call 107; with_reducible exact Calls.ext_of (rless_is HLS.out _))))
                  refine wpQuiet_nil ?_
                  rintro _ ⟨d6, rfl⟩
                  have O6 := hide (ownR_gr O4.out d6.gr)
                  have g6 : Gr W d6.out := d5.gr.ext d6
                  clear O4
                  generalize d6.out = w6 at O6 g6 ⊢
                  obtain ⟨d7, rfl⟩ := ext_mk g6
                  go_wp2_with (first | (at_builtin; refine wpList_app_route (l, b, h) d7 rfl (.tmp 69) (.tmp 73) rfl _ xs rfl rfl O6.out (by omega) ?_; intro v8 d8 O8) | (at_builtin; refine wpList_app_route (rl, rbb, rh) d8 rfl (.tmp 75) (.tmp 80) rfl _ (xs ++ [(l, b, h)]) rfl rfl O8 (by simp; omega) ?_; intro v9 d9 O9))
                  go_roundw
                  case rel => exact ⟨k + 1, xs ++ [(l, b, h)] ++ [(rl, rbb, rh)], true, by omega, by go_num, rfl, by simp; omega, HR, d9.gr, O9⟩
                  case measure => simp [intOf]; omega
          · cases pb
            · have HE : Hid (res = xs ++ [(l, b, h)]) := by unfold Hid; rw [← HOUT.out]; have := HF.out; rw [List.take_of_length_le (by omega)] at this; unfold outR; rw [this]; simp
              clear HF hrow H
              go_wp2_with (at_builtin; refine wpList_app_route (l, b, h) d rfl _ _ rfl _ xs rfl rfl HOW.out (by omega) ?_; intro v8 d8 O8)
              obtain ⟨ao', c', rfl, hbb⟩ := ownR_shape O8
              have hr0 := rowAt_own (M := fun k => M k ∨ w.heap.size ≤ k) O8 (fun a ha => .inr (Nat.le_trans (Below.size g0) (hbb a ha)))
              have hr := hr0.1
              have hcap := hr0.2.2.1
              clear hr0
              go_ret2
              refine ⟨ao', c', ?_, fun _ => ?_, ?_, ext_mk (g0.ext d8)⟩
              · rw [HE.out]; rfl
              · rw [HE.out]; exact hcap
              · rw [HE.out]; exact hr
            · have HE : Hid (res = xs) := by unfold Hid; rw [← HOUT.out]; have := HF.out; rw [List.take_of_length_le (by omega)] at this; unfold outR; rw [this]; simp
              obtain ⟨ao', c', rfl, hbb⟩ := ownR_shape HOW.out
              have hr0 := rowAt_own (M := fun k => M k ∨ w.heap.size ≤ k) HOW.out (fun a ha => .inr (Nat.le_trans (Below.size g0) (hbb a ha)))
              have hr := hr0.1
              have hcap := hr0.2.2.1
              clear hr0
              clear HF HOW hbb hrow H
              go_wp2
              go_ret2
              refine ⟨ao', c', ?_, fun _ => ?_, ?_, ext_mk (g0.ext d)⟩
              · rw [HE.out]; rfl
              · rw [HE.out]; exact hcap
              · rw [HE.out]; exact hr

end Go.Proofs.YtfcknkanbcndjagGreatDoor
