/- CONTRACT OF handpostref.RoutesFault. -/
import Derived.Test.YtajcdfnfbmahdaaD1
namespace Go.Proofs.Ytajcdfnfbmahdaa
open Go.RowKit
attribute [local go_sem] Ext.all Ext.cell Ext.frozen Ext.lt Ext.lt1 Ext.lt2 Ext.ne Ext.ne'

set_option maxRecDepth 20000 in
set_option maxHeartbeats 2000000 in
theorem rfault_any (w : World) (M : Nat → Prop) (ao : Option Addr) (n c : Nat) (rs : List Rt) (H : RowAt w M ao rs) (hn : rs.length = n) :
    Calls Try.prog 42 #[.slice ao n c] w fun e w' => e = .returned (.int .i64 (chkL rs)) ∧ ∃ d : Ext w, w' = d.out := by
  by_cases h40 : 40 < n
  · have e : chkL rs = 3 := by unfold chkL; rw [if_pos (by omega)]
    rw [e]
    go_enter Try.func42, Try.ntmps42
    go_wp2
    go_ret
    exact ⟨rfl, ext_mk (Gr.refl _)⟩
  have HC : Hid (chkL rs = chkGo none rs) := by unfold Hid chkL; rw [if_neg (by omega)]
  go_enter Try.func42, Try.ntmps42
  go_wp2
  go_loopw [3] (fun i wr => ∃ k : Nat, k ≤ n ∧ i = .int .i64 k ∧ Hid (chkGo (prevL rs k) (rs.drop k) = chkL rs) ∧ Gr w wr) (fun i _ => n - (intOf i).toNat)
  case atStart => exact ⟨0, by omega, rfl, HC.out.symm, Gr.refl _⟩
  case round =>
    obtain ⟨k, hk, rfl, HL, g⟩ := hrel
    obtain ⟨d, rfl⟩ := ext_mk g
    by_cases hlt : k < n
    · have hkr : k < rs.length := by omega
      rcases H with rfl | ⟨rb, o, rfl, hb, hM, hcs⟩
      · simp at hkr
      obtain ⟨c1, c2, c3⟩ := hcs k hkr
      have HS := hide (chkGo_drop hkr)
      have hprev : k = 0 ∨ ∃ (j : Nat) (q : Rt), k = j + 1 ∧ prevL rs k = some q ∧ w.cell? ⟨rb, o + j * 3, none⟩ = some (iv q.1) ∧ w.cell? ⟨rb, o + j * 3 + 1, none⟩ = some (iv q.2.1) := by
        rcases Nat.eq_zero_or_pos k with h0 | h0
        · exact .inl h0
        · obtain ⟨j, rfl⟩ : ∃ j, k = j + 1 := ⟨k - 1, by omega⟩
          have hj := hcs j (by omega)
          exact .inr ⟨j, rs[j], rfl, prevL_succ (by omega), hj.1, hj.2.1⟩
      clear hcs
      generalize rs[k] = r at *
      obtain ⟨rl, rbb, rh⟩ := r
      simp only at c1 c2 c3
      by_cases hbad : okB rl rbb = false ∨ hopB rh = false
      · have HR : Hid (1 = chkL rs) := by unfold Hid; rw [← HL.out, HS.out]; unfold fltL; simp [hbad]
        clear HS HL hprev
        cases ho : okB rl rbb
        · have HO := hide ho
          clear ho hbad
          go_wp2_with (go_at_call 13; refine (Calls.ext_of (isp_is HO.out _)).mono ?_; rintro e _ ⟨rfl, d1, rfl⟩)
          go_ret
          exact ⟨ret_int HR.out, _, rfl⟩
        · have HO := hide ho
          have HH : Hid (hopB rh = false) := by rcases hbad with h | h; · rw [ho] at h; cases h
                                                · exact h
          clear ho hbad
          go_wp2_with (first | (go_at_call 13; refine (Calls.ext_of (isp_is HO.out _)).mono ?_; rintro e _ ⟨rfl, d1, rfl⟩) | (go_at_call 41; refine (Calls.ext_of (isHop_is HH.out _)).mono ?_; rintro e _ ⟨rfl, d2, rfl⟩))
          go_ret
          exact ⟨ret_int HR.out, _, rfl⟩
      · have HO : Hid (okB rl rbb = true) := by unfold Hid; cases e : okB rl rbb with | true => rfl | false => exact absurd (.inl e) hbad
        have HH : Hid (hopB rh = true) := by unfold Hid; cases e : hopB rh with | true => rfl | false => exact absurd (.inr e) hbad
        clear hbad
        rcases hprev with rfl | ⟨j, q, hkj, hpq, p0, p1⟩
        · have HR : Hid (chkGo (prevL rs 1) (rs.drop 1) = chkL rs) := by unfold Hid; rw [← HL.out, HS.out]; unfold fltL; simp [HO.out, HH.out, prevL_zero]
          clear HS HL
          simp only [Nat.zero_mul, Nat.add_zero] at c1 c2 c3
          go_wp2_with (first | (go_at_call 13; refine (Calls.ext_of (isp_is HO.out _)).mono ?_; rintro e _ ⟨rfl, d1, rfl⟩) | (go_at_call 41; refine (Calls.ext_of (isHop_is HH.out _)).mono ?_; rintro e _ ⟨rfl, d2, rfl⟩))
          refine wp_region_ext_of (by kernel_rfl) (by kernel_rfl) ?_
          repeat (go_big_quiet_step (fail))
          refine wpQuiet_nil ?_
          rintro _ ⟨d3, rfl⟩
          go_wp2
          refine wp_region_ext_of (by kernel_rfl) (by kernel_rfl) ?_
          repeat (go_big_quiet_step (fail))
          refine wpQuiet_nil ?_
          rintro _ ⟨d4, rfl⟩
          go_wp2
          go_roundw
          case rel => exact ⟨1, by omega, by go_num, HR, d4.gr⟩
          case measure => simp [intOf]; omega
        · subst hkj
          have hwj : IntKind.i64.wrap (j : Int) = (j : Int) := by rw [IntKind.wrap_i64]; omega
          have hd : decide ((0 : Int) < (j : Int) + 1) = true := decide_eq_true (by omega)
          have hjn : (j : Int) < (n : Int) := by omega
          have hj0 : (0 : Int) ≤ (j : Int) := by omega
          have hj1 : (j : Int) + 1 < (n : Int) := by omega
          have hj2 : (0 : Int) ≤ (j : Int) + 1 := by omega
          have hj3 : ((j : Int) + 1).toNat = j + 1 := by omega
          obtain ⟨ql, qb, qh⟩ := q
          simp only at p0 p1
          have HP := hide hpq
          clear hpq
          have e3 : ((rl == ql) = true ∧ (rbb == qb) = true ∧ Hid (sameB (ql, qb, qh) rl rbb = true)) ∨ ((rl == ql) = false ∧ Hid (sameB (ql, qb, qh) rl rbb = false)) ∨ ((rl == ql) = true ∧ (rbb == qb) = false ∧ Hid (sameB (ql, qb, qh) rl rbb = false)) := by
            unfold Hid sameB
            by_cases h1 : rl = ql
            · by_cases h2 : rbb = qb
              · left; simp [h1, h2]
              · right; right; refine ⟨by simpa using h1, by simpa using h2, ?_⟩; simp; intro _; exact fun e => h2 e.symm
            · right; left; refine ⟨by simpa using h1, ?_⟩; simp; intro e; exact absurd e.symm h1
          rcases e3 with ⟨s2, s3, es⟩ | e3
          · have HR : Hid (5 = chkL rs) := by unfold Hid; rw [← HL.out, HS.out]; unfold fltL; simp [HO.out, HH.out, HP.out, es.out]
            clear HS HL es HP
            go_wp2_with (first | (go_at_call 13; refine (Calls.ext_of (isp_is HO.out _)).mono ?_; rintro e _ ⟨rfl, d1, rfl⟩) | (go_at_call 41; refine (Calls.ext_of (isHop_is HH.out _)).mono ?_; rintro e _ ⟨rfl, d2, rfl⟩))
            refine wp_region_ext_of (by kernel_rfl) (by kernel_rfl) ?_
            repeat (go_big_quiet_step (fail))
            refine wpQuiet_nil ?_
            rintro _ ⟨d3, rfl⟩
            go_wp2
            go_ret
            exact ⟨ret_int HR.out, _, rfl⟩
          · cases hls : lessB ql qb rl rbb
            · have HLS := hide hls
              have HR : Hid (4 = chkL rs) := by
                unfold Hid; rw [← HL.out, HS.out]; unfold fltL
                rcases e3 with ⟨_, es⟩ | ⟨_, _, es⟩ <;> simp [HO.out, HH.out, HP.out, es.out, hls]
              clear HS HL HP hls
              rcases e3 with ⟨s2, es⟩ | ⟨s2, s3, es⟩
              all_goals
                go_wp2_with (first | (go_at_call 13; refine (Calls.ext_of (isp_is HO.out _)).mono ?_; rintro e _ ⟨rfl, d1, rfl⟩) | (go_at_call 41; refine (Calls.ext_of (isHop_is HH.out _)).mono ?_; rintro e _ ⟨rfl, d2, rfl⟩))
                refine wp_region_ext_of (by kernel_rfl) (by kernel_rfl) ?_
                repeat (go_big_quiet_step (fail))
                refine wpQuiet_nil ?_
                rintro _ ⟨d3, rfl⟩
                go_wp2
                refine wp_region_ext_of (by kernel_rfl) (by kernel_rfl) ?_
                repeat (go_big_quiet_step ((go_at_call 22; with_reducible exact Calls.ext_of (rless_is HLS.out _))))
                refine wpQuiet_nil ?_
                rintro _ ⟨d4, rfl⟩
                go_wp2
                go_ret
                exact ⟨ret_int HR.out, _, rfl⟩
            · have HLS := hide hls
              have HR : Hid (chkGo (prevL rs (j + 1 + 1)) (rs.drop (j + 1 + 1)) = chkL rs) := by
                unfold Hid; rw [← HL.out, HS.out]; unfold fltL
                rcases e3 with ⟨_, es⟩ | ⟨_, _, es⟩ <;> simp [HO.out, HH.out, HP.out, es.out, hls]
              clear HS HL HP hls
              rcases e3 with ⟨s2, es⟩ | ⟨s2, s3, es⟩
              all_goals
                go_wp2_with (first | (go_at_call 13; refine (Calls.ext_of (isp_is HO.out _)).mono ?_; rintro e _ ⟨rfl, d1, rfl⟩) | (go_at_call 41; refine (Calls.ext_of (isHop_is HH.out _)).mono ?_; rintro e _ ⟨rfl, d2, rfl⟩))
                refine wp_region_ext_of (by kernel_rfl) (by kernel_rfl) ?_
                repeat (go_big_quiet_step (fail))
                refine wpQuiet_nil ?_
                rintro _ ⟨d3, rfl⟩
                go_wp2
                refine wp_region_ext_of (by kernel_rfl) (by kernel_rfl) ?_
                repeat (go_big_quiet_step ((go_at_call 22; with_reducible exact Calls.ext_of (rless_is HLS.out _))))
                refine wpQuiet_nil ?_
                rintro _ ⟨d4, rfl⟩
                go_wp2
                go_roundw
                case rel => exact ⟨j + 1 + 1, by omega, by go_num, HR, d4.gr⟩
                case measure => simp [intOf]; omega
    · have HR : Hid (0 = chkL rs) := by unfold Hid; rw [← HL.out, List.drop_of_length_le (by omega)]; rfl
      clear HL H
      go_wp2
      go_ret
      exact ⟨ret_int HR.out, _, rfl⟩

end Go.Proofs.Ytajcdfnfbmahdaa
