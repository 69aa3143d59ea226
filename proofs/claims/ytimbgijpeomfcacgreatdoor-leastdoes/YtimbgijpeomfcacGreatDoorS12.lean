import Derived.Test.YtimbgijpeomfcacGreatDoorS10
import Derived.Test.YtimbgijpeomfcacGreatDoorPlainAll
/- CONTRACTS: table.Check, table.Of. -/
namespace Go.Proofs.YtimbgijpeomfcacGreatDoor
open Go.RowKit
attribute [local go_sem] Ext.all Ext.cell Ext.frozen Ext.lt Ext.lt1 Ext.lt2 Ext.ne Ext.ne'

theorem box3_gr (w : World) (r : Rt) : ∃ W, W = w.alloc (.cells #[iv r.1, iv r.2.1, iv r.2.2] 49) ∧ Gr w W ∧ W.cell? ⟨w.heap.size, 0, none⟩ = some (iv r.1) ∧ W.cell? ⟨w.heap.size, 1, none⟩ = some (iv r.2.1) ∧ W.cell? ⟨w.heap.size, 2, none⟩ = some (iv r.2.2) ∧ w.heap.size < W.heap.size := by
  refine ⟨_, rfl, (Gr.refl w).alloc _, ?_, ?_, ?_, ?_⟩ <;> simp [go_sem]

set_option maxRecDepth 20000 in
set_option maxHeartbeats 2000000 in
theorem check2_any (w : World) (M : Nat → Prop) (ao : Option Addr) (n c : Nat) (rs : List Rt) (H : RowAt w M ao rs) (hn : rs.length = n) :
    Calls Tryz.prog 66 #[.slice ao n c] w fun e w' => e = .returned (.int .i64 (chkL rs)) ∧ ∃ d : Ext w, w' = d.out := by
  by_cases h40 : 40 < n
  · have e : chkL rs = 3 := by unfold chkL; rw [if_pos (by omega)]
    rw [e]
    go_enter Tryz.func66, Tryz.ntmps66
    go_wp2
    go_ret
    exact ⟨rfl, ext_mk (Gr.refl _)⟩
  have HC : Hid (chkL rs = chkGo none rs) := by unfold Hid chkL; rw [if_neg (by omega)]
  go_enter Tryz.func66, Tryz.ntmps66
  go_wp2
  go_loopw [10] (fun i wr => ∃ k : Nat, k ≤ n ∧ i = .int .i64 k ∧ Hid (chkGo (prevL rs k) (rs.drop k) = chkL rs) ∧ Gr w wr) (fun i _ => n - (intOf i).toNat)
  case atStart => exact ⟨0, by omega, rfl, HC.out.symm, Gr.refl _⟩
  case round =>
    obtain ⟨k, hk, rfl, HL, g⟩ := hrel
    by_cases hlt : k < n
    · have hkr : k < rs.length := by omega
      rcases H with rfl | ⟨rb, o, rfl, hb, hM, hcs⟩
      · simp at hkr
      obtain ⟨c1, c2, c3⟩ := hcs k hkr
      have HS := hide (chkGo_drop hkr)
      obtain ⟨W1, hW1, g1, b0, b1, b2, s1⟩ := box3_gr wr rs[k]
      have HW1 := hide hW1
      clear hW1
      have gw1 : Gr w W1 := g.trans g1
      have hb1 : rb < W1.heap.size := Nat.lt_of_lt_of_le hb (Below.size gw1)
      have oldc : ∀ q, W1.cell? ⟨rb, q, none⟩ = w.cell? ⟨rb, q, none⟩ := fun q => Below.cell gw1 (p := ⟨rb, q, none⟩) hb
      have oldr : ∀ q, wr.cell? ⟨rb, q, none⟩ = w.cell? ⟨rb, q, none⟩ := fun q => Below.cell g (p := ⟨rb, q, none⟩) hb
      rw [← oldr] at c1 c2 c3
      have hprev : k = 0 ∨ ∃ (j : Nat) (q : Rt), k = j + 1 ∧ prevL rs k = some q ∧ W1.cell? ⟨rb, o + j * 3, none⟩ = some (iv q.1) ∧ W1.cell? ⟨rb, o + j * 3 + 1, none⟩ = some (iv q.2.1) := by
        rcases Nat.eq_zero_or_pos k with h0 | h0
        · exact .inl h0
        · obtain ⟨j, rfl⟩ : ∃ j, k = j + 1 := ⟨k - 1, by omega⟩
          have hj := hcs j (by omega)
          refine .inr ⟨j, rs[j], rfl, prevL_succ (by omega), ?_, ?_⟩
          · rw [oldc]; exact hj.1
          · rw [oldc]; exact hj.2.1
      clear hcs oldc oldr
      generalize rs[k] = r at *
      obtain ⟨rl, rbb, rh⟩ := r
      simp only at c1 c2 c3 b0 b1 b2
      by_cases hbad : okB rl rbb = false ∨ hopB rh = false
      · have HR : Hid (1 = chkL rs) := by unfold Hid; rw [← HL.out, HS.out]; unfold fltL; simp [hbad]
        clear HS HL hprev
        cases ho : okB rl rbb
        · have HO := hide ho
          clear ho hbad
          go_wp2_with (go_at_call 35; rw [← HW1.out]; refine (check_is HO.out _).mono ?_; rintro e _ ⟨rfl, d1, rfl⟩)
          go_ret
          exact ⟨ret_int HR.out, ext_mk (gw1.ext d1)⟩
        · have HO := hide ho
          have HH : Hid (hopB rh = false) := by rcases hbad with h | h; · rw [ho] at h; cases h
                                                · exact h
          clear ho hbad
          go_wp2_with (first | (go_at_call 35; rw [← HW1.out]; refine (check_is HO.out _).mono ?_; rintro e _ ⟨rfl, d1, rfl⟩) | (go_at_call 36; refine (Calls.ext_of (hop_is HH.out _)).mono ?_; rintro e _ ⟨rfl, d2, rfl⟩))
          go_ret
          exact ⟨ret_int HR.out, ext_mk (gw1.ext d2)⟩
      · have HO : Hid (okB rl rbb = true) := by unfold Hid; cases e : okB rl rbb with | true => rfl | false => exact absurd (.inl e) hbad
        have HH : Hid (hopB rh = true) := by unfold Hid; cases e : hopB rh with | true => rfl | false => exact absurd (.inr e) hbad
        clear hbad
        rcases hprev with rfl | ⟨j, q, hkj, hpq, p0, p1⟩
        · have HR : Hid (chkGo (prevL rs 1) (rs.drop 1) = chkL rs) := by unfold Hid; rw [← HL.out, HS.out]; unfold fltL; simp [HO.out, HH.out, prevL_zero]
          clear HS HL
          simp only [Nat.zero_mul, Nat.add_zero] at c1 c2 c3
          go_wp2_with (first | (go_at_call 35; rw [← HW1.out]; refine (check_is HO.out _).mono ?_; rintro e _ ⟨rfl, d1, rfl⟩) | (go_at_call 36; refine (Calls.ext_of (hop_is HH.out _)).mono ?_; rintro e _ ⟨rfl, d2, rfl⟩))
          refine wp_region_ext_of (by kernel_rfl) (by kernel_rfl) ?_
          repeat (go_big_quiet_step (fail))
          refine wpQuiet_nil ?_
          rintro _ ⟨d3, rfl⟩
          go_wp2
          refine wp_region_ext_of (by kernel_rfl) (by kernel_rfl) ?_
          repeat (go_big_quiet_step (fail))
          refine wpQuiet_nil ?_
          rintro _ ⟨d4, rfl⟩
          go_wp2
          go_roundw
          case rel => exact ⟨1, by omega, by go_num, HR, gw1.ext d4⟩
          case measure => simp [intOf]; omega
        · subst hkj
          have hwj : IntKind.i64.wrap (j : Int) = (j : Int) := by rw [IntKind.wrap_i64]; omega
          have hd : decide ((0 : Int) < (j : Int) + 1) = true := decide_eq_true (by omega)
          have hjn : (j : Int) < (n : Int) := by omega
          have hj0 : (0 : Int) ≤ (j : Int) := by omega
          obtain ⟨ql, qb, qh⟩ := q
          simp only at p0 p1
          have HP := hide hpq
          clear hpq
          have e3 : ((ql == rl) = true ∧ (qb == rbb) = true ∧ Hid (sameB (ql, qb, qh) rl rbb = true)) ∨ ((ql == rl) = false ∧ Hid (sameB (ql, qb, qh) rl rbb = false)) ∨ ((ql == rl) = true ∧ (qb == rbb) = false ∧ Hid (sameB (ql, qb, qh) rl rbb = false)) := by
            unfold Hid sameB
            cases h1 : ql == rl <;> cases h2 : qb == rbb <;> simp at h1 h2 <;> simp [h1, h2]
          rcases e3 with ⟨s2, s3, es⟩ | e3
          · have HR : Hid (5 = chkL rs) := by unfold Hid; rw [← HL.out, HS.out]; unfold fltL; simp [HO.out, HH.out, HP.out, es.out]
            clear HS HL es HP
            go_wp2_with (first | (go_at_call 35; rw [← HW1.out]; refine (check_is HO.out _).mono ?_; rintro e _ ⟨rfl, d1, rfl⟩) | (go_at_call 36; refine (Calls.ext_of (hop_is HH.out _)).mono ?_; rintro e _ ⟨rfl, d2, rfl⟩))
            refine wp_region_ext_of (by kernel_rfl) (by kernel_rfl) ?_
            repeat (go_big_quiet_step (fail))
            refine wpQuiet_nil ?_
            rintro _ ⟨d3, rfl⟩
            go_wp2
            go_ret
            exact ⟨ret_int HR.out, ext_mk (gw1.ext d3)⟩
          · cases hls : lessB ql qb rl rbb
            · have HLS := hide hls
              have HR : Hid (4 = chkL rs) := by
                unfold Hid; rw [← HL.out, HS.out]; unfold fltL
                rcases e3 with ⟨_, es⟩ | ⟨_, _, es⟩ <;> simp [HO.out, HH.out, HP.out, es.out, hls]
              clear HS HL HP hls
              rcases e3 with ⟨s2, es⟩ | ⟨s2, s3, es⟩
              all_goals
                go_wp2_with (first | (go_at_call 35; rw [← HW1.out]; refine (check_is HO.out _).mono ?_; rintro e _ ⟨rfl, d1, rfl⟩) | (go_at_call 36; refine (Calls.ext_of (hop_is HH.out _)).mono ?_; rintro e _ ⟨rfl, d2, rfl⟩))
                refine wp_region_ext_of (by kernel_rfl) (by kernel_rfl) ?_
                repeat (go_big_quiet_step (fail))
                refine wpQuiet_nil ?_
                rintro _ ⟨d3, rfl⟩
                go_wp2
                refine wp_region_ext_of (by kernel_rfl) (by kernel_rfl) ?_
                repeat (go_big_quiet_step ((go_at_call 53; with_reducible exact Calls.ext_of (less_is HLS.out _))))
                refine wpQuiet_nil ?_
                rintro _ ⟨d4, rfl⟩
                go_wp2
                go_ret
                exact ⟨ret_int HR.out, ext_mk (gw1.ext d4)⟩
            · have HLS := hide hls
              have HR : Hid (chkGo (prevL rs (j + 1 + 1)) (rs.drop (j + 1 + 1)) = chkL rs) := by
                unfold Hid; rw [← HL.out, HS.out]; unfold fltL
                rcases e3 with ⟨_, es⟩ | ⟨_, _, es⟩ <;> simp [HO.out, HH.out, HP.out, es.out, hls]
              clear HS HL HP hls
              rcases e3 with ⟨s2, es⟩ | ⟨s2, s3, es⟩
              all_goals
                go_wp2_with (first | (go_at_call 35; rw [← HW1.out]; refine (check_is HO.out _).mono ?_; rintro e _ ⟨rfl, d1, rfl⟩) | (go_at_call 36; refine (Calls.ext_of (hop_is HH.out _)).mono ?_; rintro e _ ⟨rfl, d2, rfl⟩))
                refine wp_region_ext_of (by kernel_rfl) (by kernel_rfl) ?_
                repeat (go_big_quiet_step (fail))
                refine wpQuiet_nil ?_
                rintro _ ⟨d3, rfl⟩
                go_wp2
                refine wp_region_ext_of (by kernel_rfl) (by kernel_rfl) ?_
                repeat (go_big_quiet_step ((go_at_call 53; with_reducible exact Calls.ext_of (less_is HLS.out _))))
                refine wpQuiet_nil ?_
                rintro _ ⟨d4, rfl⟩
                go_wp2
                go_roundw
                case rel => exact ⟨j + 1 + 1, by omega, by go_num, HR, gw1.ext d4⟩
                case measure => simp [intOf]; omega
    · have HR : Hid (0 = chkL rs) := by unfold Hid; rw [← HL.out, List.drop_of_length_le (by omega)]; rfl
      clear HL H
      obtain ⟨d, rfl⟩ := ext_mk g
      go_wp2
      go_ret
      exact ⟨ret_int HR.out, _, rfl⟩

/-- What Of leaves: a table of these routes in new memory, or nil. -/
theorem of_any (w : World) (M : Nat → Prop) (ao : Option Addr) (n c : Nat) (rs : List Rt) (H : RowAt w M ao rs) (hn : rs.length = n) (hc : chkL rs = 0) :
    Calls Tryz.prog 48 #[.slice ao n c] w fun e w' => ∃ tb v, e = .returned (.tuple #[.pointer (some ⟨tb, 0, none⟩), .int .i64 0]) ∧ TabS w' (fun k => k < w.heap.size) tb v rs ∧ ∃ d : Ext w, w' = d.out := by
  have hT := chk_tab hc
  have hlen := hT.len
  have HC := hide (check2_any w M ao n c rs H hn)
  rw [hc] at HC
  have HA : Hid (∀ d : Ext w, ∃ v' w', (Builtin.append_ #[22, 22] 22 #[.slice none 0 0, .slice ao n c]).run Tryz.prog d.out = .ok v' w' ∧ w'.ownsRow d.out.heap.size 49 3 v' n (cels rs) ∧ d.out.grownBy w' none) := fun d => run_append_new d.out M 22 ao n c rs (H.gr d.gr) hn (by omega)
  clear H
  go_enter Tryz.func48, Tryz.ntmps48
  go_wp2_with (first | (go_at_call 66; refine HC.out.mono ?_; rintro e _ ⟨rfl, d1, rfl⟩; obtain ⟨v2, w2, hr, ho, hg⟩ := HA.out d1; have HR := hide hr; have HO := hide ho; clear hr ho) | (at_builtin; refine Lib.wpList_append_run _ rfl _ _ _ _ rfl _ _ rfl rfl _ _ HR.out ?_; obtain ⟨ao2, c2, hv2, hb2⟩ := own_shape HO.out; subst hv2))
  go_ret2
  have gr2 : Gr w w2 := d1.gr.grown hg (fun k h => by cases h)
  have hs := Below.size d1.gr
  refine ⟨w2.heap.size, _, rfl, ⟨heap_alloc_new w2 _, ?_, ?_, ?_, ?_⟩, ext_mk (gr2.alloc _)⟩
  · rw [hn]; exact own_base (HO.out.alloc _)
  · have := Below.size gr2; omega
  · intro g hgk hlt
    have := (HO.out.lt g hgk).1
    omega
  · intro k hk
    have := Below.size gr2; simp; omega

theorem of_not (w : World) (M : Nat → Prop) (ao : Option Addr) (n c : Nat) (rs : List Rt) (H : RowAt w M ao rs) (hn : rs.length = n) (hc : chkL rs ≠ 0) :
    Calls Tryz.prog 48 #[.slice ao n c] w fun e w' => e = .returned (.tuple #[.pointer none, .int .i64 (chkL rs)]) ∧ ∃ d : Ext w, w' = d.out := by
  have HC := hide (check2_any w M ao n c rs H hn)
  generalize chkL rs = q at *
  have hq : (q == 0) = false := by simpa using hc
  go_enter Tryz.func48, Tryz.ntmps48
  go_wp2_with (go_at_call 66; refine HC.out.mono ?_; rintro e _ ⟨rfl, d1, rfl⟩)
  go_ret2
  exact ⟨rfl, _, rfl⟩

end Go.Proofs.YtimbgijpeomfcacGreatDoor

/- CONTRACTS OF tables, in short forms. -/
namespace Go.Proofs.YtimbgijpeomfcacGreatDoor
open Go.RowKit
attribute [local go_sem] Ext.all Ext.cell Ext.frozen Ext.lt Ext.lt1 Ext.lt2 Ext.ne Ext.ne'

theorem set_is {w : World} {M : Nat → Prop} {tb : Nat} {v : Value} {rs rs' : List Rt} {l b h code : Int} (S : TabS w M tb v rs) (hT : Tab rs) (e : setL rs l b h = (rs', code)) :
    Calls Tryz.prog 18 #[.pointer (some ⟨tb, 0, none⟩), pfx l b, .int .i64 h] w fun e w' => e = .returned (.int .i64 code) ∧ ∃ v', TabS w' M tb v' rs' ∧ Kp M w w' := by
  have := set_any w M tb v rs l b h S hT
  rw [e] at this
  exact this
theorem look_is {w : World} {M : Nat → Prop} {tb : Nat} {v : Value} {rs : List Rt} {a x : Int} (S : TabS w M tb v rs) (hm : rs.length ≤ 1000) (e : lookL rs a = x) (d : Ext w) :
    Calls Tryz.prog 60 #[.pointer (some ⟨tb, 0, none⟩), .int .i64 a] d.out fun e w' => e = .returned (.int .i64 x) ∧ ∃ d' : Ext d.out, w' = d'.out := by
  subst e
  have Sd := S.gr d.gr
  obtain ⟨ao, c, rfl, H⟩ := Sd.shape
  exact look_any d.out _ tb ao rs.length c rs a Sd.cell0 H rfl hm
theorem get_is {w : World} {M : Nat → Prop} {tb : Nat} {v : Value} {rs : List Rt} {l b x : Int} (S : TabS w M tb v rs) (hT : Tab rs) (e : getL rs l b = x) (d : Ext w) :
    Calls Tryz.prog 29 #[.pointer (some ⟨tb, 0, none⟩), pfx l b] d.out fun e w' => e = .returned (.int .i64 x) ∧ ∃ d' : Ext d.out, w' = d'.out := by
  subst e
  have Sd := S.gr d.gr
  obtain ⟨ao, c, rfl, H⟩ := Sd.shape
  exact get_any d.out _ tb ao rs.length c rs l b Sd.cell0 Sd.lt H rfl hT
theorem list_is {w : World} {M : Nat → Prop} {tb : Nat} {v : Value} {rs : List Rt} (S : TabS w M tb v rs) (hm : rs.length ≤ 1000) :
    Calls Tryz.prog 10 #[.pointer (some ⟨tb, 0, none⟩)] w fun e w' => ∃ ao' c', e = .returned (.slice ao' rs.length c') ∧ RowAt w' (fun k => w.heap.size ≤ k) ao' rs ∧ ∃ d : Ext w, w' = d.out := by
  obtain ⟨ao, c, rfl, H⟩ := S.shape
  exact list_any w _ tb ao rs.length c rs S.cell0 H rfl hm
theorem all_is {w : World} {M : Nat → Prop} {tb : Nat} {v : Value} {rs : List Rt} (S : TabS w M tb v rs) (hm : rs.length ≤ 1000) (d0 : Ext w) :
    Calls Tryz.prog 41 #[.pointer (some ⟨tb, 0, none⟩)] d0.out fun e w' => ∃ g, e = .returned (.slice (some ⟨g, 0, none⟩) 256 256) ∧ d0.out.heap.size ≤ g ∧ g < w'.heap.size ∧ (∀ j : Nat, j < 256 → w'.cell? ⟨g, j, none⟩ = some (iv (lookL rs j))) ∧ ∃ d : Ext w, w' = d.out := by
  have Sd := S.gr d0.gr
  obtain ⟨ao, c, rfl, H⟩ := Sd.shape
  refine (all_any d0.out _ tb ao rs.length c rs Sd.cell0 Sd.lt H rfl hm).mono ?_
  rintro e _ ⟨g, rfl, h1, h2, h3, d, rfl⟩
  exact ⟨g, rfl, h1, h2, h3, ext_mk (d0.gr.ext d)⟩

abbrev rsA : List Rt := [(1, 1, 3)]
abbrev rsB : List Rt := [(1, 1, 3), (2, 2, 4)]

end Go.Proofs.YtimbgijpeomfcacGreatDoor
