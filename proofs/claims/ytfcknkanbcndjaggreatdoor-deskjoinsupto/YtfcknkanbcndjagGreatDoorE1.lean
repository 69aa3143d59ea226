import Derived.Test.YtfcknkanbcndjagGreatDoorTPlain
import Derived.Test.YtfcknkanbcndjagGreatDoorS9
import Derived.Deep.DeepCutAuto
import Derived.Test.YtfcknkanbcndjagGreatDoorS5
import Derived.Deep.RegionHeld3
import Derived.Test.YtfcknkanbcndjagGreatDoorL1
/- WHAT IS TO BE A TABLE's LIST: the code of its first fault. No Go here. -/
namespace Go.Proofs.YtfcknkanbcndjagGreatDoor

/-- The fault of a route behind another one (or the first). -/
def fltL (p : Option Rt) (r : Rt) : Int :=
  if okB r.1 r.2.1 = false ∨ hopB r.2.2 = false then 1
  else match p with
  | none => 0
  | some q => if sameB q r.1 r.2.1 then 5 else if lessB q.1 q.2.1 r.1 r.2.1 then 0 else 4
def chkGo : Option Rt → List Rt → Int
  | _, [] => 0
  | p, r :: rs => if fltL p r = 0 then chkGo (some r) rs else fltL p r
def chkL (rs : List Rt) : Int := if 40 < rs.length then 3 else chkGo none rs

/-- The one ahead of place k. -/
def prevL (rs : List Rt) (k : Nat) : Option Rt := if k = 0 then none else rs[k - 1]?
theorem prevL_zero (rs : List Rt) : prevL rs 0 = none := rfl
theorem prevL_succ {rs : List Rt} {k : Nat} (hk : k < rs.length) : prevL rs (k + 1) = some rs[k] := by simp [prevL, hk]
theorem chkGo_drop {rs : List Rt} {k : Nat} (hk : k < rs.length) : chkGo (prevL rs k) (rs.drop k) = if fltL (prevL rs k) rs[k] = 0 then chkGo (prevL rs (k + 1)) (rs.drop (k + 1)) else fltL (prevL rs k) rs[k] := by
  conv => lhs; rw [List.drop_eq_getElem_cons hk]
  rw [prevL_succ hk]; rfl

theorem fltL_ok {p : Option Rt} {r : Rt} (h : fltL p r = 0) : okB r.1 r.2.1 = true ∧ hopB r.2.2 = true ∧ ∀ q, p = some q → lessB q.1 q.2.1 r.1 r.2.1 = true := by
  unfold fltL at h
  split at h
  · cases h
  · rename_i hn
    have h1 : okB r.1 r.2.1 = true := by cases e : okB r.1 r.2.1 with | true => rfl | false => exact absurd (.inl e) hn
    have h2 : hopB r.2.2 = true := by cases e : hopB r.2.2 with | true => rfl | false => exact absurd (.inr e) hn
    refine ⟨h1, h2, fun q hq => ?_⟩
    subst hq
    simp only at h
    split at h
    · cases h
    · split at h
      · assumption
      · cases h

theorem chkGo_tab : ∀ (rs : List Rt) (p : Option Rt), chkGo p rs = 0 → (∀ r ∈ rs, okB r.1 r.2.1 = true ∧ hopB r.2.2 = true) ∧ rs.Pairwise (fun r s => lessB r.1 r.2.1 s.1 s.2.1 = true) ∧ ∀ q, p = some q → ∀ r ∈ rs, lessB q.1 q.2.1 r.1 r.2.1 = true
  | [], _, _ => ⟨by simp, by simp, by simp⟩
  | r :: rs, p, h => by
    rw [chkGo] at h
    split at h
    · rename_i hf
      obtain ⟨h1, h2, h3⟩ := fltL_ok hf
      obtain ⟨i1, i2, i3⟩ := chkGo_tab rs (some r) h
      refine ⟨?_, List.pairwise_cons.2 ⟨i3 r rfl, i2⟩, ?_⟩
      · intro s hs
        rcases List.mem_cons.1 hs with rfl | hs
        · exact ⟨h1, h2⟩
        · exact i1 s hs
      · intro q hq s hs
        rcases List.mem_cons.1 hs with rfl | hs
        · exact h3 q hq
        · exact less_tr (h3 q hq) (i3 r rfl s hs)
    · rename_i hf; exact absurd h hf
theorem chk_tab {rs : List Rt} (h : chkL rs = 0) : Tab rs := by
  unfold chkL at h
  split at h
  · cases h
  · obtain ⟨h1, h2, _⟩ := chkGo_tab rs none h
    exact ⟨h1, h2, by omega⟩

end Go.Proofs.YtfcknkanbcndjagGreatDoor

/- CONTRACTS: table.Check, table.Of. -/
namespace Go.Proofs.YtfcknkanbcndjagGreatDoor
open Go.RowKit
attribute [local go_sem] Ext.all Ext.cell Ext.frozen Ext.lt Ext.lt1 Ext.lt2 Ext.ne Ext.ne'
theorem box3_gr (w : World) (r : Rt) : ∃ W, W = w.alloc (.cells #[iv r.1, iv r.2.1, iv r.2.2] 133) ∧ Gr w W ∧ W.cell? ⟨w.heap.size, 0, none⟩ = some (iv r.1) ∧ W.cell? ⟨w.heap.size, 1, none⟩ = some (iv r.2.1) ∧ W.cell? ⟨w.heap.size, 2, none⟩ = some (iv r.2.2) ∧ w.heap.size < W.heap.size := by
  refine ⟨_, rfl, (Gr.refl w).alloc _, ?_, ?_, ?_, ?_⟩ <;> simp [go_sem]

set_option maxRecDepth 20000 in
set_option maxHeartbeats 2000000 in
theorem check2_any (w : World) (M : Nat → Prop) (ao : Option Addr) (n c : Nat) (rs : List Rt) (H : RowAt w M ao rs) (hn : rs.length = n) :
    Calls Tryz.prog 113 #[.slice ao n c] w fun e w' => e = .returned (.int .i64 (chkL rs)) ∧ ∃ d : Ext w, w' = d.out := by
  by_cases h40 : 40 < n
  · have e : chkL rs = 3 := by unfold chkL; rw [if_pos (by omega)]
    rw [e]
    go_enter Tryz.func113, Tryz.ntmps113
    go_wp2
    go_ret
    exact ⟨rfl, ext_mk (Gr.refl _)⟩
  have HC : Hid (chkL rs = chkGo none rs) := by unfold Hid chkL; rw [if_neg (by omega)]
  go_enter Tryz.func113, Tryz.ntmps113
  go_wp2
  go_loopw [10] (fun i wr => ∃ k : Nat, k ≤ n ∧ i = .int .i64 k ∧ Hid (chkGo (prevL rs k) (rs.drop k) = chkL rs) ∧ Gr w wr) (fun i _ => n - (intOf i).toNat)
  case atStart => exact ⟨0, by omega, rfl, HC.out.symm, Gr.refl _⟩
  case round =>
    obtain ⟨k, hk, rfl, HL, g⟩ := hrel
    by_cases hlt : k < n
    · have hkr : k < rs.length := by omega
      rcases H with rfl | ⟨rb, o, rfl, hb, hM, hcs⟩
      · simp at hkr
      obtain ⟨c1, c2, c3⟩ := hcs k hkr
      have HS := hide (chkGo_drop hkr)
      obtain ⟨W1, hW1, g1, b0, b1, b2, s1⟩ := box3_gr wr rs[k]
      have HW1 := hide hW1
      clear hW1
      have gw1 : Gr w W1 := g.trans g1
      have hb1 : rb < W1.heap.size := Nat.lt_of_lt_of_le hb (Below.size gw1)
      have oldc : ∀ q, W1.cell? ⟨rb, q, none⟩ = w.cell? ⟨rb, q, none⟩ := fun q => Below.cell gw1 (p := ⟨rb, q, none⟩) hb
      have oldr : ∀ q, wr.cell? ⟨rb, q, none⟩ = w.cell? ⟨rb, q, none⟩ := fun q => Below.cell g (p := ⟨rb, q, none⟩) hb
      rw [← oldr] at c1 c2 c3
      have hprev : k = 0 ∨ ∃ (j : Nat) (q : Rt), k = j + 1 ∧ prevL rs k = some q ∧ W1.cell? ⟨rb, o + j * 3, none⟩ = some (iv q.1) ∧ W1.cell? ⟨rb, o + j * 3 + 1, none⟩ = some (iv q.2.1) := by
        rcases Nat.eq_zero_or_pos k with h0 | h0
        · exact .inl h0
        · obtain ⟨j, rfl⟩ : ∃ j, k = j + 1 := ⟨k - 1, by omega⟩
          have hj := hcs j (by omega)
          refine .inr ⟨j, rs[j], rfl, prevL_succ (by omega), ?_, ?_⟩
          · rw [oldc]; exact hj.1
          · rw [oldc]; exact hj.2.1
      clear hcs oldc oldr
      generalize rs[k] = r at *
      obtain ⟨rl, rbb, rh⟩ := r
      simp only at c1 c2 c3 b0 b1 b2
      by_cases hbad : okB rl rbb = false ∨ hopB rh = false
      · have HR : Hid (1 = chkL rs) := by unfold Hid; rw [← HL.out, HS.out]; unfold fltL; simp [hbad]
        clear HS HL hprev
        cases ho : okB rl rbb
        · have HO := hide ho
          clear ho hbad
          go_wp2_with (go_at_call 114; rw [← HW1.out]; refine (check_is HO.out _).mono ?_; rintro e _ ⟨rfl, d1, rfl⟩)
          go_ret
          exact ⟨ret_int HR.out, ext_mk (gw1.ext d1)⟩
        · have HO := hide ho
          have HH : Hid (hopB rh = false) := by rcases hbad with h | h; · rw [ho] at h; cases h
                                                · exact h
          clear ho hbad
          go_wp2_with (first | (go_at_call 114; rw [← HW1.out]; refine (check_is HO.out _).mono ?_; rintro e _ ⟨rfl, d1, rfl⟩) | (go_at_call 116; refine (Calls.ext_of (hop_is HH.out _)).mono ?_; rintro e _ ⟨rfl, d2, rfl⟩))
          go_ret
          exact ⟨ret_int HR.out, ext_mk (gw1.ext d2)⟩
      · have HO : Hid (okB rl rbb = true) := by unfold Hid; cases e : okB rl rbb with | true => rfl | false => exact absurd (.inl e) hbad
        have HH : Hid (hopB rh = true) := by unfold Hid; cases e : hopB rh with | true => rfl | false => exact absurd (.inr e) hbad
        clear hbad
        rcases hprev with rfl | ⟨j, q, hkj, hpq, p0, p1⟩
        · have HR : Hid (chkGo (prevL rs 1) (rs.drop 1) = chkL rs) := by unfold Hid; rw [← HL.out, HS.out]; unfold fltL; simp [HO.out, HH.out, prevL_zero]
          clear HS HL
          simp only [Nat.zero_mul, Nat.add_zero] at c1 c2 c3
          go_wp2_with (first | (go_at_call 114; rw [← HW1.out]; refine (check_is HO.out _).mono ?_; rintro e _ ⟨rfl, d1, rfl⟩) | (go_at_call 116; refine (Calls.ext_of (hop_is HH.out _)).mono ?_; rintro e _ ⟨rfl, d2, rfl⟩))
          refine wp_region_ext_of (by kernel_rfl) (by kernel_rfl) ?_
          repeat (go_big_quiet_step (fail))
          refine wpQuiet_nil ?_
          rintro _ ⟨d3, rfl⟩
          go_wp2
          refine wp_region_ext_of (by kernel_rfl) (by kernel_rfl) ?_
          repeat (go_big_quiet_step (fail))
          refine wpQuiet_nil ?_
          rintro _ ⟨d4, rfl⟩
          go_wp2
          go_roundw
          case rel => exact ⟨1, by omega, by go_num, HR, gw1.ext d4⟩
          case measure => simp [intOf]; omega
        · subst hkj
          have hwj : IntKind.i64.wrap (j : Int) = (j : Int) := by rw [IntKind.wrap_i64]; omega
          have hd : decide ((0 : Int) < (j : Int) + 1) = true := decide_eq_true (by omega)
          have hjn : (j : Int) < (n : Int) := by omega
          have hj0 : (0 : Int) ≤ (j : Int) := by omega
          obtain ⟨ql, qb, qh⟩ := q
          simp only at p0 p1
          have HP := hide hpq
          clear hpq
          have e3 : ((ql == rl) = true ∧ (qb == rbb) = true ∧ Hid (sameB (ql, qb, qh) rl rbb = true)) ∨ ((ql == rl) = false ∧ Hid (sameB (ql, qb, qh) rl rbb = false)) ∨ ((ql == rl) = true ∧ (qb == rbb) = false ∧ Hid (sameB (ql, qb, qh) rl rbb = false)) := by
            unfold Hid sameB
            cases h1 : ql == rl <;> cases h2 : qb == rbb <;> simp at h1 h2 <;> simp [h1, h2]
          rcases e3 with ⟨s2, s3, es⟩ | e3
          · have HR : Hid (5 = chkL rs) := by unfold Hid; rw [← HL.out, HS.out]; unfold fltL; simp [HO.out, HH.out, HP.out, es.out]
            clear HS HL es HP
            go_wp2_with (first | (go_at_call 114; rw [← HW1.out]; refine (check_is HO.out _).mono ?_; rintro e _ ⟨rfl, d1, rfl⟩) | (go_at_call 116; refine (Calls.ext_of (hop_is HH.out _)).mono ?_; rintro e _ ⟨rfl, d2, rfl⟩))
            refine wp_region_ext_of (by kernel_rfl) (by kernel_rfl) ?_
            repeat (go_big_quiet_step (fail))
            refine wpQuiet_nil ?_
            rintro _ ⟨d3, rfl⟩
            go_wp2
            go_ret
            exact ⟨ret_int HR.out, ext_mk (gw1.ext d3)⟩
          · cases hls : lessB ql qb rl rbb
            · have HLS := hide hls
              have HR : Hid (4 = chkL rs) := by
                unfold Hid; rw [← HL.out, HS.out]; unfold fltL
                rcases e3 with ⟨_, es⟩ | ⟨_, _, es⟩ <;> simp [HO.out, HH.out, HP.out, es.out, hls]
              clear HS HL HP hls
              rcases e3 with ⟨s2, es⟩ | ⟨s2, s3, es⟩
              all_goals
                go_wp2_with (first | (go_at_call 114; rw [← HW1.out]; refine (check_is HO.out _).mono ?_; rintro e _ ⟨rfl, d1, rfl⟩) | (go_at_call 116; refine (Calls.ext_of (hop_is HH.out _)).mono ?_; rintro e _ ⟨rfl, d2, rfl⟩))
                refine wp_region_ext_of (by kernel_rfl) (by kernel_rfl) ?_
                repeat (go_big_quiet_step (fail))
                refine wpQuiet_nil ?_
                rintro _ ⟨d3, rfl⟩
                go_wp2
                refine wp_region_ext_of (by kernel_rfl) (by kernel_rfl) ?_
                repeat (go_big_quiet_step ((go_at_call 152; with_reducible exact Calls.ext_of (less_is HLS.out _))))
                refine wpQuiet_nil ?_
                rintro _ ⟨d4, rfl⟩
                go_wp2
                go_ret
                exact ⟨ret_int HR.out, ext_mk (gw1.ext d4)⟩
            · have HLS := hide hls
              have HR : Hid (chkGo (prevL rs (j + 1 + 1)) (rs.drop (j + 1 + 1)) = chkL rs) := by
                unfold Hid; rw [← HL.out, HS.out]; unfold fltL
                rcases e3 with ⟨_, es⟩ | ⟨_, _, es⟩ <;> simp [HO.out, HH.out, HP.out, es.out, hls]
              clear HS HL HP hls
              rcases e3 with ⟨s2, es⟩ | ⟨s2, s3, es⟩
              all_goals
                go_wp2_with (first | (go_at_call 114; rw [← HW1.out]; refine (check_is HO.out _).mono ?_; rintro e _ ⟨rfl, d1, rfl⟩) | (go_at_call 116; refine (Calls.ext_of (hop_is HH.out _)).mono ?_; rintro e _ ⟨rfl, d2, rfl⟩))
                refine wp_region_ext_of (by kernel_rfl) (by kernel_rfl) ?_
                repeat (go_big_quiet_step (fail))
                refine wpQuiet_nil ?_
                rintro _ ⟨d3, rfl⟩
                go_wp2
                refine wp_region_ext_of (by kernel_rfl) (by kernel_rfl) ?_
                repeat (go_big_quiet_step ((go_at_call 152; with_reducible exact Calls.ext_of (less_is HLS.out _))))
                refine wpQuiet_nil ?_
                rintro _ ⟨d4, rfl⟩
                go_wp2
                go_roundw
                case rel => exact ⟨j + 1 + 1, by omega, by go_num, HR, gw1.ext d4⟩
                case measure => simp [intOf]; omega
    · have HR : Hid (0 = chkL rs) := by unfold Hid; rw [← HL.out, List.drop_of_length_le (by omega)]; rfl
      clear HL H
      obtain ⟨d, rfl⟩ := ext_mk g
      go_wp2
      go_ret
      exact ⟨ret_int HR.out, _, rfl⟩

/-- What Of leaves: a table of these routes in new memory, or nil. -/
theorem of_any (w : World) (M : Nat → Prop) (ao : Option Addr) (n c : Nat) (rs : List Rt) (H : RowAt w M ao rs) (hn : rs.length = n) (hc : chkL rs = 0) :
    Calls Tryz.prog 61 #[.slice ao n c] w fun e w' => ∃ tb v, e = .returned (.tuple #[.pointer (some ⟨tb, 0, none⟩), .int .i64 0]) ∧ TabS w' (fun k => k < w.heap.size) tb v rs ∧ ∃ d : Ext w, w' = d.out := by
  have hT := chk_tab hc
  have hlen := hT.len
  have HC := hide (check2_any w M ao n c rs H hn)
  rw [hc] at HC
  have HA : Hid (∀ d : Ext w, ∃ v' w', (Builtin.append_ #[108, 108] 108 #[.slice none 0 0, .slice ao n c]).run Tryz.prog d.out = .ok v' w' ∧ w'.ownsRow d.out.heap.size 133 3 v' n (cels rs) ∧ d.out.grownBy w' none) := fun d => run_append_new d.out M 108 ao n c rs (H.gr d.gr) hn (by omega)
  clear H
  go_enter Tryz.func61, Tryz.ntmps61
  go_wp2_with (first | (go_at_call 113; refine HC.out.mono ?_; rintro e _ ⟨rfl, d1, rfl⟩; obtain ⟨v2, w2, hr, ho, hg⟩ := HA.out d1; have HR := hide hr; have HO := hide ho; clear hr ho) | (at_builtin; refine Lib.wpList_append_run _ rfl _ _ _ _ rfl _ _ rfl rfl _ _ HR.out ?_; obtain ⟨ao2, c2, hv2, hb2⟩ := ownR_shape HO.out; subst hv2))
  go_ret2
  have gr2 : Gr w w2 := d1.gr.grown hg (fun k h => by cases h)
  have hs := Below.size d1.gr
  refine ⟨w2.heap.size, _, rfl, ⟨heap_alloc_new w2 _, ?_, ?_, ?_, ?_⟩, ext_mk (gr2.alloc _)⟩
  · rw [hn]; exact ownR_base (HO.out.alloc _)
  · have := Below.size gr2; omega
  · intro g hgk hlt
    have := (HO.out.lt g hgk).1
    omega
  · intro k hk
    have := Below.size gr2; simp; omega

end Go.Proofs.YtfcknkanbcndjagGreatDoor

/- CONTRACTS OF tables, in short forms. -/
namespace Go.Proofs.YtfcknkanbcndjagGreatDoor
open Go.RowKit
attribute [local go_sem] Ext.all Ext.cell Ext.frozen Ext.lt Ext.lt1 Ext.lt2 Ext.ne Ext.ne'
theorem set_is {w : World} {M : Nat → Prop} {tb : Nat} {v : Value} {rs rs' : List Rt} {l b h code : Int} (S : TabS w M tb v rs) (hT : Tab rs) (e : setL rs l b h = (rs', code)) :
    Calls Tryz.prog 66 #[.pointer (some ⟨tb, 0, none⟩), pfx l b, .int .i64 h] w fun e w' => e = .returned (.int .i64 code) ∧ ∃ v', TabS w' M tb v' rs' ∧ Kp M w w' := by
  have := set_any w M tb v rs l b h S hT
  rw [e] at this
  exact this
theorem look_is {w : World} {M : Nat → Prop} {tb : Nat} {v : Value} {rs : List Rt} {a x : Int} (S : TabS w M tb v rs) (hm : rs.length ≤ 1000) (e : lookL rs a = x) (d : Ext w) :
    Calls Tryz.prog 34 #[.pointer (some ⟨tb, 0, none⟩), .int .i64 a] d.out fun e w' => e = .returned (.int .i64 x) ∧ ∃ d' : Ext d.out, w' = d'.out := by
  subst e
  have Sd := S.gr d.gr
  obtain ⟨ao, c, rfl, H⟩ := Sd.shape
  exact look_any d.out _ tb ao rs.length c rs a Sd.cell0 H rfl hm
theorem list_is {w : World} {M : Nat → Prop} {tb : Nat} {v : Value} {rs : List Rt} (S : TabS w M tb v rs) (hm : rs.length ≤ 1000) :
    Calls Tryz.prog 60 #[.pointer (some ⟨tb, 0, none⟩)] w fun e w' => ∃ ao' c', e = .returned (.slice ao' rs.length c') ∧ RowAt w' (fun k => w.heap.size ≤ k) ao' rs ∧ ∃ d : Ext w, w' = d.out := by
  obtain ⟨ao, c, rfl, H⟩ := S.shape
  exact list_any w _ tb ao rs.length c rs S.cell0 H rfl hm
theorem all_is {w : World} {M : Nat → Prop} {tb : Nat} {v : Value} {rs : List Rt} (S : TabS w M tb v rs) (hm : rs.length ≤ 1000) (d0 : Ext w) :
    Calls Tryz.prog 151 #[.pointer (some ⟨tb, 0, none⟩)] d0.out fun e w' => ∃ g, e = .returned (.slice (some ⟨g, 0, none⟩) 256 256) ∧ d0.out.heap.size ≤ g ∧ g < w'.heap.size ∧ (∀ j : Nat, j < 256 → w'.cell? ⟨g, j, none⟩ = some (iv (lookL rs j))) ∧ ∃ d : Ext w, w' = d.out := by
  have Sd := S.gr d0.gr
  obtain ⟨ao, c, rfl, H⟩ := Sd.shape
  refine (all_any d0.out _ tb ao rs.length c rs Sd.cell0 Sd.lt H rfl hm).mono ?_
  rintro e _ ⟨g, rfl, h1, h2, h3, d, rfl⟩
  exact ⟨g, rfl, h1, h2, h3, ext_mk (d0.gr.ext d)⟩

end Go.Proofs.YtfcknkanbcndjagGreatDoor

/- FOR THE LAWS: a table and a list beside it, in a world that has kept what was there. -/
namespace Go.Proofs.YtfcknkanbcndjagGreatDoor
open Go.RowKit
attribute [local go_sem] Ext.all Ext.cell Ext.frozen Ext.lt Ext.lt1 Ext.lt2 Ext.ne Ext.ne'
end Go.Proofs.YtfcknkanbcndjagGreatDoor

/- THE REFERENCE's LOOK: of the routes that have the address the longest one; of a table it is the last one. No Go here. -/
namespace Go.Proofs.YtfcknkanbcndjagGreatDoor

/-- Every route behind place k that has the address is longer than nn. -/
def Beyond (rs : List Rt) (a : Int) (k : Nat) (nn : Int) : Prop := ∀ r ∈ rs.drop k, hasB r.1 r.2.1 a = true → nn < r.1
theorem beyond_skip {rs : List Rt} {a : Int} {k : Nat} {nn : Int} (hk : k < rs.length) (h : Beyond rs a k nn) : Beyond rs a (k + 1) nn := by
  intro r hr hra
  exact h r (by rw [List.drop_eq_getElem_cons hk]; exact List.mem_cons_of_mem _ hr) hra
theorem beyond_here {rs : List Rt} {a : Int} {k : Nat} {nn : Int} (hk : k < rs.length) (h : Beyond rs a k nn) (hh : hasB rs[k].1 rs[k].2.1 a = true) : nn < rs[k].1 :=
  h rs[k] (by rw [List.drop_eq_getElem_cons hk]; exact List.mem_cons_self) hh
theorem lookL_take {rs : List Rt} {k : Nat} (hk : k < rs.length) (a : Int) : lookL (rs.take (k + 1)) a = if hasB rs[k].1 rs[k].2.1 a then rs[k].2.2 else lookL (rs.take k) a := by
  rw [List.take_succ_eq_append_getElem hk, lookL_snoc]

end Go.Proofs.YtfcknkanbcndjagGreatDoor

/- TRIES AS TREES: the least tree of where addresses go; its leaves in their order; looking in it. No Go here. -/
namespace Go.Proofs.YtfcknkanbcndjagGreatDoor

/-- A trie: leaves with Len, Bits, Hop; parts with Len, Bits and two halves. -/
inductive TT where
  | leaf (l b h : Int)
  | node (l b : Int) (lo hi : TT)

namespace TT
def len : TT → Int | .leaf l _ _ => l | .node l _ _ _ => l
def bits : TT → Int | .leaf _ b _ => b | .node _ b _ _ => b
def hop : TT → Int | .leaf _ _ h => h | .node _ _ _ _ => 0
def isLeaf : TT → Bool | .leaf _ _ _ => true | .node _ _ _ _ => false
def look : TT → Int → Int
  | .leaf l b h, a => if hasB l b a then h else -1
  | .node l b lo hi, a => if hasB l b a then (if hasB lo.len lo.bits a then lo.look a else hi.look a) else -1
end TT

/-- n addresses from o on go alike. -/
def Alk (f : Nat → Int) (o n : Nat) : Prop := ∀ j, j < n → f (o + j) = f o
instance (f : Nat → Int) (o n : Nat) : Decidable (Alk f o n) := by unfold Alk; infer_instance

/-- The trie of the prefix l, b, whose 2 ^ k addresses begin at o. -/
def tri (f : Nat → Int) : Nat → Int → Int → Nat → TT
  | 0, l, b, o => .leaf l b (f o)
  | k + 1, l, b, o => if Alk f o (2 ^ (k + 1)) then .leaf l b (f o) else .node l b (tri f k (l + 1) (b * 2) o) (tri f k (l + 1) (b * 2 + 1) (o + 2 ^ k))

theorem tri_alk {f : Nat → Int} {k : Nat} {l b : Int} {o : Nat} (h : Alk f o (2 ^ k)) : tri f k l b o = .leaf l b (f o) := by
  cases k with
  | zero => rfl
  | succ k => rw [tri, if_pos h]
theorem tri_not {f : Nat → Int} {k : Nat} {l b : Int} {o : Nat} (h : ¬ Alk f o (2 ^ (k + 1))) : tri f (k + 1) l b o = .node l b (tri f k (l + 1) (b * 2) o) (tri f k (l + 1) (b * 2 + 1) (o + 2 ^ k)) := by
  rw [tri, if_neg h]
theorem alk_one (f : Nat → Int) (o : Nat) : Alk f o (2 ^ 0) := by
  intro j hj
  have : j = 0 := by simpa using hj
  rw [this, Nat.add_zero]

/-- The prefix l, b has the 2 ^ k addresses from o on. -/
def SpT (k : Nat) (l b : Int) (o : Nat) : Prop := l + k = 8 ∧ okB l b = true ∧ (o : Int) = b * 2 ^ k

theorem SpT.root : SpT 8 0 0 0 := by refine ⟨by omega, by decide, by omega⟩
theorem SpT.pow {k : Nat} {l b : Int} {o : Nat} (h : SpT k l b o) : (8 - l).toNat = k := by have := h.1; omega
theorem SpT.first {k : Nat} {l b : Int} {o : Nat} (h : SpT k l b o) : firstI l b = o := by rw [first_is_ok h.2.1, h.pow, h.2.2]
theorem SpT.last {k : Nat} {l b : Int} {o : Nat} (h : SpT k l b o) : lastI l b + 1 = ((o + 2 ^ k : Nat) : Int) := by
  rw [last_is_ok h.2.1, h.pow, Int.natCast_add, h.2.2]; simp
theorem SpT.has {k : Nat} {l b : Int} {o : Nat} (h : SpT k l b o) (a : Int) : hasB l b a = true ↔ (o : Int) ≤ a ∧ a < ((o + 2 ^ k : Nat) : Int) := by
  rw [(span_has (a := a) h.2.1).2.2.2, h.first, ← h.last]; omega
theorem SpT.top {k : Nat} {l b : Int} {o : Nat} (h : SpT k l b o) : o + 2 ^ k ≤ 256 := by
  have h1 := (span_has (a := 0) h.2.1).2.2.1
  have h2 := h.last
  omega
theorem SpT.low {k : Nat} {l b : Int} {o : Nat} (h : SpT (k + 1) l b o) : SpT k (l + 1) (b * 2) o := by
  obtain ⟨h1, h2, h3⟩ := h
  obtain ⟨g0, g8, gb, gl⟩ := ok_iff.1 h2
  refine ⟨by omega, ok_iff.2 ⟨by omega, by omega, by omega, ?_⟩, ?_⟩
  · rw [show (l + 1).toNat = l.toNat + 1 by omega, Int.pow_succ]; omega
  · rw [h3, Int.pow_succ, Int.mul_assoc, Int.mul_comm 2]
theorem SpT.high {k : Nat} {l b : Int} {o : Nat} (h : SpT (k + 1) l b o) : SpT k (l + 1) (b * 2 + 1) (o + 2 ^ k) := by
  obtain ⟨h1, h2, h3⟩ := h
  obtain ⟨g0, g8, gb, gl⟩ := ok_iff.1 h2
  refine ⟨by omega, ok_iff.2 ⟨by omega, by omega, by omega, ?_⟩, ?_⟩
  · rw [show (l + 1).toNat = l.toNat + 1 by omega, Int.pow_succ]; omega
  · rw [Int.natCast_add, h3, Int.pow_succ, Int.add_mul, Int.mul_assoc, Int.mul_comm 2]; simp
theorem SpT.bd {k : Nat} {l b : Int} {o : Nat} (h : SpT k l b o) : 0 ≤ l ∧ l ≤ 8 ∧ 0 ≤ b ∧ b < 256 := by
  obtain ⟨h0, h8, hb, hl⟩ := ok_iff.1 h.2.1
  have := (pw_bd l h8).2
  omega

attribute [irreducible] tri
/-- The trie of all addresses. -/
def triT (f : Nat → Int) : TT := tri f 8 0 0 0
theorem root_has (a : Int) : hasB 0 0 a = true ↔ 0 ≤ a ∧ a < 256 := by rw [SpT.root.has a]; simp
/-- A list of leaves is a table's, but that it may be too long. -/
theorem chkGo_ok : ∀ (rs : List Rt) (p : Option Rt), (∀ r ∈ rs, okB r.1 r.2.1 = true ∧ hopB r.2.2 = true) → rs.Pairwise (fun r s => lessB r.1 r.2.1 s.1 s.2.1 = true) → (∀ q, p = some q → ∀ r ∈ rs, lessB q.1 q.2.1 r.1 r.2.1 = true) → chkGo p rs = 0
  | [], _, _, _, _ => rfl
  | r :: rs, p, h1, h2, h3 => by
    have hf : fltL p r = 0 := by
      obtain ⟨a1, a2⟩ := h1 r (by simp)
      unfold fltL
      rw [if_neg (by simp [a1, a2])]
      cases p with
      | none => rfl
      | some q =>
        have hq := h3 q rfl r (by simp)
        have hs : sameB q r.1 r.2.1 = false := by
          cases e : sameB q r.1 r.2.1
          · rfl
          · have e' : q.1 = r.1 ∧ q.2.1 = r.2.1 := by simpa [sameB] using e
            rw [e'.1, e'.2, less_irr] at hq; cases hq
        simp [hs, hq]
    rw [chkGo, if_pos hf]
    obtain ⟨p1, p2⟩ := List.pairwise_cons.1 h2
    exact chkGo_ok rs (some r) (fun x hx => h1 x (by simp [hx])) p2 (fun q hq x hx => by cases hq; exact p1 x hx)
/-- Where an address goes is a hop. -/
theorem lookFrom_hop {a : Int} : ∀ (rs : List Rt) (x : Int), hopB x = true → (∀ r ∈ rs, hopB r.2.2 = true) → hopB (lookFrom x rs a) = true
  | [], x, hx, _ => hx
  | r :: rs, x, hx, h => by
    show hopB (lookFrom (if hasB r.1 r.2.1 a then r.2.2 else x) rs a) = true
    refine lookFrom_hop rs _ ?_ (fun s hs => h s (by simp [hs]))
    split
    · exact h r (by simp)
    · exact hx
theorem Tab.look_hop {rs : List Rt} (h : Tab rs) (a : Int) : hopB (lookL rs a) = true := lookFrom_hop rs (-1) (by decide) (fun r hr => (h.ok r hr).2)
theorem look_no {rs : List Rt} {a : Int} (h : ¬ (0 ≤ a ∧ a < 256)) : lookL rs a = -1 := lookL_none fun r _ => by
  cases e : hasB r.1 r.2.1 a
  · rfl
  · obtain ⟨_, h0, h1, _⟩ := has_iff.1 e
    exact absurd ⟨h0, h1⟩ h
/-- The table's own trie. -/
def trT (rs : List Rt) : TT := triT fun j => lookL rs j
end Go.Proofs.YtfcknkanbcndjagGreatDoor

/- LISTS OF ROUTES OF A CALL's OWN: appended to, one or many. -/
namespace Go.Proofs.YtfcknkanbcndjagGreatDoor
open Go.RowKit
attribute [local go_sem] Ext.all Ext.cell Ext.frozen Ext.lt Ext.lt1 Ext.lt2 Ext.ne Ext.ne'
/-- A list of routes in memory that is younger than B. -/
def Own (B w : World) (v : Value) (rs : List Rt) : Prop := w.ownsRow B.heap.size 133 3 v rs.length (cels rs)
theorem Own.gr {B w w' : World} {v : Value} {rs : List Rt} (h : Own B w v rs) (g : Gr w w') : Own B w' v rs := ownR_gr h g
theorem Own.nil (B w : World) : Own B w (.slice none 0 0) [] := World.ownsRow_nil _ _ _ _
/-- Where such a list stands. -/
theorem Own.shape {B w : World} {v : Value} {rs : List Rt} (h : Own B w v rs) : ∃ ao c, v = .slice ao rs.length c ∧ rs.length ≤ c ∧ RowAt w (fun k => B.heap.size ≤ k) ao rs := by
  obtain ⟨ao, c, rfl, hb⟩ := ownR_shape h
  obtain ⟨h1, _, h3, _⟩ := rowAt_own (M := fun k => B.heap.size ≤ k) h hb
  exact ⟨ao, c, rfl, h3, h1⟩

/-- 'append(l, x...)', l a list of the call's own. -/
theorem run_app {B w : World} {v : Value} {rs xs : List Rt} {M : Nat → Prop} {ao : Option Addr} {m c : Nat} (ty : TypeId) (hO : Own B w v rs) (g : Gr B w) (H : RowAt w M ao xs) (hl : xs.length = m) (h0 : 0 < m) (hm : rs.length + m ≤ 2000) :
    ∃ v' w', (Builtin.append_ #[108, 108] ty #[v, .slice ao m c]).run Tryz.prog w = .ok v' w' ∧ Own B w' v' (rs ++ xs) ∧ Gr B w' := by
  obtain ⟨i0, hi, hz0, hz1, hz2⟩ := info_parts Tryz.info133
  rcases H with h | ⟨b, o, rfl, _, _, hcs⟩
  · subst h; simp at hl; omega
  · obtain ⟨v', w', h1, h2, h3, _⟩ := run_append_own (P := Tryz.prog) w B.heap.size 108 ty 133 i0 _ 3 24 Tryz.underlying108 hi hz0 hz1 hz2 (by rfl) (by decide) v rs.length (cels rs) hO
      ⟨b, o, none⟩ m c (cels xs) (by rw [cels_length, hl]) (fun j u hj => by rw [Addr.add_lit]; exact cels_cells hcs j u hj) (cels_one xs) (by unfold maxLen; omega) (by omega) (Below.size g)
    refine ⟨v', w', h1, ?_, g.grown h3 (fun k hk => (hO.lt k hk).1)⟩
    unfold Own
    rw [cels_append, List.length_append, hl]
    exact h2

theorem Own.mono {A B w : World} {v : Value} {rs : List Rt} (h : Own B w v rs) (g : Gr A B) : Own A w v rs := by
  have hs := Below.size g
  refine ⟨h.1, ?_⟩
  rcases h.2 with hn | ⟨g', cap, cur, rfl, hb, rest⟩
  · exact .inl hn
  · exact .inr ⟨g', cap, cur, rfl, by omega, rest⟩
theorem wrap_in (x : Int) (h : -1000 ≤ x) (k : x ≤ 1000) : IntKind.i64.wrap x = x := by
  rw [IntKind.wrap_i64]; omega

end Go.Proofs.YtfcknkanbcndjagGreatDoor

/- CONTRACTS OF prefix.Child, as at layer 1. -/
namespace Go.Proofs.YtfcknkanbcndjagGreatDoor
open Go.RowKit
attribute [local go_sem] Ext.all Ext.cell Ext.frozen Ext.lt Ext.lt1 Ext.lt2 Ext.ne Ext.ne'
theorem or_0 (b : Int) (h0 : 0 ≤ b) (h : b < 256) : bits .or .i64 (b * 2) 0 = b * 2 := by
  have : ∀ n : Fin 256, bits .or .i64 ((n.val : Int) * 2) 0 = (n.val : Int) * 2 := by decide +kernel
  have h1 := this ⟨b.toNat, by omega⟩
  simpa [Int.toNat_of_nonneg h0] using h1
theorem or_1 (b : Int) (h0 : 0 ≤ b) (h : b < 256) : bits .or .i64 (b * 2) 1 = b * 2 + 1 := by
  have : ∀ n : Fin 256, bits .or .i64 ((n.val : Int) * 2) 1 = (n.val : Int) * 2 + 1 := by decide +kernel
  have h1 := this ⟨b.toNat, by omega⟩
  simpa [Int.toNat_of_nonneg h0] using h1

theorem child_yes0 (l b : Int) (ho : okB l b = true) (h8 : l < 8) (w : World) :
    Calls Tryz.prog 185 #[pfx l b, .int .i64 0] w fun e w' => e = .returned (.tuple #[pfx (l + 1) (b * 2), .bool true]) ∧ ∃ d : Ext w, w' = d.out := by
  obtain ⟨h0, _, hb, hl, g1, g2⟩ := ok_pows ho
  obtain ⟨p1, p2⟩ := pw_bd l (by omega)
  have e8 : (l == 8) = false := by simp; omega
  go_enter Tryz.func185, Tryz.ntmps185
  go_wp2_with (go_at_call 114; refine (check_is ho _).mono ?_; rintro e _ ⟨rfl, d1, rfl⟩)
  refine bodyPost_ret (v := .tuple #[pfx (l + 1) (b * 2), .bool true]) (by simp [results, Tryz.results185, go_sem, or_0 b hb (by omega)]) rfl ⟨rfl, ext_mk ?_⟩
  exact (((((Gr.refl _).alloc _).alloc _).ext d1).setCell (by simp) _).setCell (by simp) _

theorem child_yes1 (l b : Int) (ho : okB l b = true) (h8 : l < 8) (w : World) :
    Calls Tryz.prog 185 #[pfx l b, .int .i64 1] w fun e w' => e = .returned (.tuple #[pfx (l + 1) (b * 2 + 1), .bool true]) ∧ ∃ d : Ext w, w' = d.out := by
  obtain ⟨h0, _, hb, hl, g1, g2⟩ := ok_pows ho
  obtain ⟨p1, p2⟩ := pw_bd l (by omega)
  have e8 : (l == 8) = false := by simp; omega
  go_enter Tryz.func185, Tryz.ntmps185
  go_wp2_with (go_at_call 114; refine (check_is ho _).mono ?_; rintro e _ ⟨rfl, d1, rfl⟩)
  refine bodyPost_ret (v := .tuple #[pfx (l + 1) (b * 2 + 1), .bool true]) (by simp [results, Tryz.results185, go_sem, or_1 b hb (by omega)]) rfl ⟨rfl, ext_mk ?_⟩
  exact (((((Gr.refl _).alloc _).alloc _).ext d1).setCell (by simp) _).setCell (by simp) _

end Go.Proofs.YtfcknkanbcndjagGreatDoor

/- TRIES IN MEMORY: a part stands in a block of five cells; what only grows keeps it. -/
namespace Go.Proofs.YtfcknkanbcndjagGreatDoor
open Go.RowKit

/-- In w the trie T stands at block q. -/
def Tr (w : World) : TT → Nat → Prop
  | .leaf l b h, q => w.heap[q]? = some (.cells #[iv l, iv b, iv h, .pointer none, .pointer none] 243 (0, 0))
  | .node l b lo hi, q => ∃ x y, w.heap[q]? = some (.cells #[iv l, iv b, iv 0, pv x, pv y] 243 (0, 0)) ∧ Tr w lo x ∧ Tr w hi y

theorem Tr.lt {w : World} {T : TT} {q : Nat} (h : Tr w T q) : q < w.heap.size := by
  cases T with
  | leaf l b h' => exact lt_of_block h
  | node l b lo hi => obtain ⟨x, y, e, _⟩ := h; exact lt_of_block e
theorem Tr.gr {w w' : World} (g : Gr w w') : ∀ {T : TT} {q : Nat}, Tr w T q → Tr w' T q
  | .leaf l b h', q, h => (Below.block g q (lt_of_block h)).trans h
  | .node l b lo hi, q, h => by
    obtain ⟨x, y, e, h1, h2⟩ := h
    exact ⟨x, y, (Below.block g q (lt_of_block e)).trans e, Tr.gr g h1, Tr.gr g h2⟩
theorem cell5 {w : World} {q : Nat} {a b c d e : Value} {t : TypeId} (h : w.heap[q]? = some (.cells #[a, b, c, d, e] t (0, 0))) :
    w.cell? ⟨q, 0, none⟩ = some a ∧ w.cell? ⟨q, 1, none⟩ = some b ∧ w.cell? ⟨q, 2, none⟩ = some c ∧ w.cell? ⟨q, 3, none⟩ = some d ∧ w.cell? ⟨q, 4, none⟩ = some e := by
  refine ⟨?_, ?_, ?_, ?_, ?_⟩ <;> simp [World.cell?, h]
theorem Tr.cells {w : World} {T : TT} {q : Nat} (h : Tr w T q) : w.cell? ⟨q, 0, none⟩ = some (iv T.len) ∧ w.cell? ⟨q, 1, none⟩ = some (iv T.bits) ∧ w.cell? ⟨q, 2, none⟩ = some (iv T.hop) := by
  cases T with
  | leaf l b h' => have := cell5 h; exact ⟨this.1, this.2.1, this.2.2.1⟩
  | node l b lo hi => obtain ⟨x, y, e, _⟩ := h; have := cell5 e; exact ⟨this.1, this.2.1, this.2.2.1⟩
theorem Tr.leafc {w : World} {l b h : Int} {q : Nat} (k : Tr w (.leaf l b h) q) : w.cell? ⟨q, 3, none⟩ = some (.pointer none) ∧ w.cell? ⟨q, 4, none⟩ = some (.pointer none) := by
  have := cell5 k; exact ⟨this.2.2.2.1, this.2.2.2.2⟩
theorem Tr.nodec {w : World} {l b : Int} {lo hi : TT} {q : Nat} (k : Tr w (.node l b lo hi) q) : ∃ x y, w.cell? ⟨q, 3, none⟩ = some (pv x) ∧ w.cell? ⟨q, 4, none⟩ = some (pv y) ∧ Tr w lo x ∧ Tr w hi y := by
  obtain ⟨x, y, e, h1, h2⟩ := k
  have := cell5 e
  exact ⟨x, y, this.2.2.2.1, this.2.2.2.2, h1, h2⟩

theorem pbox_gr (w : World) (l b : Int) : ∃ W, W = w.alloc (.cells #[iv l, iv b] 52) ∧ Gr w W ∧ W.cell? ⟨w.heap.size, 0, none⟩ = some (iv l) ∧ W.cell? ⟨w.heap.size, 1, none⟩ = some (iv b) ∧ w.heap.size < W.heap.size := by
  refine ⟨_, rfl, (Gr.refl w).alloc _, ?_, ?_, by simp⟩ <;> simp [go_sem]


end Go.Proofs.YtfcknkanbcndjagGreatDoor

/- CONTRACTS OF handpostref: Look, AllOf, SameInts, SameRoutes, as the laws of tries ask them: of any sorted list of routes; of two lists that may be other ones. -/
namespace Go.Proofs.YtfcknkanbcndjagGreatDoor
open Go.RowKit
attribute [local go_sem] Ext.all Ext.cell Ext.frozen Ext.lt Ext.lt1 Ext.lt2 Ext.ne Ext.ne'
/-- Routes of prefixes, in order. -/
structure Srt (rs : List Rt) : Prop where
  ok : ∀ r ∈ rs, okB r.1 r.2.1 = true
  srt : rs.Pairwise (fun r s => lessB r.1 r.2.1 s.1 s.2.1 = true)
  len : rs.length ≤ 256
theorem Tab.toSrt {rs : List Rt} (h : Tab rs) : Srt rs := ⟨fun r hr => (h.ok r hr).1, h.srt, by have := h.len; omega⟩
theorem sbeyond_zero {rs : List Rt} (h : Srt rs) (a : Int) : Beyond rs a 0 (-1) := by
  intro r hr hra
  obtain ⟨h0, _⟩ := ok_iff.1 (h.ok r (by simpa using hr))
  omega
theorem sbeyond_next {rs : List Rt} {a : Int} {k : Nat} (hT : Srt rs) (hk : k < rs.length) (hh : hasB rs[k].1 rs[k].2.1 a = true) : Beyond rs a (k + 1) rs[k].1 := by
  intro r hr hra
  have hp : (rs.drop k).Pairwise (fun r s => lessB r.1 r.2.1 s.1 s.2.1 = true) := hT.srt.sublist (List.drop_sublist _ _)
  rw [List.drop_eq_getElem_cons hk] at hp
  exact (less_len hh hra).1 ((List.pairwise_cons.1 hp).1 r hr)

set_option maxRecDepth 20000 in
set_option maxHeartbeats 1000000 in
theorem rlook_any (w : World) (M : Nat → Prop) (ao : Option Addr) (n c : Nat) (rs : List Rt) (a : Int) (H : RowAt w M ao rs) (hn : rs.length = n) (hT : Srt rs) :
    Calls Tryz.prog 141 #[.slice ao n c, .int .i64 a] w fun e w' => e = .returned (.int .i64 (lookL rs a)) ∧ ∃ d : Ext w, w' = d.out := by
  have hm : rs.length ≤ 256 := hT.len
  have HT := hide hT
  clear hT
  go_enter Tryz.func141, Tryz.ntmps141
  go_wp2
  go_loopw [5, 6, 7] (fun hp nv i wr => ∃ (k : Nat) (nn hv : Int), k ≤ n ∧ i = .int .i64 k ∧ hp = .int .i64 hv ∧ nv = .int .i64 nn ∧ Hid (lookL (rs.take k) a = hv) ∧ Hid (Beyond rs a k nn) ∧ Gr w wr) (fun _ _ i _ => n - (intOf i).toNat)
  case atStart => exact ⟨0, -1, -1, by omega, rfl, rfl, rfl, rfl, sbeyond_zero HT.out a, Gr.refl _⟩
  case round =>
    obtain ⟨k, nn, hv, hk, rfl, rfl, rfl, HL, HY, g⟩ := hrel
    obtain ⟨d, rfl⟩ := ext_mk g
    by_cases hlt : k < n
    · have hkr : k < rs.length := by omega
      rcases H with rfl | ⟨rb, o, rfl, hb, hM, hcs⟩
      · simp at hkr
      obtain ⟨c1, c2, c3⟩ := hcs k hkr
      have HS := hide (lookL_take hkr a)
      have HY1 := hide (beyond_skip hkr HY.out)
      have HY2 := hide (fun hh => beyond_here hkr HY.out hh)
      have HY3 := hide (fun hh => sbeyond_next (a := a) HT.out hkr hh)
      clear hcs HY
      generalize rs[k] = r at *
      obtain ⟨rl, rbb, rh⟩ := r
      simp only at c1 c2 c3 HS HY2 HY3
      cases hq : hasB rl rbb a
      · have HQ := hide hq
        have HR : Hid (lookL (rs.take (k + 1)) a = hv) := by unfold Hid; rw [HS.out, hq]; simpa using HL.out
        clear hq HS HL HY2 HY3
        go_wp2_with (go_at_call 177; with_reducible refine (Calls.ext_of (rhas_is HQ.out _)).mono ?_; rintro e _ ⟨rfl, d1, rfl⟩)
        go_roundw
        case rel => exact ⟨k + 1, nn, hv, by omega, by go_num, rfl, rfl, HR, HY1.out, d1.gr⟩
        case measure => simp [intOf]; omega
      · have HQ := hide hq
        have hlt2 : nn < rl := HY2.out hq
        have HR : Hid (lookL (rs.take (k + 1)) a = rh) := by unfold Hid; rw [HS.out, hq]; simp
        have HY4 := hide (HY3.out hq)
        clear hq HS HL HY2 HY3 HY1
        go_wp2_with (go_at_call 177; with_reducible refine (Calls.ext_of (rhas_is HQ.out _)).mono ?_; rintro e _ ⟨rfl, d1, rfl⟩)
        refine wp_region_ext_of (by kernel_rfl) (by kernel_rfl) ?_
        repeat (go_big_quiet_step (fail))
        refine wpQuiet_nil ?_
        rintro _ ⟨d2, rfl⟩
        go_wp2
        go_roundw
        case rel => exact ⟨k + 1, rl, rh, by omega, by go_num, rfl, rfl, HR, HY4.out, d2.gr⟩
        case measure => simp [intOf]; omega
    · have HR : Hid (hv = lookL rs a) := by unfold Hid; rw [← HL.out, List.take_of_length_le (by omega)]
      clear HL H
      go_wp2
      go_ret
      exact ⟨ret_int HR.out, _, rfl⟩

set_option maxRecDepth 20000 in
theorem allOf_any (w : World) (M : Nat → Prop) (ao : Option Addr) (n c : Nat) (rs : List Rt) (H : RowAt w M ao rs) (hn : rs.length = n) (hT : Srt rs) :
    Calls Tryz.prog 139 #[.slice ao n c] w fun e w' => ∃ g, e = .returned (.slice (some ⟨g, 0, none⟩) 256 256) ∧ g < w'.heap.size ∧ (∀ j : Nat, j < 256 → w'.cell? ⟨g, j, none⟩ = some (iv (lookL rs j))) ∧ ∃ d : Ext w, w' = d.out := by
  obtain ⟨i0, hi, hz0, hz1, hz2⟩ := info_parts Tryz.info3
  go_enter Tryz.func139, Tryz.ntmps139
  go_wp2_with (at_make; refine wpList_make_full _ rfl _ _ 34 rfl w.heap.size 3 i0 (.int .i64 0) 1 Tryz.underlying34 hi hz0 hz1 _ _ _ _ 256 rfl rfl rfl rfl ?b2 ?b3 (Nat.le_refl _) ?_)
  case b2 => rw [hz2]; decide
  case b3 => unfold maxLen; decide
  intro w0 hown0 hgrow0
  have gr0 : Gr w w0 := (Gr.refl _).grown hgrow0 (fun k h => by cases h)
  clear hgrow0
  have hown1 : w0.ownsRow w.heap.size 3 1 (.slice (some ⟨w.heap.size, 0, none⟩) 256 256) 256 (hopsL rs 0) := by
    rw [made_hops rs] at hown0; exact hown0
  clear hown0
  obtain ⟨G, hG⟩ : ∃ G, G = w.heap.size := ⟨_, rfl⟩
  rw [← hG] at hown1 ⊢
  have HG : Hid (G = w.heap.size) := hG
  clear hG
  go_wp2
  go_loopw [4] (fun i wr => ∃ k : Nat, k ≤ 256 ∧ i = .int .i64 k ∧ Hid (wr.ownsRow G 3 1 (.slice (some ⟨G, 0, none⟩) 256 256) 256 (hopsL rs k)) ∧ Gr w wr) (fun i _ => 256 - (intOf i).toNat)
  case atStart => exact ⟨0, by omega, rfl, hown1, gr0⟩
  case round =>
    clear hown1
    obtain ⟨k, hk, rfl, hown, g⟩ := hrel
    obtain ⟨d, rfl⟩ := ext_mk g
    by_cases hlt : k < 256
    · have HC := hide (rlook_any d.out M ao n c rs k (H.gr d.gr) hn hT)
      clear H
      go_wp2_with (go_at_call 141; refine HC.out.mono ?_; rintro e _ ⟨rfl, d1, rfl⟩; have hown2 := hide (ownR_gr hown.out d1.gr); have hce := (hown2.out.cellAt k (by omega)).trans (hopsL_next rs k hlt); have hfz := hown2.out.frozenAt k)
      have hst := hown2.out.stored k (iv (lookL rs k))
      rw [hopsL_set rs k hlt] at hst
      go_roundw
      case rel => exact ⟨k + 1, by omega, by go_num, hst.1, (d.gr.ext d1).grown hst.2 (fun x hx => by cases hx; exact Nat.le_of_eq HG.out.symm)⟩
      case measure => simp [intOf]; omega
    · have : k = 256 := by omega
      subst this
      have hw := hown.out
      clear H
      go_wp2
      go_ret
      exact ⟨G, rfl, (hw.lt G rfl).2, fun j hj => (hw.cellAt j (by omega)).trans (hopsL_at rs j hj), d, rfl⟩

/-- 256 numbers, alike one by one? -/
def eqF (f g : Nat → Int) : Bool := decide (∀ j : Nat, j < 256 → f j = g j)
attribute [irreducible] eqF
end Go.Proofs.YtfcknkanbcndjagGreatDoor
