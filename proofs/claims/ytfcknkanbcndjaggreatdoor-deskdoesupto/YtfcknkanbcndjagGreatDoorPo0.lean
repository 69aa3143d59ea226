import Derived.Test.YtfcknkanbcndjagGreatDoorRuns
import Derived.Test.YtfcknkanbcndjagGreatDoorS9
import Derived.Test.YtfcknkanbcndjagGreatDoorKPlain2
import Derived.Test.YtfcknkanbcndjagGreatDoorSpanPlain
/- WHAT IS TO BE A TABLE's LIST: the code of its first fault. No Go here. -/
namespace Go.Proofs.YtfcknkanbcndjagGreatDoor

/-- The fault of a route behind another one (or the first). -/
def fltL (p : Option Rt) (r : Rt) : Int :=
  if okB r.1 r.2.1 = false ∨ hopB r.2.2 = false then 1
  else match p with
  | none => 0
  | some q => if sameB q r.1 r.2.1 then 5 else if lessB q.1 q.2.1 r.1 r.2.1 then 0 else 4
def chkGo : Option Rt → List Rt → Int
  | _, [] => 0
  | p, r :: rs => if fltL p r = 0 then chkGo (some r) rs else fltL p r
def chkL (rs : List Rt) : Int := if 40 < rs.length then 3 else chkGo none rs

/-- The one ahead of place k. -/
def prevL (rs : List Rt) (k : Nat) : Option Rt := if k = 0 then none else rs[k - 1]?
theorem prevL_zero (rs : List Rt) : prevL rs 0 = none := rfl
theorem prevL_succ {rs : List Rt} {k : Nat} (hk : k < rs.length) : prevL rs (k + 1) = some rs[k] := by simp [prevL, hk]
theorem chkGo_drop {rs : List Rt} {k : Nat} (hk : k < rs.length) : chkGo (prevL rs k) (rs.drop k) = if fltL (prevL rs k) rs[k] = 0 then chkGo (prevL rs (k + 1)) (rs.drop (k + 1)) else fltL (prevL rs k) rs[k] := by
  conv => lhs; rw [List.drop_eq_getElem_cons hk]
  rw [prevL_succ hk]; rfl

theorem fltL_ok {p : Option Rt} {r : Rt} (h : fltL p r = 0) : okB r.1 r.2.1 = true ∧ hopB r.2.2 = true ∧ ∀ q, p = some q → lessB q.1 q.2.1 r.1 r.2.1 = true := by
  unfold fltL at h
  split at h
  · cases h
  · rename_i hn
    have h1 : okB r.1 r.2.1 = true := by cases e : okB r.1 r.2.1 with | true => rfl | false => exact absurd (.inl e) hn
    have h2 : hopB r.2.2 = true := by cases e : hopB r.2.2 with | true => rfl | false => exact absurd (.inr e) hn
    refine ⟨h1, h2, fun q hq => ?_⟩
    subst hq
    simp only at h
    split at h
    · cases h
    · split at h
      · assumption
      · cases h

theorem chkGo_tab : ∀ (rs : List Rt) (p : Option Rt), chkGo p rs = 0 → (∀ r ∈ rs, okB r.1 r.2.1 = true ∧ hopB r.2.2 = true) ∧ rs.Pairwise (fun r s => lessB r.1 r.2.1 s.1 s.2.1 = true) ∧ ∀ q, p = some q → ∀ r ∈ rs, lessB q.1 q.2.1 r.1 r.2.1 = true
  | [], _, _ => ⟨by simp, by simp, by simp⟩
  | r :: rs, p, h => by
    rw [chkGo] at h
    split at h
    · rename_i hf
      obtain ⟨h1, h2, h3⟩ := fltL_ok hf
      obtain ⟨i1, i2, i3⟩ := chkGo_tab rs (some r) h
      refine ⟨?_, List.pairwise_cons.2 ⟨i3 r rfl, i2⟩, ?_⟩
      · intro s hs
        rcases List.mem_cons.1 hs with rfl | hs
        · exact ⟨h1, h2⟩
        · exact i1 s hs
      · intro q hq s hs
        rcases List.mem_cons.1 hs with rfl | hs
        · exact h3 q hq
        · exact less_tr (h3 q hq) (i3 r rfl s hs)
    · rename_i hf; exact absurd h hf
theorem chk_tab {rs : List Rt} (h : chkL rs = 0) : Tab rs := by
  unfold chkL at h
  split at h
  · cases h
  · obtain ⟨h1, h2, _⟩ := chkGo_tab rs none h
    exact ⟨h1, h2, by omega⟩

end Go.Proofs.YtfcknkanbcndjagGreatDoor

/- CONTRACTS: table.Check, table.Of. -/
namespace Go.Proofs.YtfcknkanbcndjagGreatDoor
open Go.RowKit
attribute [local go_sem] Ext.all Ext.cell Ext.frozen Ext.lt Ext.lt1 Ext.lt2 Ext.ne Ext.ne'
theorem box3_gr (w : World) (r : Rt) : ∃ W, W = w.alloc (.cells #[iv r.1, iv r.2.1, iv r.2.2] 133) ∧ Gr w W ∧ W.cell? ⟨w.heap.size, 0, none⟩ = some (iv r.1) ∧ W.cell? ⟨w.heap.size, 1, none⟩ = some (iv r.2.1) ∧ W.cell? ⟨w.heap.size, 2, none⟩ = some (iv r.2.2) ∧ w.heap.size < W.heap.size := by
  refine ⟨_, rfl, (Gr.refl w).alloc _, ?_, ?_, ?_, ?_⟩ <;> simp [go_sem]

set_option maxRecDepth 20000 in
set_option maxHeartbeats 2000000 in
theorem check2_any (w : World) (M : Nat → Prop) (ao : Option Addr) (n c : Nat) (rs : List Rt) (H : RowAt w M ao rs) (hn : rs.length = n) :
    Calls Tryz.prog 113 #[.slice ao n c] w fun e w' => e = .returned (.int .i64 (chkL rs)) ∧ ∃ d : Ext w, w' = d.out := by
  by_cases h40 : 40 < n
  · have e : chkL rs = 3 := by unfold chkL; rw [if_pos (by omega)]
    rw [e]
    go_enter Tryz.func113, Tryz.ntmps113
    go_wp2
    go_ret
    exact ⟨rfl, ext_mk (Gr.refl _)⟩
  have HC : Hid (chkL rs = chkGo none rs) := by unfold Hid chkL; rw [if_neg (by omega)]
  go_enter Tryz.func113, Tryz.ntmps113
  go_wp2
  go_loopw [10] (fun i wr => ∃ k : Nat, k ≤ n ∧ i = .int .i64 k ∧ Hid (chkGo (prevL rs k) (rs.drop k) = chkL rs) ∧ Gr w wr) (fun i _ => n - (intOf i).toNat)
  case atStart => exact ⟨0, by omega, rfl, HC.out.symm, Gr.refl _⟩
  case round =>
    obtain ⟨k, hk, rfl, HL, g⟩ := hrel
    by_cases hlt : k < n
    · have hkr : k < rs.length := by omega
      rcases H with rfl | ⟨rb, o, rfl, hb, hM, hcs⟩
      · simp at hkr
      obtain ⟨c1, c2, c3⟩ := hcs k hkr
      have HS := hide (chkGo_drop hkr)
      obtain ⟨W1, hW1, g1, b0, b1, b2, s1⟩ := box3_gr wr rs[k]
      have HW1 := hide hW1
      clear hW1
      have gw1 : Gr w W1 := g.trans g1
      have hb1 : rb < W1.heap.size := Nat.lt_of_lt_of_le hb (Below.size gw1)
      have oldc : ∀ q, W1.cell? ⟨rb, q, none⟩ = w.cell? ⟨rb, q, none⟩ := fun q => Below.cell gw1 (p := ⟨rb, q, none⟩) hb
      have oldr : ∀ q, wr.cell? ⟨rb, q, none⟩ = w.cell? ⟨rb, q, none⟩ := fun q => Below.cell g (p := ⟨rb, q, none⟩) hb
      rw [← oldr] at c1 c2 c3
      have hprev : k = 0 ∨ ∃ (j : Nat) (q : Rt), k = j + 1 ∧ prevL rs k = some q ∧ W1.cell? ⟨rb, o + j * 3, none⟩ = some (iv q.1) ∧ W1.cell? ⟨rb, o + j * 3 + 1, none⟩ = some (iv q.2.1) := by
        rcases Nat.eq_zero_or_pos k with h0 | h0
        · exact .inl h0
        · obtain ⟨j, rfl⟩ : ∃ j, k = j + 1 := ⟨k - 1, by omega⟩
          have hj := hcs j (by omega)
          refine .inr ⟨j, rs[j], rfl, prevL_succ (by omega), ?_, ?_⟩
          · rw [oldc]; exact hj.1
          · rw [oldc]; exact hj.2.1
      clear hcs oldc oldr
      generalize rs[k] = r at *
      obtain ⟨rl, rbb, rh⟩ := r
      simp only at c1 c2 c3 b0 b1 b2
      by_cases hbad : okB rl rbb = false ∨ hopB rh = false
      · have HR : Hid (1 = chkL rs) := by unfold Hid; rw [← HL.out, HS.out]; unfold fltL; simp [hbad]
        clear HS HL hprev
        cases ho : okB rl rbb
        · have HO := hide ho
          clear ho hbad
          go_wp2_with (go_at_call 114; rw [← HW1.out]; refine (check_is HO.out _).mono ?_; rintro e _ ⟨rfl, d1, rfl⟩)
          go_ret
          exact ⟨ret_int HR.out, ext_mk (gw1.ext d1)⟩
        · have HO := hide ho
          have HH : Hid (hopB rh = false) := by rcases hbad with h | h; · rw [ho] at h; cases h
                                                · exact h
          clear ho hbad
          go_wp2_with (first | (go_at_call 114; rw [← HW1.out]; refine (check_is HO.out _).mono ?_; rintro e _ ⟨rfl, d1, rfl⟩) | (go_at_call 116; refine (Calls.ext_of (hop_is HH.out _)).mono ?_; rintro e _ ⟨rfl, d2, rfl⟩))
          go_ret
          exact ⟨ret_int HR.out, ext_mk (gw1.ext d2)⟩
      · have HO : Hid (okB rl rbb = true) := by unfold Hid; cases e : okB rl rbb with | true => rfl | false => exact absurd (.inl e) hbad
        have HH : Hid (hopB rh = true) := by unfold Hid; cases e : hopB rh with | true => rfl | false => exact absurd (.inr e) hbad
        clear hbad
        rcases hprev with rfl | ⟨j, q, hkj, hpq, p0, p1⟩
        · have HR : Hid (chkGo (prevL rs 1) (rs.drop 1) = chkL rs) := by unfold Hid; rw [← HL.out, HS.out]; unfold fltL; simp [HO.out, HH.out, prevL_zero]
          clear HS HL
          simp only [Nat.zero_mul, Nat.add_zero] at c1 c2 c3
          go_wp2_with (first | (go_at_call 114; rw [← HW1.out]; refine (check_is HO.out _).mono ?_; rintro e _ ⟨rfl, d1, rfl⟩) | (go_at_call 116; refine (Calls.ext_of (hop_is HH.out _)).mono ?_; rintro e _ ⟨rfl, d2, rfl⟩))
          refine wp_region_ext_of (by kernel_rfl) (by kernel_rfl) ?_
          repeat (go_big_quiet_step (fail))
          refine wpQuiet_nil ?_
          rintro _ ⟨d3, rfl⟩
          go_wp2
          refine wp_region_ext_of (by kernel_rfl) (by kernel_rfl) ?_
          repeat (go_big_quiet_step (fail))
          refine wpQuiet_nil ?_
          rintro _ ⟨d4, rfl⟩
          go_wp2
          go_roundw
          case rel => exact ⟨1, by omega, by go_num, HR, gw1.ext d4⟩
          case measure => simp [intOf]; omega
        · subst hkj
          have hwj : IntKind.i64.wrap (j : Int) = (j : Int) := by rw [IntKind.wrap_i64]; omega
          have hd : decide ((0 : Int) < (j : Int) + 1) = true := decide_eq_true (by omega)
          have hjn : (j : Int) < (n : Int) := by omega
          have hj0 : (0 : Int) ≤ (j : Int) := by omega
          obtain ⟨ql, qb, qh⟩ := q
          simp only at p0 p1
          have HP := hide hpq
          clear hpq
          have e3 : ((ql == rl) = true ∧ (qb == rbb) = true ∧ Hid (sameB (ql, qb, qh) rl rbb = true)) ∨ ((ql == rl) = false ∧ Hid (sameB (ql, qb, qh) rl rbb = false)) ∨ ((ql == rl) = true ∧ (qb == rbb) = false ∧ Hid (sameB (ql, qb, qh) rl rbb = false)) := by
            unfold Hid sameB
            cases h1 : ql == rl <;> cases h2 : qb == rbb <;> simp at h1 h2 <;> simp [h1, h2]
          rcases e3 with ⟨s2, s3, es⟩ | e3
          · have HR : Hid (5 = chkL rs) := by unfold Hid; rw [← HL.out, HS.out]; unfold fltL; simp [HO.out, HH.out, HP.out, es.out]
            clear HS HL es HP
            go_wp2_with (first | (go_at_call 114; rw [← HW1.out]; refine (check_is HO.out _).mono ?_; rintro e _ ⟨rfl, d1, rfl⟩) | (go_at_call 116; refine (Calls.ext_of (hop_is HH.out _)).mono ?_; rintro e _ ⟨rfl, d2, rfl⟩))
            refine wp_region_ext_of (by kernel_rfl) (by kernel_rfl) ?_
            repeat (go_big_quiet_step (fail))
            refine wpQuiet_nil ?_
            rintro _ ⟨d3, rfl⟩
            go_wp2
            go_ret
            exact ⟨ret_int HR.out, ext_mk (gw1.ext d3)⟩
          · cases hls : lessB ql qb rl rbb
            · have HLS := hide hls
              have HR : Hid (4 = chkL rs) := by
                unfold Hid; rw [← HL.out, HS.out]; unfold fltL
                rcases e3 with ⟨_, es⟩ | ⟨_, _, es⟩ <;> simp [HO.out, HH.out, HP.out, es.out, hls]
              clear HS HL HP hls
              rcases e3 with ⟨s2, es⟩ | ⟨s2, s3, es⟩
              all_goals
                go_wp2_with (first | (go_at_call 114; rw [← HW1.out]; refine (check_is HO.out _).mono ?_; rintro e _ ⟨rfl, d1, rfl⟩) | (go_at_call 116; refine (Calls.ext_of (hop_is HH.out _)).mono ?_; rintro e _ ⟨rfl, d2, rfl⟩))
                refine wp_region_ext_of (by kernel_rfl) (by kernel_rfl) ?_
                repeat (go_big_quiet_step (fail))
                refine wpQuiet_nil ?_
                rintro _ ⟨d3, rfl⟩
                go_wp2
                refine wp_region_ext_of (by kernel_rfl) (by kernel_rfl) ?_
                repeat (go_big_quiet_step ((go_at_call 152; with_reducible exact Calls.ext_of (less_is HLS.out _))))
                refine wpQuiet_nil ?_
                rintro _ ⟨d4, rfl⟩
                go_wp2
                go_ret
                exact ⟨ret_int HR.out, ext_mk (gw1.ext d4)⟩
            · have HLS := hide hls
              have HR : Hid (chkGo (prevL rs (j + 1 + 1)) (rs.drop (j + 1 + 1)) = chkL rs) := by
                unfold Hid; rw [← HL.out, HS.out]; unfold fltL
                rcases e3 with ⟨_, es⟩ | ⟨_, _, es⟩ <;> simp [HO.out, HH.out, HP.out, es.out, hls]
              clear HS HL HP hls
              rcases e3 with ⟨s2, es⟩ | ⟨s2, s3, es⟩
              all_goals
                go_wp2_with (first | (go_at_call 114; rw [← HW1.out]; refine (check_is HO.out _).mono ?_; rintro e _ ⟨rfl, d1, rfl⟩) | (go_at_call 116; refine (Calls.ext_of (hop_is HH.out _)).mono ?_; rintro e _ ⟨rfl, d2, rfl⟩))
                refine wp_region_ext_of (by kernel_rfl) (by kernel_rfl) ?_
                repeat (go_big_quiet_step (fail))
                refine wpQuiet_nil ?_
                rintro _ ⟨d3, rfl⟩
                go_wp2
                refine wp_region_ext_of (by kernel_rfl) (by kernel_rfl) ?_
                repeat (go_big_quiet_step ((go_at_call 152; with_reducible exact Calls.ext_of (less_is HLS.out _))))
                refine wpQuiet_nil ?_
                rintro _ ⟨d4, rfl⟩
                go_wp2
                go_roundw
                case rel => exact ⟨j + 1 + 1, by omega, by go_num, HR, gw1.ext d4⟩
                case measure => simp [intOf]; omega
    · have HR : Hid (0 = chkL rs) := by unfold Hid; rw [← HL.out, List.drop_of_length_le (by omega)]; rfl
      clear HL H
      obtain ⟨d, rfl⟩ := ext_mk g
      go_wp2
      go_ret
      exact ⟨ret_int HR.out, _, rfl⟩

/-- What Of leaves: a table of these routes in new memory, or nil. -/
theorem of_any (w : World) (M : Nat → Prop) (ao : Option Addr) (n c : Nat) (rs : List Rt) (H : RowAt w M ao rs) (hn : rs.length = n) (hc : chkL rs = 0) :
    Calls Tryz.prog 61 #[.slice ao n c] w fun e w' => ∃ tb v, e = .returned (.tuple #[.pointer (some ⟨tb, 0, none⟩), .int .i64 0]) ∧ TabS w' (fun k => k < w.heap.size) tb v rs ∧ ∃ d : Ext w, w' = d.out := by
  have hT := chk_tab hc
  have hlen := hT.len
  have HC := hide (check2_any w M ao n c rs H hn)
  rw [hc] at HC
  have HA : Hid (∀ d : Ext w, ∃ v' w', (Builtin.append_ #[108, 108] 108 #[.slice none 0 0, .slice ao n c]).run Tryz.prog d.out = .ok v' w' ∧ w'.ownsRow d.out.heap.size 133 3 v' n (cels rs) ∧ d.out.grownBy w' none) := fun d => run_append_new d.out M 108 ao n c rs (H.gr d.gr) hn (by omega)
  clear H
  go_enter Tryz.func61, Tryz.ntmps61
  go_wp2_with (first | (go_at_call 113; refine HC.out.mono ?_; rintro e _ ⟨rfl, d1, rfl⟩; obtain ⟨v2, w2, hr, ho, hg⟩ := HA.out d1; have HR := hide hr; have HO := hide ho; clear hr ho) | (at_builtin; refine Lib.wpList_append_run _ rfl _ _ _ _ rfl _ _ rfl rfl _ _ HR.out ?_; obtain ⟨ao2, c2, hv2, hb2⟩ := ownR_shape HO.out; subst hv2))
  go_ret2
  have gr2 : Gr w w2 := d1.gr.grown hg (fun k h => by cases h)
  have hs := Below.size d1.gr
  refine ⟨w2.heap.size, _, rfl, ⟨heap_alloc_new w2 _, ?_, ?_, ?_, ?_⟩, ext_mk (gr2.alloc _)⟩
  · rw [hn]; exact ownR_base (HO.out.alloc _)
  · have := Below.size gr2; omega
  · intro g hgk hlt
    have := (HO.out.lt g hgk).1
    omega
  · intro k hk
    have := Below.size gr2; simp; omega

end Go.Proofs.YtfcknkanbcndjagGreatDoor

/- CONTRACTS OF tables, in short forms. -/
namespace Go.Proofs.YtfcknkanbcndjagGreatDoor
open Go.RowKit
attribute [local go_sem] Ext.all Ext.cell Ext.frozen Ext.lt Ext.lt1 Ext.lt2 Ext.ne Ext.ne'
theorem set_is {w : World} {M : Nat → Prop} {tb : Nat} {v : Value} {rs rs' : List Rt} {l b h code : Int} (S : TabS w M tb v rs) (hT : Tab rs) (e : setL rs l b h = (rs', code)) :
    Calls Tryz.prog 66 #[.pointer (some ⟨tb, 0, none⟩), pfx l b, .int .i64 h] w fun e w' => e = .returned (.int .i64 code) ∧ ∃ v', TabS w' M tb v' rs' ∧ Kp M w w' := by
  have := set_any w M tb v rs l b h S hT
  rw [e] at this
  exact this
theorem look_is {w : World} {M : Nat → Prop} {tb : Nat} {v : Value} {rs : List Rt} {a x : Int} (S : TabS w M tb v rs) (hm : rs.length ≤ 1000) (e : lookL rs a = x) (d : Ext w) :
    Calls Tryz.prog 34 #[.pointer (some ⟨tb, 0, none⟩), .int .i64 a] d.out fun e w' => e = .returned (.int .i64 x) ∧ ∃ d' : Ext d.out, w' = d'.out := by
  subst e
  have Sd := S.gr d.gr
  obtain ⟨ao, c, rfl, H⟩ := Sd.shape
  exact look_any d.out _ tb ao rs.length c rs a Sd.cell0 H rfl hm
theorem list_is {w : World} {M : Nat → Prop} {tb : Nat} {v : Value} {rs : List Rt} (S : TabS w M tb v rs) (hm : rs.length ≤ 1000) :
    Calls Tryz.prog 60 #[.pointer (some ⟨tb, 0, none⟩)] w fun e w' => ∃ ao' c', e = .returned (.slice ao' rs.length c') ∧ RowAt w' (fun k => w.heap.size ≤ k) ao' rs ∧ ∃ d : Ext w, w' = d.out := by
  obtain ⟨ao, c, rfl, H⟩ := S.shape
  exact list_any w _ tb ao rs.length c rs S.cell0 H rfl hm
theorem all_is {w : World} {M : Nat → Prop} {tb : Nat} {v : Value} {rs : List Rt} (S : TabS w M tb v rs) (hm : rs.length ≤ 1000) (d0 : Ext w) :
    Calls Tryz.prog 151 #[.pointer (some ⟨tb, 0, none⟩)] d0.out fun e w' => ∃ g, e = .returned (.slice (some ⟨g, 0, none⟩) 256 256) ∧ d0.out.heap.size ≤ g ∧ g < w'.heap.size ∧ (∀ j : Nat, j < 256 → w'.cell? ⟨g, j, none⟩ = some (iv (lookL rs j))) ∧ ∃ d : Ext w, w' = d.out := by
  have Sd := S.gr d0.gr
  obtain ⟨ao, c, rfl, H⟩ := Sd.shape
  refine (all_any d0.out _ tb ao rs.length c rs Sd.cell0 Sd.lt H rfl hm).mono ?_
  rintro e _ ⟨g, rfl, h1, h2, h3, d, rfl⟩
  exact ⟨g, rfl, h1, h2, h3, ext_mk (d0.gr.ext d)⟩

end Go.Proofs.YtfcknkanbcndjagGreatDoor

/- WHOSE IS WHAT, as numbers: owners are a table of nodes; a node's table. No Go here. -/
namespace Go.Proofs.YtfcknkanbcndjagGreatDoor

theorem snoc_ind {p : List Rt → Prop} (h0 : p []) (h1 : ∀ rs r, p rs → p (rs ++ [r])) (rs : List Rt) : p rs := by
  rw [← List.reverse_reverse rs]
  induction rs.reverse with
  | nil => exact h0
  | cons r l ih => rw [List.reverse_cons]; exact h1 _ _ ih
/-- Owners: a table whose hops are nodes. -/
structure Ows (rs : List Rt) : Prop where
  tab : Tab rs
  hop : ∀ r ∈ rs, isN r.2.2
theorem Ows.nil : Ows [] := ⟨Tab.nil, fun _ h => by cases h⟩
/-- The step SOwn. -/
def ownC (rs : List Rt) (a n l b : Int) : List Rt × Int := if isN a then setL rs l b (if n = 0 then -2 else a) else (rs, 1)
theorem set_mem {rs : List Rt} (h : Tab rs) {l b h' : Int} {r : Rt} (hr : r ∈ (setL rs l b h').1) : r ∈ rs ∨ (r = (l, b, h') ∧ h' ≠ -2) := by
  rcases h.set l b h' with ⟨e, _⟩ | ⟨_, _, A, B, _, _, _, ⟨_, h0, _, e, _, _, e'⟩ | ⟨_, h2, e', ⟨e, _⟩ | ⟨h0, _, e, _⟩⟩⟩
  · rw [e] at hr; exact .inl hr
  · rw [e'] at hr; rw [e]
    rcases List.mem_append.1 hr with q | q
    · exact .inl (List.mem_append.2 (.inl q))
    · exact .inl (List.mem_append.2 (.inr (List.mem_cons_of_mem _ q)))
  · rw [e'] at hr; rw [e]
    rcases List.mem_append.1 hr with q | q
    · exact .inl (List.mem_append.2 (.inl q))
    · rcases List.mem_cons.1 q with q | q
      · exact .inr ⟨q, h2⟩
      · exact .inl (List.mem_append.2 (.inr q))
  · rw [e'] at hr; rw [e]
    rcases List.mem_append.1 hr with q | q
    · exact .inl (List.mem_append.2 (.inl q))
    · rcases List.mem_cons.1 q with q | q
      · exact .inr ⟨q, h2⟩
      · exact .inl (List.mem_append.2 (.inr (List.mem_cons_of_mem _ q)))
theorem Ows.own {rs : List Rt} (h : Ows rs) (a n l b : Int) : Ows (ownC rs a n l b).1 := by
  unfold ownC
  by_cases ha : isN a
  · rw [if_pos ha]
    refine ⟨h.tab.set_tab _ _ _, fun r hr => ?_⟩
    rcases set_mem h.tab hr with q | ⟨q, h2⟩
    · exact h.hop r q
    · rw [q]
      show isN (if n = 0 then -2 else a)
      by_cases hn : n = 0
      · rw [if_pos hn] at h2; exact absurd rfl h2
      · rw [if_neg hn]; exact ha
  · rw [if_neg ha]; exact h
/-- Whose an address is. -/
theorem Ows.look {rs : List Rt} (h : ∀ r ∈ rs, isN r.2.2) (a : Int) : lookL rs a = -1 ∨ isN (lookL rs a) := by
  revert h
  induction rs using snoc_ind with
  | h0 => exact fun _ => .inl rfl
  | h1 rs r ih =>
    intro h
    rw [lookL_snoc]
    by_cases q : hasB r.1 r.2.1 a = true
    · rw [if_pos q]; exact .inr (h r (by simp))
    · rw [if_neg q]; exact ih fun s hs => h s (by simp [hs])

/-- Where the way of a node goes. -/
def hpT (t : Tn) (n z : Int) : Int := if isN n then (if isN z then ((t.nd n.toNat).ways z.toNat).2.2 else -1) else -1
/-- A node's table. -/
def fullL (t : Tn) (n : Int) (rs : List Rt) : List Rt := rs.map fun r => (r.1, r.2.1, hpT t n r.2.2)
theorem full_len (t : Tn) (n : Int) (rs : List Rt) : (fullL t n rs).length = rs.length := List.length_map _
theorem full_snoc (t : Tn) (n : Int) (rs : List Rt) (r : Rt) : fullL t n (rs ++ [r]) = fullL t n rs ++ [(r.1, r.2.1, hpT t n r.2.2)] := by unfold fullL; rw [List.map_append]; rfl
theorem full_look (t : Tn) (n : Int) {rs : List Rt} (h : ∀ r ∈ rs, isN r.2.2) (a : Int) : lookL (fullL t n rs) a = if lookL rs a = -1 then -1 else hpT t n (lookL rs a) := by
  revert h
  induction rs using snoc_ind with
  | h0 => exact fun _ => rfl
  | h1 rs r ih =>
    intro h
    rw [full_snoc, lookL_snoc, lookL_snoc]
    by_cases q : hasB r.1 r.2.1 a = true
    · rw [if_pos q, if_pos q]
      have := h r (by simp)
      rw [if_neg (by have := this.1; omega)]
    · rw [if_neg q, if_neg q]
      exact ih fun s hs => h s (by simp [hs])
section
variable {t : Tn} {c : Nat → Nat → Nat}
/-- A way goes nowhere, or to a node; to the node itself just if it is the end. -/
theorem TnA.hop (H : TnA t c) {a k : Nat} (ha : a < 6) (hk : k < 6) : (((t.nd a).ways k).2.2 = -1 ∨ isN ((t.nd a).ways k).2.2) ∧ (((t.nd a).ways k).2.2 = (a : Int) ↔ k = a) := by
  obtain ⟨hx, hme⟩ := H.ok.node a ha
  by_cases e : k = a
  · subst e
    have := (H.self ha).2.1
    rw [this]
    exact ⟨.inr ⟨by show (0 : Int) ≤ (k : Int); omega, by show (k : Int) < 6; omega⟩, ⟨fun _ => rfl, fun _ => rfl⟩⟩
  · have hw := (H.s.z a ha).ok.way k hk (by rw [hme]; exact e)
    by_cases d : ((t.nd a).ways k).2.2 = -1
    · exact ⟨.inl d, ⟨fun q => by rw [d] at q; omega, fun q => absurd q e⟩⟩
    · obtain ⟨j, hj, ew, hc, _⟩ := hw.by_ d (by rw [hme]; exact e)
      have e2 : ((t.nd a).ways k).2.2 = (j : Int) := by rw [ew]; rfl
      refine ⟨.inr (by rw [e2]; exact ⟨by omega, by omega⟩), ⟨fun q => ?_, fun q => absurd q e⟩⟩
      rw [e2] at q
      have : j = a := by omega
      subst this
      exact absurd (by rw [H.s.tc.cost j j ha ha, H.s.tc.lk.self]; rfl) hc
theorem hp_hop (H : TnA t c) (n z : Int) : hpT t n z = -1 ∨ isN (hpT t n z) := by
  unfold hpT
  by_cases hn : isN n
  · by_cases hz : isN z
    · rw [if_pos hn, if_pos hz]
      exact (H.hop (a := n.toNat) (k := z.toNat) (by have := hn.1; have := hn.2; omega) (by have := hz.1; have := hz.2; omega)).1
    · rw [if_pos hn, if_neg hz]; exact .inl rfl
  · rw [if_neg hn]; exact .inl rfl
theorem full_tab (H : TnA t c) (n : Int) {rs : List Rt} (h : Tab rs) : Tab (fullL t n rs) := by
  refine ⟨?_, ?_, by rw [full_len]; exact h.len⟩
  · intro r hr
    obtain ⟨s, hs, rfl⟩ := List.mem_map.1 hr
    refine ⟨(h.ok s hs).1, ?_⟩
    show hopB (hpT t n s.2.2) = true
    unfold hopB
    exact decide_eq_true (by rcases hp_hop H n s.2.2 with q | q; exact .inl q; exact .inr q)
  · show (rs.map _).Pairwise _
    rw [List.pairwise_map]
    exact h.srt
end
/-- A step of a post, and its code. -/
def fdoC (t : Tn) (rs : List Rt) (x : Sp) (l b : Int) : (Tn × List Rt) × Int := if x.k = 7 then ((t, (ownC rs x.a x.n l b).1), (ownC rs x.a x.n l b).2) else (((doT t x).1, rs), (doT t x).2)
end Go.Proofs.YtfcknkanbcndjagGreatDoor

/- A POST IN MEMORY: a Net and a table of owners; objects beside each other. -/
namespace Go.Proofs.YtfcknkanbcndjagGreatDoor
open Go.RowKit

/-- An object whose own blocks were S has changed: all else is as it was; its own blocks are now S'. -/
structure Chg (w w' : World) (S S' : Nat → Prop) : Prop where
  kp : Kp (fun b => b < w.heap.size ∧ ¬ S b) w w'
  nw : ∀ b, S' b → S b ∨ w.heap.size ≤ b
theorem Gr.chg {w w' : World} (g : Gr w w') (S : Nat → Prop) : Chg w w' S S := ⟨g.kp _, fun _ h => .inl h⟩
theorem Chg.trans {w w1 w2 : World} {S S1 S2 : Nat → Prop} (h : Chg w w1 S S1) (k : Chg w1 w2 S1 S2) : Chg w w2 S S2 := by
  refine ⟨h.kp.trans (k.kp.mono fun b _ hb => ⟨Nat.lt_of_lt_of_le hb.1 h.kp.size, fun hs => ?_⟩), fun b hb => ?_⟩
  · rcases h.nw b hs with q | q
    · exact hb.2 q
    · have := hb.1; omega
  · rcases k.nw b hb with q | q
    · exact h.nw b q
    · exact .inr (Nat.le_trans h.kp.size q)
/-- The own blocks of a table. -/
def ownB (tb : Nat) (u : Value) (b : Nat) : Prop := b = tb ∨ u.ownBlock = some b
section
variable {M N : Nat → Prop} {B w w' : World} {P p k : Nat} {q : Nat → Nat} {v v' : Value} {tb : Nat} {u u' : Value} {c c' : Nat → Nat → Nat} {t t' : Tn} {n n' : Nat} {rs rs' : List Rt}
theorem TabS.own_lt (h : TabS w M tb u rs) {b : Nat} (hb : ownB tb u b) : b < w.heap.size := by
  rcases hb with rfl | e
  · exact h.lt
  · exact (h.own.lt b e).2
/-- All that is not the table's stays. -/
theorem TabS.all (h : TabS w M tb u rs) : TabS w (fun b => b < w.heap.size ∧ ¬ ownB tb u b) tb u rs :=
  ⟨h.cell, h.own, fun e => e.2 (.inl rfl), fun _ hg e => e.2 (.inr hg), fun _ e => e.1⟩
theorem Nl.keep (H : Nl M B w p k q v c t n) (hk : Kp N w w') (hMN : ∀ b, M b → N b) (hS : ∀ b, own p k q v b → N b) : Nl M B w' p k q v c t n :=
  ⟨H.h.keep hk hMN (hS _ (.inl rfl)) (hS _ (.inr (.inl rfl))) (fun a ha => hS _ (.inr (.inr (.inl ⟨a, ha, rfl⟩)))) (fun _ e => hS _ (.inr (.inr (.inr e)))), H.a, H.l, H.g⟩
theorem rest_of {b : Nat} (hb : b < w.heap.size) (h : ¬ own p k q v b) : rest w p k q v b :=
  ⟨hb, fun e => h (.inl e), fun e => h (.inr (.inl e)), fun a ha e => h (.inr (.inr (.inl ⟨a, ha, e⟩))), fun e => h (.inr (.inr (.inr e)))⟩
theorem rest_not {b : Nat} (hb : rest w p k q v b) : ¬ own p k q v b := by
  rintro (e | e | ⟨a, ha, e⟩ | e)
  · exact hb.2.1 e
  · exact hb.2.2.1 e
  · exact hb.2.2.2.1 a ha e
  · exact hb.2.2.2.2 e
theorem Fr.chg (f : Fr w p k q v w' v') : Chg w w' (own p k q v) (own p k q v') :=
  ⟨f.kp.mono fun _ _ hb => rest_of hb.1 hb.2, fun b hb => by
    by_cases h : own p k q v b
    · exact .inl h
    · by_cases hl : b < w.heap.size
      · exact absurd hb (rest_not (f.rst (rest_of hl h)))
      · exact .inr (by omega)⟩
/-- A Post at P: its Net, its table of owners. -/
structure Po (M : Nat → Prop) (B w : World) (P p k : Nat) (q : Nat → Nat) (v : Value) (tb : Nat) (u : Value) (c : Nat → Nat → Nat) (t : Tn) (n : Nat) (rs : List Rt) : Prop where
  blk : w.heap[P]? = some (.cells #[pv p, pv tb] 33 (0, 0))
  net : Nl M B w p k q v c t n
  tab : TabS w M tb u rs
  ows : Ows rs
  nop : ¬ M P
  a1 : ∀ b, own p k q v b → ¬ ownB tb u b
  a2 : ¬ own p k q v P
  a3 : ¬ ownB tb u P
def ownP (P p k : Nat) (q : Nat → Nat) (v : Value) (tb : Nat) (u : Value) (b : Nat) : Prop := b = P ∨ own p k q v b ∨ ownB tb u b
theorem Po.lt (H : Po M B w P p k q v tb u c t n rs) {b : Nat} (hb : ownP P p k q v tb u b) : b < w.heap.size := by
  rcases hb with rfl | h | h
  · exact lt_of_block H.blk
  · exact H.net.h.own_lt h
  · exact H.tab.own_lt h
theorem Po.out (H : Po M B w P p k q v tb u c t n rs) {b : Nat} (hm : M b) : b < w.heap.size ∧ ¬ ownP P p k q v tb u b := by
  refine ⟨Nat.lt_of_lt_of_le (H.net.h.bd b hm) H.net.h.kp.size, ?_⟩
  rintro (rfl | h | h)
  · exact H.nop hm
  · exact rest_not (H.net.h.sub hm) h
  · rcases h with rfl | h
    · exact H.tab.notTb hm
    · exact H.tab.notRow b h hm
theorem Po.gr (H : Po M B w P p k q v tb u c t n rs) (g : Gr w w') : Po M B w' P p k q v tb u c t n rs :=
  ⟨(Below.block g P (lt_of_block H.blk)).trans H.blk, H.net.ext g, H.tab.gr g, H.ows, H.nop, H.a1, H.a2, H.a3⟩
theorem Po.keep (H : Po M B w P p k q v tb u c t n rs) (hk : Kp N w w') (hMN : ∀ b, M b → N b) (hS : ∀ b, ownP P p k q v tb u b → N b) : Po M B w' P p k q v tb u c t n rs :=
  ⟨(hk.block P (lt_of_block H.blk) (hS P (.inl rfl))).trans H.blk, H.net.keep hk hMN (fun b hb => hS b (.inr (.inl hb))), H.tab.kept hk (hS tb (.inr (.inr (.inl rfl)))) (fun g hg => hS g (.inr (.inr (.inr hg)))), H.ows, H.nop, H.a1, H.a2, H.a3⟩
/-- The Net has changed. -/
theorem Po.netStep (H : Po M B w P p k q v tb u c t n rs) (H' : Nl M B w' p k q v' c' t' n') (f : Fr w p k q v w' v') : Po M B w' P p k q v' tb u c' t' n' rs ∧ Chg w w' (ownP P p k q v tb u) (ownP P p k q v' tb u) := by
  have hB : ∀ b, ownB tb u b → rest w p k q v b := fun b hb => rest_of (H.tab.own_lt hb) (fun h => H.a1 b h hb)
  have hP : rest w p k q v P := rest_of (lt_of_block H.blk) H.a2
  have fc := f.chg
  refine ⟨⟨(f.kp.block P hP.1 hP).trans H.blk, H', H.tab.kept f.kp (hB tb (.inl rfl)) (fun g hg => hB g (.inr hg)), H.ows, H.nop, fun b ho hb => rest_not (f.rst (hB b hb)) ho, rest_not (f.rst hP), H.a3⟩, ?_, ?_⟩
  · exact fc.kp.mono fun b _ hb => ⟨hb.1, fun h => hb.2 (.inr (.inl h))⟩
  · rintro b (h | h | h)
    · exact .inl (.inl h)
    · rcases fc.nw b h with q | q
      · exact .inl (.inr (.inl q))
      · exact .inr q
    · exact .inl (.inr (.inr h))
/-- The owners have changed. -/
theorem Po.tabStep (H : Po M B w P p k q v tb u c t n rs) (H' : TabS w' (fun b => b < w.heap.size ∧ ¬ ownB tb u b) tb u' rs') (k' : Kp (fun b => b < w.heap.size ∧ ¬ ownB tb u b) w w') (o : Ows rs') : Po M B w' P p k q v tb u' c t n rs' ∧ Chg w w' (ownP P p k q v tb u) (ownP P p k q v tb u') := by
  have hnw : ∀ b, ownB tb u' b → ownB tb u b ∨ w.heap.size ≤ b := by
    rintro b (h | h)
    · exact .inl (.inl h)
    · by_cases hl : b < w.heap.size
      · by_cases ho : ownB tb u b
        · exact .inl ho
        · exact absurd ⟨hl, ho⟩ (H'.notRow b h)
      · exact .inr (by omega)
  have hM : ∀ b, M b → b < w.heap.size ∧ ¬ ownB tb u b := fun b hm => ⟨(H.out hm).1, fun h => (H.out hm).2 (.inr (.inr h))⟩
  have hPl := lt_of_block H.blk
  have hN : ∀ b, own p k q v b → b < w.heap.size ∧ ¬ ownB tb u b := fun b hb => ⟨H.net.h.own_lt hb, H.a1 b hb⟩
  refine ⟨⟨(k'.block P hPl ⟨hPl, H.a3⟩).trans H.blk, H.net.keep k' hM hN, ⟨H'.cell, H'.own, H.tab.notTb, fun g hg hm => H'.notRow g hg (hM g hm), fun b hm => Nat.lt_of_lt_of_le (hM b hm).1 k'.size⟩, o, H.nop, fun b hb ho => ?_, H.a2, fun ho => ?_⟩, ?_, ?_⟩
  · rcases hnw b ho with z | z
    · exact H.a1 b hb z
    · have := (hN b hb).1; omega
  · rcases hnw P ho with z | z
    · exact H.a3 z
    · omega
  · exact k'.mono fun b _ hb => ⟨hb.1, fun h => hb.2 (.inr (.inr h))⟩
  · rintro b (h | h | h)
    · exact .inl (.inl h)
    · exact .inl (.inr (.inl h))
    · rcases hnw b h with z | z
      · exact .inl (.inr (.inr z))
      · exact .inr z
end

end Go.Proofs.YtfcknkanbcndjagGreatDoor
