/- TableApart: the walk. -/
import Derived.Test.YtajcdfnfbmahdabLawAid
namespace Go.Proofs.Ytajcdfnfbmahdab
open Go.RowKit
attribute [local go_sem] Ext.all Ext.cell Ext.frozen Ext.lt Ext.lt1 Ext.lt2 Ext.ne Ext.ne'

/-- Has one of the first k routes the address, longer than l? -/
def longB (rs : List Rt) (l a : Int) (k : Nat) : Bool := (rs.take k).any fun r => hasB r.1 r.2.1 a && decide (l < r.1)
theorem longB_succ {rs : List Rt} {k : Nat} (hk : k < rs.length) (l a : Int) : longB rs l a (k + 1) = (longB rs l a k || (hasB rs[k].1 rs[k].2.1 a && decide (l < rs[k].1))) := by
  unfold longB
  rw [List.take_succ_eq_append_getElem hk, List.any_append, List.any_cons, List.any_nil, Bool.or_false]
theorem longB_all {rs : List Rt} {l a : Int} {k : Nat} (hk : rs.length ≤ k) : (longB rs l a k = true ↔ ∃ r ∈ rs, hasB r.1 r.2.1 a = true ∧ l < r.1) := by
  unfold longB
  rw [List.take_of_length_le hk]
  simp

set_option maxRecDepth 20000 in
set_option maxHeartbeats 2000000 in
theorem apart_any (w : World) (N : Nat → Prop) (ao : Option Addr) (n c : Nat) (ls : List Rt) (l b h a : Int) (H : n ≤ 120 → RowAt w N ao ls ∧ ls.length = n) :
    Calls Try.prog 5 #[.slice ao n c, pfx l b, .int .i64 h, .int .i64 a] w fun e w' => e = .returned (.bool true) ∧ ∃ d : Ext w, w' = d.out := by
  obtain ⟨W, hW, g0, b0, b1, s0⟩ := box_gr w l b
  have HW := hide hW
  clear hW
  by_cases hbig : 120 < n
  · have hd : decide ((120 : Int) < (n : Int)) = true := decide_eq_true (by omega)
    clear H
    go_enter Try.func5, Try.ntmps5
    go_wp2_with (go_at_call 6; rw [← HW.out]; refine (begun_any _).mono ?_; rintro e _ ⟨rfl, d1, rfl⟩)
    go_ret
    exact ⟨rfl, ext_mk (g0.ext d1)⟩
  obtain ⟨hrow, rfl⟩ := H (by omega)
  clear H
  have hd : decide ((120 : Int) < (ls.length : Int)) = false := by simp; omega
  have HTB := hide (fun d : Ext W => tables_st d N ao c ls (hrow.gr g0) (by omega))
  have HT := hide (setAll_tab ls)
  clear hrow
  generalize setAll ls = rs at *
  obtain ⟨rs', code, hset⟩ : ∃ rs' code, setL rs l b h = (rs', code) := ⟨_, _, rfl⟩
  have HE := hide hset
  have HT' : Hid (Tab rs') := by have := HT.out.set_tab l b h; rw [hset] at this; exact this
  obtain ⟨was, hwas⟩ : ∃ was, lookL rs a = was := ⟨_, rfl⟩
  have HWAS := hide hwas
  by_cases hc : code = 0
  · subst hc
    have hap := HT.out.apart l b h a (by rw [hset])
    rw [hset] at hap
    simp only at hap
    obtain ⟨A1, A2⟩ := hap
    rw [hwas] at A1
    have HA1 := hide A1
    have HA2 := hide A2
    clear A1 A2 hset hwas
    go_enter Try.func5, Try.ntmps5
    go_wp2_with (first
      | (go_at_call 6; rw [← HW.out]; refine (begun_any _).mono ?_; rintro e _ ⟨rfl, d1, rfl⟩)
      | (go_at_call 7; refine (HTB.out d1).mono ?_; rintro e w2 ⟨tb, ro, c2, rfl, B2⟩; have HB := hide B2; clear B2)
      | (go_at_call 9; with_reducible refine (HB.out.look HT.out HWAS.out).mono ?_; rintro e _ ⟨rfl, d3, rfl⟩; have HB3 := hide (HB.out.gr d3.gr))
      | (go_at_call 8; refine (HB3.out.list HT.out).mono ?_; rintro e _ ⟨aw, c4, rfl, L1, L2, d4, rfl⟩; have HL := hide L1; clear L1 L2; have q0 := HL.out.cell (d1.lt _ s0) ((d1.cell _ _ s0).trans b0); have q1 := HL.out.cell (d1.lt _ s0) ((d1.cell _ _ s0).trans b1))
      | (go_at_call 13; refine (HL.out.set HT.out HE.out).mono ?_; rintro e w5 ⟨rfl, S5⟩; have H5 := hide S5; clear S5; have r0 := H5.out.cell (d1.lt _ s0) ((d1.cell _ _ s0).trans b0); have r1 := H5.out.cell (d1.lt _ s0) ((d1.cell _ _ s0).trans b1)))
    have hrow5 : Hid (∃ M, RowAt w5 M aw rs) := by obtain ⟨M, _, _, hR, _⟩ := H5.out.tab; exact ⟨M, hR⟩
    have hs5 : w.heap.size < w5.heap.size := Nat.lt_of_lt_of_le (d1.lt _ s0) (Below.size H5.out.old)
    have G5 := hide (H5.out.gr0 (g0.ext d1))
    have hm : rs.length ≤ 40 := HT.out.len
    clear q0 q1 HL HB3 HB
    go_loopw [14, 15] (fun lg i wr => ∃ k : Nat, k ≤ rs.length ∧ i = .int .i64 k ∧ lg = .bool (longB rs l a k) ∧ Gr w5 wr) (fun _ i _ => rs.length - (intOf i).toNat)
    case atStart => exact ⟨0, by omega, rfl, by simp [longB], Gr.refl _⟩
    case round =>
      obtain ⟨k, hk, rfl, rfl, g⟩ := hrel
      obtain ⟨d, rfl⟩ := ext_mk g
      by_cases hlt : k < rs.length
      · obtain ⟨M5, hR5⟩ := hrow5.out
        have HS := hide (longB_succ hlt l a)
        rcases hR5 with rfl | ⟨rb, o, rfl, hb, hM, hcs⟩
        · simp at hlt
        obtain ⟨c1, c2, c3⟩ := hcs k hlt
        clear hcs hrow5
        generalize rs[k] = r at *
        obtain ⟨rl, rbb, rh⟩ := r
        simp only at c1 c2 c3
        generalize longB rs l a k = lk at *
        have hway : (lk = true ∧ Hid (longB rs l a (k + 1) = true)) ∨ (lk = false ∧ Hid (hasB rl rbb a = false) ∧ Hid (longB rs l a (k + 1) = false)) ∨ (lk = false ∧ Hid (hasB rl rbb a = true) ∧ Hid (longB rs l a (k + 1) = decide (l < rl))) := by
          have e := HS.out
          simp only at e
          cases lk
          · cases hq : hasB rl rbb a
            · exact .inr (.inl ⟨rfl, rfl, by unfold Hid; rw [e, hq]; simp⟩)
            · exact .inr (.inr ⟨rfl, rfl, by unfold Hid; rw [e, hq]; simp⟩)
          · exact .inl ⟨rfl, by unfold Hid; rw [e]; simp⟩
        clear HS
        rcases hway with ⟨rfl, HR⟩ | ⟨rfl, HQ, HR⟩ | ⟨rfl, HQ, HR⟩
        all_goals
          go_wp2_with fail
          refine wp_region_ext_of (by kernel_rfl) (by kernel_rfl) ?_
          repeat (go_big_quiet_step ((go_at_call 11; with_reducible exact Calls.ext_of (rhas_is HQ.out _))))
          refine wpQuiet_nil ?_
          rintro _ ⟨d6, rfl⟩
          go_wp2
          go_roundw
          case rel => exact ⟨k + 1, by omega, by go_num, by rw [HR.out], d6.gr⟩
          case measure => simp [intOf]; omega
      · have hall := hide (longB_all (l := l) (a := a) (k := k) (rs := rs) (by omega))
        generalize longB rs l a k = lk at *
        cases hq : hasB l b a
        · have HQ := hide hq
          have HV := hide (HA1.out (.inl hq))
          clear hq
          go_wp2_with (first
            | (go_at_call 11; with_reducible refine (Calls.ext_of (rhas_is HQ.out _)).mono ?_; rintro e _ ⟨rfl, d6, rfl⟩)
            | (go_at_call 9; refine ((H5.out.gr d6.gr).look HT'.out HV.out).mono ?_; rintro e _ ⟨rfl, d7, rfl⟩))
          go_ret
          exact ⟨by simp, ext_mk ((G5.out.ext d6).ext d7)⟩
        · have HQ := hide hq
          clear hq
          cases lk
          · have HN : Hid (∀ r ∈ rs, hasB r.1 r.2.1 a = true → r.1 ≤ l) := fun r hr hra => by
              have h2 : ¬ (l < r.1) := fun e => by have := hall.out.2 ⟨r, hr, hra, e⟩; cases this
              omega
            by_cases h2 : h = -2
            · subst h2
              go_wp2_with (go_at_call 11; with_reducible refine (Calls.ext_of (rhas_is HQ.out _)).mono ?_; rintro e _ ⟨rfl, d6, rfl⟩)
              go_ret
              exact ⟨rfl, ext_mk (G5.out.ext d6)⟩
            · have h2' : (h == -2) = false := by simpa using h2
              have HV := hide (HA2.out HQ.out HN.out h2)
              go_wp2_with (first
                | (go_at_call 11; with_reducible refine (Calls.ext_of (rhas_is HQ.out _)).mono ?_; rintro e _ ⟨rfl, d6, rfl⟩)
                | (go_at_call 9; refine ((H5.out.gr d6.gr).look HT'.out HV.out).mono ?_; rintro e _ ⟨rfl, d7, rfl⟩))
              go_ret
              exact ⟨by simp, ext_mk ((G5.out.ext d6).ext d7)⟩
          · have HV := hide (HA1.out (.inr (hall.out.1 rfl)))
            go_wp2_with (first
              | (go_at_call 11; with_reducible refine (Calls.ext_of (rhas_is HQ.out _)).mono ?_; rintro e _ ⟨rfl, d6, rfl⟩)
              | (go_at_call 9; refine ((H5.out.gr d6.gr).look HT'.out HV.out).mono ?_; rintro e _ ⟨rfl, d7, rfl⟩))
            go_ret
            exact ⟨by simp, ext_mk ((G5.out.ext d6).ext d7)⟩
  · have hcb : (code == 0) = false := by simpa using hc
    have e1 : rs' = rs := by
      rcases HT.out.set l b h with ⟨e, _⟩ | ⟨_, e, _⟩
      · rw [hset] at e; exact e
      · rw [hset] at e; exact absurd e hc
    subst e1
    clear hset hwas
    go_enter Try.func5, Try.ntmps5
    go_wp2_with (first
      | (go_at_call 6; rw [← HW.out]; refine (begun_any _).mono ?_; rintro e _ ⟨rfl, d1, rfl⟩)
      | (go_at_call 7; refine (HTB.out d1).mono ?_; rintro e w2 ⟨tb, ro, c2, rfl, B2⟩; have HB := hide B2; clear B2)
      | (go_at_call 9; with_reducible refine (HB.out.look HT.out HWAS.out).mono ?_; rintro e _ ⟨rfl, d3, rfl⟩; have HB3 := hide (HB.out.gr d3.gr))
      | (go_at_call 8; refine (HB3.out.list HT.out).mono ?_; rintro e _ ⟨aw, c4, rfl, L1, L2, d4, rfl⟩; have HL := hide L1; clear L1 L2; have q0 := HL.out.cell (d1.lt _ s0) ((d1.cell _ _ s0).trans b0); have q1 := HL.out.cell (d1.lt _ s0) ((d1.cell _ _ s0).trans b1))
      | (go_at_call 13; refine (HL.out.set HT.out HE.out).mono ?_; rintro e w5 ⟨rfl, S5⟩; have H5 := hide S5; clear S5)
      | (go_at_call 9; with_reducible refine (H5.out.look HT.out HWAS.out).mono ?_; rintro e _ ⟨rfl, d6, rfl⟩))
    go_ret
    exact ⟨by simp, ext_mk ((H5.out.gr0 (g0.ext d1)).ext d6)⟩

end Go.Proofs.Ytajcdfnfbmahdab
