/- TableLongest: the walk. -/
import Derived.Test.YtajcdfnfbmahdabApart
namespace Go.Proofs.Ytajcdfnfbmahdab
open Go.RowKit
attribute [local go_sem] Ext.all Ext.cell Ext.frozen Ext.lt Ext.lt1 Ext.lt2 Ext.ne Ext.ne'

/-- Has one of the first k routes the address? -/
def anyB (rs : List Rt) (a : Int) (k : Nat) : Bool := (rs.take k).any fun r => hasB r.1 r.2.1 a
theorem anyB_succ {rs : List Rt} {k : Nat} (hk : k < rs.length) (a : Int) : anyB rs a (k + 1) = (anyB rs a k || hasB rs[k].1 rs[k].2.1 a) := by
  unfold anyB
  rw [List.take_succ_eq_append_getElem hk, List.any_append, List.any_cons, List.any_nil, Bool.or_false]
theorem anyB_none {rs : List Rt} {a : Int} {k : Nat} (hk : rs.length ≤ k) (h : anyB rs a k = false) : lookL rs a = -1 := by
  unfold anyB at h
  rw [List.take_of_length_le hk] at h
  refine lookL_none fun r hr => ?_
  cases e : hasB r.1 r.2.1 a
  · rfl
  · rw [List.any_eq_false] at h
    exact absurd e (h r hr)
theorem longest_at {rs : List Rt} {k m : Nat} {a rl rbb rh : Int} (hT : Tab rs) (hk : k < rs.length) (e : rs[k] = (rl, rbb, rh)) (ha : hasB rl rbb a = true) (hm : rs.length ≤ m) (h : longB rs rl a m = false) : lookL rs a = rh := by
  have := hT.longest a (r := (rl, rbb, rh)) (e ▸ List.getElem_mem hk) ha (fun s hs hsa => ?_)
  · exact this
  · have h2 : ¬ (rl < s.1) := fun hlt => by
      have := (longB_all (l := rl) (a := a) (k := m) hm).2 ⟨s, hs, hsa, hlt⟩
      rw [h] at this; cases this
    show s.1 ≤ rl
    omega

set_option maxRecDepth 20000 in
set_option maxHeartbeats 2000000 in
theorem longest_any (w : World) (N : Nat → Prop) (ao : Option Addr) (n c : Nat) (ls : List Rt) (a : Int) (H : n ≤ 120 → RowAt w N ao ls ∧ ls.length = n) :
    Calls Try.prog 3 #[.slice ao n c, .int .i64 a] w fun e w' => e = .returned (.bool true) ∧ ∃ d : Ext w, w' = d.out := by
  by_cases hbig : 120 < n
  · have hd : decide ((120 : Int) < (n : Int)) = true := decide_eq_true (by omega)
    clear H
    go_enter Try.func3, Try.ntmps3
    go_wp2_with (go_at_call 6; refine (begun_any _).mono ?_; rintro e _ ⟨rfl, d1, rfl⟩)
    go_ret
    exact ⟨rfl, _, rfl⟩
  obtain ⟨hrow, rfl⟩ := H (by omega)
  clear H
  have hd : decide ((120 : Int) < (ls.length : Int)) = false := by simp; omega
  have HTB := hide (fun d : Ext w => tables_st d N ao c ls hrow (by omega))
  have HT := hide (setAll_tab ls)
  clear hrow
  generalize setAll ls = rs at *
  obtain ⟨hv, hhv⟩ : ∃ hv, lookL rs a = hv := ⟨_, rfl⟩
  have HV := hide hhv
  clear hhv
  have hm : rs.length ≤ 40 := HT.out.len
  go_enter Try.func3, Try.ntmps3
  go_upto_region 9 with (first
    | (go_at_call 6; refine (begun_any _).mono ?_; rintro e _ ⟨rfl, d1, rfl⟩)
    | (go_at_call 7; refine (HTB.out d1).mono ?_; rintro e w2 ⟨tb, ro, c2, rfl, B2⟩; have HB := hide B2; clear B2)
    | (go_at_call 8; refine (HB.out.list HT.out).mono ?_; rintro e _ ⟨aw, c4, rfl, L1, L2, d4, rfl⟩; have HL := hide L1; clear L1 L2)
    | (go_at_call 9; refine (HL.out.look HT.out HV.out).mono ?_; rintro e _ ⟨rfl, d5, rfl⟩; have HL5 := hide (HL.out.gr d5.gr))
    | (go_at_call 10; refine (HL5.out.all HT.out).mono ?_; rintro e w6 ⟨g6, rfl, hg6, hc6, d6, hd6⟩; have HC6 := hide hc6; have HL6 := hide (show St d1.out w6 tb rs aw rs by rw [hd6]; exact HL5.out.gr d6.gr); clear hc6 hd6))
  have hrow6 : Hid (∃ M, RowAt w6 M aw rs) := by obtain ⟨M, _, _, hR, _⟩ := HL6.out.tab; exact ⟨M, hR⟩
  have G6 := hide (HL6.out.gr0 d1.gr)
  go_cut [51] (fun s wc => s = .bool false ∧ ∃ d : Ext w6, wc = d.out)
  case first => as_aux_lemma =>
    by_cases h0 : a < 0
    · have hd0 : decide ((0 : Int) ≤ a) = false := by simp; omega
      go_wp2
      go_meet
      case rel => exact ⟨rfl, ⟨w6, Gr.refl w6⟩, rfl⟩
    · by_cases h1 : a < 256
      · obtain ⟨j, rfl⟩ : ∃ j : Nat, a = (j : Int) := ⟨a.toNat, by omega⟩
        have hj := HC6.out j (by omega)
        rw [HV.out] at hj
        have hd0 : decide ((0 : Int) ≤ (j : Int)) = true := by simp
        have hd1 : decide ((j : Int) < 256) = true := decide_eq_true (by omega)
        go_wp2
        go_meet
        case rel => exact ⟨by simp, ⟨w6, Gr.refl w6⟩, rfl⟩
      · have hd0 : decide ((0 : Int) ≤ a) = true := decide_eq_true (by omega)
        have hd1 : decide (a < 256) = false := by simp; omega
        go_wp2
        go_meet
        case rel => exact ⟨rfl, ⟨w6, Gr.refl w6⟩, rfl⟩
  case rest =>
    obtain ⟨rfl, dA, rfl⟩ := hcut
    clear HC6 hg6 HL6 HL5 HL HB
    go_wp2
    go_loopw [11, 12] (fun sm i wr => ∃ k : Nat, k ≤ rs.length ∧ i = .int .i64 k ∧ sm = .bool (anyB rs a k) ∧ Gr w6 wr) (fun _ i _ => rs.length - (intOf i).toNat)
    case atStart => exact ⟨0, by omega, rfl, by simp [anyB], dA.gr⟩
    case round =>
      obtain ⟨k, hk, rfl, rfl, g⟩ := hrel
      obtain ⟨d, rfl⟩ := ext_mk g
      by_cases hlt : k < rs.length
      · obtain ⟨M6, hR6⟩ := hrow6.out
        rcases hR6 with rfl | ⟨rb, o, rfl, hb, hM, hcs⟩
        · simp at hlt
        have HCS := hide hcs
        obtain ⟨c1, c2, c3⟩ := hcs k hlt
        have HS := hide (anyB_succ hlt a)
        obtain ⟨rl, rbb, rh, hrk⟩ : ∃ rl rbb rh, rs[k] = (rl, rbb, rh) := ⟨_, _, _, rfl⟩
        have HRK := hide hrk
        rw [hrk] at c1 c2 c3 HS
        simp only at c1 c2 c3 HS
        clear hcs hrk hrow6
        cases hq : hasB rl rbb a
        · have HQ := hide hq
          have HR : Hid (anyB rs a (k + 1) = anyB rs a k) := by unfold Hid; rw [HS.out, hq]; simp
          clear hq HS
          go_wp2_with (go_at_call 11; with_reducible refine (Calls.ext_of (rhas_is HQ.out _)).mono ?_; rintro e _ ⟨rfl, d7, rfl⟩)
          go_roundw
          case rel => exact ⟨k + 1, by omega, by go_num, by rw [HR.out], d7.gr⟩
          case measure => simp [intOf]; omega
        · have HQ := hide hq
          have HR : Hid (anyB rs a (k + 1) = true) := by unfold Hid; rw [HS.out, hq]; simp
          clear hq HS
          go_wp2_with (go_at_call 11; with_reducible refine (Calls.ext_of (rhas_is HQ.out _)).mono ?_; rintro e _ ⟨rfl, d7, rfl⟩)
          go_loopw [13, 14] (fun lg i wr => ∃ m : Nat, m ≤ rs.length ∧ i = .int .i64 m ∧ lg = .bool (longB rs rl a m) ∧ Gr w6 wr) (fun _ i _ => rs.length - (intOf i).toNat)
          case atStart => exact ⟨0, by omega, rfl, by simp [longB], d7.gr⟩
          case round =>
            obtain ⟨m, hmm, rfl, rfl, g8⟩ := hrel
            obtain ⟨d8, rfl⟩ := ext_mk g8
            by_cases hlm : m < rs.length
            · obtain ⟨e1, e2, e3⟩ := HCS.out m hlm
              have HS := hide (longB_succ hlm rl a)
              generalize rs[m] = r at e1 e2 e3 HS
              obtain ⟨ml, mb, mh⟩ := r
              simp only at e1 e2 e3 HS
              generalize longB rs rl a m = lk at *
              have hway : (lk = true ∧ Hid (longB rs rl a (m + 1) = true)) ∨ (lk = false ∧ Hid (hasB ml mb a = false) ∧ Hid (longB rs rl a (m + 1) = false)) ∨ (lk = false ∧ Hid (hasB ml mb a = true) ∧ Hid (longB rs rl a (m + 1) = decide (rl < ml))) := by
                have e := HS.out
                cases lk
                · cases hq : hasB ml mb a
                  · exact .inr (.inl ⟨rfl, rfl, by unfold Hid; rw [e, hq]; simp⟩)
                  · exact .inr (.inr ⟨rfl, rfl, by unfold Hid; rw [e, hq]; simp⟩)
                · exact .inl ⟨rfl, by unfold Hid; rw [e]; simp⟩
              clear HS
              rcases hway with ⟨rfl, HR2⟩ | ⟨rfl, HQ2, HR2⟩ | ⟨rfl, HQ2, HR2⟩
              all_goals
                go_wp2_with fail
                refine wp_region_ext_of (by kernel_rfl) (by kernel_rfl) ?_
                repeat (go_big_quiet_step ((go_at_call 11; with_reducible exact Calls.ext_of (rhas_is HQ2.out _))))
                refine wpQuiet_nil ?_
                rintro _ ⟨d9, rfl⟩
                go_wp2
                go_roundw
                case rel => exact ⟨m + 1, by omega, by go_num, by rw [HR2.out], d9.gr⟩
                case measure => simp [intOf]; omega
            · have HLG : Hid (longB rs rl a m = false → hv = rh) := fun hl => by rw [← HV.out]; exact longest_at HT.out hlt HRK.out HQ.out (by omega) hl
              clear HCS
              generalize longB rs rl a m = lk at *
              cases lk
              · have hvr := HLG.out rfl
                subst hvr
                clear HLG
                go_wp2
                go_roundw
                case rel => exact ⟨k + 1, by omega, by go_num, by rw [HR.out], d8.gr⟩
                case measure => simp [intOf]; omega
              · clear HLG
                go_wp2
                go_roundw
                case rel => exact ⟨k + 1, by omega, by go_num, by rw [HR.out], d8.gr⟩
                case measure => simp [intOf]; omega
      · have HN : Hid (anyB rs a k = false → hv = -1) := fun hl => by rw [← HV.out]; exact anyB_none (by omega) hl
        generalize anyB rs a k = lk at *
        cases lk
        · have hvr := HN.out rfl
          subst hvr
          clear HN
          go_wp2
          go_ret
          exact ⟨by simp, ext_mk (G6.out.ext d)⟩
        · go_wp2
          go_ret
          exact ⟨rfl, ext_mk (G6.out.ext d)⟩

end Go.Proofs.Ytajcdfnfbmahdab
