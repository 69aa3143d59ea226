/- TableBack: the walk. -/
import Derived.Test.YtajcdfnfbmahdabLawAid
namespace Go.Proofs.Ytajcdfnfbmahdab
open Go.RowKit
attribute [local go_sem] Ext.all Ext.cell Ext.frozen Ext.lt Ext.lt1 Ext.lt2 Ext.ne Ext.ne'

set_option maxRecDepth 20000 in
set_option maxHeartbeats 2000000 in
theorem back_any (w : World) (N : Nat → Prop) (ao : Option Addr) (n c : Nat) (ls : List Rt) (l b h : Int) (H : n ≤ 120 → RowAt w N ao ls ∧ ls.length = n) :
    Calls Try.prog 4 #[.slice ao n c, pfx l b, .int .i64 h] w fun e w' => e = .returned (.bool true) ∧ ∃ d : Ext w, w' = d.out := by
  obtain ⟨W, hW, g0, b0, b1, s0⟩ := box_gr w l b
  have HW := hide hW
  clear hW
  by_cases hbig : 120 < n
  · have hd : decide ((120 : Int) < (n : Int)) = true := decide_eq_true (by omega)
    clear H
    go_enter Try.func4, Try.ntmps4
    go_wp2_with (go_at_call 6; rw [← HW.out]; refine (begun_any _).mono ?_; rintro e _ ⟨rfl, d1, rfl⟩)
    go_ret
    exact ⟨rfl, ext_mk (g0.ext d1)⟩
  obtain ⟨hrow, rfl⟩ := H (by omega)
  clear H
  have hd : decide ((120 : Int) < (ls.length : Int)) = false := by simp; omega
  have HTB := hide (fun d : Ext W => tables_st d N ao c ls (hrow.gr g0) (by omega))
  have HT := hide (setAll_tab ls)
  clear hrow
  generalize setAll ls = rs at *
  go_enter Try.func4, Try.ntmps4
  go_upto_region 6 with (first
    | (go_at_call 6; rw [← HW.out]; refine (begun_any _).mono ?_; rintro e _ ⟨rfl, d1, rfl⟩)
    | (go_at_call 7; refine (HTB.out d1).mono ?_; rintro e w2 ⟨tb, ro, c2, rfl, B2⟩; have HB := hide B2; clear B2))
  have hp0 := HB.out.cell (d1.lt _ s0) ((d1.cell _ _ s0).trans b0)
  have hp1 := HB.out.cell (d1.lt _ s0) ((d1.cell _ _ s0).trans b1)
  have HK := hide (fun (wX : World) (aw : Option Addr) (rs' was : List Rt) (hst : St d1.out wX tb rs' aw was) => (show wX.cell? ⟨w.heap.size, 0, none⟩ = some (iv l) ∧ wX.cell? ⟨w.heap.size, 1, none⟩ = some (iv b) from ⟨hst.cell (d1.lt _ s0) ((d1.cell _ _ s0).trans b0), hst.cell (d1.lt _ s0) ((d1.cell _ _ s0).trans b1)⟩))
  go_cut [10, 11] (fun s10 s11 wc => ∃ aw c3, s10 = .slice aw rs.length c3 ∧ s11 = .int .i64 (getL rs l b) ∧ Hid (St d1.out wc tb rs aw rs))
  case first => as_aux_lemma =>
    have HB1 := hide (HB.out.gr (Gr.refl _).drew)
    go_region_with (first
      | (go_at_call 8; refine (HB1.out.list HT.out).mono ?_; rintro e _ ⟨aw, c3, rfl, L1, L2, d3, rfl⟩; have HL := hide L1; have HL2 := hide L2; clear L1 L2; obtain ⟨q0, q1⟩ := HK.out _ _ _ _ HL.out)
      | (go_at_call 8; refine (HG.out.list HT.out).mono ?_; rintro e _ ⟨aw, c3, rfl, L1, L2, d3, rfl⟩; have HL := hide L1; have HL2 := hide L2; clear L1 L2)
      | (go_at_call 12; refine (HB1.out.get HT.out rfl).mono ?_; rintro e _ ⟨rfl, d4, rfl⟩; have HG := hide (HB1.out.gr d4.gr))
      | (go_at_call 12; refine (HL.out.get HT.out rfl).mono ?_; rintro e _ ⟨rfl, d4, rfl⟩; have HG := hide (HL.out.gr d4.gr)))
    all_goals
      go_wp2
      go_meet
      case rel => first | exact ⟨aw, c3, rfl, rfl, HG.out⟩ | exact ⟨aw, c3, rfl, rfl, HL.out⟩
  case rest =>
    obtain ⟨aw, c3, rfl, rfl, HS⟩ := hcut
    have hm : rs.length ≤ 1000 := by have := HT.out.len; omega
    obtain ⟨q0, q1⟩ := HK.out _ _ _ _ HS.out
    have g1 := hide (g0.ext d1)
    clear hp0 hp1 HB
    obtain ⟨rs', code, hset⟩ : ∃ rs' code, setL rs l b h = (rs', code) := ⟨_, _, rfl⟩
    have HE := hide hset
    by_cases hc : code = 0
    · subst hc
      have hb := HT.out.back l b h (by rw [hset])
      rw [hset] at hb
      obtain ⟨k1, k2, k3⟩ := hb
      have HT' : Hid (Tab rs') := by have := HT.out.set_tab l b h; rw [hset] at this; exact this
      have K1 := hide k1
      have K2 : Hid (setL rs' l b (getL rs l b) = (rs, 0)) := Prod.ext k3 k2
      clear k1 k2 k3 hset
      generalize getL rs l b = old at *
      go_wp2_with (first
        | (go_at_call 13; with_reducible refine (HS.out.set HT.out HE.out).mono ?_; rintro e w5 ⟨rfl, S5⟩; have H5 := hide S5; clear S5; obtain ⟨r0, r1⟩ := HK.out _ _ _ _ H5.out)
        | (go_at_call 12; with_reducible refine (H5.out.get HT'.out K1.out).mono ?_; rintro e _ ⟨rfl, d6, rfl⟩; have H6 := hide (H5.out.gr d6.gr); obtain ⟨t0, t1⟩ := HK.out _ _ _ _ H6.out)
        | (go_at_call 13; with_reducible refine (H6.out.set HT'.out K2.out).mono ?_; rintro e w7 ⟨rfl, S7⟩; have H7 := hide S7; clear S7)
        | (go_at_call 8; refine (H7.out.list HT.out).mono ?_; rintro e _ ⟨ao', c', rfl, L1, L2, d8, rfl⟩; have HL1 := hide L1; have HL2 := hide L2; clear L1 L2)
        | (go_at_call 14; refine (HL2.out.same HL1.out _ _ hm).mono ?_; rintro e _ ⟨rfl, d9, rfl⟩))
      go_ret
      exact ⟨rfl, ext_mk ((HL1.out.gr0 g1.out).ext d9)⟩
    · have hcb : (code == 0) = false := by simpa using hc
      have e1 : rs' = rs := by
        rcases HT.out.set l b h with ⟨e, _⟩ | ⟨_, e, _⟩
        · rw [hset] at e; exact e
        · rw [hset] at e; exact absurd e hc
      subst e1
      clear hset
      go_wp2_with (first
        | (go_at_call 13; with_reducible refine (HS.out.set HT.out HE.out).mono ?_; rintro e w5 ⟨rfl, S5⟩; have H5 := hide S5; clear S5)
        | (go_at_call 8; refine (H5.out.list HT.out).mono ?_; rintro e _ ⟨ao', c', rfl, L1, L2, d8, rfl⟩; have HL1 := hide L1; have HL2 := hide L2; clear L1 L2)
        | (go_at_call 14; refine (HL2.out.same HL1.out _ _ hm).mono ?_; rintro e _ ⟨rfl, d9, rfl⟩))
      go_ret
      exact ⟨rfl, ext_mk ((HL1.out.gr0 g1.out).ext d9)⟩

end Go.Proofs.Ytajcdfnfbmahdab
