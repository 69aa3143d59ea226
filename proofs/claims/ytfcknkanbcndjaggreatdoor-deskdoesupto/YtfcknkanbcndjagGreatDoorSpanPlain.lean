import Derived.Test.YtfcknkanbcndjagGreatDoorNe14
import Derived.Test.YtfcknkanbcndjagGreatDoorNe1
import Derived.Test.YtfcknkanbcndjagGreatDoorKPlain2
/- THE PROGRAM'S Net: Settle. -/
namespace Go.Proofs.YtfcknkanbcndjagGreatDoor
open Go.RowKit
attribute [local go_sem] Ext.all Ext.cell Ext.frozen Ext.lt Ext.lt1 Ext.lt2 Ext.ne Ext.ne'
/-- The news are taken away. -/
theorem Ne.noNews {M : Nat → Prop} {B w : World} {p k : Nat} {q : Nat → Nat} {v : Value} {c : Nat → Nat → Nat} {t : Tn} (h : Ne M B w p k q v c t) : Ne M B (w.setCell ⟨p, 7, none⟩ (.slice none 0 0)) p k q (.slice none 0 0) c { t with news := [] } :=
  h.newsPut (World.grownBy.refl _ _) (NwO.nil _ _) (.inl rfl)
set_option maxRecDepth 20000 in
set_option maxHeartbeats 16000000 in
theorem netSettle_ok {M : Nat → Prop} {B w : World} {p k : Nat} {q : Nat → Nat} {v : Value} {c : Nat → Nat → Nat} {t : Tn} (H : Ne M B w p k q v c t) (A : TnA t c) (hA : ∀ k, k < 6 → agT t k < 4611686018427387904) (R : Int) (hR : R ≤ 4611686018427387904) :
    Calls Tryz.prog 11 #[pv p, iv R] w fun e w' => e = .returned (.tuple #[]) ∧ Ne M B w' p k q (.slice none 0 0) c (settleT t R.toNat) := by
  have hp := H.blk.lt
  have c2 := H.news
  have fz := H.blk.free
  obtain ⟨ao, cv, hv, _, _, _⟩ := H.nw.shape
  subst hv
  have H0 := hide H.noNews
  have A0 : Hid (TnA { t with news := [] } c) := A.sub (fun x hx => by cases hx)
  have HA := hide hA
  clear H A hA
  have hag : Hid (∀ k, agT { t with news := [] } k = agT t k) := fun _ => rfl
  have HST : Hid (settleT t R.toNat = roundsT (tickTo { t with news := [] } 6) R.toNat) := rfl
  generalize ({ t with news := [] } : Tn) = t0 at *
  go_enter Tryz.func11, Tryz.ntmps11
  go_upto_region 2 with (fail)
  refine wp_gen (fun V => Hid (Ne M B V p k q (.slice none 0 0) c t0)) H0 ?_
  clear hp c2 fz H0
  rintro V H0
  have hp := H0.out.blk.lt
  have c0 : V.cell? ⟨p, 1, none⟩ = some (pv (q 0)) := H0.out.node (a := 0) (by omega)
  have c1 : V.cell? ⟨p, 2, none⟩ = some (pv (q 1)) := H0.out.node (a := 1) (by omega)
  have c2 : V.cell? ⟨p, 3, none⟩ = some (pv (q 2)) := H0.out.node (a := 2) (by omega)
  have c3 : V.cell? ⟨p, 4, none⟩ = some (pv (q 3)) := H0.out.node (a := 3) (by omega)
  have c4 : V.cell? ⟨p, 5, none⟩ = some (pv (q 4)) := H0.out.node (a := 4) (by omega)
  have c5 : V.cell? ⟨p, 6, none⟩ = some (pv (q 5)) := H0.out.node (a := 5) (by omega)
  go_wp2_with fail
  clear c0 c1 c2 c3 c4 c5 hp
  generalize hC : (#[pv (q 0), pv (q 1), pv (q 2), pv (q 3), pv (q 4), pv (q 5)] : Array Value) = C
  have HIX := hide (fun (s : Nat) (hs : s < 6) => idx_nodes (g := q) hC hs)
  clear hC
  go_loopw [15] (fun v15 wr => ∃ a : Nat, a ≤ 6 ∧ v15 = .int .i64 (a : Int) ∧ Hid (Ne M B wr p k q (.slice none 0 0) c (tickTo t0 a))) (fun v15 _ => (6 - intOf v15).toNat)
  case atStart => exact ⟨0, by omega, rfl, H0⟩
  case round =>
    clear H0
    obtain ⟨a, ha6, rfl, H0⟩ := hrel
    by_cases ha : a < 6
    · have hai : decide ((a : Int) < 6) = true := decide_eq_true (by omega)
      have ha0 : (a : Int) < 6 := by omega
      have wa : IntKind.i64.wrap ((a : Int) + 1) = (a : Int) + 1 := by rw [IntKind.wrap_i64]; omega
      obtain ⟨T1, T2⟩ := A0.out.ticks a (by omega)
      have hix := HIX.out a ha
      have hage : age ((tickTo t0 a).nd a) < 4611686018427387904 := by
        have e1 : age ((tickTo t0 a).nd a) = agT (tickTo t0 a) a := by unfold age agT; rw [T1.s.tc.me a ha]
        rw [e1, T2 a ha, if_neg (by omega), hag.out]
        exact HA.out a ha
      have HQ : Hid (Calls Tryz.prog 29 #[pv (q a)] wr fun e w' => e = .returned (.tuple #[]) ∧ Ne M B w' p k q (.slice none 0 0) c (tickTo t0 (a + 1))) := (ntickN (H0.out.six.at_ a ha) (T1.s.z a ha) hage).mono fun e w' ⟨he, hm, hw⟩ => ⟨he, H0.out.put ha hw hm⟩
      clear T1 T2 hage
      go_wp2_with (go_at_call 29; with_reducible refine HQ.out.mono ?_; rintro e V1 ⟨rfl, H1'⟩; have H1 := hide H1'; clear H1')
      go_roundw
      case rel => exact ⟨a + 1, by omega, by congr 1, H1⟩
      case measure => simp [intOf]; omega
    · have hai : decide ((a : Int) < 6) = false := decide_eq_false (by omega)
      have ea : a = 6 := by omega
      rw [ea] at H0
      have A1 := hide (A0.out.ticks 6 (Nat.le_refl _)).1
      clear ea ha ha6 A0 HA hag
      generalize tickTo t0 6 = t1 at *
      have AR := hide (fun r => (A1.out.rounds r).1)
      have STL := hide (fun r h => still_rounds (r := r) A1.out h)
      go_wp2_with fail
      go_loopw [22] (fun v22 wr => ∃ r : Nat, (r : Int) ≤ max R 0 ∧ v22 = .int .i64 (r : Int) ∧ Hid (Ne M B wr p k q (.slice none 0 0) c (roundsT t1 r))) (fun v22 _ => (R - intOf v22).toNat)
      case atStart => exact ⟨0, by omega, rfl, H0⟩
      case round =>
        clear H0
        obtain ⟨r, hr, rfl, H0⟩ := hrel
        by_cases hrR : (r : Int) < R
        · have hri : decide ((r : Int) < R) = true := decide_eq_true hrR
          have wr1 : IntKind.i64.wrap ((r : Int) + 1) = (r : Int) + 1 := by rw [IntKind.wrap_i64]; omega
          have HRD := hide (netRound_ok H0.out (AR.out r))
          have HRS := hide (show roundsT t1 (r + 1) = roundT (roundsT t1 r) 6 from rfl)
          have HE : Hid (roundChg (roundsT t1 r) 6 = false → roundsT t1 R.toNat = roundsT t1 (r + 1)) := fun h => by
            have := STL.out r h (R.toNat - (r + 1))
            rw [show r + 1 + (R.toNat - (r + 1)) = R.toNat by omega] at this
            exact this
          rw [← HRS.out] at HRD
          generalize hch : roundChg (roundsT t1 r) 6 = ch at *
          clear hch
          cases ch
          · have HE2 := hide (HE.out rfl)
            go_wp2_with (go_at_call 30; with_reducible refine HRD.out.mono ?_; rintro e V1 ⟨rfl, H1'⟩; have H1 := hide H1'; clear H1')
            first
              | (refine bodyPost_end (results_none rfl _ _ _) rfl ?_; exact ⟨rfl, by rw [HST.out, HE2.out]; exact H1.out⟩)
              | (refine bodyPost_ret (results_none rfl _ _ _) rfl ?_; exact ⟨rfl, by rw [HST.out, HE2.out]; exact H1.out⟩)
          · go_wp2_with (go_at_call 30; with_reducible refine HRD.out.mono ?_; rintro e V1 ⟨rfl, H1'⟩; have H1 := hide H1'; clear H1')
            go_roundw
            case rel => exact ⟨r + 1, by omega, by congr 1, H1⟩
            case measure => simp [intOf]; omega
        · have hri : decide ((r : Int) < R) = false := decide_eq_false hrR
          have er : r = R.toNat := by omega
          go_wp2_with fail
          refine bodyPost_end (results_none rfl _ _ _) rfl ?_
          exact ⟨rfl, by rw [HST.out, ← er]; exact H0.out⟩

end Go.Proofs.YtfcknkanbcndjagGreatDoor

/- slices.Index, slices.Contains, of numbers of nodes. -/
namespace Go.Proofs.YtfcknkanbcndjagGreatDoor
open Go.RowKit
attribute [local go_sem] Ext.all Ext.cell Ext.frozen Ext.lt Ext.lt1 Ext.lt2 Ext.ne Ext.ne'
set_option maxRecDepth 20000 in
set_option maxHeartbeats 8000000 in
theorem index_any {w : World} {ao : Option Addr} {n cp : Nat} {l : List Nat} (H : NumAt w ao l) (hn : n = l.length) (hm : l.length ≤ 1000) (x : Nat) :
    Calls Tryz.prog 64 #[.slice ao n cp, iv (x : Int)] w fun e w' => ∃ r : Int, e = .returned (iv r) ∧ w' = w ∧ (0 ≤ r ↔ x ∈ l) := by
  have HN := hide hn
  clear hn
  go_enter Tryz.func64, Tryz.ntmps64
  go_wp2_with fail
  go_loopw [8] (fun v8 wr => ∃ k : Nat, k ≤ n ∧ v8 = .int .i64 (k : Int) ∧ Hid (wr = w) ∧ Hid (∀ i (h : i < l.length), i < k → l[i] ≠ x)) (fun v8 _ => (n - intOf v8).toNat)
  case atStart => exact ⟨0, by omega, rfl, rfl, fun i h hi => by omega⟩
  case round =>
    obtain ⟨k, hkn, rfl, hwr, HB⟩ := hrel
    by_cases hk : k < n
    · have hki : decide ((k : Int) < (n : Int)) = true := decide_eq_true (by omega)
      have hk0 : (k : Int) < (n : Int) := by omega
      have hkl : k < l.length := by have := HN.out; omega
      have wk : IntKind.i64.wrap ((k : Int) + 1) = (k : Int) + 1 := by rw [IntKind.wrap_i64]; omega
      rcases H with h0 | ⟨bb, o, rfl, hbb, hc⟩
      · exfalso; rw [h0] at hkl; simp at hkl
      have c0 := hc k hkl
      rw [← hwr.out] at c0 hbb
      have HE : Hid (l[k] = x → x ∈ l) := fun e => by rw [← e]; exact List.getElem_mem hkl
      have HF : Hid (l[k] ≠ x → ∀ i (h : i < l.length), i < k + 1 → l[i] ≠ x) := fun e i h hi => by
        by_cases q : i = k
        · subst q; exact e
        · exact HB.out i h (by omega)
      generalize hlk : l[k] = lk at *
      clear hc hlk HB
      by_cases e : lk = x
      · have HI := hide (HE.out e)
        subst e
        clear HE HF
        go_wp2_with fail
        go_ret
        exact ⟨_, rfl, hwr.out, fun _ => HI.out, fun _ => by omega⟩
      · have e1 : ((x : Int) == (lk : Int)) = false := by simp; omega
        have HF2 := hide (HF.out e)
        clear HE HF e
        go_wp2_with fail
        go_roundw
        case rel => exact ⟨k + 1, by omega, by congr 1, hwr, HF2⟩
        case measure => simp [intOf]; omega
    · have hki : decide ((k : Int) < (n : Int)) = false := decide_eq_false (by omega)
      have HI : Hid (x ∉ l) := fun hm => by
        obtain ⟨i, hi, e⟩ := List.mem_iff_getElem.1 hm
        have := HN.out
        exact HB.out i hi (by omega) e
      go_wp2_with fail
      go_ret
      exact ⟨_, rfl, hwr.out, fun h => by omega, fun h => absurd h HI.out⟩
set_option maxRecDepth 20000 in
theorem contains_is {w : World} {ao : Option Addr} {n cp : Nat} {l : List Nat} (H : NumAt w ao l) (hn : n = l.length) (hm : l.length ≤ 1000) (x : Nat) {b : Bool} (hb : decide (x ∈ l) = b) :
    Calls Tryz.prog 35 #[.slice ao n cp, iv (x : Int)] w fun e w' => e = .returned (.bool b) ∧ w' = w := by
  have HI := hide (index_any (cp := cp) H hn hm x)
  have HB := hide hb
  clear H hn hb
  go_enter Tryz.func35, Tryz.ntmps35
  go_wp2_with (go_at_call 64; with_reducible refine HI.out.mono ?_; rintro e w1 ⟨r, rfl, hw1, hr'⟩; have HR := hide hr'; have hw2 := hw1.symm; clear hw1 hr'; subst hw2)
  go_ret
  refine ⟨?_, rfl⟩
  refine congrArg (fun z => Ending.returned (.bool z)) ?_
  rw [← HB.out]
  exact decide_eq_decide.2 HR.out

end Go.Proofs.YtfcknkanbcndjagGreatDoor

/- CONTRACT OF handpostref.SameInts, at two lists that are the same. -/
namespace Go.Proofs.YtfcknkanbcndjagGreatDoor
open Go.RowKit
attribute [local go_sem] Ext.all Ext.cell Ext.frozen Ext.lt Ext.lt1 Ext.lt2 Ext.ne Ext.ne'
end Go.Proofs.YtfcknkanbcndjagGreatDoor

/- THE PROGRAM'S Net: New. -/
namespace Go.Proofs.YtfcknkanbcndjagGreatDoor
open Go.RowKit
attribute [local go_sem] Ext.all Ext.cell Ext.frozen Ext.lt Ext.lt1 Ext.lt2 Ext.ne Ext.ne'
/-- The cells of a Net that is being made: the first j nodes are there. -/
def ntF2 (k : Nat) (q : Nat → Nat) (j : Nat) : Nat → Value := fun i => if i = 0 then pv k else if i < 7 then (if i - 1 < j then pv (q (i - 1)) else .pointer none) else .slice none 0 0

set_option maxRecDepth 20000 in
set_option maxHeartbeats 8000000 in
theorem netNew_ok (w : World) (M : Nat → Prop) (hM : ∀ b, M b → b < w.heap.size) : Calls Tryz.prog 46 #[] w fun e w' => ∃ p k q, e = .returned (pv p) ∧ Ne M w w' p k q (.slice none 0 0) (fun _ _ => 0) newT ∧ Gr w w' ∧ w.heap.size ≤ p ∧ w.heap.size ≤ k ∧ ∀ a, a < 6 → w.heap.size ≤ q a := by
  have HK := hide (knew_any w)
  have HM := hide hM
  clear hM
  go_enter Tryz.func46, Tryz.ntmps46
  go_upto_region 2 with (go_at_call 100; with_reducible refine HK.out.mono ?_; rintro e V1 ⟨rfl, K1', g1', hs1⟩; have K1 := hide K1'; have G1 := hide g1'; clear K1' g1')
  have N0 : Hid (VArr (V1.alloc (.cells (vcells 8 (ntF2 w.heap.size (fun _ => 0) 0)) 48)) 48 8 V1.heap.size (ntF2 w.heap.size (fun _ => 0) 0)) := VArr.new V1 48 8 _
  refine wp_gen (fun V => Hid (VArr V 48 8 V1.heap.size (ntF2 w.heap.size (fun _ => 0) 0)) ∧ Hid (KL V w.heap.size (fun _ _ => 0)) ∧ Hid (Gr w V)) ⟨N0.out, K1.out.gr ((Gr.refl _).alloc _), G1.out.alloc _⟩ ?_
  clear N0 K1 G1 HK
  generalize hp : V1.heap.size = p at *
  generalize hk : w.heap.size = k at *
  have hkp : k < p := by omega
  have HP := hide hk
  clear hp hk hs1
  rintro V ⟨M0, K0, g0⟩
  have hkw : w.heap.size ≤ k := by have := HP.out; omega
  go_wp2_with fail
  go_loopw [6] (fun v6 wr => ∃ (j : Nat) (q : Nat → Nat), j ≤ 6 ∧ v6 = .int .i64 (j : Int) ∧ Hid (VArr wr 48 8 p (ntF2 k q j)) ∧ Hid (KL wr k (fun _ _ => 0)) ∧ Hid (∀ a, a < j → DAt wr (q a) (sel (newM a)) ∧ w.heap.size ≤ q a ∧ q a ≠ p ∧ ∀ b, b < j → a ≠ b → q a ≠ q b) ∧ Hid (Gr w wr)) (fun v6 _ => (6 - intOf v6).toNat)
  case atStart => exact ⟨0, fun _ => 0, by omega, rfl, M0, K0, fun a ha => by omega, g0⟩
  case round =>
    clear M0 K0 g0
    obtain ⟨j, q, hj6, rfl, M0, K0, Q0, g0⟩ := hrel
    by_cases hj : j < 6
    · have hji : decide ((j : Int) < 6) = true := decide_eq_true (by omega)
      have hj0 : (j : Int) < 6 := by omega
      have wj : IntKind.i64.wrap ((j : Int) + 1) = (j : Int) + 1 := by rw [IntKind.wrap_i64]; omega
      have HN := hide (nnew_ok hj wr.drew)
      have fz := VArr.free M0.out
      have q0 := VArr.cell M0.out (j := 1 + j) (by omega)
      have hp := VArr.lt M0.out
      go_upto_region 5 with (fail)
      go_region_with (go_at_call 101; with_reducible refine HN.out.mono ?_; rintro e V1 ⟨rfl, N1', g1'⟩; have N1 := hide N1'; have G1 := hide ((Gr.refl wr).drewTo g1'); clear N1' g1'; have hp2 := VArr.lt (M0.out.gr G1.out); have fz2 := VArr.free (M0.out.gr G1.out); have r0 := VArr.cell (M0.out.gr G1.out) (j := 1 + j) (by omega))
      all_goals
        have SM : Hid (VArr (V1.setCell ⟨p, 1 + j, none⟩ (pv wr.heap.size)) 48 8 p (ntF2 k (updW q j wr.heap.size) (j + 1))) := (M0.out.gr G1.out).set (fun i hi => by
          unfold ntF2
          by_cases e1 : i = 0
          · rw [if_pos e1, if_pos e1, if_neg (by omega)]
          · rw [if_neg e1, if_neg e1]
            by_cases e2 : i < 7
            · rw [if_pos e2, if_pos e2]
              by_cases e3 : i = 1 + j
              · rw [if_pos e3, if_pos (by omega), show i - 1 = j by omega, updW_same]
              · rw [if_neg e3]
                by_cases e4 : i - 1 < j
                · rw [if_pos e4, if_pos (by omega), updW_ne _ _ (by omega)]
                · rw [if_neg e4, if_neg (by omega)]
            · rw [if_neg e2, if_neg e2, if_neg (by omega)])
        have hkp2 : wr.heap.size ≠ p := by omega
        have hs := Below.size g0.out
        have SK : Hid (KL (V1.setCell ⟨p, 1 + j, none⟩ (pv wr.heap.size)) k (fun _ _ => 0)) := NArr.other (K0.out.gr G1.out) (by omega) _ _
        have SQ : Hid (∀ a, a < j + 1 → DAt (V1.setCell ⟨p, 1 + j, none⟩ (pv wr.heap.size)) (updW q j wr.heap.size a) (sel (newM a)) ∧ w.heap.size ≤ updW q j wr.heap.size a ∧ updW q j wr.heap.size a ≠ p ∧ ∀ b, b < j + 1 → a ≠ b → updW q j wr.heap.size a ≠ updW q j wr.heap.size b) := fun a ha => by
          have lt : ∀ b, b < j → q b < wr.heap.size := fun b hb => (Q0.out b hb).1.lt
          by_cases e : a = j
          · subst e
            rw [updW_same]
            refine ⟨ZArr.other (N1.out) hkp2 _ _, by omega, hkp2, fun b hb hne => ?_⟩
            rw [updW_ne _ _ (fun x => hne x.symm)]
            have := lt b (by omega)
            omega
          · rw [updW_ne _ _ e]
            obtain ⟨h1, h2, h3, h4⟩ := Q0.out a (by omega)
            refine ⟨ZArr.other (h1.gr G1.out) h3 _ _, h2, h3, fun b hb hne => ?_⟩
            by_cases e2 : b = j
            · subst e2
              rw [updW_same]
              have := lt a (by omega)
              omega
            · rw [updW_ne _ _ e2]; exact h4 b (by omega) hne
        have SG := hide ((g0.out.trans G1.out).setCell (p := ⟨p, 1 + j, none⟩) (show w.heap.size ≤ p by omega) (pv wr.heap.size))
        go_wp2_with fail
        go_roundw
        case rel => exact ⟨j + 1, _, by omega, by congr 1, SM, SK, SQ, SG⟩
        case measure => simp [intOf]; omega
    · have hji : decide ((j : Int) < 6) = false := decide_eq_false (by omega)
      have ej : j = 6 := by omega
      subst ej
      have SB : Hid (VArr wr 48 8 p (ntF k q (.slice none 0 0))) := M0.out.congr (fun i hi => by
        unfold ntF2 ntF
        by_cases e1 : i = 0
        · rw [if_pos e1, if_pos e1]
        · rw [if_neg e1, if_neg e1]
          by_cases e2 : i < 7
          · rw [if_pos e2, if_pos e2, if_pos (by omega)]
          · rw [if_neg e2, if_neg e2])
      go_wp2_with fail
      have hwk := HP.out
      go_ret
      have no : ∀ b, w.heap.size ≤ b → ¬ M b := fun b hb hm => by have := HM.out b hm; omega
      have hm : ∀ b, M b → b < w.heap.size := fun b hb => by have := HM.out b hb; omega
      refine ⟨p, k, q, rfl, ⟨g0.out.kp M, hm, SB.out, K0.out, ⟨fun a ha => (Q0.out a ha).1, fun a b ha hb hne => (Q0.out a ha).2.2.2 b hb hne⟩, NwO.nil _ _, no _ (by omega), no _ (by omega), fun a ha => no _ (Q0.out a ha).2.1, fun b e => by cases e⟩, g0.out, by omega, by omega, fun a ha => (Q0.out a ha).2.1⟩

end Go.Proofs.YtfcknkanbcndjagGreatDoor

/- THE PROGRAM'S Net, as the laws use it; netBegun. -/
namespace Go.Proofs.YtfcknkanbcndjagGreatDoor
open Go.RowKit
attribute [local go_sem] Ext.all Ext.cell Ext.frozen Ext.lt Ext.lt1 Ext.lt2 Ext.ne Ext.ne'
theorem do_len {t : Tn} (h : t.news.length ≤ 40) (x : Sp) : (doT t x).1.news.length ≤ 40 := by
  unfold doT
  split
  · unfold linkC
    split
    · exact h
    · exact h
  · split
    · split
      · exact sayAll_len (show (tickT t _).news.length ≤ 40 from h) _ _
      · exact h
    · split
      · exact sayC_len h _ _
      · split
        · unfold newsC
          split
          · split
            · split
              · exact h
              · show (t.news ++ [_]).length ≤ 40
                rw [List.length_append, List.length_singleton]; omega
            · have hd : (dropAt t.news x.n.toNat).length ≤ 40 := by
                unfold dropAt
                rw [List.length_append, List.length_take, List.length_drop]; omega
              split
              · unfold hearC
                split
                · exact hd
                · exact hd
              · exact hd
          · exact h
        · exact h
theorem up_le (x : Sp) (k : Nat) : upA x k ≤ 1 := by unfold upA; split <;> omega
/-- A Net behind at most n steps. -/
structure Nl (M : Nat → Prop) (B w : World) (p k : Nat) (q : Nat → Nat) (v : Value) (c : Nat → Nat → Nat) (t : Tn) (n : Nat) : Prop where
  h : Ne M B w p k q v c t
  a : TnA t c
  l : t.news.length ≤ 40
  g : ∀ k, k < 6 → agT t k ≤ (n : Int)
section
variable {M : Nat → Prop} {B w w' : World} {p k : Nat} {q : Nat → Nat} {v : Value} {c : Nat → Nat → Nat} {t : Tn} {n : Nat}
theorem Nl.ext (H : Nl M B w p k q v c t n) (g : Gr w w') : Nl M B w' p k q v c t n := ⟨H.h.ext g, H.a, H.l, H.g⟩
theorem Nl.more (H : Nl M B w p k q v c t n) {m : Nat} (h : n ≤ m) : Nl M B w p k q v c t m := ⟨H.h, H.a, H.l, fun k hk => by have := H.g k hk; omega⟩
theorem Nl.do (H : Nl M B w p k q v c t n) (hn : n ≤ 100000) (x : Sp) (X Y : Value) :
    Calls Tryz.prog 38 #[pv p, .agg #[iv x.k, iv x.a, iv x.b, iv x.n, X, Y]] w fun e w' => ∃ v', e = .returned (iv (doT t x).2) ∧ Nl M B w' p k q v' (nextC c x) (doT t x).1 (n + 1) :=
  (netDo_any H.h H.a (fun k hk => by have := H.g k hk; omega) H.l x X Y).mono fun _ w' ⟨v', he, hh⟩ => by
    have hx := do_nx H.a x
    exact ⟨v', he, hh, hx.a, do_len H.l x, fun k hk => by have := hx.age k hk; have := up_le x k; have := H.g k hk; omega⟩
theorem settle_age {t : Tn} {c : Nat → Nat → Nat} (A : TnA t c) (r : Nat) {k : Nat} (hk : k < 6) : agT (settleT t r) k = agT t k + 1 := by
  have A0 : TnA { t with news := [] } c := A.sub (fun x hx => by cases hx)
  obtain ⟨h1, h2⟩ := A0.ticks 6 (Nat.le_refl _)
  have := (h1.rounds r).2 k hk
  unfold settleT
  rw [this, h2 k hk, if_pos hk]
  rfl
theorem settle_a {t : Tn} {c : Nat → Nat → Nat} (A : TnA t c) (r : Nat) : TnA (settleT t r) c := by
  have A0 : TnA { t with news := [] } c := A.sub (fun x hx => by cases hx)
  exact ((A0.ticks 6 (Nat.le_refl _)).1.rounds r).1
theorem Nl.settle (H : Nl M B w p k q v c t n) (hn : n ≤ 100000) (R : Int) (hR : R ≤ 1000) :
    Calls Tryz.prog 11 #[pv p, iv R] w fun e w' => ∃ v', e = .returned (.tuple #[]) ∧ Nl M B w' p k q v' c (settleT t R.toNat) (n + 1) :=
  (netSettle_ok H.h H.a (fun k hk => by have := H.g k hk; omega) R (by omega)).mono fun _ w' ⟨he, hh⟩ =>
    ⟨_, he, hh, settle_a H.a _, by rw [settleT_news]; simp, fun k hk => by rw [settle_age H.a _ hk]; have := H.g k hk; omega⟩
/-- A new one. -/
theorem netNew_nl (w : World) (M : Nat → Prop) (hM : ∀ b, M b → b < w.heap.size) : Calls Tryz.prog 46 #[] w fun e w' => ∃ p k q v, e = .returned (pv p) ∧ Nl M w w' p k q v (fun _ _ => 0) newT 0 ∧ Gr w w' ∧ w.heap.size ≤ p ∧ w.heap.size ≤ k ∧ (∀ a, a < 6 → w.heap.size ≤ q a) ∧ ∀ b, v.ownBlock = some b → w.heap.size ≤ b :=
  (netNew_ok w M hM).mono fun _ w' ⟨p, k, q, he, hh, hg, h1, h2, h3⟩ => ⟨p, k, q, _, he, ⟨hh, new_a, by show ([] : List Nw).length ≤ 40; simp, fun k hk => by
    show agT newT k ≤ 0
    have : agT newT k = 0 := by rcases (show k = 0 ∨ k = 1 ∨ k = 2 ∨ k = 3 ∨ k = 4 ∨ k = 5 by omega) with rfl | rfl | rfl | rfl | rfl | rfl <;> rfl
    omega⟩, hg, h1, h2, h3, fun b e => by cases e⟩
end
end Go.Proofs.YtfcknkanbcndjagGreatDoor

/- THE BEST OF A NODE, AS Best TELLS IT. -/
namespace Go.Proofs.YtfcknkanbcndjagGreatDoor
open Go.RowKit

end Go.Proofs.YtfcknkanbcndjagGreatDoor

/- FOR THE LAWS OF A NET: steps in memory; what a Net leaves as it was; ways, bests, costs as the laws ask them. -/
namespace Go.Proofs.YtfcknkanbcndjagGreatDoor
open Go.RowKit
attribute [local go_sem] Ext.all Ext.cell Ext.frozen Ext.lt Ext.lt1 Ext.lt2 Ext.ne Ext.ne'
/-- A step with its prefix. -/
structure Sx where
  s : Sp
  l : Int
  b : Int
def Sx.val (x : Sx) : Value := .agg #[iv x.s.k, iv x.s.a, iv x.s.b, iv x.s.n, iv x.l, iv x.b]
/-- A slice that reads as steps. -/
def SpAt (w : World) (ao : Option Addr) (l : List Sx) : Prop := l = [] ∨ ∃ b o, ao = some ⟨b, o, none⟩ ∧ b < w.heap.size ∧ ∀ i (h : i < l.length),
    w.cell? ⟨b, o + i * 6, none⟩ = some (iv l[i].s.k) ∧ w.cell? ⟨b, o + i * 6 + 1, none⟩ = some (iv l[i].s.a) ∧ w.cell? ⟨b, o + i * 6 + 2, none⟩ = some (iv l[i].s.b) ∧ w.cell? ⟨b, o + i * 6 + 3, none⟩ = some (iv l[i].s.n) ∧ w.cell? ⟨b, o + i * 6 + 4, none⟩ = some (iv l[i].l) ∧ w.cell? ⟨b, o + i * 6 + 5, none⟩ = some (iv l[i].b)
theorem SpAt.gr {w w' : World} {ao : Option Addr} {l : List Sx} (h : SpAt w ao l) (k : Gr w w') : SpAt w' ao l := by
  rcases h with h | ⟨b, o, ha, hb, hc⟩
  · exact .inl h
  · refine .inr ⟨b, o, ha, Nat.lt_of_lt_of_le hb (Below.size k), fun i hi => ?_⟩
    have e : ∀ q, w'.cell? ⟨b, q, none⟩ = w.cell? ⟨b, q, none⟩ := fun q => Below.cell k (p := ⟨b, q, none⟩) hb
    rw [e, e, e, e, e, e]
    exact hc i hi
/-- What is not the Net's is as it was, and still not the Net's. -/
structure Fr (w : World) (p k : Nat) (q : Nat → Nat) (v : Value) (w' : World) (v' : Value) : Prop where
  kp : Kp (rest w p k q v) w w'
  rst : ∀ {b}, rest w p k q v b → rest w' p k q v' b
section
variable {M : Nat → Prop} {B w w' : World} {p k : Nat} {q : Nat → Nat} {v v' : Value} {c c' : Nat → Nat → Nat} {t t' : Tn} {n : Nat}
theorem Ne.fr (h' : Ne (YtfcknkanbcndjagGreatDoor.rest w p k q v) w w' p k q v' c' t') : Fr w p k q v w' v' :=
  ⟨h'.kp, fun {b} hb => ⟨Nat.lt_of_lt_of_le hb.1 h'.kp.size, hb.2.1, hb.2.2.1, hb.2.2.2.1, fun e => h'.nov b e hb⟩⟩
theorem Nl.do' (H : Nl M B w p k q v c t n) (hn : n ≤ 100000) (x : Sp) (X Y : Value) :
    Calls Tryz.prog 38 #[pv p, .agg #[iv x.k, iv x.a, iv x.b, iv x.n, X, Y]] w fun e w' => ∃ v', e = .returned (iv (doT t x).2) ∧ Nl M B w' p k q v' (nextC c x) (doT t x).1 (n + 1) ∧ Fr w p k q v w' v' :=
  (Nl.do (M := rest w p k q v) (B := w) ⟨H.h.rest, H.a, H.l, H.g⟩ hn x X Y).mono fun _ _ ⟨v', he, hh⟩ =>
    ⟨v', he, ⟨H.h.unrest hh.h, hh.a, hh.l, hh.g⟩, hh.h.fr⟩
/-- A block that is not the Net's is written. -/
theorem Nl.aside (H : Nl M B w p k q v c t n) {X : Nat} (hX : rest w p k q v X) (hM : ¬ M X) (hw : Wr X w w') : Nl M B w' p k q v c t n :=
  ⟨H.h.aside hw hX.2.1.symm hX.2.2.1.symm (fun a ha => (hX.2.2.2.1 a ha).symm) (fun _ e e2 => hX.2.2.2.2 (e2 ▸ e)) hM, H.a, H.l, H.g⟩
theorem rest_gr {b : Nat} (hb : rest w p k q v b) (hw : Gr w w') : rest w' p k q v b := ⟨Nat.lt_of_lt_of_le hb.1 (Below.size hw), hb.2⟩
/-- Way and Best of two nodes. -/
theorem Nl.way (H : Nl M B w p k q v c t n) {a b : Nat} (ha : a < 6) (hb : b < 6) : Calls Tryz.prog 57 #[pv p, iv (a : Int), iv (b : Int)] w fun e w' => e = .returned (.agg #[iv ((t.nd a).ways b).1, iv ((t.nd a).ways b).2.1, iv ((t.nd a).ways b).2.2]) ∧ ∃ d : Ext w, w' = d.out := by
  have := netWay_any H.h (a : Int) (b : Int)
  have e : wayTn t (a : Int) (b : Int) = (t.nd a).ways b := by
    unfold wayTn
    rw [if_pos ⟨by omega, by omega⟩, Int.toNat_natCast, wayOf_nat _ hb]
  rw [e] at this
  exact this
end
/-- The Net's own blocks. -/
def own (p k : Nat) (q : Nat → Nat) (v : Value) (b : Nat) : Prop := b = p ∨ b = k ∨ (∃ a, a < 6 ∧ b = q a) ∨ v.ownBlock = some b
/-- Another Net beside it. -/
def Apart (w : World) (p k : Nat) (q : Nat → Nat) (v : Value) (p' k' : Nat) (q' : Nat → Nat) (v' : Value) : Prop := ∀ b, own p' k' q' v' b → rest w p k q v b
section
variable {M : Nat → Prop} {B w w' : World} {p k p' k' : Nat} {q q' : Nat → Nat} {v v' v1 : Value} {c c' : Nat → Nat → Nat} {t t' : Tn} {n n' : Nat}
theorem Ne.own_lt (h : Ne M B w p k q v c t) {b : Nat} (hb : own p k q v b) : b < w.heap.size := by
  rcases hb with rfl | rfl | ⟨a, ha, rfl⟩ | e
  · exact h.blk.lt
  · exact h.lk.lt
  · exact (h.six.at_ a ha).lt
  · exact h.nw.own_lt e
theorem Apart.symm (h : Apart w p k q v p' k' q' v') (H : Ne M B w p k q v c t) : Apart w p' k' q' v' p k q v := fun b hb => by
  have no : ∀ x, own p' k' q' v' x → ¬ own p k q v x := fun x hx ho => by
    obtain ⟨_, r1, r2, r3, r4⟩ := h x hx
    rcases ho with e | e | ⟨a, ha, e⟩ | e
    · exact r1 e
    · exact r2 e
    · exact r3 a ha e
    · exact r4 e
  refine ⟨H.own_lt hb, fun e => no b (.inl e) hb, fun e => no b (.inr (.inl e)) hb, fun a ha e => no b (.inr (.inr (.inl ⟨a, ha, e⟩))) hb, fun e => no b (.inr (.inr (.inr e))) hb⟩
/-- What was done to the one leaves the other one as it was. -/
theorem Nl.beside (H' : Nl M B w p' k' q' v' c' t' n') (H : Nl M B w p k q v c t n) (ap : Apart w p k q v p' k' q' v') (f : Fr w p k q v w' v1) : Nl M B w' p' k' q' v' c' t' n' ∧ Apart w' p k q v1 p' k' q' v' :=
  ⟨⟨H'.h.keep f.kp (fun _ hm => H.h.sub hm) (ap _ (.inl rfl)) (ap _ (.inr (.inl rfl))) (fun a ha => ap _ (.inr (.inr (.inl ⟨a, ha, rfl⟩)))) (fun _ e => ap _ (.inr (.inr (.inr e)))), H'.a, H'.l, H'.g⟩, fun b hb => f.rst (ap b hb)⟩
theorem Apart.gr (h : Apart w p k q v p' k' q' v') (g : Gr w w') : Apart w' p k q v p' k' q' v' := fun b hb => rest_gr (h b hb) g
end
end Go.Proofs.YtfcknkanbcndjagGreatDoor

/- PLAIN FACTS ON NUMBERS: no Go in sight. -/
namespace Go.Proofs.YtfcknkanbcndjagGreatDoor

/-- Is it a prefix? -/
def okB (l b : Int) : Bool := decide (0 ≤ l ∧ l ≤ 8 ∧ 0 ≤ b ∧ b < 2 ^ l.toNat)
/-- Is it an address? -/
def adB (a : Int) : Bool := decide (0 ≤ a ∧ a < 256)
/-- The lowest address. -/
def firstI (l b : Int) : Int := if okB l b then b * 2 ^ (8 - l).toNat else -1
/-- The greatest address. -/
def lastI (l b : Int) : Int := if okB l b then b * 2 ^ (8 - l).toNat + 2 ^ (8 - l).toNat - 1 else -1
/-- Is an address one of its? -/
def hasB (l b a : Int) : Bool := decide (okB l b = true ∧ 0 ≤ a ∧ a < 256 ∧ a / 2 ^ (8 - l).toNat = b)
/-- Does it stand ahead? -/
def lessB (l b m c : Int) : Bool := decide (firstI l b < firstI m c ∨ firstI l b = firstI m c ∧ l < m)

theorem ok_iff {l b : Int} : okB l b = true ↔ 0 ≤ l ∧ l ≤ 8 ∧ 0 ≤ b ∧ b < 2 ^ l.toNat := by unfold okB; simp
theorem has_iff {l b a : Int} : hasB l b a = true ↔ okB l b = true ∧ 0 ≤ a ∧ a < 256 ∧ a / 2 ^ (8 - l).toNat = b := by unfold hasB; simp
theorem less_iff {l b m c : Int} : lessB l b m c = true ↔ firstI l b < firstI m c ∨ firstI l b = firstI m c ∧ l < m := by unfold lessB; simp

/-- Nine lengths. -/
theorem nine {l : Int} (h0 : 0 ≤ l) (h8 : l ≤ 8) : l = 0 ∨ l = 1 ∨ l = 2 ∨ l = 3 ∨ l = 4 ∨ l = 5 ∨ l = 6 ∨ l = 7 ∨ l = 8 := by omega

theorem pw_bd (k : Int) (h : k ≤ 8) : (1 : Int) ≤ 2 ^ k.toNat ∧ (2 : Int) ^ k.toNat ≤ 256 := by
  by_cases h0 : 0 ≤ k
  · rcases nine h0 h with h | h | h | h | h | h | h | h | h <;> subst h <;> decide
  · have e : k.toNat = 0 := by omega
    rw [e]; decide

/-- What a prefix is, by its nine lengths: the bits, and both powers as numbers. -/
theorem ok_pows {l b : Int} (h : okB l b = true) : 0 ≤ l ∧ l ≤ 8 ∧ 0 ≤ b ∧ b < 2 ^ l.toNat ∧ 0 ≤ b * 2 ^ (8 - l).toNat ∧ b * 2 ^ (8 - l).toNat + 2 ^ (8 - l).toNat ≤ 256 := by
  obtain ⟨h0, h8, hb, hl⟩ := ok_iff.1 h
  refine ⟨h0, h8, hb, hl, ?_⟩
  rcases nine h0 h8 with h | h | h | h | h | h | h | h | h <;> subst h <;> simp at hl ⊢ <;> omega

/-- The n lowest bits of a number, as a text of 0 and 1, the lowest one last. -/
def bitsL : Nat → Int → List UInt8
  | 0, _ => []
  | n + 1, b => bitsL n (b / 2) ++ [if b % 2 = 1 then 49 else 48]
/-- The text of a prefix. -/
def textL (l b : Int) : List UInt8 := if okB l b then bitsL l.toNat b ++ (if l < 8 then [42] else []) else []

theorem bitsL_length : ∀ (n : Nat) (b : Int), (bitsL n b).length = n
  | 0, _ => rfl
  | n + 1, b => by simp [bitsL, bitsL_length n]

theorem div_pow_succ (b : Int) (m : Nat) : b / 2 ^ m / 2 = b / 2 ^ (m + 1) := by
  rw [Int.pow_succ, Int.ediv_ediv_of_nonneg (Int.le_of_lt (Int.pow_pos (by decide)))]

/-- One bit more. -/
theorem bitsL_next (n m : Nat) (b : Int) (v : UInt8) (hm : m + 1 ≤ n) (hv : (if b / 2 ^ m % 2 = 1 then (49 : UInt8) else 48) = v) :
    bitsL (n - m) (b / 2 ^ m) = bitsL (n - (m + 1)) (b / 2 ^ (m + 1)) ++ [v] := by
  have e : n - m = (n - (m + 1)) + 1 := by omega
  rw [e, bitsL, div_pow_succ, hv]

end Go.Proofs.YtfcknkanbcndjagGreatDoor

/- PLAIN FACTS for PrefixSpan: no Go in sight. -/
namespace Go.Proofs.YtfcknkanbcndjagGreatDoor

theorem first_is_ok {l b : Int} (h : okB l b = true) : firstI l b = b * 2 ^ (8 - l).toNat := by simp [firstI, h]
theorem last_is_ok {l b : Int} (h : okB l b = true) : lastI l b = b * 2 ^ (8 - l).toNat + 2 ^ (8 - l).toNat - 1 := by simp [lastI, h]

/-- All in a row. -/
theorem span_has {l b a : Int} (h : okB l b = true) : 0 ≤ firstI l b ∧ firstI l b ≤ lastI l b ∧ lastI l b ≤ 255 ∧ (hasB l b a = true ↔ firstI l b ≤ a ∧ a ≤ lastI l b) := by
  rw [has_iff, first_is_ok h, last_is_ok h]
  obtain ⟨h0, h8, hb, hl, g1, g2⟩ := ok_pows h
  simp only [h, true_and]
  rcases nine h0 h8 with h | h | h | h | h | h | h | h | h <;> subst h <;> simp at hl g1 g2 ⊢ <;> omega

end Go.Proofs.YtfcknkanbcndjagGreatDoor
