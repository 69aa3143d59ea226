/- THE PROGRAM'S Net: Settle. -/
import Derived.Test.YtihamicnbihgnaeNe14
namespace Go.Proofs.Ytihamicnbihgnae
open Go.RowKit
attribute [local go_sem] Ext.all Ext.cell Ext.frozen Ext.lt Ext.lt1 Ext.lt2 Ext.ne Ext.ne'

/-- The news are taken away. -/
theorem Ne.noNews {M : Nat → Prop} {B w : World} {p k : Nat} {q : Nat → Nat} {v : Value} {c : Nat → Nat → Nat} {t : Tn} (h : Ne M B w p k q v c t) : Ne M B (w.setCell ⟨p, 7, none⟩ (.slice none 0 0)) p k q (.slice none 0 0) c { t with news := [] } :=
  h.newsPut (World.grownBy.refl _ _) (NwO.nil _ _) (.inl rfl)
set_option maxRecDepth 20000 in
set_option maxHeartbeats 16000000 in
theorem netSettle_ok {M : Nat → Prop} {B w : World} {p k : Nat} {q : Nat → Nat} {v : Value} {c : Nat → Nat → Nat} {t : Tn} (H : Ne M B w p k q v c t) (A : TnA t c) (hA : ∀ k, k < 6 → agT t k < 4611686018427387904) (R : Int) (hR : R ≤ 4611686018427387904) :
    Calls Try.prog 8 #[pv p, iv R] w fun e w' => e = .returned (.tuple #[]) ∧ Ne M B w' p k q (.slice none 0 0) c (settleT t R.toNat) := by
  have hp := H.blk.lt
  have c2 := H.news
  have fz := H.blk.free
  obtain ⟨ao, cv, hv, _, _, _⟩ := H.nw.shape
  subst hv
  have H0 := hide H.noNews
  have A0 : Hid (TnA { t with news := [] } c) := A.sub (fun x hx => by cases hx)
  have HA := hide hA
  clear H A hA
  have hag : Hid (∀ k, agT { t with news := [] } k = agT t k) := fun _ => rfl
  have HST : Hid (settleT t R.toNat = roundsT (tickTo { t with news := [] } 6) R.toNat) := rfl
  generalize ({ t with news := [] } : Tn) = t0 at *
  go_enter Try.func8, Try.ntmps8
  go_upto_region 2 with (fail)
  refine wp_gen (fun V => Hid (Ne M B V p k q (.slice none 0 0) c t0)) H0 ?_
  clear hp c2 fz H0
  rintro V H0
  have hp := H0.out.blk.lt
  have c0 : V.cell? ⟨p, 1, none⟩ = some (pv (q 0)) := H0.out.node (a := 0) (by omega)
  have c1 : V.cell? ⟨p, 2, none⟩ = some (pv (q 1)) := H0.out.node (a := 1) (by omega)
  have c2 : V.cell? ⟨p, 3, none⟩ = some (pv (q 2)) := H0.out.node (a := 2) (by omega)
  have c3 : V.cell? ⟨p, 4, none⟩ = some (pv (q 3)) := H0.out.node (a := 3) (by omega)
  have c4 : V.cell? ⟨p, 5, none⟩ = some (pv (q 4)) := H0.out.node (a := 4) (by omega)
  have c5 : V.cell? ⟨p, 6, none⟩ = some (pv (q 5)) := H0.out.node (a := 5) (by omega)
  go_wp2_with fail
  clear c0 c1 c2 c3 c4 c5 hp
  generalize hC : (#[pv (q 0), pv (q 1), pv (q 2), pv (q 3), pv (q 4), pv (q 5)] : Array Value) = C
  have HIX := hide (fun (s : Nat) (hs : s < 6) => idx_nodes (g := q) hC hs)
  clear hC
  go_loopw [15] (fun v15 wr => ∃ a : Nat, a ≤ 6 ∧ v15 = .int .i64 (a : Int) ∧ Hid (Ne M B wr p k q (.slice none 0 0) c (tickTo t0 a))) (fun v15 _ => (6 - intOf v15).toNat)
  case atStart => exact ⟨0, by omega, rfl, H0⟩
  case round =>
    clear H0
    obtain ⟨a, ha6, rfl, H0⟩ := hrel
    by_cases ha : a < 6
    · have hai : decide ((a : Int) < 6) = true := decide_eq_true (by omega)
      have ha0 : (a : Int) < 6 := by omega
      have wa : IntKind.i64.wrap ((a : Int) + 1) = (a : Int) + 1 := by rw [IntKind.wrap_i64]; omega
      obtain ⟨T1, T2⟩ := A0.out.ticks a (by omega)
      have hix := HIX.out a ha
      have hage : age ((tickTo t0 a).nd a) < 4611686018427387904 := by
        have e1 : age ((tickTo t0 a).nd a) = agT (tickTo t0 a) a := by unfold age agT; rw [T1.s.tc.me a ha]
        rw [e1, T2 a ha, if_neg (by omega), hag.out]
        exact HA.out a ha
      have HQ : Hid (Calls Try.prog 19 #[pv (q a)] wr fun e w' => e = .returned (.tuple #[]) ∧ Ne M B w' p k q (.slice none 0 0) c (tickTo t0 (a + 1))) := (ntickN (H0.out.six.at_ a ha) (T1.s.z a ha) hage).mono fun e w' ⟨he, hm, hw⟩ => ⟨he, H0.out.put ha hw hm⟩
      clear T1 T2 hage
      go_wp2_with (go_at_call 19; with_reducible refine HQ.out.mono ?_; rintro e V1 ⟨rfl, H1'⟩; have H1 := hide H1'; clear H1')
      go_roundw
      case rel => exact ⟨a + 1, by omega, by congr 1, H1⟩
      case measure => simp [intOf]; omega
    · have hai : decide ((a : Int) < 6) = false := decide_eq_false (by omega)
      have ea : a = 6 := by omega
      rw [ea] at H0
      have A1 := hide (A0.out.ticks 6 (Nat.le_refl _)).1
      clear ea ha ha6 A0 HA hag
      generalize tickTo t0 6 = t1 at *
      have AR := hide (fun r => (A1.out.rounds r).1)
      have STL := hide (fun r h => still_rounds (r := r) A1.out h)
      go_wp2_with fail
      go_loopw [22] (fun v22 wr => ∃ r : Nat, (r : Int) ≤ max R 0 ∧ v22 = .int .i64 (r : Int) ∧ Hid (Ne M B wr p k q (.slice none 0 0) c (roundsT t1 r))) (fun v22 _ => (R - intOf v22).toNat)
      case atStart => exact ⟨0, by omega, rfl, H0⟩
      case round =>
        clear H0
        obtain ⟨r, hr, rfl, H0⟩ := hrel
        by_cases hrR : (r : Int) < R
        · have hri : decide ((r : Int) < R) = true := decide_eq_true hrR
          have wr1 : IntKind.i64.wrap ((r : Int) + 1) = (r : Int) + 1 := by rw [IntKind.wrap_i64]; omega
          have HRD := hide (netRound_ok H0.out (AR.out r))
          have HRS := hide (show roundsT t1 (r + 1) = roundT (roundsT t1 r) 6 from rfl)
          have HE : Hid (roundChg (roundsT t1 r) 6 = false → roundsT t1 R.toNat = roundsT t1 (r + 1)) := fun h => by
            have := STL.out r h (R.toNat - (r + 1))
            rw [show r + 1 + (R.toNat - (r + 1)) = R.toNat by omega] at this
            exact this
          rw [← HRS.out] at HRD
          generalize hch : roundChg (roundsT t1 r) 6 = ch at *
          clear hch
          cases ch
          · have HE2 := hide (HE.out rfl)
            go_wp2_with (go_at_call 20; with_reducible refine HRD.out.mono ?_; rintro e V1 ⟨rfl, H1'⟩; have H1 := hide H1'; clear H1')
            first
              | (refine bodyPost_end (results_none rfl _ _ _) rfl ?_; exact ⟨rfl, by rw [HST.out, HE2.out]; exact H1.out⟩)
              | (refine bodyPost_ret (results_none rfl _ _ _) rfl ?_; exact ⟨rfl, by rw [HST.out, HE2.out]; exact H1.out⟩)
          · go_wp2_with (go_at_call 20; with_reducible refine HRD.out.mono ?_; rintro e V1 ⟨rfl, H1'⟩; have H1 := hide H1'; clear H1')
            go_roundw
            case rel => exact ⟨r + 1, by omega, by congr 1, H1⟩
            case measure => simp [intOf]; omega
        · have hri : decide ((r : Int) < R) = false := decide_eq_false hrR
          have er : r = R.toNat := by omega
          go_wp2_with fail
          refine bodyPost_end (results_none rfl _ _ _) rfl ?_
          exact ⟨rfl, by rw [HST.out, ← er]; exact H0.out⟩

end Go.Proofs.Ytihamicnbihgnae
