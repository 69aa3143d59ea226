/- THE PROGRAM'S Net: New. -/
import Derived.Test.YtihamicnbihgnaeNe1
namespace Go.Proofs.Ytihamicnbihgnae
open Go.RowKit
attribute [local go_sem] Ext.all Ext.cell Ext.frozen Ext.lt Ext.lt1 Ext.lt2 Ext.ne Ext.ne'

/-- The cells of a Net that is being made: the first j nodes are there. -/
def ntF2 (k : Nat) (q : Nat → Nat) (j : Nat) : Nat → Value := fun i => if i = 0 then pv k else if i < 7 then (if i - 1 < j then pv (q (i - 1)) else .pointer none) else .slice none 0 0

set_option maxRecDepth 20000 in
set_option maxHeartbeats 8000000 in
theorem netNew_ok (w : World) (M : Nat → Prop) (hM : ∀ b, M b → b < w.heap.size) : Calls Try.prog 12 #[] w fun e w' => ∃ p k q, e = .returned (pv p) ∧ Ne M w w' p k q (.slice none 0 0) (fun _ _ => 0) newT ∧ Gr w w' ∧ w.heap.size ≤ p ∧ w.heap.size ≤ k ∧ ∀ a, a < 6 → w.heap.size ≤ q a := by
  have HK := hide (knew_any w)
  have HM := hide hM
  clear hM
  go_enter Try.func12, Try.ntmps12
  go_upto_region 2 with (go_at_call 30; with_reducible refine HK.out.mono ?_; rintro e V1 ⟨rfl, K1', g1', hs1⟩; have K1 := hide K1'; have G1 := hide g1'; clear K1' g1')
  have N0 : Hid (VArr (V1.alloc (.cells (vcells 8 (ntF2 w.heap.size (fun _ => 0) 0)) 39)) 39 8 V1.heap.size (ntF2 w.heap.size (fun _ => 0) 0)) := VArr.new V1 39 8 _
  refine wp_gen (fun V => Hid (VArr V 39 8 V1.heap.size (ntF2 w.heap.size (fun _ => 0) 0)) ∧ Hid (KL V w.heap.size (fun _ _ => 0)) ∧ Hid (Gr w V)) ⟨N0.out, K1.out.gr ((Gr.refl _).alloc _), G1.out.alloc _⟩ ?_
  clear N0 K1 G1 HK
  generalize hp : V1.heap.size = p at *
  generalize hk : w.heap.size = k at *
  have hkp : k < p := by omega
  have HP := hide hk
  clear hp hk hs1
  rintro V ⟨M0, K0, g0⟩
  have hkw : w.heap.size ≤ k := by have := HP.out; omega
  go_wp2_with fail
  go_loopw [6] (fun v6 wr => ∃ (j : Nat) (q : Nat → Nat), j ≤ 6 ∧ v6 = .int .i64 (j : Int) ∧ Hid (VArr wr 39 8 p (ntF2 k q j)) ∧ Hid (KL wr k (fun _ _ => 0)) ∧ Hid (∀ a, a < j → DAt wr (q a) (sel (newM a)) ∧ w.heap.size ≤ q a ∧ q a ≠ p ∧ ∀ b, b < j → a ≠ b → q a ≠ q b) ∧ Hid (Gr w wr)) (fun v6 _ => (6 - intOf v6).toNat)
  case atStart => exact ⟨0, fun _ => 0, by omega, rfl, M0, K0, fun a ha => by omega, g0⟩
  case round =>
    clear M0 K0 g0
    obtain ⟨j, q, hj6, rfl, M0, K0, Q0, g0⟩ := hrel
    by_cases hj : j < 6
    · have hji : decide ((j : Int) < 6) = true := decide_eq_true (by omega)
      have hj0 : (j : Int) < 6 := by omega
      have wj : IntKind.i64.wrap ((j : Int) + 1) = (j : Int) + 1 := by rw [IntKind.wrap_i64]; omega
      have HN := hide (nnew_ok hj wr.drew)
      have fz := VArr.free M0.out
      have q0 := VArr.cell M0.out (j := 1 + j) (by omega)
      have hp := VArr.lt M0.out
      go_upto_region 5 with (fail)
      go_region_with (go_at_call 31; with_reducible refine HN.out.mono ?_; rintro e V1 ⟨rfl, N1', g1'⟩; have N1 := hide N1'; have G1 := hide ((Gr.refl wr).drewTo g1'); clear N1' g1'; have hp2 := VArr.lt (M0.out.gr G1.out); have fz2 := VArr.free (M0.out.gr G1.out); have r0 := VArr.cell (M0.out.gr G1.out) (j := 1 + j) (by omega))
      all_goals
        have SM : Hid (VArr (V1.setCell ⟨p, 1 + j, none⟩ (pv wr.heap.size)) 39 8 p (ntF2 k (updW q j wr.heap.size) (j + 1))) := (M0.out.gr G1.out).set (fun i hi => by
          unfold ntF2
          by_cases e1 : i = 0
          · rw [if_pos e1, if_pos e1, if_neg (by omega)]
          · rw [if_neg e1, if_neg e1]
            by_cases e2 : i < 7
            · rw [if_pos e2, if_pos e2]
              by_cases e3 : i = 1 + j
              · rw [if_pos e3, if_pos (by omega), show i - 1 = j by omega, updW_same]
              · rw [if_neg e3]
                by_cases e4 : i - 1 < j
                · rw [if_pos e4, if_pos (by omega), updW_ne _ _ (by omega)]
                · rw [if_neg e4, if_neg (by omega)]
            · rw [if_neg e2, if_neg e2, if_neg (by omega)])
        have hkp2 : wr.heap.size ≠ p := by omega
        have hs := Below.size g0.out
        have SK : Hid (KL (V1.setCell ⟨p, 1 + j, none⟩ (pv wr.heap.size)) k (fun _ _ => 0)) := NArr.other (K0.out.gr G1.out) (by omega) _ _
        have SQ : Hid (∀ a, a < j + 1 → DAt (V1.setCell ⟨p, 1 + j, none⟩ (pv wr.heap.size)) (updW q j wr.heap.size a) (sel (newM a)) ∧ w.heap.size ≤ updW q j wr.heap.size a ∧ updW q j wr.heap.size a ≠ p ∧ ∀ b, b < j + 1 → a ≠ b → updW q j wr.heap.size a ≠ updW q j wr.heap.size b) := fun a ha => by
          have lt : ∀ b, b < j → q b < wr.heap.size := fun b hb => (Q0.out b hb).1.lt
          by_cases e : a = j
          · subst e
            rw [updW_same]
            refine ⟨ZArr.other (N1.out) hkp2 _ _, by omega, hkp2, fun b hb hne => ?_⟩
            rw [updW_ne _ _ (fun x => hne x.symm)]
            have := lt b (by omega)
            omega
          · rw [updW_ne _ _ e]
            obtain ⟨h1, h2, h3, h4⟩ := Q0.out a (by omega)
            refine ⟨ZArr.other (h1.gr G1.out) h3 _ _, h2, h3, fun b hb hne => ?_⟩
            by_cases e2 : b = j
            · subst e2
              rw [updW_same]
              have := lt a (by omega)
              omega
            · rw [updW_ne _ _ e2]; exact h4 b (by omega) hne
        have SG := hide ((g0.out.trans G1.out).setCell (p := ⟨p, 1 + j, none⟩) (show w.heap.size ≤ p by omega) (pv wr.heap.size))
        go_wp2_with fail
        go_roundw
        case rel => exact ⟨j + 1, _, by omega, by congr 1, SM, SK, SQ, SG⟩
        case measure => simp [intOf]; omega
    · have hji : decide ((j : Int) < 6) = false := decide_eq_false (by omega)
      have ej : j = 6 := by omega
      subst ej
      have SB : Hid (VArr wr 39 8 p (ntF k q (.slice none 0 0))) := M0.out.congr (fun i hi => by
        unfold ntF2 ntF
        by_cases e1 : i = 0
        · rw [if_pos e1, if_pos e1]
        · rw [if_neg e1, if_neg e1]
          by_cases e2 : i < 7
          · rw [if_pos e2, if_pos e2, if_pos (by omega)]
          · rw [if_neg e2, if_neg e2])
      go_wp2_with fail
      have hwk := HP.out
      go_ret
      have no : ∀ b, w.heap.size ≤ b → ¬ M b := fun b hb hm => by have := HM.out b hm; omega
      have hm : ∀ b, M b → b < w.heap.size := fun b hb => by have := HM.out b hb; omega
      refine ⟨p, k, q, rfl, ⟨g0.out.kp M, hm, SB.out, K0.out, ⟨fun a ha => (Q0.out a ha).1, fun a b ha hb hne => (Q0.out a ha).2.2.2 b hb hne⟩, NwO.nil _ _, no _ (by omega), no _ (by omega), fun a ha => no _ (Q0.out a ha).2.1, fun b e => by cases e⟩, g0.out, by omega, by omega, fun a ha => (Q0.out a ha).2.1⟩

end Go.Proofs.Ytihamicnbihgnae
