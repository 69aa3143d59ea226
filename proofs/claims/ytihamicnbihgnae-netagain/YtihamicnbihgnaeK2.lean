/- CONTRACTS OF package links: List, Of. -/
import Derived.Test.YtihamicnbihgnaeK1
namespace Go.Proofs.Ytihamicnbihgnae
open Go.RowKit

theorem row_next (c : Nat → Nat → Nat) {a b : Nat} (h : a < b) : rowTo c a (b + 1 - (a + 1)) = rowTo c a (b - (a + 1)) ++ (if c a b = 0 then [] else [(a, b, c a b)]) := by
  rw [show b + 1 - (a + 1) = (b - (a + 1)) + 1 by omega, rowTo, show a + 1 + (b - (a + 1)) = b by omega]

set_option maxHeartbeats 1000000 in
theorem klist_any {w : World} {p : Nat} {c : Nat → Nat → Nat} (H : KL w p c) (hc : Lk c) :
    Calls Try.prog 43 #[pv p] w fun e w' => ∃ v, e = .returned v ∧ OwnK w w' v (allTo c 6) ∧ Gr w w' := by
  have HC := hide (fun (wX : World) (gX : Gr w wX) (a b : Nat) (ha : a < 6) (hb : b < 6) => cost_nat (H.gr gX) hc ha hb)
  clear H hc
  go_enter Try.func43, Try.ntmps43
  go_wp2_with fail
  go_loopw [3, 7] (fun v3 v7 wr => ∃ a : Nat, a ≤ 6 ∧ v7 = .int .i64 a ∧ Hid (OwnK w wr v3 (allTo c a)) ∧ Gr w wr) (fun _ v7 _ => 6 - (intOf v7).toNat)
  case atStart => exact ⟨0, by omega, rfl, OwnK.nil _ _, Gr.refl _⟩
  case round =>
    obtain ⟨a, ha, rfl, HO, g⟩ := hrel
    by_cases hlt : a < 6
    · have hai : (a : Int) < 6 := by omega
      go_wp2_with fail
      go_loopw [3, 5] (fun v3 v5 wr => ∃ b : Nat, a < b ∧ b ≤ 6 ∧ v5 = .int .i64 b ∧ Hid (OwnK w wr v3 (allTo c a ++ rowTo c a (b - (a + 1)))) ∧ Gr w wr) (fun _ v5 _ => 6 - (intOf v5).toNat)
      case atStart => exact ⟨a + 1, by omega, by omega, by go_num, by rw [Nat.sub_self, rowTo, List.append_nil]; exact HO, g⟩
      case round =>
        obtain ⟨b, hab, hb6, rfl, HJ, gj⟩ := hrel
        by_cases hb : b < 6
        · have hbi : (b : Int) < 6 := by omega
          have hN := all_len c a
          have hR := row_len c a (b - (a + 1))
          have H1 := hide (HC.out wr gj a b hlt hb)
          have HX := hide (row_next c hab)
          generalize c a b = k at *
          by_cases h0 : k = 0
          · subst h0
            go_wp2_with (first | (go_at_call 40; with_reducible refine H1.out.mono ?_; rintro e w' ⟨rfl, hw⟩; subst hw))
            go_roundw
            case rel => exact ⟨b + 1, by omega, by omega, by go_num, by rw [HX.out, if_pos trivial, List.append_nil]; exact HJ, gj⟩
            case measure => simp [intOf]; omega
          · have hk : ((k : Int) != 0) = true := by simp; omega
            obtain ⟨v', w', hrun, hown, hgr⟩ := OwnK.app 81 HJ.out gj (a, b, k) (by rw [List.length_append]; omega)
            have HR := hide hrun
            have HW := hide hown
            clear hrun hown
            go_wp2_with (first | (go_at_call 40; with_reducible refine H1.out.mono ?_; rintro e w' ⟨rfl, hw⟩; subst hw) | (at_builtin; refine Lib.wpList_append_run _ rfl _ _ _ _ rfl _ _ rfl rfl _ _ HR.out ?_))
            go_roundw
            case rel => exact ⟨b + 1, by omega, by omega, by go_num, by rw [HX.out, if_neg h0, ← List.append_assoc]; exact HW, hgr⟩
            case measure => simp [intOf]; omega
        · have e6 : b = 6 := by omega
          subst e6
          go_wp2_with fail
          go_roundw
          case rel => exact ⟨a + 1, by omega, by go_num, by rw [allTo, show 5 - a = 6 - (a + 1) by omega]; exact HJ, gj⟩
          case measure => simp [intOf]; omega
    · have h6 : a = 6 := by omega
      subst h6
      go_wp2_with fail
      go_ret
      exact ⟨_, rfl, HO.out, g⟩

/-- Those with which a is linked, of the first j. -/
def ofB (c : Nat → Nat → Nat) (a : Int) (j : Nat) : List Nat := ofTo (fun _ i => cst c a i) 0 j
set_option maxHeartbeats 1000000 in
theorem kof_any {w : World} {p : Nat} {c : Nat → Nat → Nat} (H : KL w p c) (hc : Lk c) (a : Int) :
    Calls Try.prog 35 #[pv p, iv a] w fun e w' => ∃ v, e = .returned v ∧ OwnI w w' v (ofB c a 6) ∧ Gr w w' := by
  have HC := hide (fun (wX : World) (gX : Gr w wX) (b : Nat) => cost_any (H.gr gX) hc a b)
  clear H hc
  go_enter Try.func35, Try.ntmps35
  go_wp2_with fail
  go_loopw [5, 7] (fun v5 v7 wr => ∃ b : Nat, b ≤ 6 ∧ v7 = .int .i64 b ∧ Hid (OwnI w wr v5 (ofB c a b)) ∧ Gr w wr) (fun _ v7 _ => 6 - (intOf v7).toNat)
  case atStart => exact ⟨0, by omega, rfl, OwnI.nil _ _, Gr.refl _⟩
  case round =>
    obtain ⟨b, hb6, rfl, HJ, gj⟩ := hrel
    by_cases hb : b < 6
    · have hbi : (b : Int) < 6 := by omega
      have hN : (ofB c a b).length ≤ b := of_len _ 0 b
      have H1 := hide (HC.out wr gj b)
      have HX : Hid (ofB c a (b + 1) = ofB c a b ++ (if cst c a b = 0 then [] else [b])) := rfl
      generalize cst c a b = k at *
      by_cases h0 : k = 0
      · subst h0
        go_wp2_with (first | (go_at_call 40; with_reducible refine H1.out.mono ?_; rintro e w' ⟨rfl, hw⟩; subst hw))
        go_roundw
        case rel => exact ⟨b + 1, by omega, by go_num, by rw [HX.out, if_pos trivial, List.append_nil]; exact HJ, gj⟩
        case measure => simp [intOf]; omega
      · have hk : ((k : Int) != 0) = true := by simp; omega
        obtain ⟨v', w', hrun, hown, hgr⟩ := OwnI.app 55 HJ.out gj b (by omega)
        have HR := hide hrun
        have HW := hide hown
        clear hrun hown
        go_wp2_with (first | (go_at_call 40; with_reducible refine H1.out.mono ?_; rintro e w' ⟨rfl, hw⟩; subst hw) | (at_builtin; refine Lib.wpList_append_run _ rfl _ _ _ _ rfl _ _ rfl rfl _ _ HR.out ?_))
        go_roundw
        case rel => exact ⟨b + 1, by omega, by go_num, by rw [HX.out, if_neg h0]; exact HW, hgr⟩
        case measure => simp [intOf]; omega
    · have e6 : b = 6 := by omega
      subst e6
      go_wp2_with fail
      go_ret
      exact ⟨_, rfl, HJ.out, gj⟩

end Go.Proofs.Ytihamicnbihgnae
