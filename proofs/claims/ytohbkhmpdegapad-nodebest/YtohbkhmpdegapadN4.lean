/- CONTRACTS OF handpostref: Mind.Link where all is right. -/
import Derived.Test.YtohbkhmpdegapadN3
namespace Go.Proofs.Ytohbkhmpdegapad
open Go.RowKit
attribute [local go_sem] Ext.all Ext.cell Ext.frozen Ext.lt Ext.lt1 Ext.lt2 Ext.ne Ext.ne'

def clrM (m : Md) (f : Nat) (c : Int) (k : Nat) : Md := { m with cost := updW m.cost f c, heard := fun j i => if j = f ∧ i < k then (0, 200) else m.heard j i }
def midM (m : Md) (f : Nat) (c : Int) : Md := { m with cost := updW m.cost f c, heard := if c = 0 then updW m.heard f (fun _ => (0, 200)) else m.heard }
theorem clr_zero (m : Md) (f : Nat) (c : Int) : clrM m f c 0 = { m with cost := updW m.cost f c } := by
  unfold clrM
  congr 1
  funext j i
  rw [if_neg (by omega)]
theorem clr_succ (m : Md) (f : Nat) (c : Int) (k : Nat) : { clrM m f c k with heard := updW (clrM m f c k).heard f (updW ((clrM m f c k).heard f) k (0, 200)) } = clrM m f c (k + 1) := by
  unfold clrM
  dsimp only
  congr 1
  funext j i
  unfold updW
  by_cases e : j = f
  · subst e
    rw [if_pos rfl]
    dsimp only
    by_cases e2 : i = k
    · rw [if_pos e2, if_pos ⟨rfl, by omega⟩]
    · rw [if_neg e2]
      by_cases e3 : i < k
      · rw [if_pos ⟨rfl, e3⟩, if_pos ⟨rfl, by omega⟩]
      · rw [if_neg (by omega), if_neg (by omega)]
  · simp [e]
theorem clr_heard (m : Md) (f j : Nat) {k : Nat} (hk : k < 6) : (clrM m f 0 6).heard j k = (midM m f 0).heard j k := by
  unfold clrM midM updW
  by_cases e : j = f
  · simp [e, hk]
  · simp [e]
theorem clr_end {w : World} {p : Nat} {m : Md} {f : Nat} {c : Int} {k : Nat} (h : MAt w p (clrM m f c k)) (hk : (c = 0 ∧ k = 6) ∨ (c ≠ 0 ∧ k = 0)) : MAt w p (midM m f c) := by
  rcases hk with ⟨rfl, rfl⟩ | ⟨hc, rfl⟩
  · refine ZArr.congr h fun i hi => ?_
    have E := clr_heard m f ((i - 7) / 12) (k := (i - 7) % 12 / 2) (by omega)
    unfold mdF
    rw [E]
    rfl
  · rw [clr_zero] at h
    unfold midM
    rw [if_neg hc]
    exact h
theorem mid_cost {m : Md} (hX : MdOk m) {f : Nat} {c : Int} (h0 : 0 ≤ c) (h1 : c ≤ 15) (n : Nat) : ∀ r, 0 ≤ (lookTo (midM m f c) n).cost r ∧ (lookTo (midM m f c) n).cost r ≤ 15 := by
  intro r
  rw [(lookTo_all (midM m f c) n).2.1]
  show 0 ≤ updW m.cost f c r ∧ updW m.cost f c r ≤ 15
  unfold updW
  by_cases e : r = f
  · rw [if_pos e]; exact ⟨h0, h1⟩
  · rw [if_neg e]; exact hX.cost r
theorem mid_said {m : Md} (hX : MdOk m) (f : Nat) (c : Int) (n k : Nat) : ∀ r, 0 ≤ ((lookTo (midM m f c) n).heard r k).2 ∧ ((lookTo (midM m f c) n).heard r k).2 ≤ 200 := by
  intro r
  rw [(lookTo_all (midM m f c) n).2.2.1]
  have := (hX.said r k).2
  unfold midM updW
  dsimp only
  by_cases e : c = 0
  · rw [if_pos e]
    by_cases e2 : r = f
    · rw [if_pos e2]; exact ⟨by decide, by decide⟩
    · rw [if_neg e2]; exact this
  · rw [if_neg e]; exact this

set_option maxRecDepth 20000 in
set_option maxHeartbeats 8000000 in
theorem mlink_ok {w : World} {p : Nat} {m : Md} (H : MAt w p m) (hX : MdOk m) {f : Nat} {c : Int} (hf : f < 6) (hfm : f ≠ m.me) (h0 : 0 ≤ c) (h1 : c ≤ 15) :
    Calls Try.prog 39 #[pv p, iv f, iv c] w fun e w' => e = .returned (iv 0) ∧ MAt w' p (linkM m f c) ∧ Wr p w w' := by
  have hp := H.lt
  have hfi : (f : Int) < 6 := by omega
  have B1 : Hid (decide (0 ≤ (f : Int) ∧ (f : Int) < 6) = true) := decide_eq_true ⟨by omega, hfi⟩
  have g3 : ((f : Int) == (m.me : Int)) = false := by simp; omega
  have g4 : decide (c < 0) = false := decide_eq_false (by omega)
  have g5 : decide (15 < c) = false := decide_eq_false (by omega)
  have HL : Hid (linkM m f c = lookTo (midM m f c) 6) := rfl
  have HC : Hid (∀ n r, 0 ≤ (lookTo (midM m f c) n).cost r ∧ (lookTo (midM m f c) n).cost r ≤ 15) := mid_cost hX h0 h1
  have HS := hide (mid_said hX f c)
  have c0 := H.me
  have c1 := H.cost hf
  have fz := ZArr.free H
  have SM : Hid (MAt (w.setCell ⟨p, 1 + f, none⟩ (iv c)) p (clrM m f c 0)) := by unfold Hid; rw [clr_zero]; exact H.setCost hf c
  have SW := hide ((Wr.refl p w).set (1 + f) (iv c))
  clear H h0 h1 hfm
  go_enter Try.func39, Try.ntmps39
  go_upto_region 4 with (first | (go_at_call 10; with_reducible refine (isNode_is B1.out _).mono ?_; rintro e w1 ⟨rfl, hw1⟩; have hw2 := hw1.symm; clear hw1; subst hw2))
  refine wp_gen (fun V => Hid (MAt V p (clrM m f c 0)) ∧ Hid (Wr p w V)) ⟨SM.out, SW.out⟩ ?_
  clear SM SW c0 c1 fz
  rintro V ⟨M0, W0⟩
  go_wp2_with fail
  go_loopw [7] (fun v7 wr => ∃ k : Nat, k ≤ 6 ∧ (c ≠ 0 → k = 0) ∧ v7 = .int .i64 (k : Int) ∧ Hid (MAt wr p (clrM m f c k)) ∧ Hid (Wr p w wr)) (fun v7 _ => (6 - intOf v7).toNat)
  case atStart => exact ⟨0, by omega, fun _ => rfl, rfl, M0, W0⟩
  case round =>
    clear M0 W0
    obtain ⟨k, hk6, hck, rfl, M0, W0⟩ := hrel
    by_cases hgo : k < 6 ∧ c = 0
    · obtain ⟨hk, rfl⟩ := hgo
      have hki : (k : Int) < 6 := by omega
      obtain ⟨q0, q1⟩ := M0.out.heard hf hk
      have fz := ZArr.free M0.out
      have hpl := M0.out.lt
      have SM : Hid (MAt ((wr.setCell ⟨p, 7 + f * 12 + k * 2, none⟩ (iv 0)).setCell ⟨p, 7 + f * 12 + k * 2 + 1, none⟩ (iv 200)) p (clrM m f 0 (k + 1))) := by unfold Hid; rw [← clr_succ]; exact M0.out.setHeard hf hk 0 200
      have SW := hide ((W0.out.set (7 + f * 12 + k * 2) (iv 0)).set (7 + f * 12 + k * 2 + 1) (iv 200))
      have wk : IntKind.i64.wrap ((k : Int) + 1) = (k : Int) + 1 := by rw [IntKind.wrap_i64]; omega
      clear M0 W0 hck
      go_wp2_with fail
      go_roundw
      case rel => exact ⟨k + 1, by omega, fun h => absurd rfl h, by congr 1, SM, SW⟩
      case measure => simp [intOf]; omega
    · have HE : Hid ((c = 0 ∧ k = 6) ∨ (c ≠ 0 ∧ k = 0)) := by
        by_cases e : c = 0
        · exact .inl ⟨e, by omega⟩
        · exact .inr ⟨e, hck e⟩
      have M1 := hide (clr_end M0.out HE.out)
      have HG : Hid (¬ (k < 6 ∧ c = 0)) := hgo
      clear M0 hck hgo
      have gk : decide ((k : Int) < 6) = true ∧ (c == 0) = false ∨ decide ((k : Int) < 6) = false := by
        by_cases e : k < 6
        · exact .inl ⟨decide_eq_true (by omega), by have := HG.out; simp; omega⟩
        · exact .inr (decide_eq_false (by omega))
      clear HG HE
      rcases gk with ⟨gk, gc⟩ | gk
      all_goals
        go_upto_region 8 with (fail)
        refine wp_gen (fun V => Hid (MAt V p (lookTo (midM m f c) 0)) ∧ Hid (Wr p w V)) ⟨M1.out, W0.out⟩ ?_
        clear M1 W0
        rintro V2 ⟨M2, W2⟩
        go_wp2_with fail
        go_loopw [8] (fun v8 wr => ∃ n : Nat, n ≤ 6 ∧ v8 = .int .i64 (n : Int) ∧ Hid (MAt wr p (lookTo (midM m f c) n)) ∧ Hid (Wr p w wr)) (fun v8 _ => (6 - intOf v8).toNat)
        case atStart => exact ⟨0, by omega, rfl, M2, W2⟩
        case round =>
          clear M2 W2
          obtain ⟨n, hn6, rfl, M2, W2⟩ := hrel
          by_cases hn : n < 6
          · have hni : decide ((n : Int) < 6) = true := decide_eq_true (by omega)
            have wk : IntKind.i64.wrap ((n : Int) + 1) = (n : Int) + 1 := by rw [IntKind.wrap_i64]; omega
            have HQ := hide (mlook_any M2.out hn (HC.out n) (HS.out n n))
            go_wp2_with (go_at_call 44; with_reducible refine HQ.out.mono ?_; rintro e V4 ⟨rfl, M4, W4⟩; have HM4 := hide M4; have HW4 := hide W4; clear M4 W4)
            go_roundw
            case rel => exact ⟨n + 1, by omega, by congr 1, HM4, W2.out.trans HW4.out⟩
            case measure => simp [intOf]; omega
          · have hni : decide ((n : Int) < 6) = false := decide_eq_false (by omega)
            have en : n = 6 := by omega
            subst en
            go_wp2_with fail
            go_ret
            exact ⟨rfl, by rw [HL.out]; exact M2.out, W2.out⟩

end Go.Proofs.Ytohbkhmpdegapad
