/- CONTRACTS OF package node: forget, chooseAll. -/
import Derived.Test.YtihamicnbihgnaeD3
namespace Go.Proofs.Ytihamicnbihgnae
open Go.RowKit
attribute [local go_sem] Ext.all Ext.cell Ext.frozen Ext.lt Ext.lt1 Ext.lt2 Ext.ne Ext.ne'

theorem NdAt.free {t : TypeId} {w : World} {p : Nat} {m : Md} (h : NdAt t w p m) (j : Nat) : w.frozen? ⟨p, j, none⟩ = false := ZArr.free h j
theorem Gr.drewTo {a b c : World} (h : Gr a b) (k : Gr b.drew c) : Gr a c := h.drew.trans k

def fgM (m : Md) (f : Nat) (k : Nat) : Md := { m with heard := fun j i => if j = f ∧ i < k then (0, 200) else m.heard j i }
theorem fg_zero (m : Md) (f : Nat) : fgM m f 0 = m := by
  unfold fgM
  have : (fun j i => if j = f ∧ i < 0 then ((0, 200) : Int × Int) else m.heard j i) = m.heard := by
    funext j i
    rw [if_neg (by omega)]
  rw [this]
theorem fg_succ (m : Md) (f : Nat) (k : Nat) : { fgM m f k with heard := updW (fgM m f k).heard f (updW ((fgM m f k).heard f) k (0, 200)) } = fgM m f (k + 1) := by
  unfold fgM
  dsimp only
  congr 1
  funext j i
  unfold updW
  by_cases e : j = f
  · subst e
    rw [if_pos rfl]
    dsimp only
    by_cases e2 : i = k
    · rw [if_pos e2, if_pos ⟨rfl, by omega⟩]
    · rw [if_neg e2]
      by_cases e3 : i < k
      · rw [if_pos ⟨rfl, e3⟩, if_pos ⟨rfl, by omega⟩]
      · rw [if_neg (by omega), if_neg (by omega)]
  · simp [e]
theorem fg_heard (m : Md) (f j : Nat) {k : Nat} (hk : k < 6) : (fgM m f 6).heard j k = updW m.heard f (fun _ => (0, 200)) j k := by
  unfold fgM updW
  by_cases e : j = f
  · simp [e, hk]
  · simp [e]
theorem fg_end {t : TypeId} {w : World} {p : Nat} {m : Md} {f : Nat} (h : NdAt t w p (fgM m f 6)) : NdAt t w p { m with heard := updW m.heard f (fun _ => (0, 200)) } := by
  refine ZArr.congr h fun i hi => ?_
  have E := fg_heard m f ((i - 7) / 12) (k := (i - 7) % 12 / 2) (by omega)
  unfold mdF
  rw [E]
  rfl

set_option maxRecDepth 20000 in
set_option maxHeartbeats 8000000 in
theorem nforget_any {w : World} {p : Nat} {m : Md} (H : DAt w p m) {f : Nat} (hf : f < 6) :
    Calls Try.prog 45 #[pv p, iv f] w fun e w' => e = .returned (.tuple #[]) ∧ DAt w' p { m with heard := updW m.heard f (fun _ => (0, 200)) } ∧ Wr p w w' := by
  have hfi : (f : Int) < 6 := by omega
  have M0 : Hid (DAt w p (fgM m f 0)) := by rw [fg_zero]; exact H
  clear H
  go_enter Try.func45, Try.ntmps45
  go_wp2_with fail
  go_loopw [5] (fun v5 wr => ∃ k : Nat, k ≤ 6 ∧ v5 = .int .i64 (k : Int) ∧ Hid (DAt wr p (fgM m f k)) ∧ Hid (Wr p w wr)) (fun v5 _ => (6 - intOf v5).toNat)
  case atStart => exact ⟨0, by omega, rfl, M0, Wr.refl _ _⟩
  case round =>
    clear M0
    obtain ⟨k, hk6, rfl, M0, W0⟩ := hrel
    by_cases hk : k < 6
    · have hki : decide ((k : Int) < 6) = true := decide_eq_true (by omega)
      have hk0 : (k : Int) < 6 := by omega
      have wk : IntKind.i64.wrap ((k : Int) + 1) = (k : Int) + 1 := by rw [IntKind.wrap_i64]; omega
      have hp := M0.out.lt
      have fz := ZArr.free M0.out
      obtain ⟨q0, q1⟩ := M0.out.heard hf hk
      go_upto_region 3 with (fail)
      go_region_with (go_at_call 46; with_reducible refine (nothing_any _).mono ?_; rintro e V ⟨rfl, d2, hV⟩; have gV : Hid (Gr wr V) := (by unfold Hid; rw [hV]; exact (Gr.refl _).drewTo d2.gr); clear hV d2; have hp2 := (M0.out.gr gV.out).lt; have fz2 := NdAt.free (M0.out.gr gV.out); obtain ⟨r0, r1⟩ := (M0.out.gr gV.out).heard hf hk)
      all_goals
        have SM := hide ((M0.out.gr gV.out).setHeard hf hk 0 200)
        have SW := hide (((W0.out.trans (gV.out.wr p)).set (7 + f * 12 + k * 2) (iv 0)).set (7 + f * 12 + k * 2 + 1) (iv 200))
        rw [fg_succ] at SM
        go_wp2_with fail
        go_roundw
        case rel => exact ⟨k + 1, by omega, by congr 1, SM, SW⟩
        case measure => simp [intOf]; omega
    · have hki : decide ((k : Int) < 6) = false := decide_eq_false (by omega)
      have ek : k = 6 := by omega
      subst ek
      go_wp2_with fail
      refine bodyPost_end (results_none rfl _ _ _) rfl ?_
      exact ⟨rfl, fg_end M0.out, W0.out⟩

/-- What the numbers of a node keep to. -/
structure Bd (m : Md) : Prop where
  cost : ∀ r, 0 ≤ m.cost r ∧ m.cost r ≤ 15
  said : ∀ r k, 0 ≤ (m.heard r k).2 ∧ (m.heard r k).2 ≤ 200
  best : ∀ k, (m.bests k).2 ≤ 200
theorem look_bd {m : Md} (h : Bd m) (z : Nat) : Bd (lookM m z) := by
  refine ⟨fun r => by rw [look_cost]; exact h.cost r, fun r k => by rw [look_heard]; exact h.said r k, fun k => ?_⟩
  by_cases e : k = z
  · subst e
    unfold lookM
    split
    · exact h.best k
    · dsimp only
      split
      · rw [updW_same]
        rcases pkD_is m k with ⟨j, _, mk, hw, _⟩ | ⟨_, hw⟩
        · obtain ⟨_, c1, _⟩ := may_iff.1 mk
          rw [hw]
          unfold wayBy
          simp only
          omega
        · rw [hw]; exact Int.le_refl _
      · exact h.best k
  · rw [(look_other m e).2]; exact h.best k
theorem lookTo_bd {m : Md} (h : Bd m) : ∀ n, Bd (lookTo m n)
  | 0 => h
  | n + 1 => look_bd (lookTo_bd h n) n

set_option maxRecDepth 20000 in
set_option maxHeartbeats 8000000 in
theorem nchooseAll_any {w : World} {p : Nat} {m : Md} (H : DAt w p m) (hB : Bd m) :
    Calls Try.prog 49 #[pv p] w fun e w' => e = .returned (.tuple #[]) ∧ DAt w' p (lookTo m 6) ∧ Wr p w w' := by
  have M0 : Hid (DAt w p (lookTo m 0)) := H
  clear H
  go_enter Try.func49, Try.ntmps49
  go_wp2_with fail
  go_loopw [3] (fun v3 wr => ∃ k : Nat, k ≤ 6 ∧ v3 = .int .i64 (k : Int) ∧ Hid (DAt wr p (lookTo m k)) ∧ Hid (Wr p w wr)) (fun v3 _ => (6 - intOf v3).toNat)
  case atStart => exact ⟨0, by omega, rfl, M0, Wr.refl _ _⟩
  case round =>
    clear M0
    obtain ⟨k, hk6, rfl, M0, W0⟩ := hrel
    by_cases hk : k < 6
    · have hki : decide ((k : Int) < 6) = true := decide_eq_true (by omega)
      have wk : IntKind.i64.wrap ((k : Int) + 1) = (k : Int) + 1 := by rw [IntKind.wrap_i64]; omega
      have hp := M0.out.lt
      have c0 := M0.out.me
      have hme := (lookTo_all m k).1
      rw [hme] at c0
      have HB := hide (lookTo_bd hB k)
      by_cases e : k = m.me
      · have g1 : ((k : Int) != (m.me : Int)) = false := by simp; omega
        have HE : Hid (lookTo m (k + 1) = lookTo m k) := by
          unfold Hid
          rw [lookTo]
          unfold lookM
          rw [if_pos (by rw [hme]; exact e)]
        clear e hme
        go_wp2_with fail
        go_roundw
        case rel => exact ⟨k + 1, by omega, by congr 1, by rw [HE.out]; exact M0, W0⟩
        case measure => simp [intOf]; omega
      · have g1 : ((k : Int) != (m.me : Int)) = true := by simp; omega
        have HQ := hide (nchoose_any M0.out hk (by rw [hme]; exact e) HB.out.cost (fun r => HB.out.said r k) (HB.out.best k))
        clear e hme
        go_wp2_with (go_at_call 50; with_reducible refine HQ.out.mono ?_; rintro e V4 ⟨rfl, M4, W4⟩; have HM4 := hide M4; have HW4 := hide W4; clear M4 W4)
        go_roundw
        case rel => exact ⟨k + 1, by omega, by congr 1, HM4, W0.out.trans HW4.out⟩
        case measure => simp [intOf]; omega
    · have hki : decide ((k : Int) < 6) = false := decide_eq_false (by omega)
      have ek : k = 6 := by omega
      subst ek
      go_wp2_with fail
      refine bodyPost_end (results_none rfl _ _ _) rfl ?_
      exact ⟨rfl, M0.out, W0.out⟩

end Go.Proofs.Ytihamicnbihgnae
