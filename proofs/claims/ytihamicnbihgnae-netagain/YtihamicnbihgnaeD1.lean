/- CONTRACTS OF package node: Better, nothing, noWay, other; of links.Node. -/
import Derived.Test.YtihamicnbihgnaeNMem
import Derived.BigRegion
import Derived.Deep.RegionHeld3
namespace Go.Proofs.Ytihamicnbihgnae
open Go.RowKit
attribute [local go_sem] Ext.all Ext.cell Ext.frozen Ext.lt Ext.lt1 Ext.lt2 Ext.ne Ext.ne'

theorem nbetter_is {s d s2 d2 : Int} {v : Bool} (h : bet s d s2 d2 = v) (w : World) : Calls Try.prog 52 #[iv s, iv d, iv s2, iv d2] w fun e w' => e = .returned (.bool v) ∧ w' = w := by
  subst h
  by_cases e : s2 < s
  · have hb : bet s d s2 d2 = true := bet_iff.2 (.inl e)
    have h1 : decide (s2 < s) = true := decide_eq_true e
    rw [hb]
    clear hb e
    go_enter Try.func52, Try.ntmps52
    go_wp2
    go_ret
    exact ⟨rfl, rfl⟩
  · have h1 : decide (s2 < s) = false := decide_eq_false e
    by_cases e2 : s = s2
    · have h2 : (s == s2) = true := by simpa using e2
      have hb : bet s d s2 d2 = decide (d < d2) := by unfold bet; rw [if_pos e2]
      rw [hb]
      clear hb e e2
      go_enter Try.func52, Try.ntmps52
      go_wp2
      go_ret
      exact ⟨rfl, rfl⟩
    · have h2 : (s == s2) = false := by simpa using e2
      have hb : bet s d s2 d2 = false := by unfold bet; rw [if_neg e2]; exact h1
      rw [hb]
      clear hb e e2
      go_enter Try.func52, Try.ntmps52
      go_wp2
      go_ret
      exact ⟨rfl, rfl⟩
theorem nbetter_ext {s d s2 d2 : Int} {v : Bool} (h : bet s d s2 d2 = v) {B : World} (x : Ext B) : Calls Try.prog 52 #[iv s, iv d, iv s2, iv d2] x.out fun e w' => e = .returned (.bool v) ∧ ∃ m : Ext B, w' = m.out :=
  (nbetter_is h x.out).mono fun _ _ ⟨he, hw⟩ => ⟨he, x, hw⟩

theorem lnode_is {k : Int} {v : Bool} (h : decide (0 ≤ k ∧ k < 6) = v) (w : World) : Calls Try.prog 28 #[iv k] w fun e w' => e = .returned (.bool v) ∧ w' = w := by
  subst h
  by_cases e : 0 ≤ k
  · have e1 : decide (0 ≤ k ∧ k < 6) = decide (k < 6) := by simp [e]
    rw [e1]
    clear e1
    go_enter Try.func28, Try.ntmps28
    go_wp2
    go_ret
    exact ⟨rfl, rfl⟩
  · have e1 : decide (0 ≤ k ∧ k < 6) = false := by simp [e]
    have e2 : decide (0 ≤ k) = false := decide_eq_false e
    rw [e1]
    clear e1 e
    go_enter Try.func28, Try.ntmps28
    go_wp2
    go_ret
    exact ⟨rfl, rfl⟩
theorem lnode_ext {k : Int} {v : Bool} (h : decide (0 ≤ k ∧ k < 6) = v) {B : World} (x : Ext B) : Calls Try.prog 28 #[iv k] x.out fun e w' => e = .returned (.bool v) ∧ ∃ m : Ext B, w' = m.out :=
  (lnode_is h x.out).mono fun _ _ ⟨he, hw⟩ => ⟨he, x, hw⟩

theorem nothing_any (w : World) : Calls Try.prog 46 #[] w fun e w' => e = .returned (.agg #[iv 0, iv 200]) ∧ ∃ d : Ext w, w' = d.out := by
  go_enter Try.func46, Try.ntmps46
  go_wp2
  refine bodyPost_ret (v := .agg #[iv 0, iv 200]) (by simp [results, Try.results46, go_sem]) rfl ⟨rfl, ext_mk ?_⟩
  first
    | exact (Gr.refl _).alloc _
    | exact ((((Gr.refl _).alloc _).setCell (by simp) _).setCell (by simp) _)
theorem noWay_any (s : Int) (w : World) : Calls Try.prog 44 #[iv s] w fun e w' => e = .returned (.agg #[iv s, iv 200, iv (-1)]) ∧ ∃ d : Ext w, w' = d.out := by
  go_enter Try.func44, Try.ntmps44
  go_wp2
  refine bodyPost_ret (v := .agg #[iv s, iv 200, iv (-1)]) (by simp [results, Try.results44, go_sem]) rfl ⟨rfl, ext_mk ?_⟩
  first
    | exact (Gr.refl _).alloc _
    | exact (((((Gr.refl _).alloc _).setCell (by simp) _).setCell (by simp) _).setCell (by simp) _)

/-- Is there such a node, and not the one itself? -/
theorem nother_is {w : World} {p : Nat} {m : Md} (H : DAt w p m) {k : Int} {v : Bool} (h : decide ((0 ≤ k ∧ k < 6) ∧ k ≠ m.me) = v) : Calls Try.prog 48 #[pv p, iv k] w fun e w' => e = .returned (.bool v) ∧ w' = w := by
  subst h
  have c0 := H.me
  have hp := H.lt
  clear H
  by_cases e : 0 ≤ k ∧ k < 6
  · have B1 : Hid (decide (0 ≤ k ∧ k < 6) = true) := decide_eq_true e
    have hb : decide ((0 ≤ k ∧ k < 6) ∧ k ≠ m.me) = (k != (m.me : Int)) := by
      by_cases q : k = m.me
      · simp [q]
      · simp [q, e]
    rw [hb]
    clear hb e
    go_enter Try.func48, Try.ntmps48
    go_wp2_with (go_at_call 28; with_reducible refine (lnode_is B1.out _).mono ?_; rintro e w1 ⟨rfl, hw1⟩; have hw2 := hw1.symm; clear hw1; subst hw2)
    go_ret
    exact ⟨rfl, rfl⟩
  · have B1 : Hid (decide (0 ≤ k ∧ k < 6) = false) := decide_eq_false e
    have hb : decide ((0 ≤ k ∧ k < 6) ∧ k ≠ m.me) = false := by simp only [decide_eq_false_iff_not]; exact fun q => e q.1
    rw [hb]
    clear hb e
    go_enter Try.func48, Try.ntmps48
    go_wp2_with (go_at_call 28; with_reducible refine (lnode_is B1.out _).mono ?_; rintro e w1 ⟨rfl, hw1⟩; have hw2 := hw1.symm; clear hw1; subst hw2)
    go_ret
    exact ⟨rfl, rfl⟩

end Go.Proofs.Ytihamicnbihgnae
