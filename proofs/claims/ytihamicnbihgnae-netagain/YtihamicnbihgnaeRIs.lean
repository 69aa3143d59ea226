/- CONTRACT OF handpostref.IsNode. -/
import Derived.Test.YtihamicnbihgnaeNMem
namespace Go.Proofs.Ytihamicnbihgnae
open Go.RowKit
attribute [local go_sem] Ext.all Ext.cell Ext.frozen Ext.lt Ext.lt1 Ext.lt2 Ext.ne Ext.ne'

theorem isNode_is {k : Int} {v : Bool} (h : decide (0 ≤ k ∧ k < 6) = v) (w : World) : Calls Try.prog 15 #[iv k] w fun e w' => e = .returned (.bool v) ∧ w' = w := by
  subst h
  by_cases e : 0 ≤ k
  · have e1 : decide (0 ≤ k ∧ k < 6) = decide (k < 6) := by simp [e]
    rw [e1]
    clear e1
    go_enter Try.func15, Try.ntmps15
    go_wp2
    go_ret
    exact ⟨rfl, rfl⟩
  · have e1 : decide (0 ≤ k ∧ k < 6) = false := by simp [e]
    have e2 : decide (0 ≤ k) = false := decide_eq_false e
    rw [e1]
    clear e1 e
    go_enter Try.func15, Try.ntmps15
    go_wp2
    go_ret
    exact ⟨rfl, rfl⟩

theorem isNode_ext {k : Int} {v : Bool} (h : decide (0 ≤ k ∧ k < 6) = v) {B : World} (x : Ext B) : Calls Try.prog 15 #[iv k] x.out fun e w' => e = .returned (.bool v) ∧ ∃ m : Ext B, w' = m.out :=
  (isNode_is h x.out).mono fun _ _ ⟨he, hw⟩ => ⟨he, x, hw⟩

end Go.Proofs.Ytihamicnbihgnae
