import Derived.Test.YtcgflhjgllpohafGreatDoorD2
/- THE REFERENCE'S Mind IN MEMORY. -/
namespace Go.Proofs.YtcgflhjgllpohafGreatDoor
open Go.RowKit

abbrev MAt (w : World) (p : Nat) (m : Md) : Prop := NdAt 133 w p m

end Go.Proofs.YtcgflhjgllpohafGreatDoor

/- CONTRACT OF handpostref.Better. -/
namespace Go.Proofs.YtcgflhjgllpohafGreatDoor
open Go.RowKit
attribute [local go_sem] Ext.all Ext.cell Ext.frozen Ext.lt Ext.lt1 Ext.lt2 Ext.ne Ext.ne'
theorem rbetter_is {s d s2 d2 : Int} {v : Bool} (h : bet s d s2 d2 = v) (w : World) : Calls Tryz.prog 108 #[iv s, iv d, iv s2, iv d2] w fun e w' => e = .returned (.bool v) ∧ w' = w := by
  subst h
  by_cases e : s = s2
  · subst e
    have hb : bet s d s d2 = decide (d < d2) := by unfold bet; rw [if_pos rfl]
    rw [hb]
    go_enter Tryz.func108, Tryz.ntmps108
    go_wp2
    go_ret
    exact ⟨rfl, rfl⟩
  · have hb : bet s d s2 d2 = decide (s2 < s) := by unfold bet; rw [if_neg e]
    have hn : (s != s2) = true := by simpa using e
    rw [hb]
    clear hb e
    go_enter Tryz.func108, Tryz.ntmps108
    go_wp2
    go_ret
    exact ⟨rfl, rfl⟩

theorem rbetter_ext {s d s2 d2 : Int} {v : Bool} (h : bet s d s2 d2 = v) {B : World} (x : Ext B) : Calls Tryz.prog 108 #[iv s, iv d, iv s2, iv d2] x.out fun e w' => e = .returned (.bool v) ∧ ∃ m : Ext B, w' = m.out :=
  (rbetter_is h x.out).mono fun _ _ ⟨he, hw⟩ => ⟨he, x, hw⟩

end Go.Proofs.YtcgflhjgllpohafGreatDoor
