/- CONTRACT OF slices.Equal at 256 numbers. -/
import Derived.Test.YtklkminlkfnidacDoorT1
namespace Go.Proofs.YtklkminlkfnidacDoor
open Go.RowKit
attribute [local go_sem] Ext.all Ext.cell Ext.frozen Ext.lt Ext.lt1 Ext.lt2 Ext.ne Ext.ne'

set_option maxRecDepth 20000 in
theorem equal_any (w : World) (g1 g2 : Nat) (f g : Nat → Int) (H : Nums w g1 0 256 f) (K : Nums w g2 0 256 g) (c1' c2' : Nat) :
    Calls Tryd.prog 30 #[.slice (some ⟨g1, 0, none⟩) 256 c1', .slice (some ⟨g2, 0, none⟩) 256 c2'] w fun e w' => e = .returned (.bool (decide (∀ j : Nat, j < 256 → f j = g j))) ∧ ∃ d : Ext w, w' = d.out := by
  obtain ⟨h1, HH0⟩ := H
  obtain ⟨h2, HK0⟩ := K
  have HH : Hid (∀ j : Nat, j < 256 → w.cell? ⟨g1, j, none⟩ = some (iv (f j))) := fun j hj => by have := HH0 j hj; simpa using this
  have HK : Hid (∀ j : Nat, j < 256 → w.cell? ⟨g2, j, none⟩ = some (iv (g j))) := fun j hj => by have := HK0 j hj; simpa using this
  clear HH0 HK0
  obtain ⟨v, hv⟩ : ∃ v, v = decide (∀ j : Nat, j < 256 → f j = g j) := ⟨_, rfl⟩
  rw [← hv]
  have HV := hide hv
  clear hv
  go_enter Tryd.func30, Tryd.ntmps30
  go_wp2
  go_loopw [5, 13] (fun _ i wr => ∃ k : Nat, k ≤ 256 ∧ i = .int .i64 k ∧ Hid (∀ j : Nat, j < k → f j = g j) ∧ Gr w wr) (fun _ i _ => 256 - (intOf i).toNat)
  case atStart => exact ⟨0, by omega, rfl, (fun j hj => by omega), Gr.refl _⟩
  case round =>
    obtain ⟨k, hk, rfl, HE, gg⟩ := hrel
    obtain ⟨d, rfl⟩ := ext_mk gg
    by_cases hlt : k < 256
    · have c1 := HH.out k hlt
      have c2 := HK.out k hlt
      have hkb : (k : Int) < 256 := by omega
      by_cases he : f k = g k
      · have hb : (f k != g k) = false := by simpa using he
        have HX : Hid (∀ j : Nat, j < k + 1 → f j = g j) := fun j hj => by
          rcases Nat.lt_or_eq_of_le (Nat.le_of_lt_succ hj) with h | h
          · exact HE.out j h
          · rw [h]; exact he
        clear he
        go_wp2_with fail
        refine wp_region_ext_of (by kernel_rfl) (by kernel_rfl) ?_
        repeat (go_big_quiet_step (fail))
        refine wpQuiet_nil ?_
        rintro _ ⟨d1, rfl⟩
        go_wp2
        go_roundw
        case rel => exact ⟨k + 1, by omega, by go_num, HX, d1.gr⟩
        case measure => simp [intOf]; omega
      · have hb : (f k != g k) = true := by simpa using he
        have HX : Hid (v = false) := by unfold Hid; rw [HV.out]; exact decide_eq_false fun q => he (q k hlt)
        clear he
        go_wp2_with fail
        refine wp_region_ext_of (by kernel_rfl) (by kernel_rfl) ?_
        repeat (go_big_quiet_step (fail))
        refine wpQuiet_nil ?_
        rintro _ ⟨d1, rfl⟩
        go_wp2
        go_ret
        exact ⟨ret_bool HX.out.symm, _, rfl⟩
    · have : k = 256 := by omega
      subst this
      have HX : Hid (v = true) := by unfold Hid; rw [HV.out]; exact decide_eq_true HE.out
      clear HE
      go_wp2
      go_ret
      exact ⟨ret_bool HX.out.symm, _, rfl⟩

end Go.Proofs.YtklkminlkfnidacDoor
