/- CONTRACT OF handpostref.SameInts, at two lists that are the same. -/
import Derived.Test.YtihamicnbihgnaeK2
namespace Go.Proofs.Ytihamicnbihgnae
open Go.RowKit
attribute [local go_sem] Ext.all Ext.cell Ext.frozen Ext.lt Ext.lt1 Ext.lt2 Ext.ne Ext.ne'

theorem NArr.numAt {w : World} {t n p : Nat} {g : Nat → Nat} (h : NArr w t n p g) : NumAt w (some ⟨p, 0, none⟩) ((List.range n).map g) := by
  refine .inr ⟨p, 0, rfl, h.lt, fun i hi => ?_⟩
  have hi' : i < n := by simpa using hi
  rw [Nat.zero_add, h.cell hi']
  simp
set_option maxHeartbeats 1000000 in
theorem sameInts_eq (w : World) (ao bo : Option Addr) (n k k' : Nat) (l : List Nat) (H : NumAt w ao l) (K : NumAt w bo l) (hn : l.length = n) (hm : n ≤ 1000) :
    Calls Try.prog 18 #[.slice ao n k, .slice bo n k'] w fun e w' => e = .returned (.bool true) ∧ Gr w w' := by
  go_enter Try.func18, Try.ntmps18
  go_wp2_with fail
  go_loopw [5] (fun i wr => ∃ k : Nat, k ≤ n ∧ i = .int .i64 k ∧ Gr w wr) (fun i _ => n - (intOf i).toNat)
  case atStart => exact ⟨0, by omega, rfl, Gr.refl _⟩
  case round =>
    obtain ⟨k, hk, rfl, gg⟩ := hrel
    obtain ⟨d, rfl⟩ := ext_mk gg
    by_cases hlt : k < n
    · have hkl : k < l.length := by omega
      rcases H with rfl | ⟨b, o, rfl, hb, hcs⟩
      · simp at hkl
      rcases K with rfl | ⟨b', o', rfl, hb', hcs'⟩
      · simp at hkl
      have c1 := hcs k hkl
      have c2 := hcs' k hkl
      clear hcs hcs'
      generalize l[k] = x at *
      have hkb : (k : Int) < (n : Int) := by omega
      have hb : ((x : Int) != (x : Int)) = false := by simp
      go_wp2_with fail
      refine wp_region_ext_of (by kernel_rfl) (by kernel_rfl) ?_
      repeat (go_big_quiet_step (fail))
      refine wpQuiet_nil ?_
      rintro _ ⟨d1, rfl⟩
      go_wp2_with fail
      go_roundw
      case rel => exact ⟨k + 1, by omega, by go_num, d1.gr⟩
      case measure => simp [intOf]; omega
    · go_wp2_with fail
      go_ret
      exact ⟨rfl, d.gr⟩

end Go.Proofs.Ytihamicnbihgnae
