/- CONTRACTS OF prefix.Child, as at layer 1. -/
import Derived.Test.YtimbgijpeomfcacGreatDoorL1
namespace Go.Proofs.YtimbgijpeomfcacGreatDoor
open Go.RowKit
attribute [local go_sem] Ext.all Ext.cell Ext.frozen Ext.lt Ext.lt1 Ext.lt2 Ext.ne Ext.ne'

theorem or_0 (b : Int) (h0 : 0 ≤ b) (h : b < 256) : bits .or .i64 (b * 2) 0 = b * 2 := by
  have : ∀ n : Fin 256, bits .or .i64 ((n.val : Int) * 2) 0 = (n.val : Int) * 2 := by decide +kernel
  have h1 := this ⟨b.toNat, by omega⟩
  simpa [Int.toNat_of_nonneg h0] using h1
theorem or_1 (b : Int) (h0 : 0 ≤ b) (h : b < 256) : bits .or .i64 (b * 2) 1 = b * 2 + 1 := by
  have : ∀ n : Fin 256, bits .or .i64 ((n.val : Int) * 2) 1 = (n.val : Int) * 2 + 1 := by decide +kernel
  have h1 := this ⟨b.toNat, by omega⟩
  simpa [Int.toNat_of_nonneg h0] using h1

theorem child_yes0 (l b : Int) (ho : okB l b = true) (h8 : l < 8) (w : World) :
    Calls Tryz.prog 68 #[pfx l b, .int .i64 0] w fun e w' => e = .returned (.tuple #[pfx (l + 1) (b * 2), .bool true]) ∧ ∃ d : Ext w, w' = d.out := by
  obtain ⟨h0, _, hb, hl, g1, g2⟩ := ok_pows ho
  obtain ⟨p1, p2⟩ := pw_bd l (by omega)
  have e8 : (l == 8) = false := by simp; omega
  go_enter Tryz.func68, Tryz.ntmps68
  go_wp2_with (go_at_call 35; refine (check_is ho _).mono ?_; rintro e _ ⟨rfl, d1, rfl⟩)
  refine bodyPost_ret (v := .tuple #[pfx (l + 1) (b * 2), .bool true]) (by simp [results, Tryz.results68, go_sem, or_0 b hb (by omega)]) rfl ⟨rfl, ext_mk ?_⟩
  exact (((((Gr.refl _).alloc _).alloc _).ext d1).setCell (by simp) _).setCell (by simp) _

theorem child_yes1 (l b : Int) (ho : okB l b = true) (h8 : l < 8) (w : World) :
    Calls Tryz.prog 68 #[pfx l b, .int .i64 1] w fun e w' => e = .returned (.tuple #[pfx (l + 1) (b * 2 + 1), .bool true]) ∧ ∃ d : Ext w, w' = d.out := by
  obtain ⟨h0, _, hb, hl, g1, g2⟩ := ok_pows ho
  obtain ⟨p1, p2⟩ := pw_bd l (by omega)
  have e8 : (l == 8) = false := by simp; omega
  go_enter Tryz.func68, Tryz.ntmps68
  go_wp2_with (go_at_call 35; refine (check_is ho _).mono ?_; rintro e _ ⟨rfl, d1, rfl⟩)
  refine bodyPost_ret (v := .tuple #[pfx (l + 1) (b * 2 + 1), .bool true]) (by simp [results, Tryz.results68, go_sem, or_1 b hb (by omega)]) rfl ⟨rfl, ext_mk ?_⟩
  exact (((((Gr.refl _).alloc _).alloc _).ext d1).setCell (by simp) _).setCell (by simp) _

end Go.Proofs.YtimbgijpeomfcacGreatDoor
