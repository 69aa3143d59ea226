/- CONTRACT OF handpostlaw.prefixBegun. -/
import Derived.Test.YtceclaboeajcaaaD
namespace Go.Proofs.Ytceclaboeajcaaa
open Go.RowKit
attribute [local go_sem] Ext.all Ext.cell Ext.frozen Ext.lt Ext.lt1 Ext.lt2 Ext.ne Ext.ne'

theorem first_is {l b v : Int} (h : firstI l b = v) (w : World) :
    Calls Try.prog 14 #[pfx l b] w fun e w' => e = .returned (.int .i64 v) ∧ ∃ d : Ext w, w' = d.out := by subst h; exact first_any l b w
theorem last_is {l b v : Int} (h : lastI l b = v) (w : World) :
    Calls Try.prog 16 #[pfx l b] w fun e w' => e = .returned (.int .i64 v) ∧ ∃ d : Ext w, w' = d.out := by subst h; exact last_any l b w
theorem has_is {l b a : Int} {v : Bool} (h : hasB l b a = v) (w : World) :
    Calls Try.prog 18 #[pfx l b, .int .i64 a] w fun e w' => e = .returned (.bool v) ∧ ∃ d : Ext w, w' = d.out := by subst h; exact has_any l b a w
theorem covers_is {l b m c : Int} {v : Bool} (h : covB l b m c = v) (w : World) :
    Calls Try.prog 26 #[pfx l b, pfx m c] w fun e w' => e = .returned (.bool v) ∧ ∃ d : Ext w, w' = d.out := by subst h; exact covers_any l b m c w
theorem less_is {l b m c : Int} {v : Bool} (h : lessB l b m c = v) (w : World) :
    Calls Try.prog 20 #[pfx l b, pfx m c] w fun e w' => e = .returned (.bool v) ∧ ∃ d : Ext w, w' = d.out := by subst h; exact less_any l b m c w
theorem text_is {l b : Int} {v : List UInt8} (h : textL l b = v) (w : World) :
    Calls Try.prog 22 #[pfx l b] w fun e w' => e = .returned (.string ⟨v.toArray⟩) ∧ ∃ d : Ext w, w' = d.out := by subst h; exact text_any l b w

set_option maxHeartbeats 1000000 in
theorem begun_any (w : World) :
    Calls Try.prog 8 #[] w fun e w' => e = .returned (.bool true) ∧ ∃ d : Ext w, w' = d.out := by
  have HP : Hid (parseL [48, 49, 42] = some (2, 1)) := by unfold Hid; decide +kernel
  have HO : Hid (okB 2 1 = true) := by unfold Hid; decide +kernel
  have HT : Hid (textL 3 3 = [48, 49, 49, 42]) := by unfold Hid; decide +kernel
  have HF : Hid (firstI 2 1 = 64) := by unfold Hid; decide +kernel
  have HL : Hid (lastI 2 1 = 127) := by unfold Hid; decide +kernel
  have H1 : Hid (hasB 2 1 64 = true) := by unfold Hid; decide +kernel
  have H2 : Hid (hasB 2 1 128 = false) := by unfold Hid; decide +kernel
  have HV : Hid (covB 2 1 3 3 = true) := by unfold Hid; decide +kernel
  have HS : Hid (lessB 2 1 3 3 = true) := by unfold Hid; decide +kernel
  go_enter Try.func8, Try.ntmps8
  go_wp2_with fail
  refine (parse_some _ 2 1 HP.out _).mono ?_
  rintro e _ ⟨rfl, d1, rfl⟩
  go_wp2_with fail
  refine (child_yes1 2 1 HO.out (by decide) _).mono ?_
  rintro e _ ⟨rfl, d2, rfl⟩
  go_wp2_with (first
    | (go_at_call 22; with_reducible refine (text_is HT.out _).mono ?_; rintro e _ ⟨rfl, d3, rfl⟩)
    | (go_at_call 14; with_reducible refine (Calls.ext_of (first_is HF.out _)).mono ?_; rintro e _ ⟨rfl, d4, rfl⟩)
    | (go_at_call 16; with_reducible refine (Calls.ext_of (last_is HL.out _)).mono ?_; rintro e _ ⟨rfl, d5, rfl⟩)
    | (go_at_call 18; with_reducible refine (Calls.ext_of (has_is H1.out _)).mono ?_; rintro e _ ⟨rfl, d6, rfl⟩)
    | (go_at_call 18; with_reducible refine (Calls.ext_of (has_is H2.out _)).mono ?_; rintro e _ ⟨rfl, d7, rfl⟩)
    | (go_at_call 26; with_reducible refine (Calls.ext_of (covers_is HV.out _)).mono ?_; rintro e _ ⟨rfl, d8, rfl⟩)
    | (go_at_call 20; with_reducible refine (Calls.ext_of (less_is HS.out _)).mono ?_; rintro e _ ⟨rfl, d9, rfl⟩))
  go_ret
  exact ⟨rfl, ext_mk (((((Gr.refl _).ext d1).alloc _).ext d2 |>.alloc _).ext d9)⟩

end Go.Proofs.Ytceclaboeajcaaa
