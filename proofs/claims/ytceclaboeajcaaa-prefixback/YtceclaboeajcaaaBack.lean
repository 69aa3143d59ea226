/- THE LAW PrefixBack: the walk. -/
import Derived.Test.YtceclaboeajcaaaE
import Derived.Test.YtceclaboeajcaaaBackPlain
import Derived.Deep.DeepCutAuto
namespace Go.Proofs.Ytceclaboeajcaaa
open Go.RowKit
attribute [local go_sem] Ext.all Ext.cell Ext.frozen Ext.lt Ext.lt1 Ext.lt2 Ext.ne Ext.ne'

theorem Ext.size1' {A : World} {o : Obj} (d : Ext (A.alloc o)) : A.heap.size < d.out.heap.size := by
  have h1 := Below.size d.gr
  rw [World.size_alloc] at h1
  exact h1

set_option maxHeartbeats 1000000 in
theorem back_long (l b : Int) (s : ByteArray) (hs : s.size ≤ maxLen) (h : 1000 < s.size) (w : World) :
    Calls Try.prog 5 #[pfx l b, .string s] w fun e w' => e = .returned (.bool true) ∧ ∃ d : Ext w, w' = d.out := by
  unfold maxLen at hs
  go_enter Try.func5, Try.ntmps5
  go_wp2_with (go_at_call 8; refine (begun_any _).mono ?_; rintro e _ ⟨rfl, d0, rfl⟩)
  go_ret
  exact ⟨rfl, ext_mk (((Gr.refl _).alloc _).ext d0)⟩

set_option maxRecDepth 100000 in
set_option maxHeartbeats 4000000 in
theorem back_ft (l b : Int) (s : ByteArray) (h : s.size ≤ 1000) (H1 : Hid (okB l b = false)) (HP : Hid (∀ w, Calls Try.prog 9 #[.string ⟨(textL l b).toArray⟩] w fun e w' => e = .returned (.tuple #[pfx 0 0, .bool false]) ∧ ∃ d : Ext w, w' = d.out)) (n v : Int) (HR : Hid (∀ w, Calls Try.prog 9 #[.string s] w fun e w' => e = .returned (.tuple #[pfx n v, .bool true]) ∧ ∃ d : Ext w, w' = d.out)) (H2 : Hid (okB n v = true)) (H3 : Hid (textL n v = s.data.toList)) (w : World) :
    Calls Try.prog 5 #[pfx l b, .string s] w fun e w' => e = .returned (.bool true) ∧ ∃ d : Ext w, w' = d.out := by
  go_enter Try.func5, Try.ntmps5
  go_wp2_with (first
    | (go_at_call 8; refine (begun_any _).mono ?_; rintro e _ ⟨rfl, d0, rfl⟩)
    | (go_at_call 22; with_reducible refine (Calls.ext_of (text_any l b _)).mono ?_; rintro e _ ⟨rfl, d1, rfl⟩)
    | (go_at_call 9; with_reducible refine (Calls.ext_of (HP.out _)).mono ?_; rintro e _ ⟨rfl, d2, rfl⟩; have z1 := d2.size1')
    | (go_at_call 11; with_reducible refine (check_is H1.out _).mono ?_; rintro e _ ⟨rfl, d3, rfl⟩; have z2 := d3.size1'; have z3 := Nat.lt_trans z1 z2)
    | (go_at_call 9; with_reducible refine (Calls.ext_of (HR.out _)).mono ?_; rintro e _ ⟨rfl, d4, rfl⟩; have z4 := d4.size1')
    | (go_at_call 11; with_reducible refine (check_is H2.out _).mono ?_; rintro e _ ⟨rfl, d5, rfl⟩)
    | (go_at_call 22; with_reducible refine (Calls.ext_of (text_is H3.out _)).mono ?_; rintro e _ ⟨rfl, d6, rfl⟩))
  go_ret
  exact ⟨rfl, ext_mk ((((((((Gr.refl _).alloc _).ext d2).alloc _).ext d4).setCell (Nat.le_of_lt z1) _).setCell (Nat.le_of_lt z1) _).ext d6)⟩

set_option maxRecDepth 100000 in
set_option maxHeartbeats 4000000 in
theorem back_ff (l b : Int) (s : ByteArray) (h : s.size ≤ 1000) (H1 : Hid (okB l b = false)) (HP : Hid (∀ w, Calls Try.prog 9 #[.string ⟨(textL l b).toArray⟩] w fun e w' => e = .returned (.tuple #[pfx 0 0, .bool false]) ∧ ∃ d : Ext w, w' = d.out)) (HR : Hid (∀ w, Calls Try.prog 9 #[.string s] w fun e w' => e = .returned (.tuple #[pfx 0 0, .bool false]) ∧ ∃ d : Ext w, w' = d.out)) (w : World) :
    Calls Try.prog 5 #[pfx l b, .string s] w fun e w' => e = .returned (.bool true) ∧ ∃ d : Ext w, w' = d.out := by
  go_enter Try.func5, Try.ntmps5
  go_wp2_with (first
    | (go_at_call 8; refine (begun_any _).mono ?_; rintro e _ ⟨rfl, d0, rfl⟩)
    | (go_at_call 22; with_reducible refine (Calls.ext_of (text_any l b _)).mono ?_; rintro e _ ⟨rfl, d1, rfl⟩)
    | (go_at_call 9; with_reducible refine (Calls.ext_of (HP.out _)).mono ?_; rintro e _ ⟨rfl, d2, rfl⟩; have z1 := d2.size1')
    | (go_at_call 11; with_reducible refine (check_is H1.out _).mono ?_; rintro e _ ⟨rfl, d3, rfl⟩; have z2 := d3.size1'; have z3 := Nat.lt_trans z1 z2)
    | (go_at_call 9; with_reducible refine (Calls.ext_of (HR.out _)).mono ?_; rintro e _ ⟨rfl, d4, rfl⟩; have z4 := d4.size1'))
  go_ret
  exact ⟨rfl, ext_mk (((((((Gr.refl _).alloc _).ext d2).alloc _).ext d4).setCell (Nat.le_of_lt z1) _).setCell (Nat.le_of_lt z1) _)⟩

set_option maxRecDepth 100000 in
set_option maxHeartbeats 4000000 in
theorem back_tt (l b : Int) (s : ByteArray) (h : s.size ≤ 1000) (H1 : Hid (okB l b = true)) (HP : Hid (∀ w, Calls Try.prog 9 #[.string ⟨(textL l b).toArray⟩] w fun e w' => e = .returned (.tuple #[pfx l b, .bool true]) ∧ ∃ d : Ext w, w' = d.out)) (n v : Int) (HR : Hid (∀ w, Calls Try.prog 9 #[.string s] w fun e w' => e = .returned (.tuple #[pfx n v, .bool true]) ∧ ∃ d : Ext w, w' = d.out)) (H2 : Hid (okB n v = true)) (H3 : Hid (textL n v = s.data.toList)) (w : World) :
    Calls Try.prog 5 #[pfx l b, .string s] w fun e w' => e = .returned (.bool true) ∧ ∃ d : Ext w, w' = d.out := by
  go_enter Try.func5, Try.ntmps5
  go_wp2_with (first
    | (go_at_call 8; refine (begun_any _).mono ?_; rintro e _ ⟨rfl, d0, rfl⟩)
    | (go_at_call 22; with_reducible refine (Calls.ext_of (text_any l b _)).mono ?_; rintro e _ ⟨rfl, d1, rfl⟩)
    | (go_at_call 9; with_reducible refine (Calls.ext_of (HP.out _)).mono ?_; rintro e _ ⟨rfl, d2, rfl⟩; have z1 := d2.size1')
    | (go_at_call 11; with_reducible refine (check_is H1.out _).mono ?_; rintro e _ ⟨rfl, d3, rfl⟩; have z2 := d3.size1'; have z3 := Nat.lt_trans z1 z2)
    | (go_at_call 9; with_reducible refine (Calls.ext_of (HR.out _)).mono ?_; rintro e _ ⟨rfl, d4, rfl⟩; have z4 := d4.size1')
    | (go_at_call 11; with_reducible refine (check_is H2.out _).mono ?_; rintro e _ ⟨rfl, d5, rfl⟩)
    | (go_at_call 22; with_reducible refine (Calls.ext_of (text_is H3.out _)).mono ?_; rintro e _ ⟨rfl, d6, rfl⟩))
  go_ret
  exact ⟨rfl, ext_mk ((((((((Gr.refl _).alloc _).ext d2).alloc _).ext d4).setCell (Nat.le_of_lt z1) _).setCell (Nat.le_of_lt z1) _).ext d6)⟩

set_option maxRecDepth 100000 in
set_option maxHeartbeats 4000000 in
theorem back_tf (l b : Int) (s : ByteArray) (h : s.size ≤ 1000) (H1 : Hid (okB l b = true)) (HP : Hid (∀ w, Calls Try.prog 9 #[.string ⟨(textL l b).toArray⟩] w fun e w' => e = .returned (.tuple #[pfx l b, .bool true]) ∧ ∃ d : Ext w, w' = d.out)) (HR : Hid (∀ w, Calls Try.prog 9 #[.string s] w fun e w' => e = .returned (.tuple #[pfx 0 0, .bool false]) ∧ ∃ d : Ext w, w' = d.out)) (w : World) :
    Calls Try.prog 5 #[pfx l b, .string s] w fun e w' => e = .returned (.bool true) ∧ ∃ d : Ext w, w' = d.out := by
  go_enter Try.func5, Try.ntmps5
  go_wp2_with (first
    | (go_at_call 8; refine (begun_any _).mono ?_; rintro e _ ⟨rfl, d0, rfl⟩)
    | (go_at_call 22; with_reducible refine (Calls.ext_of (text_any l b _)).mono ?_; rintro e _ ⟨rfl, d1, rfl⟩)
    | (go_at_call 9; with_reducible refine (Calls.ext_of (HP.out _)).mono ?_; rintro e _ ⟨rfl, d2, rfl⟩; have z1 := d2.size1')
    | (go_at_call 11; with_reducible refine (check_is H1.out _).mono ?_; rintro e _ ⟨rfl, d3, rfl⟩; have z2 := d3.size1'; have z3 := Nat.lt_trans z1 z2)
    | (go_at_call 9; with_reducible refine (Calls.ext_of (HR.out _)).mono ?_; rintro e _ ⟨rfl, d4, rfl⟩; have z4 := d4.size1'))
  go_ret
  exact ⟨rfl, ext_mk (((((((Gr.refl _).alloc _).ext d2).alloc _).ext d4).setCell (Nat.le_of_lt z1) _).setCell (Nat.le_of_lt z1) _)⟩

theorem back_any (l b : Int) (s : ByteArray) (hs : s.size ≤ maxLen) (w : World) :
    Calls Try.prog 5 #[pfx l b, .string s] w fun e w' => e = .returned (.bool true) ∧ ∃ d : Ext w, w' = d.out := by
  by_cases h : s.size ≤ 1000
  · cases hr : parseL s.data.toList with
    | none =>
      have HR := parse_nil s hs hr
      cases ho : okB l b
      · have ht : textL l b = [] := by simp [textL, ho]
        exact back_ff l b s h ho (parse_nil _ (by rw [ht]; decide) (by rw [ht]; decide +kernel)) HR w
      · obtain ⟨n, rfl⟩ := Int.eq_ofNat_of_zero_le (ok_pows ho).1
        exact back_tf n b s h ho (parse_some _ n b (by simpa using parse_text n b ho)) HR w
    | some x =>
      obtain ⟨m, v⟩ := x
      have HR := parse_some s m v hr
      obtain ⟨h2, h3⟩ := text_parse _ _ _ hr
      cases ho : okB l b
      · have ht : textL l b = [] := by simp [textL, ho]
        exact back_ft l b s h ho (parse_nil _ (by rw [ht]; decide) (by rw [ht]; decide +kernel)) m v HR h2 h3 w
      · obtain ⟨n, rfl⟩ := Int.eq_ofNat_of_zero_le (ok_pows ho).1
        exact back_tt n b s h ho (parse_some _ n b (by simpa using parse_text n b ho)) m v HR h2 h3 w
  · exact back_long l b s hs (by omega) w

end Go.Proofs.Ytceclaboeajcaaa
