/- CONTRACTS OF package prefix, functions without a loop. -/
import Derived.Test.YtceclaboeajcaaaRows
import Derived.Test.YtceclaboeajcaaaPlain
import Derived.Test.YtceclaboeajcaaaExt
namespace Go.Proofs.Ytceclaboeajcaaa
open Go.RowKit
attribute [local go_sem] Ext.all Ext.cell Ext.frozen Ext.lt Ext.lt1 Ext.lt2 Ext.ne Ext.ne'

abbrev pfx (l b : Int) : Value := .agg #[.int .i64 l, .int .i64 b]

theorem check_any (l b : Int) (w : World) :
    Calls Try.prog 11 #[pfx l b] w fun e w' => e = .returned (.bool (okB l b)) ∧ ∃ d : Ext w, w' = d.out := by
  by_cases h1 : l < 0
  · have hd : decide (0 ≤ l) = false := by simp; omega
    have ho : okB l b = false := by unfold okB; simp; omega
    rw [ho]; clear ho
    go_enter Try.func11, Try.ntmps11
    go_wp2
    go_quiet (fail)
    go_wp2
    go_ret
    exact ⟨rfl, ext_mk (((Gr.refl _).alloc _).drewN _)⟩
  by_cases h2 : 8 < l
  · have hd : decide (0 ≤ l) = true := by simp; omega
    have hd2 : decide (l ≤ 8) = false := by simp; omega
    have ho : okB l b = false := by unfold okB; simp; omega
    rw [ho]; clear ho
    go_enter Try.func11, Try.ntmps11
    go_wp2
    go_quiet (fail)
    go_wp2
    go_ret
    exact ⟨rfl, ext_mk (((Gr.refl _).alloc _).drewN _)⟩
  by_cases h3 : b < 0
  · have hd : decide (0 ≤ l) = true := by simp; omega
    have hd2 : decide (l ≤ 8) = true := by simp; omega
    have hd3 : decide (0 ≤ b) = false := by simp; omega
    have ho : okB l b = false := by unfold okB; simp; omega
    rw [ho]; clear ho
    go_enter Try.func11, Try.ntmps11
    go_wp2
    go_quiet (fail)
    go_wp2
    go_ret
    exact ⟨rfl, ext_mk (((Gr.refl _).alloc _).drewN _)⟩
  have hd : decide (0 ≤ l) = true := by simp; omega
  have hd2 : decide (l ≤ 8) = true := by simp; omega
  have hd3 : decide (0 ≤ b) = true := by simp; omega
  have ho : okB l b = decide (b < 2 ^ l.toNat) := by unfold okB; congr 1; simp only [eq_iff_iff]; omega
  rw [ho]; clear ho
  obtain ⟨p1, p2⟩ := pw_bd l (by omega)
  go_enter Try.func11, Try.ntmps11
  go_wp2
  go_quiet (fail)
  go_wp2
  go_ret
  exact ⟨rfl, ext_mk (((Gr.refl _).alloc _).drewN _)⟩

theorem addr_any (a : Int) (w : World) :
    Calls Try.prog 13 #[.int .i64 a] w fun e w' => e = .returned (.bool (adB a)) ∧ ∃ d : Ext w, w' = d.out := by
  by_cases h1 : 0 ≤ a
  · have hd : decide (0 ≤ a) = true := by simp; omega
    have ho : adB a = decide (a < 256) := by unfold adB; congr 1; simp only [eq_iff_iff]; omega
    rw [ho]; clear ho
    go_enter Try.func13, Try.ntmps13
    go_wp2
    go_ret
    exact ⟨rfl, ext_mk (Gr.refl _)⟩
  · have hd : decide (0 ≤ a) = false := by simp; omega
    have ho : adB a = false := by unfold adB; simp; omega
    rw [ho]; clear ho
    go_enter Try.func13, Try.ntmps13
    go_wp2
    go_ret
    exact ⟨rfl, ext_mk (Gr.refl _)⟩

theorem first_any (l b : Int) (w : World) :
    Calls Try.prog 14 #[pfx l b] w fun e w' => e = .returned (.int .i64 (firstI l b)) ∧ ∃ d : Ext w, w' = d.out := by
  cases ho : okB l b
  · have hf : firstI l b = -1 := by simp [firstI, ho]
    rw [hf]; clear hf
    go_enter Try.func14, Try.ntmps14
    go_wp2_with (go_at_call 11; refine (check_any l b _).mono ?_; rintro e _ ⟨rfl, d1, rfl⟩)
    go_ret
    exact ⟨rfl, ext_mk (((Gr.refl _).alloc _).ext d1)⟩
  · have hf : firstI l b = b * 2 ^ (8 - l).toNat := by simp [firstI, ho]
    rw [hf]; clear hf
    obtain ⟨h0, h8, hb, hl, g1, g2⟩ := ok_pows ho
    obtain ⟨p1, p2⟩ := pw_bd (8 - l) (by omega)
    go_enter Try.func14, Try.ntmps14
    go_wp2_with (go_at_call 11; refine (check_any l b _).mono ?_; rintro e _ ⟨rfl, d1, rfl⟩)
    go_ret
    exact ⟨rfl, ext_mk (((Gr.refl _).alloc _).ext d1)⟩

theorem last_any (l b : Int) (w : World) :
    Calls Try.prog 16 #[pfx l b] w fun e w' => e = .returned (.int .i64 (lastI l b)) ∧ ∃ d : Ext w, w' = d.out := by
  cases ho : okB l b
  · have hf : lastI l b = -1 := by simp [lastI, ho]
    rw [hf]; clear hf
    go_enter Try.func16, Try.ntmps16
    go_wp2_with (go_at_call 11; refine (check_any l b _).mono ?_; rintro e _ ⟨rfl, d1, rfl⟩)
    go_ret
    exact ⟨rfl, ext_mk (((Gr.refl _).alloc _).ext d1)⟩
  · have hf : lastI l b = (b + 1) * 2 ^ (8 - l).toNat - 1 := by simp [lastI, ho, Int.add_mul]
    rw [hf]; clear hf
    obtain ⟨h0, h8, hb, hl, g1, g2⟩ := ok_pows ho
    obtain ⟨p1, p2⟩ := pw_bd (8 - l) (by omega)
    obtain ⟨p3, p4⟩ := pw_bd l (by omega)
    have e1 : 0 ≤ (b + 1) * 2 ^ (8 - l).toNat := by rw [Int.add_mul]; omega
    have e2 : (b + 1) * 2 ^ (8 - l).toNat ≤ 256 := by rw [Int.add_mul]; omega
    go_enter Try.func16, Try.ntmps16
    go_wp2_with (go_at_call 11; refine (check_any l b _).mono ?_; rintro e _ ⟨rfl, d1, rfl⟩)
    go_ret
    exact ⟨rfl, ext_mk (((Gr.refl _).alloc _).ext d1)⟩

theorem check_is {l b : Int} {v : Bool} (h : okB l b = v) (w : World) :
    Calls Try.prog 11 #[pfx l b] w fun e w' => e = .returned (.bool v) ∧ ∃ d : Ext w, w' = d.out := by subst h; exact check_any l b w
theorem addr_is {a : Int} {v : Bool} (h : adB a = v) (w : World) :
    Calls Try.prog 13 #[.int .i64 a] w fun e w' => e = .returned (.bool v) ∧ ∃ d : Ext w, w' = d.out := by subst h; exact addr_any a w

theorem has_any (l b a : Int) (w : World) :
    Calls Try.prog 18 #[pfx l b, .int .i64 a] w fun e w' => e = .returned (.bool (hasB l b a)) ∧ ∃ d : Ext w, w' = d.out := by
  cases ho : okB l b
  · have hf : hasB l b a = false := by simp [hasB, ho]
    rw [hf]; clear hf
    go_enter Try.func18, Try.ntmps18
    go_wp2
    refine wp_region_ext (by kernel_rfl) (by kernel_rfl) ?_
    repeat (go_big_quiet_step (first | (go_at_call 11; exact Calls.ext_of (check_is ho _)) | (go_at_call 13; exact Calls.ext_of (addr_any a _))))
    refine wpQuiet_nil ?_
    rintro _ ⟨d1, rfl⟩
    go_wp2
    go_ret
    exact ⟨rfl, ext_mk (((Gr.refl _).alloc _).ext d1)⟩
  cases ha : adB a
  · have hf : hasB l b a = false := by
      unfold adB at ha; simp at ha; unfold hasB; simp; omega
    rw [hf]; clear hf
    go_enter Try.func18, Try.ntmps18
    go_wp2
    refine wp_region_ext (by kernel_rfl) (by kernel_rfl) ?_
    repeat (go_big_quiet_step (first | (go_at_call 11; exact Calls.ext_of (check_is ho _)) | (go_at_call 13; exact Calls.ext_of (addr_is ha _))))
    refine wpQuiet_nil ?_
    rintro _ ⟨d1, rfl⟩
    go_wp2
    go_ret
    exact ⟨rfl, ext_mk (((Gr.refl _).alloc _).ext d1)⟩
  · have ha' : 0 ≤ a ∧ a < 256 := by unfold adB at ha; simpa using ha
    obtain ⟨a1, a2⟩ := ha'
    have hf : hasB l b a = (a / 2 ^ (8 - l).toNat == b) := by
      unfold hasB; rw [Bool.eq_iff_iff]; simp [ho, a1, a2]
    rw [hf]; clear hf
    obtain ⟨h0, h8, hb, hl, g1, g2⟩ := ok_pows ho
    obtain ⟨p1, p2⟩ := pw_bd (8 - l) (by omega)
    go_enter Try.func18, Try.ntmps18
    go_wp2
    refine wp_region_ext (by kernel_rfl) (by kernel_rfl) ?_
    repeat (go_big_quiet_step (first | (go_at_call 11; exact Calls.ext_of (check_is ho _)) | (go_at_call 13; exact Calls.ext_of (addr_is ha _))))
    refine wpQuiet_nil ?_
    rintro _ ⟨d1, rfl⟩
    go_wp2
    go_ret
    exact ⟨rfl, ext_mk (((Gr.refl _).alloc _).ext d1)⟩

end Go.Proofs.Ytceclaboeajcaaa
