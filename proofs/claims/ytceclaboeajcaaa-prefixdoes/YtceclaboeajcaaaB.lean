/- CONTRACTS OF package prefix: Covers, Less, Child, Parent. -/
import Derived.Test.YtceclaboeajcaaaA
namespace Go.Proofs.Ytceclaboeajcaaa
open Go.RowKit
attribute [local go_sem] Ext.all Ext.cell Ext.frozen Ext.lt Ext.lt1 Ext.lt2 Ext.ne Ext.ne'

theorem less_any (l b m c : Int) (w : World) :
    Calls Try.prog 20 #[pfx l b, pfx m c] w fun e w' => e = .returned (.bool (lessB l b m c)) ∧ ∃ d : Ext w, w' = d.out := by
  unfold lessB
  by_cases h1 : firstI l b < firstI m c
  · have hd : decide (firstI l b < firstI m c) = true := by simpa using h1
    have ho : decide (firstI l b < firstI m c ∨ firstI l b = firstI m c ∧ l < m) = true := by simp [h1]
    rw [ho]; clear ho
    go_enter Try.func20, Try.ntmps20
    go_wp2
    refine wp_region_ext (by kernel_rfl) (by kernel_rfl) ?_
    repeat (go_big_quiet_step ((go_at_call 14; exact Calls.ext_of (first_any _ _ _))))
    refine wpQuiet_nil ?_
    rintro _ ⟨d1, rfl⟩
    go_wp2
    go_ret
    exact ⟨rfl, ext_mk ((((Gr.refl _).alloc _).alloc _).ext d1)⟩
  have hd : decide (firstI l b < firstI m c) = false := by simpa using h1
  by_cases h2 : firstI l b = firstI m c
  · have h2' : (firstI l b == firstI m c) = true := by simpa using h2
    have ho : decide (firstI l b < firstI m c ∨ firstI l b = firstI m c ∧ l < m) = decide (l < m) := by simp [h2]
    rw [ho]; clear ho h2
    go_enter Try.func20, Try.ntmps20
    go_wp2
    refine wp_region_ext (by kernel_rfl) (by kernel_rfl) ?_
    repeat (go_big_quiet_step ((go_at_call 14; exact Calls.ext_of (first_any _ _ _))))
    refine wpQuiet_nil ?_
    rintro _ ⟨d1, rfl⟩
    go_wp2
    go_ret
    exact ⟨rfl, ext_mk ((((Gr.refl _).alloc _).alloc _).ext d1)⟩
  · have h2' : (firstI l b == firstI m c) = false := by simpa using h2
    have ho : decide (firstI l b < firstI m c ∨ firstI l b = firstI m c ∧ l < m) = false := by simp [h1, h2]
    rw [ho]; clear ho
    go_enter Try.func20, Try.ntmps20
    go_wp2
    refine wp_region_ext (by kernel_rfl) (by kernel_rfl) ?_
    repeat (go_big_quiet_step ((go_at_call 14; exact Calls.ext_of (first_any _ _ _))))
    refine wpQuiet_nil ?_
    rintro _ ⟨d1, rfl⟩
    go_wp2
    go_ret
    exact ⟨rfl, ext_mk ((((Gr.refl _).alloc _).alloc _).ext d1)⟩

theorem covers_any (l b m c : Int) (w : World) :
    Calls Try.prog 26 #[pfx l b, pfx m c] w fun e w' => e = .returned (.bool (covB l b m c)) ∧ ∃ d : Ext w, w' = d.out := by
  cases ho : okB l b
  · have hf : covB l b m c = false := by simp [covB, ho]
    rw [hf]; clear hf
    go_enter Try.func26, Try.ntmps26
    go_wp2
    refine wp_region_ext (by kernel_rfl) (by kernel_rfl) ?_
    repeat (go_big_quiet_step ((go_at_call 11; exact Calls.ext_of (check_is ho _))))
    refine wpQuiet_nil ?_
    rintro _ ⟨d1, rfl⟩
    go_wp2
    go_ret
    exact ⟨rfl, ext_mk ((((Gr.refl _).alloc _).alloc _).ext d1)⟩
  cases hq : okB m c
  · have hf : covB l b m c = false := by simp [covB, hq]
    rw [hf]; clear hf
    go_enter Try.func26, Try.ntmps26
    go_wp2
    refine wp_region_ext (by kernel_rfl) (by kernel_rfl) ?_
    repeat (go_big_quiet_step (first | (go_at_call 11; with_reducible exact Calls.ext_of (check_is ho _)) | (go_at_call 11; with_reducible exact Calls.ext_of (check_is hq _))))
    refine wpQuiet_nil ?_
    rintro _ ⟨d1, rfl⟩
    go_wp2
    go_ret
    exact ⟨rfl, ext_mk ((((Gr.refl _).alloc _).alloc _).ext d1)⟩
  obtain ⟨h0, h8, hb, hl, g1, g2⟩ := ok_pows ho
  obtain ⟨k0, k8, kb, kl, f1, f2⟩ := ok_pows hq
  by_cases hm : l ≤ m
  · have hd : decide (l ≤ m) = true := by simpa using hm
    have hf : covB l b m c = (c / 2 ^ (m - l).toNat == b) := by
      unfold covB; rw [Bool.eq_iff_iff]; simp [ho, hq, hm]
    rw [hf]; clear hf
    obtain ⟨p1, p2⟩ := pw_bd (m - l) (by omega)
    go_enter Try.func26, Try.ntmps26
    go_wp2
    refine wp_region_ext (by kernel_rfl) (by kernel_rfl) ?_
    repeat (go_big_quiet_step (first | (go_at_call 11; with_reducible exact Calls.ext_of (check_is ho _)) | (go_at_call 11; with_reducible exact Calls.ext_of (check_is hq _))))
    refine wpQuiet_nil ?_
    rintro _ ⟨d1, rfl⟩
    go_wp2
    go_ret
    exact ⟨rfl, ext_mk ((((Gr.refl _).alloc _).alloc _).ext d1)⟩
  · have hd : decide (l ≤ m) = false := by simpa using hm
    have hf : covB l b m c = false := by simp [covB, hm]
    rw [hf]; clear hf
    go_enter Try.func26, Try.ntmps26
    go_wp2
    refine wp_region_ext (by kernel_rfl) (by kernel_rfl) ?_
    repeat (go_big_quiet_step (first | (go_at_call 11; with_reducible exact Calls.ext_of (check_is ho _)) | (go_at_call 11; with_reducible exact Calls.ext_of (check_is hq _))))
    refine wpQuiet_nil ?_
    rintro _ ⟨d1, rfl⟩
    go_wp2
    go_ret
    exact ⟨rfl, ext_mk ((((Gr.refl _).alloc _).alloc _).ext d1)⟩

theorem child_no (l b t : Int) (h : okB l b = false ∨ l = 8 ∨ (t ≠ 0 ∧ t ≠ 1)) (w : World) :
    Calls Try.prog 24 #[pfx l b, .int .i64 t] w fun e w' => e = .returned (.tuple #[pfx 0 0, .bool false]) ∧ ∃ d : Ext w, w' = d.out := by
  cases ho : okB l b
  · clear h
    go_enter Try.func24, Try.ntmps24
    go_wp2_with (go_at_call 11; refine (check_is ho _).mono ?_; rintro e _ ⟨rfl, d1, rfl⟩)
    refine bodyPost_ret (v := .tuple #[pfx 0 0, .bool false]) (by simp [results, Try.results24, go_sem]) rfl ⟨rfl, ext_mk ?_⟩
    exact (((((Gr.refl _).alloc _).alloc _).ext d1).setCell (by simp) _).setCell (by simp) _
  by_cases h8 : l = 8
  · clear h
    subst h8
    go_enter Try.func24, Try.ntmps24
    go_wp2_with (go_at_call 11; refine (check_is ho _).mono ?_; rintro e _ ⟨rfl, d1, rfl⟩)
    refine bodyPost_ret (v := .tuple #[pfx 0 0, .bool false]) (by simp [results, Try.results24, go_sem]) rfl ⟨rfl, ext_mk ?_⟩
    exact (((((Gr.refl _).alloc _).alloc _).ext d1).setCell (by simp) _).setCell (by simp) _
  · have e8 : (l == 8) = false := by simpa using h8
    obtain ⟨t0, t1⟩ : t ≠ 0 ∧ t ≠ 1 := by simp [ho, h8] at h; exact h
    have e0 : (t != 0) = true := by simpa using t0
    have e1 : (t != 1) = true := by simpa using t1
    clear h
    go_enter Try.func24, Try.ntmps24
    go_wp2_with (go_at_call 11; refine (check_is ho _).mono ?_; rintro e _ ⟨rfl, d1, rfl⟩)
    refine bodyPost_ret (v := .tuple #[pfx 0 0, .bool false]) (by simp [results, Try.results24, go_sem]) rfl ⟨rfl, ext_mk ?_⟩
    exact (((((Gr.refl _).alloc _).alloc _).ext d1).setCell (by simp) _).setCell (by simp) _

theorem or_0 (b : Int) (h0 : 0 ≤ b) (h : b < 256) : bits .or .i64 (b * 2) 0 = b * 2 := by
  have : ∀ n : Fin 256, bits .or .i64 ((n.val : Int) * 2) 0 = (n.val : Int) * 2 := by decide +kernel
  have h1 := this ⟨b.toNat, by omega⟩
  simpa [Int.toNat_of_nonneg h0] using h1
theorem or_1 (b : Int) (h0 : 0 ≤ b) (h : b < 256) : bits .or .i64 (b * 2) 1 = b * 2 + 1 := by
  have : ∀ n : Fin 256, bits .or .i64 ((n.val : Int) * 2) 1 = (n.val : Int) * 2 + 1 := by decide +kernel
  have h1 := this ⟨b.toNat, by omega⟩
  simpa [Int.toNat_of_nonneg h0] using h1

theorem child_yes0 (l b : Int) (ho : okB l b = true) (h8 : l < 8) (w : World) :
    Calls Try.prog 24 #[pfx l b, .int .i64 0] w fun e w' => e = .returned (.tuple #[pfx (l + 1) (b * 2), .bool true]) ∧ ∃ d : Ext w, w' = d.out := by
  obtain ⟨h0, _, hb, hl, g1, g2⟩ := ok_pows ho
  obtain ⟨p1, p2⟩ := pw_bd l (by omega)
  have e8 : (l == 8) = false := by simp; omega
  go_enter Try.func24, Try.ntmps24
  go_wp2_with (go_at_call 11; refine (check_is ho _).mono ?_; rintro e _ ⟨rfl, d1, rfl⟩)
  refine bodyPost_ret (v := .tuple #[pfx (l + 1) (b * 2), .bool true]) (by simp [results, Try.results24, go_sem, or_0 b hb (by omega)]) rfl ⟨rfl, ext_mk ?_⟩
  exact (((((Gr.refl _).alloc _).alloc _).ext d1).setCell (by simp) _).setCell (by simp) _

theorem child_yes1 (l b : Int) (ho : okB l b = true) (h8 : l < 8) (w : World) :
    Calls Try.prog 24 #[pfx l b, .int .i64 1] w fun e w' => e = .returned (.tuple #[pfx (l + 1) (b * 2 + 1), .bool true]) ∧ ∃ d : Ext w, w' = d.out := by
  obtain ⟨h0, _, hb, hl, g1, g2⟩ := ok_pows ho
  obtain ⟨p1, p2⟩ := pw_bd l (by omega)
  have e8 : (l == 8) = false := by simp; omega
  go_enter Try.func24, Try.ntmps24
  go_wp2_with (go_at_call 11; refine (check_is ho _).mono ?_; rintro e _ ⟨rfl, d1, rfl⟩)
  refine bodyPost_ret (v := .tuple #[pfx (l + 1) (b * 2 + 1), .bool true]) (by simp [results, Try.results24, go_sem, or_1 b hb (by omega)]) rfl ⟨rfl, ext_mk ?_⟩
  exact (((((Gr.refl _).alloc _).alloc _).ext d1).setCell (by simp) _).setCell (by simp) _

theorem parent_no (l b : Int) (h : okB l b = false ∨ l = 0) (w : World) :
    Calls Try.prog 25 #[pfx l b] w fun e w' => e = .returned (.tuple #[pfx 0 0, .bool false]) ∧ ∃ d : Ext w, w' = d.out := by
  cases ho : okB l b
  · clear h
    go_enter Try.func25, Try.ntmps25
    go_wp2_with (go_at_call 11; refine (check_is ho _).mono ?_; rintro e _ ⟨rfl, d1, rfl⟩)
    refine bodyPost_ret (v := .tuple #[pfx 0 0, .bool false]) (by simp [results, Try.results25, go_sem]) rfl ⟨rfl, ext_mk ?_⟩
    exact (((((Gr.refl _).alloc _).alloc _).ext d1).setCell (by simp) _).setCell (by simp) _
  · have h8 : l = 0 := by simp [ho] at h; exact h
    clear h
    subst h8
    go_enter Try.func25, Try.ntmps25
    go_wp2_with (go_at_call 11; refine (check_is ho _).mono ?_; rintro e _ ⟨rfl, d1, rfl⟩)
    refine bodyPost_ret (v := .tuple #[pfx 0 0, .bool false]) (by simp [results, Try.results25, go_sem]) rfl ⟨rfl, ext_mk ?_⟩
    exact (((((Gr.refl _).alloc _).alloc _).ext d1).setCell (by simp) _).setCell (by simp) _

theorem parent_yes (l b : Int) (ho : okB l b = true) (h8 : 0 < l) (w : World) :
    Calls Try.prog 25 #[pfx l b] w fun e w' => e = .returned (.tuple #[pfx (l - 1) (b / 2), .bool true]) ∧ ∃ d : Ext w, w' = d.out := by
  obtain ⟨h0, _, hb, hl, g1, g2⟩ := ok_pows ho
  obtain ⟨p1, p2⟩ := pw_bd l (by omega)
  have e8 : (l == 0) = false := by simp; omega
  go_enter Try.func25, Try.ntmps25
  go_wp2_with (go_at_call 11; refine (check_is ho _).mono ?_; rintro e _ ⟨rfl, d1, rfl⟩)
  refine bodyPost_ret (v := .tuple #[pfx (l - 1) (b / 2), .bool true]) (by simp [results, Try.results25, go_sem]) rfl ⟨rfl, ext_mk ?_⟩
  exact (((((Gr.refl _).alloc _).alloc _).ext d1).setCell (by simp) _).setCell (by simp) _

end Go.Proofs.Ytceclaboeajcaaa
