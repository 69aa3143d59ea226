/- CONTRACTS OF package handpostref: IsPrefix, Has, First, Last, Less. -/
import Derived.Test.YtceclaboeajcaaaE
import Derived.Test.YtceclaboeajcaaaSpanPlain
namespace Go.Proofs.Ytceclaboeajcaaa
open Go.RowKit
attribute [local go_sem] Ext.all Ext.cell Ext.frozen Ext.lt Ext.lt1 Ext.lt2 Ext.ne Ext.ne'

theorem isp_any (l b : Int) (w : World) :
    Calls Try.prog 12 #[pfx l b] w fun e w' => e = .returned (.bool (okB l b)) ∧ ∃ d : Ext w, w' = d.out := by
  by_cases h1 : l < 0
  · have hd : decide (l < 0) = true := by simp; omega
    have ho : okB l b = false := by unfold okB; simp; omega
    rw [ho]; clear ho
    go_enter Try.func12, Try.ntmps12
    go_wp2
    go_ret
    exact ⟨rfl, ext_mk ((Gr.refl _).alloc _)⟩
  have hd1 : decide (l < 0) = false := by simp; omega
  by_cases h2 : 8 < l
  · have hd2 : decide (8 < l) = true := by simp; omega
    have ho : okB l b = false := by unfold okB; simp; omega
    rw [ho]; clear ho
    go_enter Try.func12, Try.ntmps12
    go_wp2
    go_ret
    exact ⟨rfl, ext_mk ((Gr.refl _).alloc _)⟩
  have hd2 : decide (8 < l) = false := by simp; omega
  by_cases h3 : b < 0
  · have hd3 : decide (b < 0) = true := by simp; omega
    have ho : okB l b = false := by unfold okB; simp; omega
    rw [ho]; clear ho
    go_enter Try.func12, Try.ntmps12
    go_wp2
    go_ret
    exact ⟨rfl, ext_mk ((Gr.refl _).alloc _)⟩
  have hd3 : decide (b < 0) = false := by simp; omega
  have ho : okB l b = decide (b < 2 ^ l.toNat) := by unfold okB; congr 1; simp only [eq_iff_iff]; omega
  rw [ho]; clear ho
  go_enter Try.func12, Try.ntmps12
  go_wp2
  go_loop [3, 4] (fun n i => ∃ (k : Nat) (N : Int), (k : Int) ≤ l ∧ Hid (N = 2 ^ k) ∧ n = .int .i64 N ∧ i = .int .i64 k) (fun _ i => (l - intOf i).toNat)
  case atStart => exact ⟨0, 1, by simp; omega, (rfl : (1 : Int) = 2 ^ 0), rfl, rfl⟩
  case round =>
    obtain ⟨k, N, hk, HN, rfl, rfl⟩ := hrel
    have hb := pw_bd k (by omega)
    simp only [Int.toNat_natCast] at hb
    rw [← HN.out] at hb
    obtain ⟨p1, p2⟩ := hb
    by_cases hlt : (k : Int) < l
    · go_wp2
      go_round
      case rel => exact ⟨k + 1, N * 2, by omega, (by show N * 2 = _; rw [HN.out, Int.pow_succ]), by go_num, by go_num⟩
      case measure => simp [intOf]; omega
    · have e : k = l.toNat := by omega
      have HE := hide e
      clear e
      go_wp2
      go_ret
      exact ⟨ret_bool (by rw [HN.out, HE.out]), ext_mk ((Gr.refl _).alloc _)⟩

theorem isp_is {l b : Int} {v : Bool} (h : okB l b = v) (w : World) :
    Calls Try.prog 12 #[pfx l b] w fun e w' => e = .returned (.bool v) ∧ ∃ d : Ext w, w' = d.out := by subst h; exact isp_any l b w

theorem rhas_any (l b a : Int) (w : World) :
    Calls Try.prog 19 #[pfx l b, .int .i64 a] w fun e w' => e = .returned (.bool (hasB l b a)) ∧ ∃ d : Ext w, w' = d.out := by
  cases ho : okB l b
  · have hf : hasB l b a = false := by simp [hasB, ho]
    rw [hf]; clear hf
    go_enter Try.func19, Try.ntmps19
    go_wp2_with (go_at_call 12; refine (isp_is ho _).mono ?_; rintro e _ ⟨rfl, d1, rfl⟩)
    go_ret
    exact ⟨rfl, ext_mk (((Gr.refl _).alloc _).ext d1)⟩
  by_cases a0 : a < 0
  · have hd : decide (a < 0) = true := by simp; omega
    have hf : hasB l b a = false := by unfold hasB; simp; omega
    rw [hf]; clear hf
    go_enter Try.func19, Try.ntmps19
    go_wp2_with (go_at_call 12; refine (isp_is ho _).mono ?_; rintro e _ ⟨rfl, d1, rfl⟩)
    go_ret
    exact ⟨rfl, ext_mk (((Gr.refl _).alloc _).ext d1)⟩
  have hd1 : decide (a < 0) = false := by simp; omega
  by_cases a1 : 256 ≤ a
  · have hd : decide (256 ≤ a) = true := by simp; omega
    have hf : hasB l b a = false := by unfold hasB; simp; omega
    rw [hf]; clear hf
    go_enter Try.func19, Try.ntmps19
    go_wp2_with (go_at_call 12; refine (isp_is ho _).mono ?_; rintro e _ ⟨rfl, d1, rfl⟩)
    go_ret
    exact ⟨rfl, ext_mk (((Gr.refl _).alloc _).ext d1)⟩
  have hd2 : decide (256 ≤ a) = false := by simp; omega
  have hf : hasB l b a = (a / 2 ^ (8 - l).toNat == b) := by
    unfold hasB; rw [Bool.eq_iff_iff]; simp [ho]; omega
  rw [hf]; clear hf
  obtain ⟨l0, l8, hb, hl, g1, g2⟩ := ok_pows ho
  clear hl g1 g2
  go_enter Try.func19, Try.ntmps19
  go_wp2_with (go_at_call 12; refine (isp_is ho _).mono ?_; rintro e _ ⟨rfl, d1, rfl⟩)
  go_loop [1, 5] (fun x n => ∃ (k : Nat) (A : Int), (k : Int) ≤ 8 - l ∧ Hid (A = a / 2 ^ k) ∧ 0 ≤ A ∧ A < 256 ∧ x = .int .i64 A ∧ n = .int .i64 (8 - k)) (fun _ n => (intOf n - l).toNat)
  case atStart => exact ⟨0, a, by simp; omega, (by show a = a / 2 ^ 0; simp), by omega, by omega, rfl, rfl⟩
  case round =>
    obtain ⟨k, A, hk, HA, A0, A1, rfl, rfl⟩ := hrel
    by_cases hlt : (k : Int) < 8 - l
    · go_wp2
      go_round
      case rel => exact ⟨k + 1, A / 2, by omega, (by show A / 2 = _; rw [HA.out, div_pow_succ]), by omega, by omega, rfl, by go_num⟩
      case measure => simp [intOf]; omega
    · have e : k = (8 - l).toNat := by omega
      have HE := hide e
      clear e
      go_wp2
      go_ret
      exact ⟨ret_bool (by rw [HA.out, HE.out]), ext_mk (((Gr.refl _).alloc _).ext d1)⟩

theorem rhas_is {l b a : Int} {v : Bool} (h : hasB l b a = v) (w : World) :
    Calls Try.prog 19 #[pfx l b, .int .i64 a] w fun e w' => e = .returned (.bool v) ∧ ∃ d : Ext w, w' = d.out := by subst h; exact rhas_any l b a w

end Go.Proofs.Ytceclaboeajcaaa
