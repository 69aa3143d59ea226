/- CONTRACTS OF package prefix (Check, Address, First, Has, Less) AND OF handpostref (IsPrefix, Has, First, Less), as at layer 1. -/
import Derived.Test.YtfcknkanbcndjagGreatDoorRows
import Derived.Test.YtfcknkanbcndjagGreatDoorTPlain
namespace Go.Proofs.YtfcknkanbcndjagGreatDoor
open Go.RowKit
attribute [local go_sem] Ext.all Ext.cell Ext.frozen Ext.lt Ext.lt1 Ext.lt2 Ext.ne Ext.ne'
abbrev pfx (l b : Int) : Value := .agg #[.int .i64 l, .int .i64 b]

theorem check_any (l b : Int) (w : World) :
    Calls Tryz.prog 114 #[pfx l b] w fun e w' => e = .returned (.bool (okB l b)) ∧ ∃ d : Ext w, w' = d.out := by
  by_cases h1 : l < 0
  · have hd : decide (0 ≤ l) = false := by simp; omega
    have ho : okB l b = false := by unfold okB; simp; omega
    rw [ho]; clear ho
    go_enter Tryz.func114, Tryz.ntmps114
    go_wp2
    go_quiet (fail)
    go_wp2
    go_ret
    exact ⟨rfl, ext_mk (((Gr.refl _).alloc _).drewN _)⟩
  by_cases h2 : 8 < l
  · have hd : decide (0 ≤ l) = true := by simp; omega
    have hd2 : decide (l ≤ 8) = false := by simp; omega
    have ho : okB l b = false := by unfold okB; simp; omega
    rw [ho]; clear ho
    go_enter Tryz.func114, Tryz.ntmps114
    go_wp2
    go_quiet (fail)
    go_wp2
    go_ret
    exact ⟨rfl, ext_mk (((Gr.refl _).alloc _).drewN _)⟩
  by_cases h3 : b < 0
  · have hd : decide (0 ≤ l) = true := by simp; omega
    have hd2 : decide (l ≤ 8) = true := by simp; omega
    have hd3 : decide (0 ≤ b) = false := by simp; omega
    have ho : okB l b = false := by unfold okB; simp; omega
    rw [ho]; clear ho
    go_enter Tryz.func114, Tryz.ntmps114
    go_wp2
    go_quiet (fail)
    go_wp2
    go_ret
    exact ⟨rfl, ext_mk (((Gr.refl _).alloc _).drewN _)⟩
  have hd : decide (0 ≤ l) = true := by simp; omega
  have hd2 : decide (l ≤ 8) = true := by simp; omega
  have hd3 : decide (0 ≤ b) = true := by simp; omega
  have ho : okB l b = decide (b < 2 ^ l.toNat) := by unfold okB; congr 1; simp only [eq_iff_iff]; omega
  rw [ho]; clear ho
  obtain ⟨p1, p2⟩ := pw_bd l (by omega)
  go_enter Tryz.func114, Tryz.ntmps114
  go_wp2
  go_quiet (fail)
  go_wp2
  go_ret
  exact ⟨rfl, ext_mk (((Gr.refl _).alloc _).drewN _)⟩

theorem addr_any (a : Int) (w : World) :
    Calls Tryz.prog 115 #[.int .i64 a] w fun e w' => e = .returned (.bool (adB a)) ∧ ∃ d : Ext w, w' = d.out := by
  by_cases h1 : 0 ≤ a
  · have hd : decide (0 ≤ a) = true := by simp; omega
    have ho : adB a = decide (a < 256) := by unfold adB; congr 1; simp only [eq_iff_iff]; omega
    rw [ho]; clear ho
    go_enter Tryz.func115, Tryz.ntmps115
    go_wp2
    go_ret
    exact ⟨rfl, ext_mk (Gr.refl _)⟩
  · have hd : decide (0 ≤ a) = false := by simp; omega
    have ho : adB a = false := by unfold adB; simp; omega
    rw [ho]; clear ho
    go_enter Tryz.func115, Tryz.ntmps115
    go_wp2
    go_ret
    exact ⟨rfl, ext_mk (Gr.refl _)⟩

theorem first_any (l b : Int) (w : World) :
    Calls Tryz.prog 186 #[pfx l b] w fun e w' => e = .returned (.int .i64 (firstI l b)) ∧ ∃ d : Ext w, w' = d.out := by
  cases ho : okB l b
  · have hf : firstI l b = -1 := by simp [firstI, ho]
    rw [hf]; clear hf
    go_enter Tryz.func186, Tryz.ntmps186
    go_wp2_with (go_at_call 114; refine (check_any l b _).mono ?_; rintro e _ ⟨rfl, d1, rfl⟩)
    go_ret
    exact ⟨rfl, ext_mk (((Gr.refl _).alloc _).ext d1)⟩
  · have hf : firstI l b = b * 2 ^ (8 - l).toNat := by simp [firstI, ho]
    rw [hf]; clear hf
    obtain ⟨h0, h8, hb, hl, g1, g2⟩ := ok_pows ho
    obtain ⟨p1, p2⟩ := pw_bd (8 - l) (by omega)
    go_enter Tryz.func186, Tryz.ntmps186
    go_wp2_with (go_at_call 114; refine (check_any l b _).mono ?_; rintro e _ ⟨rfl, d1, rfl⟩)
    go_ret
    exact ⟨rfl, ext_mk (((Gr.refl _).alloc _).ext d1)⟩

theorem check_is {l b : Int} {v : Bool} (h : okB l b = v) (w : World) :
    Calls Tryz.prog 114 #[pfx l b] w fun e w' => e = .returned (.bool v) ∧ ∃ d : Ext w, w' = d.out := by subst h; exact check_any l b w
theorem addr_is {a : Int} {v : Bool} (h : adB a = v) (w : World) :
    Calls Tryz.prog 115 #[.int .i64 a] w fun e w' => e = .returned (.bool v) ∧ ∃ d : Ext w, w' = d.out := by subst h; exact addr_any a w

theorem has_any (l b a : Int) (w : World) :
    Calls Tryz.prog 63 #[pfx l b, .int .i64 a] w fun e w' => e = .returned (.bool (hasB l b a)) ∧ ∃ d : Ext w, w' = d.out := by
  cases ho : okB l b
  · have hf : hasB l b a = false := by simp [hasB, ho]
    rw [hf]; clear hf
    go_enter Tryz.func63, Tryz.ntmps63
    go_wp2
    refine wp_region_ext (by kernel_rfl) (by kernel_rfl) ?_
    repeat (go_big_quiet_step (first | (go_at_call 114; exact Calls.ext_of (check_is ho _)) | (go_at_call 115; exact Calls.ext_of (addr_any a _))))
    refine wpQuiet_nil ?_
    rintro _ ⟨d1, rfl⟩
    go_wp2
    go_ret
    exact ⟨rfl, ext_mk (((Gr.refl _).alloc _).ext d1)⟩
  cases ha : adB a
  · have hf : hasB l b a = false := by
      unfold adB at ha; simp at ha; unfold hasB; simp; omega
    rw [hf]; clear hf
    go_enter Tryz.func63, Tryz.ntmps63
    go_wp2
    refine wp_region_ext (by kernel_rfl) (by kernel_rfl) ?_
    repeat (go_big_quiet_step (first | (go_at_call 114; exact Calls.ext_of (check_is ho _)) | (go_at_call 115; exact Calls.ext_of (addr_is ha _))))
    refine wpQuiet_nil ?_
    rintro _ ⟨d1, rfl⟩
    go_wp2
    go_ret
    exact ⟨rfl, ext_mk (((Gr.refl _).alloc _).ext d1)⟩
  · have ha' : 0 ≤ a ∧ a < 256 := by unfold adB at ha; simpa using ha
    obtain ⟨a1, a2⟩ := ha'
    have hf : hasB l b a = (a / 2 ^ (8 - l).toNat == b) := by
      unfold hasB; rw [Bool.eq_iff_iff]; simp [ho, a1, a2]
    rw [hf]; clear hf
    obtain ⟨h0, h8, hb, hl, g1, g2⟩ := ok_pows ho
    obtain ⟨p1, p2⟩ := pw_bd (8 - l) (by omega)
    go_enter Tryz.func63, Tryz.ntmps63
    go_wp2
    refine wp_region_ext (by kernel_rfl) (by kernel_rfl) ?_
    repeat (go_big_quiet_step (first | (go_at_call 114; exact Calls.ext_of (check_is ho _)) | (go_at_call 115; exact Calls.ext_of (addr_is ha _))))
    refine wpQuiet_nil ?_
    rintro _ ⟨d1, rfl⟩
    go_wp2
    go_ret
    exact ⟨rfl, ext_mk (((Gr.refl _).alloc _).ext d1)⟩


theorem less_any (l b m c : Int) (w : World) :
    Calls Tryz.prog 152 #[pfx l b, pfx m c] w fun e w' => e = .returned (.bool (lessB l b m c)) ∧ ∃ d : Ext w, w' = d.out := by
  unfold lessB
  by_cases h1 : firstI l b < firstI m c
  · have hd : decide (firstI l b < firstI m c) = true := by simpa using h1
    have ho : decide (firstI l b < firstI m c ∨ firstI l b = firstI m c ∧ l < m) = true := by simp [h1]
    rw [ho]; clear ho
    go_enter Tryz.func152, Tryz.ntmps152
    go_wp2
    refine wp_region_ext (by kernel_rfl) (by kernel_rfl) ?_
    repeat (go_big_quiet_step ((go_at_call 186; exact Calls.ext_of (first_any _ _ _))))
    refine wpQuiet_nil ?_
    rintro _ ⟨d1, rfl⟩
    go_wp2
    go_ret
    exact ⟨rfl, ext_mk ((((Gr.refl _).alloc _).alloc _).ext d1)⟩
  have hd : decide (firstI l b < firstI m c) = false := by simpa using h1
  by_cases h2 : firstI l b = firstI m c
  · have h2' : (firstI l b == firstI m c) = true := by simpa using h2
    have ho : decide (firstI l b < firstI m c ∨ firstI l b = firstI m c ∧ l < m) = decide (l < m) := by simp [h2]
    rw [ho]; clear ho h2
    go_enter Tryz.func152, Tryz.ntmps152
    go_wp2
    refine wp_region_ext (by kernel_rfl) (by kernel_rfl) ?_
    repeat (go_big_quiet_step ((go_at_call 186; exact Calls.ext_of (first_any _ _ _))))
    refine wpQuiet_nil ?_
    rintro _ ⟨d1, rfl⟩
    go_wp2
    go_ret
    exact ⟨rfl, ext_mk ((((Gr.refl _).alloc _).alloc _).ext d1)⟩
  · have h2' : (firstI l b == firstI m c) = false := by simpa using h2
    have ho : decide (firstI l b < firstI m c ∨ firstI l b = firstI m c ∧ l < m) = false := by simp [h1, h2]
    rw [ho]; clear ho
    go_enter Tryz.func152, Tryz.ntmps152
    go_wp2
    refine wp_region_ext (by kernel_rfl) (by kernel_rfl) ?_
    repeat (go_big_quiet_step ((go_at_call 186; exact Calls.ext_of (first_any _ _ _))))
    refine wpQuiet_nil ?_
    rintro _ ⟨d1, rfl⟩
    go_wp2
    go_ret
    exact ⟨rfl, ext_mk ((((Gr.refl _).alloc _).alloc _).ext d1)⟩

theorem has_is {l b a : Int} {v : Bool} (h : hasB l b a = v) (w : World) :
    Calls Tryz.prog 63 #[pfx l b, .int .i64 a] w fun e w' => e = .returned (.bool v) ∧ ∃ d : Ext w, w' = d.out := by subst h; exact has_any l b a w
theorem less_is {l b m c : Int} {v : Bool} (h : lessB l b m c = v) (w : World) :
    Calls Tryz.prog 152 #[pfx l b, pfx m c] w fun e w' => e = .returned (.bool v) ∧ ∃ d : Ext w, w' = d.out := by subst h; exact less_any l b m c w

theorem isp_any (l b : Int) (w : World) :
    Calls Tryz.prog 104 #[pfx l b] w fun e w' => e = .returned (.bool (okB l b)) ∧ ∃ d : Ext w, w' = d.out := by
  by_cases h1 : l < 0
  · have hd : decide (l < 0) = true := by simp; omega
    have ho : okB l b = false := by unfold okB; simp; omega
    rw [ho]; clear ho
    go_enter Tryz.func104, Tryz.ntmps104
    go_wp2
    go_ret
    exact ⟨rfl, ext_mk ((Gr.refl _).alloc _)⟩
  have hd1 : decide (l < 0) = false := by simp; omega
  by_cases h2 : 8 < l
  · have hd2 : decide (8 < l) = true := by simp; omega
    have ho : okB l b = false := by unfold okB; simp; omega
    rw [ho]; clear ho
    go_enter Tryz.func104, Tryz.ntmps104
    go_wp2
    go_ret
    exact ⟨rfl, ext_mk ((Gr.refl _).alloc _)⟩
  have hd2 : decide (8 < l) = false := by simp; omega
  by_cases h3 : b < 0
  · have hd3 : decide (b < 0) = true := by simp; omega
    have ho : okB l b = false := by unfold okB; simp; omega
    rw [ho]; clear ho
    go_enter Tryz.func104, Tryz.ntmps104
    go_wp2
    go_ret
    exact ⟨rfl, ext_mk ((Gr.refl _).alloc _)⟩
  have hd3 : decide (b < 0) = false := by simp; omega
  have ho : okB l b = decide (b < 2 ^ l.toNat) := by unfold okB; congr 1; simp only [eq_iff_iff]; omega
  rw [ho]; clear ho
  go_enter Tryz.func104, Tryz.ntmps104
  go_wp2
  go_loop [3, 4] (fun n i => ∃ (k : Nat) (N : Int), (k : Int) ≤ l ∧ Hid (N = 2 ^ k) ∧ n = .int .i64 N ∧ i = .int .i64 k) (fun _ i => (l - intOf i).toNat)
  case atStart => exact ⟨0, 1, by simp; omega, (rfl : (1 : Int) = 2 ^ 0), rfl, rfl⟩
  case round =>
    obtain ⟨k, N, hk, HN, rfl, rfl⟩ := hrel
    have hb := pw_bd k (by omega)
    simp only [Int.toNat_natCast] at hb
    rw [← HN.out] at hb
    obtain ⟨p1, p2⟩ := hb
    by_cases hlt : (k : Int) < l
    · go_wp2
      go_round
      case rel => exact ⟨k + 1, N * 2, by omega, (by show N * 2 = _; rw [HN.out, Int.pow_succ]), by go_num, by go_num⟩
      case measure => simp [intOf]; omega
    · have e : k = l.toNat := by omega
      have HE := hide e
      clear e
      go_wp2
      go_ret
      exact ⟨ret_bool (by rw [HN.out, HE.out]), ext_mk ((Gr.refl _).alloc _)⟩

theorem isp_is {l b : Int} {v : Bool} (h : okB l b = v) (w : World) :
    Calls Tryz.prog 104 #[pfx l b] w fun e w' => e = .returned (.bool v) ∧ ∃ d : Ext w, w' = d.out := by subst h; exact isp_any l b w

theorem rhas_any (l b a : Int) (w : World) :
    Calls Tryz.prog 177 #[pfx l b, .int .i64 a] w fun e w' => e = .returned (.bool (hasB l b a)) ∧ ∃ d : Ext w, w' = d.out := by
  cases ho : okB l b
  · have hf : hasB l b a = false := by simp [hasB, ho]
    rw [hf]; clear hf
    go_enter Tryz.func177, Tryz.ntmps177
    go_wp2_with (go_at_call 104; refine (isp_is ho _).mono ?_; rintro e _ ⟨rfl, d1, rfl⟩)
    go_ret
    exact ⟨rfl, ext_mk (((Gr.refl _).alloc _).ext d1)⟩
  by_cases a0 : a < 0
  · have hd : decide (a < 0) = true := by simp; omega
    have hf : hasB l b a = false := by unfold hasB; simp; omega
    rw [hf]; clear hf
    go_enter Tryz.func177, Tryz.ntmps177
    go_wp2_with (go_at_call 104; refine (isp_is ho _).mono ?_; rintro e _ ⟨rfl, d1, rfl⟩)
    go_ret
    exact ⟨rfl, ext_mk (((Gr.refl _).alloc _).ext d1)⟩
  have hd1 : decide (a < 0) = false := by simp; omega
  by_cases a1 : 256 ≤ a
  · have hd : decide (256 ≤ a) = true := by simp; omega
    have hf : hasB l b a = false := by unfold hasB; simp; omega
    rw [hf]; clear hf
    go_enter Tryz.func177, Tryz.ntmps177
    go_wp2_with (go_at_call 104; refine (isp_is ho _).mono ?_; rintro e _ ⟨rfl, d1, rfl⟩)
    go_ret
    exact ⟨rfl, ext_mk (((Gr.refl _).alloc _).ext d1)⟩
  have hd2 : decide (256 ≤ a) = false := by simp; omega
  have hf : hasB l b a = (a / 2 ^ (8 - l).toNat == b) := by
    unfold hasB; rw [Bool.eq_iff_iff]; simp [ho]; omega
  rw [hf]; clear hf
  obtain ⟨l0, l8, hb, hl, g1, g2⟩ := ok_pows ho
  clear hl g1 g2
  go_enter Tryz.func177, Tryz.ntmps177
  go_wp2_with (go_at_call 104; refine (isp_is ho _).mono ?_; rintro e _ ⟨rfl, d1, rfl⟩)
  go_loop [1, 5] (fun x n => ∃ (k : Nat) (A : Int), (k : Int) ≤ 8 - l ∧ Hid (A = a / 2 ^ k) ∧ 0 ≤ A ∧ A < 256 ∧ x = .int .i64 A ∧ n = .int .i64 (8 - k)) (fun _ n => (intOf n - l).toNat)
  case atStart => exact ⟨0, a, by simp; omega, (by show a = a / 2 ^ 0; simp), by omega, by omega, rfl, rfl⟩
  case round =>
    obtain ⟨k, A, hk, HA, A0, A1, rfl, rfl⟩ := hrel
    by_cases hlt : (k : Int) < 8 - l
    · go_wp2
      go_round
      case rel => exact ⟨k + 1, A / 2, by omega, (by show A / 2 = _; rw [HA.out, div_pow_succ]), by omega, by omega, rfl, by go_num⟩
      case measure => simp [intOf]; omega
    · have e : k = (8 - l).toNat := by omega
      have HE := hide e
      clear e
      go_wp2
      go_ret
      exact ⟨ret_bool (by rw [HA.out, HE.out]), ext_mk (((Gr.refl _).alloc _).ext d1)⟩

theorem rhas_is {l b a : Int} {v : Bool} (h : hasB l b a = v) (w : World) :
    Calls Tryz.prog 177 #[pfx l b, .int .i64 a] w fun e w' => e = .returned (.bool v) ∧ ∃ d : Ext w, w' = d.out := by subst h; exact rhas_any l b a w


theorem first_found {l b : Int} {k : Nat} (h : hasB l b k = true) (hn : ∀ j : Nat, j < k → hasB l b j = false) : (k : Int) = firstI l b := by
  have ok := (has_iff.1 h).1
  obtain ⟨f0, fl, l1, _⟩ := @span_has l b 0 ok
  have hk := (@span_has l b k ok).2.2.2.1 h
  by_cases e : firstI l b < k
  · have := hn (firstI l b).toNat (by omega)
    have h2 := (@span_has l b ((firstI l b).toNat : Nat) ok).2.2.2.2 (by omega)
    rw [h2] at this; cases this
  · omega
theorem first_none {l b : Int} (hn : ∀ j : Nat, j < 256 → hasB l b j = false) : firstI l b = -1 := by
  cases ok : okB l b
  · simp [firstI, ok]
  · obtain ⟨f0, fl, l1, _⟩ := @span_has l b 0 ok
    have := hn (firstI l b).toNat (by omega)
    have h2 := (@span_has l b ((firstI l b).toNat : Nat) ok).2.2.2.2 (by omega)
    rw [h2] at this; cases this
set_option maxRecDepth 100000 in
theorem rfirst_any (l b : Int) (w : World) :
    Calls Tryz.prog 146 #[pfx l b] w fun e w' => e = .returned (.int .i64 (firstI l b)) ∧ ∃ d : Ext w, w' = d.out := by
  go_enter Tryz.func146, Tryz.ntmps146
  go_wp2
  go_loopw [3] (fun i wr => ∃ k : Nat, k ≤ 256 ∧ i = .int .i64 k ∧ Hid (∀ j : Nat, j < k → hasB l b j = false) ∧ Gr (w.alloc (.cells #[.int .i64 l, .int .i64 b] 52)) wr) (fun i _ => 256 - (intOf i).toNat)
  case atStart => exact ⟨0, by omega, rfl, (fun j hj => by omega), Gr.refl _⟩
  case round =>
    obtain ⟨k, hk, rfl, HN, hgr⟩ := hrel
    obtain ⟨dr, rfl⟩ := ext_mk hgr
    clear hgr
    by_cases hlt : k < 256
    · cases hh : hasB l b k
      · have HH := hide hh
        clear hh
        go_wp2_with (go_at_call 177; with_reducible refine (Calls.ext_of (rhas_is HH.out _)).mono ?_; rintro e _ ⟨rfl, d1, rfl⟩)
        go_roundw
        case rel => exact ⟨k + 1, by omega, by go_num, (fun j hj => by rcases Nat.lt_or_eq_of_le (Nat.le_of_lt_succ hj) with h | h; exact HN.out j h; rw [h]; exact HH.out), d1.gr⟩
        case measure => simp [intOf]; omega
      · have HH := hide hh
        clear hh
        go_wp2_with (go_at_call 177; with_reducible refine (Calls.ext_of (rhas_is HH.out _)).mono ?_; rintro e _ ⟨rfl, d1, rfl⟩)
        go_ret
        exact ⟨ret_int (first_found HH.out HN.out), ext_mk (((Gr.refl _).alloc _).ext d1)⟩
    · have e : k = 256 := by omega
      have HE := hide e
      clear e
      go_wp2
      go_ret
      exact ⟨ret_int (first_none (fun j hj => HN.out j (by rw [HE.out]; exact hj))).symm, ext_mk (((Gr.refl _).alloc _).ext dr)⟩

theorem rless_any (l b m c : Int) (w : World) :
    Calls Tryz.prog 107 #[pfx l b, pfx m c] w fun e w' => e = .returned (.bool (lessB l b m c)) ∧ ∃ d : Ext w, w' = d.out := by
  by_cases h : firstI l b = firstI m c
  · have hb : (firstI l b != firstI m c) = false := by simpa using h
    have ho : lessB l b m c = decide (l < m) := by simp [lessB, h]
    rw [ho]; clear ho h
    go_enter Tryz.func107, Tryz.ntmps107
    go_wp2
    refine wp_region_ext (by kernel_rfl) (by kernel_rfl) ?_
    repeat (go_big_quiet_step ((go_at_call 146; exact Calls.ext_of (rfirst_any _ _ _))))
    refine wpQuiet_nil ?_
    rintro _ ⟨d1, rfl⟩
    go_wp2
    go_ret
    exact ⟨rfl, ext_mk ((((Gr.refl _).alloc _).alloc _).ext d1)⟩
  · have hb : (firstI l b != firstI m c) = true := by simpa using h
    have ho : lessB l b m c = decide (firstI l b < firstI m c) := by simp [lessB, h]
    rw [ho]; clear ho h
    go_enter Tryz.func107, Tryz.ntmps107
    go_wp2
    refine wp_region_ext (by kernel_rfl) (by kernel_rfl) ?_
    repeat (go_big_quiet_step ((go_at_call 146; exact Calls.ext_of (rfirst_any _ _ _))))
    refine wpQuiet_nil ?_
    rintro _ ⟨d1, rfl⟩
    go_wp2
    go_ret
    exact ⟨rfl, ext_mk ((((Gr.refl _).alloc _).alloc _).ext d1)⟩


theorem rless_is {l b m c : Int} {v : Bool} (h : lessB l b m c = v) (w : World) :
    Calls Tryz.prog 107 #[pfx l b, pfx m c] w fun e w' => e = .returned (.bool v) ∧ ∃ d : Ext w, w' = d.out := by subst h; exact rless_any l b m c w

end Go.Proofs.YtfcknkanbcndjagGreatDoor
