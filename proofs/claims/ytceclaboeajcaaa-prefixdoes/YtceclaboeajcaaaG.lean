/- CONTRACTS OF package handpostref: First, Last, Less, BitsOf, Text. -/
import Derived.Test.YtceclaboeajcaaaF
namespace Go.Proofs.Ytceclaboeajcaaa
open Go.RowKit
attribute [local go_sem] Ext.all Ext.cell Ext.frozen Ext.lt Ext.lt1 Ext.lt2 Ext.ne Ext.ne'

theorem first_found {l b : Int} {k : Nat} (h : hasB l b k = true) (hn : ∀ j : Nat, j < k → hasB l b j = false) : (k : Int) = firstI l b := by
  have ok := (has_iff.1 h).1
  obtain ⟨f0, fl, l1, _⟩ := @span_has l b 0 ok
  have hk := (@span_has l b k ok).2.2.2.1 h
  by_cases e : firstI l b < k
  · have := hn (firstI l b).toNat (by omega)
    have h2 := (@span_has l b ((firstI l b).toNat : Nat) ok).2.2.2.2 (by omega)
    rw [h2] at this; cases this
  · omega
theorem first_none {l b : Int} (hn : ∀ j : Nat, j < 256 → hasB l b j = false) : firstI l b = -1 := by
  cases ok : okB l b
  · simp [firstI, ok]
  · obtain ⟨f0, fl, l1, _⟩ := @span_has l b 0 ok
    have := hn (firstI l b).toNat (by omega)
    have h2 := (@span_has l b ((firstI l b).toNat : Nat) ok).2.2.2.2 (by omega)
    rw [h2] at this; cases this
theorem last_found {l b : Int} {k : Nat} (h : hasB l b k = true) (hn : ∀ j : Nat, k < j → j < 256 → hasB l b j = false) : (k : Int) = lastI l b := by
  have ok := (has_iff.1 h).1
  obtain ⟨f0, fl, l1, _⟩ := @span_has l b 0 ok
  have hk := (@span_has l b k ok).2.2.2.1 h
  by_cases e : k < lastI l b
  · have := hn (lastI l b).toNat (by omega) (by omega)
    have h2 := (@span_has l b ((lastI l b).toNat : Nat) ok).2.2.2.2 (by omega)
    rw [h2] at this; cases this
  · omega
theorem last_none {l b : Int} (hn : ∀ j : Nat, j < 256 → hasB l b j = false) : lastI l b = -1 := by
  cases ok : okB l b
  · simp [lastI, ok]
  · obtain ⟨f0, fl, l1, _⟩ := @span_has l b 0 ok
    have := hn (firstI l b).toNat (by omega)
    have h2 := (@span_has l b ((firstI l b).toNat : Nat) ok).2.2.2.2 (by omega)
    rw [h2] at this; cases this

set_option maxRecDepth 100000 in
theorem rfirst_any (l b : Int) (w : World) :
    Calls Try.prog 15 #[pfx l b] w fun e w' => e = .returned (.int .i64 (firstI l b)) ∧ ∃ d : Ext w, w' = d.out := by
  go_enter Try.func15, Try.ntmps15
  go_wp2
  go_loopw [3] (fun i wr => ∃ k : Nat, k ≤ 256 ∧ i = .int .i64 k ∧ Hid (∀ j : Nat, j < k → hasB l b j = false) ∧ Gr (w.alloc (.cells #[.int .i64 l, .int .i64 b] 23)) wr) (fun i _ => 256 - (intOf i).toNat)
  case atStart => exact ⟨0, by omega, rfl, (fun j hj => by omega), Gr.refl _⟩
  case round =>
    obtain ⟨k, hk, rfl, HN, hgr⟩ := hrel
    obtain ⟨dr, rfl⟩ := ext_mk hgr
    clear hgr
    by_cases hlt : k < 256
    · cases hh : hasB l b k
      · have HH := hide hh
        clear hh
        go_wp2_with (go_at_call 19; with_reducible refine (Calls.ext_of (rhas_is HH.out _)).mono ?_; rintro e _ ⟨rfl, d1, rfl⟩)
        go_roundw
        case rel => exact ⟨k + 1, by omega, by go_num, (fun j hj => by rcases Nat.lt_or_eq_of_le (Nat.le_of_lt_succ hj) with h | h; exact HN.out j h; rw [h]; exact HH.out), d1.gr⟩
        case measure => simp [intOf]; omega
      · have HH := hide hh
        clear hh
        go_wp2_with (go_at_call 19; with_reducible refine (Calls.ext_of (rhas_is HH.out _)).mono ?_; rintro e _ ⟨rfl, d1, rfl⟩)
        go_ret
        exact ⟨ret_int (first_found HH.out HN.out), ext_mk (((Gr.refl _).alloc _).ext d1)⟩
    · have e : k = 256 := by omega
      have HE := hide e
      clear e
      go_wp2
      go_ret
      exact ⟨ret_int (first_none (fun j hj => HN.out j (by rw [HE.out]; exact hj))).symm, ext_mk (((Gr.refl _).alloc _).ext dr)⟩

set_option maxRecDepth 100000 in
theorem rlast_any (l b : Int) (w : World) :
    Calls Try.prog 17 #[pfx l b] w fun e w' => e = .returned (.int .i64 (lastI l b)) ∧ ∃ d : Ext w, w' = d.out := by
  go_enter Try.func17, Try.ntmps17
  go_wp2
  go_loopw [3] (fun i wr => ∃ (k : Nat) (z : Int), k ≤ 256 ∧ z ≤ (k : Int) - 1 ∧ (k : Int) - 1 ≤ z ∧ i = .int .i64 z ∧ Hid (∀ j : Nat, k ≤ j → j < 256 → hasB l b j = false) ∧ Gr (w.alloc (.cells #[.int .i64 l, .int .i64 b] 23)) wr) (fun i _ => (intOf i + 1).toNat)
  case atStart => exact ⟨256, 255, by omega, by omega, by omega, rfl, (fun j hj hj' => by omega), Gr.refl _⟩
  case round =>
    obtain ⟨k, z, hk, z1, z2, rfl, HN, hgr⟩ := hrel
    obtain ⟨dr, rfl⟩ := ext_mk hgr
    clear hgr
    cases k with
    | succ k =>
      have hz : z = ((k : Nat) : Int) := by omega
      have HZ := hide hz
      have hz0 : 0 ≤ z := by omega
      clear hz
      cases hh : hasB l b z
      · have HH := hide hh
        clear hh
        go_wp2_with (go_at_call 19; with_reducible refine (Calls.ext_of (rhas_is HH.out _)).mono ?_; rintro e _ ⟨rfl, d1, rfl⟩)
        go_roundw
        case rel => exact ⟨k, z - 1, by omega, by omega, by omega, rfl, (fun j hj hj' => by rcases Nat.lt_or_eq_of_le hj with h | h; exact HN.out j h hj'; rw [← h, ← HZ.out]; exact HH.out), d1.gr⟩
        case measure => simp [intOf]; omega
      · have HH := hide hh
        clear hh
        go_wp2_with (go_at_call 19; with_reducible refine (Calls.ext_of (rhas_is HH.out _)).mono ?_; rintro e _ ⟨rfl, d1, rfl⟩)
        go_ret
        exact ⟨ret_int (by rw [HZ.out]; exact last_found (by rw [← HZ.out]; exact HH.out) (fun j hj hj' => HN.out j hj hj')), ext_mk (((Gr.refl _).alloc _).ext d1)⟩
    | zero =>
      have hz0 : ¬ 0 ≤ z := by omega
      go_wp2
      go_ret
      exact ⟨ret_int (last_none (fun j hj => HN.out j (Nat.zero_le _) hj)).symm, ext_mk (((Gr.refl _).alloc _).ext dr)⟩

theorem rless_any (l b m c : Int) (w : World) :
    Calls Try.prog 21 #[pfx l b, pfx m c] w fun e w' => e = .returned (.bool (lessB l b m c)) ∧ ∃ d : Ext w, w' = d.out := by
  by_cases h : firstI l b = firstI m c
  · have hb : (firstI l b != firstI m c) = false := by simpa using h
    have ho : lessB l b m c = decide (l < m) := by simp [lessB, h]
    rw [ho]; clear ho h
    go_enter Try.func21, Try.ntmps21
    go_wp2
    refine wp_region_ext (by kernel_rfl) (by kernel_rfl) ?_
    repeat (go_big_quiet_step ((go_at_call 15; exact Calls.ext_of (rfirst_any _ _ _))))
    refine wpQuiet_nil ?_
    rintro _ ⟨d1, rfl⟩
    go_wp2
    go_ret
    exact ⟨rfl, ext_mk ((((Gr.refl _).alloc _).alloc _).ext d1)⟩
  · have hb : (firstI l b != firstI m c) = true := by simpa using h
    have ho : lessB l b m c = decide (firstI l b < firstI m c) := by simp [lessB, h]
    rw [ho]; clear ho h
    go_enter Try.func21, Try.ntmps21
    go_wp2
    refine wp_region_ext (by kernel_rfl) (by kernel_rfl) ?_
    repeat (go_big_quiet_step ((go_at_call 15; exact Calls.ext_of (rfirst_any _ _ _))))
    refine wpQuiet_nil ?_
    rintro _ ⟨d1, rfl⟩
    go_wp2
    go_ret
    exact ⟨rfl, ext_mk ((((Gr.refl _).alloc _).alloc _).ext d1)⟩

/-- One bit more, ahead. -/
theorem bitsL_cons : ∀ (k : Nat) (b : Int), bitsL (k + 1) b = (if b / 2 ^ k % 2 = 1 then (49 : UInt8) else 48) :: bitsL k b
  | 0, b => by simp [bitsL]
  | k + 1, b => by
    rw [bitsL, bitsL_cons k (b / 2)]
    have e : b / 2 / 2 ^ k = b / 2 ^ (k + 1) := by
      rw [Int.ediv_ediv_of_nonneg (by decide), Int.pow_succ, Int.mul_comm]
    rw [e, List.cons_append]
    rfl

/-- Two texts, one behind the other. -/
theorem cat (a t : List UInt8) : (⟨a.toArray⟩ ++ ⟨t.toArray⟩ : ByteArray) = ⟨(a ++ t).toArray⟩ := by
  apply ByteArray.ext
  simp

set_option maxHeartbeats 800000 in
theorem bitsOf_any (n : Nat) (b : Int) (hn : n ≤ 8) (hb : 0 ≤ b) (hb2 : b < 1024) (w : World) :
    Calls Try.prog 27 #[.int .i64 b, .int .i64 n] w fun e w' => e = .returned (.string ⟨(bitsL n b).toArray⟩) ∧ w' = w := by
  go_enter Try.func27, Try.ntmps27
  go_wp2
  go_loop [0, 5, 6] (fun x s i => ∃ (k : Nat) (A : Int) (t : List UInt8), k ≤ n ∧ Hid (A = b / 2 ^ k) ∧ 0 ≤ A ∧ A < 1024 ∧ Hid (t = bitsL k b) ∧ t.length ≤ 8 ∧ x = .int .i64 A ∧ s = .string ⟨t.toArray⟩ ∧ i = .int .i64 k) (fun _ _ i => n - (intOf i).toNat)
  case atStart => exact ⟨0, b, [], by omega, (by show b = b / 2 ^ 0; simp), hb, hb2, rfl, by simp, rfl, rfl, rfl⟩
  case round =>
    obtain ⟨k, A, t, hk, HA, A0, A1, HT, tl, rfl, rfl, rfl⟩ := hrel
    by_cases hlt : k < n
    · by_cases hbit : A % 2 = 1
      · have HB : Hid ((if A % 2 = 1 then (49 : UInt8) else 48) = 49) := if_pos hbit
        go_wp2
        go_round
        case rel => exact ⟨k + 1, A / 2, 49 :: t, by omega, (by show A / 2 = _; rw [HA.out, div_pow_succ]), by omega, by omega, (by show _ = bitsL (k + 1) b; rw [bitsL_cons, ← HA.out, HT.out, HB.out]), (by have := bitsL_length k b; rw [← HT.out] at this; simp; omega), rfl, congrArg Value.string (cat [49] t), by go_num⟩
        case measure => simp [intOf]; omega
      · have HB : Hid ((if A % 2 = 1 then (49 : UInt8) else 48) = 48) := if_neg hbit
        go_wp2
        go_round
        case rel => exact ⟨k + 1, A / 2, 48 :: t, by omega, (by show A / 2 = _; rw [HA.out, div_pow_succ]), by omega, by omega, (by show _ = bitsL (k + 1) b; rw [bitsL_cons, ← HA.out, HT.out, HB.out]), (by have := bitsL_length k b; rw [← HT.out] at this; simp; omega), rfl, congrArg Value.string (cat [48] t), by go_num⟩
        case measure => simp [intOf]; omega
    · have e : k = n := by omega
      have HE := hide e
      clear e
      go_wp2
      go_ret
      exact ⟨by rw [← HE.out, ← HT.out]; rfl, rfl⟩

theorem rtext_any (l b : Int) (w : World) :
    Calls Try.prog 23 #[pfx l b] w fun e w' => e = .returned (.string ⟨(textL l b).toArray⟩) ∧ ∃ d : Ext w, w' = d.out := by
  cases ho : okB l b
  · have ht : textL l b = [] := by simp [textL, ho]
    rw [ht]; clear ht
    go_enter Try.func23, Try.ntmps23
    go_wp2_with (go_at_call 12; refine (isp_is ho _).mono ?_; rintro e _ ⟨rfl, d1, rfl⟩)
    go_ret
    exact ⟨rfl, ext_mk (((Gr.refl _).alloc _).ext d1)⟩
  · obtain ⟨l0, l8, hb, hl, g1, g2⟩ := ok_pows ho
    obtain ⟨p1, p2⟩ := pw_bd l l8
    obtain ⟨n, rfl⟩ := Int.eq_ofNat_of_zero_le l0
    have hb2 : b < 1024 := by omega
    have hlen := bitsL_length n b
    have HL : Hid _ := hlen
    have hlen2 : (bitsL n b).length ≤ 8 := by omega
    clear hlen hl g1 g2 p1 p2
    by_cases h8 : (n : Int) < 8
    · have ht : textL n b = bitsL n b ++ [42] := by simp [textL, ho]; omega
      rw [ht]; clear ht
      go_enter Try.func23, Try.ntmps23
      go_wp2_with (first
        | (go_at_call 12; refine (isp_is ho _).mono ?_; rintro e _ ⟨rfl, d1, rfl⟩)
        | (go_at_call 27; refine (bitsOf_any n b (by omega) hb hb2 _).mono ?_; rintro e w' ⟨rfl, hw⟩; subst hw))
      go_ret
      exact ⟨by rw [← cat]; rfl, ext_mk (((Gr.refl _).alloc _).ext d1)⟩
    · have ht : textL n b = bitsL n b := by simp [textL, ho]; omega
      rw [ht]; clear ht
      go_enter Try.func23, Try.ntmps23
      go_wp2_with (first
        | (go_at_call 12; refine (isp_is ho _).mono ?_; rintro e _ ⟨rfl, d1, rfl⟩)
        | (go_at_call 27; refine (bitsOf_any n b (by omega) hb hb2 _).mono ?_; rintro e w' ⟨rfl, hw⟩; subst hw))
      go_ret
      exact ⟨rfl, ext_mk (((Gr.refl _).alloc _).ext d1)⟩

end Go.Proofs.Ytceclaboeajcaaa
