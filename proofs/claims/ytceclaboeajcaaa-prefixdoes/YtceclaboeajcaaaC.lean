/- CONTRACT OF package prefix: Text. -/
import Derived.Test.YtceclaboeajcaaaB
namespace Go.Proofs.Ytceclaboeajcaaa
open Go.RowKit
attribute [local go_sem] Ext.all Ext.cell Ext.frozen Ext.lt Ext.lt1 Ext.lt2 Ext.ne Ext.ne'

theorem Try.info5 : (Try.prog.info? 5).map (fun i => (i.zero, i.size, i.bytes)) = some (some (.int .u8 0), 1, 1) := by kernel_rfl

theorem and_1 (x : Int) (h0 : 0 ≤ x) (h : x < 256) : bits .and .i64 x 1 = x % 2 := by
  have : ∀ n : Fin 256, bits .and .i64 (n.val : Int) 1 = (n.val : Int) % 2 := by decide +kernel
  have h1 := this ⟨x.toNat, by omega⟩
  simpa [Int.toNat_of_nonneg h0] using h1

theorem div_bd (b : Int) (k : Nat) (h0 : 0 ≤ b) (h : b < 256) : 0 ≤ b / 2 ^ k ∧ b / 2 ^ k < 256 := by
  have hp : (0 : Int) < 2 ^ k := Int.pow_pos (by decide)
  exact ⟨Int.ediv_nonneg h0 (Int.le_of_lt hp), Int.lt_of_le_of_lt (Int.ediv_le_self _ h0) h⟩

abbrev ub (u : UInt8) : Value := .int .u8 u.toNat

/-- 'string(b)' of bytes that the call itself has gathered. -/
theorem own_string {w : World} {base n : Nat} {v : Value} {l : List UInt8} (h : w.ownsRow base 5 1 v n (l.map ub)) :
    (convert 43 9 v).run Try.prog w = .ok (.string ⟨l.toArray⟩) w := by
  obtain ⟨hlen, h | ⟨g, cap, cur, rfl, hg, hh, hn, hc, hs, ht⟩⟩ := h
  · obtain ⟨rfl, rfl⟩ := h
    have : l = [] := by simpa using hlen
    subst this
    rw [run_convert_bytes_string w 43 9 5 none 0 0 Try.underlying43 Try.underlying5 Try.underlying9]; rfl
  · have hl : l.length = n := by simpa using hlen
    subst hl
    refine run_convert_bytes_back (P := Try.prog) w 43 9 5 ⟨g, 0, none⟩ cap l Try.underlying43 Try.underlying5 Try.underlying9 (fun j hj => ?_)
    have hc : w.cell? ⟨g, j, none⟩ = (l.map ub)[j]? := by
      have hown : w.ownsRow base 5 1 (.slice (some ⟨g, 0, none⟩) l.length cap) l.length (l.map ub) := ⟨hlen, .inr ⟨g, cap, cur, rfl, hg, hh, hn, hc, hs, ht⟩⟩
      exact hown.cellAt j (by omega)
    rw [Addr.add_lit, Nat.zero_add, hc]
    simp [hj]

theorem text_no (l b : Int) (ho : okB l b = false) (w : World) :
    Calls Try.prog 22 #[pfx l b] w fun e w' => e = .returned (.string ⟨#[]⟩) ∧ ∃ d : Ext w, w' = d.out := by
  go_enter Try.func22, Try.ntmps22
  go_wp2_with (go_at_call 11; refine (check_is ho _).mono ?_; rintro e _ ⟨rfl, d1, rfl⟩)
  go_ret
  exact ⟨rfl, ext_mk (((Gr.refl _).alloc _).ext d1)⟩

set_option maxHeartbeats 800000 in
theorem text_yes (n : Nat) (b : Int) (ho : okB n b = true) (w : World) :
    Calls Try.prog 22 #[pfx n b] w fun e w' => e = .returned (.string ⟨(textL n b).toArray⟩) ∧ ∃ d : Ext w, w' = d.out := by
  obtain ⟨h0, h8, hb, hl, g1, g2⟩ := ok_pows ho
  obtain ⟨p1, p2⟩ := pw_bd n (by omega)
  have hb8 : b < 256 := by omega
  obtain ⟨i0, hi, hz0, hz1, hz2⟩ := info_parts Try.info5
  go_enter Try.func22, Try.ntmps22
  go_wp2_with (first | (go_at_call 11; refine (check_is ho _).mono ?_; rintro e _ ⟨rfl, d1, rfl⟩) | (at_make; refine wpList_make_own _ rfl _ _ 43 rfl d1.out.heap.size 5 i0 (.int .u8 0) 1 Try.underlying43 hi hz0 hz1 _ _ _ 8 rfl rfl rfl ?b2 ?b3 (Nat.le_refl _) ?_))
  case b2 => rw [hz2]; decide
  case b3 => unfold maxLen; decide
  intro w0 hown0 hgrow0
  have gr0 : Gr d1.out w0 := (Gr.refl _).grown hgrow0 (fun k h => by cases h)
  obtain ⟨d0, rfl⟩ := ext_mk gr0
  clear hgrow0 gr0
  go_wp2
  go_loopw [3, 4] (fun v i wr => ∃ (m : Nat) (j : Int), (m : Int) - 1 ≤ j ∧ j ≤ (m : Int) - 1 ∧ m ≤ n ∧ i = .int .i64 j ∧ wr.ownsRow d1.out.heap.size 5 1 v (n - m) ((bitsL (n - m) (b / 2 ^ m)).map ub) ∧ Gr d1.out wr) (fun _ i _ => (intOf i + 1).toNat)
  case atStart => exact ⟨n, n - 1, by omega, by omega, by omega, rfl, by simpa [bitsL] using hown0, d0.gr⟩
  case round =>
    clear hown0
    obtain ⟨m, j, j1, j2, hm, rfl, hown, hgr⟩ := hrel
    obtain ⟨dr, rfl⟩ := ext_mk hgr
    clear hgr d0
    cases m with
    | zero =>
      have hj : ¬ 0 ≤ j := by omega
      by_cases h7 : n < 8
      · go_wp2_with (at_builtin; refine wpList_append_own _ rfl (.tmp 29) (.tmp 30) 43 rfl d1.out.heap.size 5 i0 (.int .u8 0) 1 1 Try.underlying43 hi hz0 hz1 hz2 rfl (by decide) _ _ _ rfl (hown.alloc _) ⟨dr.out.heap.size, 0, none⟩ 1 1 [.int .u8 42] rfl rfl (cell_one_new _ _ _) ?c2 ?c3 ?c4 ?c5 ?_)
        case c2 => first | rfl | (intro u hu; simp at hu; subst hu; rfl)
        case c3 => unfold maxLen; omega
        case c4 => omega
        case c5 => have := Below.size dr.gr; simp; omega
        intro v' w1 hown' hgrow _
        have hl := hown.lt
        have gr1 : Gr d1.out w1 := (dr.gr.alloc _).grown hgrow (fun k hk => (hl k hk).1)
        have hcv := own_string (l := bitsL n b ++ [42]) (w := w1) (by simpa [ub] using hown')
        have ht : textL n b = bitsL n b ++ [42] := by simp [textL, ho]; omega
        have HT : Hid _ := ht
        obtain ⟨d2, rfl⟩ := ext_mk gr1
        clear hown' hgrow hown hl gr1 ht
        go_wp2
        go_ret
        exact ⟨by rw [HT.out]; rfl, ext_mk ((((Gr.refl _).alloc _).ext d1).ext d2)⟩
      · have ht : textL n b = bitsL n b := by simp [textL, ho]; omega
        have HT : Hid _ := ht
        have hcv := own_string (l := bitsL n b) (w := dr.out) (by simpa [ub] using hown)
        clear hown ht
        go_wp2
        go_ret
        exact ⟨by rw [HT.out]; rfl, ext_mk ((((Gr.refl _).alloc _).ext d1).ext dr)⟩
    | succ m =>
      have hj : 0 ≤ j := by omega
      have hjm : j.toNat = m := by omega
      obtain ⟨q0, q1⟩ := div_bd b j.toNat hb hb8
      have hand := and_1 _ q0 q1
      by_cases hbit : b / 2 ^ m % 2 = 1
      · have hand1 : bits .and .i64 (b / 2 ^ j.toNat) 1 = 1 := by rw [hand, hjm]; exact hbit
        have hnx := bitsL_next n m b 49 (by omega) (by simp [hbit])
        have HN : Hid _ := hnx
        clear hand hjm hbit hnx
        go_wp2_with (at_builtin; refine wpList_append_own _ rfl (.tmp 16) (.tmp 24) 43 rfl d1.out.heap.size 5 i0 (.int .u8 0) 1 1 Try.underlying43 hi hz0 hz1 hz2 rfl (by decide) _ _ _ rfl (hown.alloc _) ⟨dr.out.heap.size, 0, none⟩ 1 1 [.int .u8 49] rfl rfl (cell_one_new _ _ _) ?e2 ?e3 ?e4 ?e5 ?_)
        case e2 => first | rfl | (intro u hu; simp at hu; subst hu; rfl)
        case e3 => unfold maxLen; omega
        case e4 => omega
        case e5 => have := Below.size dr.gr; simp; omega
        intro v' w1 hown' hgrow _
        have hl := hown.lt
        have gr1 : Gr d1.out w1 := (dr.gr.alloc _).grown hgrow (fun k hk => (hl k hk).1)
        have hown2 : w1.ownsRow d1.out.heap.size 5 1 v' (n - m) ((bitsL (n - m) (b / 2 ^ m)).map ub) := by
          rw [HN.out, show n - m = n - (m + 1) + 1 by omega]; simpa [ub] using hown'
        obtain ⟨d2, rfl⟩ := ext_mk gr1
        clear hown' hgrow hown hl gr1
        go_wp2
        go_roundw
        case rel => exact ⟨m, j - 1, by omega, by omega, by omega, rfl, hown2, d2.gr⟩
        case measure => simp [intOf]; omega
      · have hand1 : bits .and .i64 (b / 2 ^ j.toNat) 1 = 0 := by rw [hand, hjm]; omega
        have hnx := bitsL_next n m b 48 (by omega) (by simp [hbit])
        have HN : Hid _ := hnx
        clear hand hjm hbit hnx
        go_wp2_with (at_builtin; refine wpList_append_own _ rfl (.tmp 16) (.tmp 24) 43 rfl d1.out.heap.size 5 i0 (.int .u8 0) 1 1 Try.underlying43 hi hz0 hz1 hz2 rfl (by decide) _ _ _ rfl (hown.alloc _) ⟨dr.out.heap.size, 0, none⟩ 1 1 [.int .u8 48] rfl rfl (cell_one_new _ _ _) ?g2 ?g3 ?g4 ?g5 ?_)
        case g2 => first | rfl | (intro u hu; simp at hu; subst hu; rfl)
        case g3 => unfold maxLen; omega
        case g4 => omega
        case g5 => have := Below.size dr.gr; simp; omega
        intro v' w1 hown' hgrow _
        have hl := hown.lt
        have gr1 : Gr d1.out w1 := (dr.gr.alloc _).grown hgrow (fun k hk => (hl k hk).1)
        have hown2 : w1.ownsRow d1.out.heap.size 5 1 v' (n - m) ((bitsL (n - m) (b / 2 ^ m)).map ub) := by
          rw [HN.out, show n - m = n - (m + 1) + 1 by omega]; simpa [ub] using hown'
        obtain ⟨d2, rfl⟩ := ext_mk gr1
        clear hown' hgrow hown hl gr1
        go_wp2
        go_roundw
        case rel => exact ⟨m, j - 1, by omega, by omega, by omega, rfl, hown2, d2.gr⟩
        case measure => simp [intOf]; omega

theorem text_any (l b : Int) (w : World) :
    Calls Try.prog 22 #[pfx l b] w fun e w' => e = .returned (.string ⟨(textL l b).toArray⟩) ∧ ∃ d : Ext w, w' = d.out := by
  cases ho : okB l b
  · have ht : textL l b = [] := by simp [textL, ho]
    rw [ht]
    exact text_no l b ho w
  · obtain ⟨n, rfl⟩ := Int.eq_ofNat_of_zero_le (ok_pows ho).1
    exact text_yes n b ho w

end Go.Proofs.Ytceclaboeajcaaa
