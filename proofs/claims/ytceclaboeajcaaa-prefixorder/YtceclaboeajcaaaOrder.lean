/- THE LAW PrefixOrder: the walk. -/
import Derived.Test.YtceclaboeajcaaaE
namespace Go.Proofs.Ytceclaboeajcaaa
open Go.RowKit
attribute [local go_sem] Ext.all Ext.cell Ext.frozen Ext.lt Ext.lt1 Ext.lt2 Ext.ne Ext.ne'

theorem first_ok {l b : Int} (h : okB l b = true) : firstI l b = b * 2 ^ (8 - l).toNat := by simp [firstI, h]

theorem same_of_first {l b m c : Int} (h : okB l b = true) (k : okB m c = true) (e : firstI l b = firstI m c) (el : l = m) : b = c := by
  subst el
  rw [first_ok h, first_ok k] at e
  have hp : (2 : Int) ^ (8 - l).toNat ≠ 0 := by have := (pw_bd (8 - l) (by have := ok_pows h; omega)).1; omega
  exact Int.eq_of_mul_eq_mul_right hp e

theorem cov_first {l b m c : Int} (h : covB l b m c = true) : l ≤ m ∧ firstI l b ≤ firstI m c := by
  obtain ⟨h1, h2, h3, h4⟩ := cov_iff.1 h
  refine ⟨h3, ?_⟩
  rw [first_ok h1, first_ok h2]
  obtain ⟨a0, a8, ab, al, _, _⟩ := ok_pows h1
  obtain ⟨c0, c8, cb, cl, _, _⟩ := ok_pows h2
  have e : (8 - l).toNat = (m - l).toNat + (8 - m).toNat := by omega
  rw [e, Int.pow_add, ← Int.mul_assoc]
  refine Int.mul_le_mul_of_nonneg_right ?_ (Int.le_of_lt (Int.pow_pos (by decide)))
  rw [← h4]
  exact Int.ediv_mul_le c (Int.ne_of_gt (Int.pow_pos (by decide)))

/-- What the law's walk wants of three prefixes: one of three; what is ahead of what is ahead is ahead. -/
theorem order_facts {l b m c n d : Int} (h1 : okB l b = true) (h2 : okB m c = true) :
    (lessB l b m c = true ∧ lessB m c l b = false ∧ ¬ (l = m ∧ b = c) ∨ lessB l b m c = false ∧ lessB m c l b = true ∧ ¬ (l = m ∧ b = c) ∨ lessB l b m c = false ∧ lessB m c l b = false ∧ l = m ∧ b = c) ∧
    (lessB l b m c = true → lessB m c n d = true → lessB l b n d = true) ∧
    (covB l b m c = true → ¬ (l = m ∧ b = c) → lessB l b m c = true) := by
  have hs := same_of_first h1 h2
  have hc := @cov_first l b m c
  refine ⟨?_, ?_, ?_⟩
  · simp only [lessB, decide_eq_true_eq, decide_eq_false_iff_not]
    by_cases e : l = m ∧ b = c
    · obtain ⟨rfl, rfl⟩ := e; omega
    · have : ¬ (firstI l b = firstI m c ∧ l = m) := fun ⟨x, y⟩ => e ⟨y, hs x y⟩
      omega
  · simp only [lessB, decide_eq_true_eq]; omega
  · intro hv hn
    obtain ⟨q1, q2⟩ := hc hv
    have : ¬ (firstI l b = firstI m c ∧ l = m) := fun ⟨x, y⟩ => hn ⟨y, hs x y⟩
    simp only [lessB, decide_eq_true_eq]; omega

set_option maxHeartbeats 1000000 in
theorem order_bad1 (l b m c n d : Int) (h1 : okB l b = false) (w : World) :
    Calls Try.prog 6 #[pfx l b, pfx m c, pfx n d] w fun e w' => e = .returned (.bool true) ∧ ∃ d : Ext w, w' = d.out := by
  go_enter Try.func6, Try.ntmps6
  go_wp2_with (first
    | (go_at_call 8; refine (begun_any _).mono ?_; rintro e _ ⟨rfl, d0, rfl⟩)
    | (go_at_call 11; with_reducible refine (Calls.ext_of (check_is h1 _)).mono ?_; rintro e _ ⟨rfl, d1, rfl⟩))
  go_ret
  exact ⟨rfl, ext_mk (((((Gr.refl _).alloc _).alloc _).alloc _).ext d1)⟩

set_option maxHeartbeats 1000000 in
theorem order_bad2 (l b m c n d : Int) (h1 : okB l b = true) (h2 : okB m c = false) (w : World) :
    Calls Try.prog 6 #[pfx l b, pfx m c, pfx n d] w fun e w' => e = .returned (.bool true) ∧ ∃ d : Ext w, w' = d.out := by
  go_enter Try.func6, Try.ntmps6
  go_wp2_with (first
    | (go_at_call 8; refine (begun_any _).mono ?_; rintro e _ ⟨rfl, d0, rfl⟩)
    | (go_at_call 11; with_reducible refine (Calls.ext_of (check_is h1 _)).mono ?_; rintro e _ ⟨rfl, d1, rfl⟩)
    | (go_at_call 11; with_reducible refine (Calls.ext_of (check_is h2 _)).mono ?_; rintro e _ ⟨rfl, d2, rfl⟩))
  go_ret
  exact ⟨rfl, ext_mk (((((Gr.refl _).alloc _).alloc _).alloc _).ext d2)⟩

set_option maxHeartbeats 1000000 in
theorem order_bad3 (l b m c n d : Int) (h1 : okB l b = true) (h2 : okB m c = true) (h3 : okB n d = false) (w : World) :
    Calls Try.prog 6 #[pfx l b, pfx m c, pfx n d] w fun e w' => e = .returned (.bool true) ∧ ∃ d : Ext w, w' = d.out := by
  go_enter Try.func6, Try.ntmps6
  go_wp2_with (first
    | (go_at_call 8; refine (begun_any _).mono ?_; rintro e _ ⟨rfl, d0, rfl⟩)
    | (go_at_call 11; with_reducible refine (Calls.ext_of (check_is h1 _)).mono ?_; rintro e _ ⟨rfl, d1, rfl⟩)
    | (go_at_call 11; with_reducible refine (Calls.ext_of (check_is h2 _)).mono ?_; rintro e _ ⟨rfl, d2, rfl⟩)
    | (go_at_call 11; with_reducible refine (Calls.ext_of (check_is h3 _)).mono ?_; rintro e _ ⟨rfl, d3, rfl⟩))
  go_ret
  exact ⟨rfl, ext_mk (((((Gr.refl _).alloc _).alloc _).alloc _).ext d3)⟩

set_option maxHeartbeats 1000000 in
/-- p is ahead of q, q is not ahead of r. -/
theorem order_lt1a (l b m c n d : Int) (H1 : Hid (okB l b = true)) (H2 : Hid (okB m c = true)) (H3 : Hid (okB n d = true)) (hne : ¬ l = m) (G1 : Hid (lessB l b m c = true)) (G2 : Hid (lessB m c l b = false)) (G4 : Hid (lessB m c n d = false)) (cv : Bool) (G6 : Hid (covB l b m c = cv)) (w : World) :
    Calls Try.prog 6 #[pfx l b, pfx m c, pfx n d] w fun e w' => e = .returned (.bool true) ∧ ∃ d : Ext w, w' = d.out := by
  go_enter Try.func6, Try.ntmps6
  go_wp2_with (first
      | (go_at_call 8; refine (begun_any _).mono ?_; rintro e _ ⟨rfl, d0, rfl⟩)
      | (go_at_call 11; with_reducible refine (Calls.ext_of (check_is H1.out _)).mono ?_; rintro e _ ⟨rfl, d1, rfl⟩)
      | (go_at_call 11; with_reducible refine (Calls.ext_of (check_is H2.out _)).mono ?_; rintro e _ ⟨rfl, d1, rfl⟩)
      | (go_at_call 11; with_reducible refine (Calls.ext_of (check_is H3.out _)).mono ?_; rintro e _ ⟨rfl, d1, rfl⟩)
      | (go_at_call 20; with_reducible refine (Calls.ext_of (less_is G1.out _)).mono ?_; rintro e _ ⟨rfl, d1, rfl⟩)
      | (go_at_call 20; with_reducible refine (Calls.ext_of (less_is G2.out _)).mono ?_; rintro e _ ⟨rfl, d1, rfl⟩)
      | (go_at_call 20; with_reducible refine (Calls.ext_of (less_is G4.out _)).mono ?_; rintro e _ ⟨rfl, d1, rfl⟩)
      | (go_at_call 26; with_reducible refine (Calls.ext_of (covers_is G6.out _)).mono ?_; rintro e _ ⟨rfl, d1, rfl⟩))
  all_goals
    go_ret
    exact ⟨rfl, ext_mk (((((Gr.refl _).alloc _).alloc _).alloc _).ext d1)⟩

set_option maxHeartbeats 1000000 in
/-- p is ahead of q, q ahead of r. -/
theorem order_lt2a (l b m c n d : Int) (H1 : Hid (okB l b = true)) (H2 : Hid (okB m c = true)) (H3 : Hid (okB n d = true)) (hne : ¬ l = m) (G1 : Hid (lessB l b m c = true)) (G2 : Hid (lessB m c l b = false)) (G4 : Hid (lessB m c n d = true)) (G5 : Hid (lessB l b n d = true)) (cv : Bool) (G6 : Hid (covB l b m c = cv)) (w : World) :
    Calls Try.prog 6 #[pfx l b, pfx m c, pfx n d] w fun e w' => e = .returned (.bool true) ∧ ∃ d : Ext w, w' = d.out := by
  go_enter Try.func6, Try.ntmps6
  go_wp2_with (first
      | (go_at_call 8; refine (begun_any _).mono ?_; rintro e _ ⟨rfl, d0, rfl⟩)
      | (go_at_call 11; with_reducible refine (Calls.ext_of (check_is H1.out _)).mono ?_; rintro e _ ⟨rfl, d1, rfl⟩)
      | (go_at_call 11; with_reducible refine (Calls.ext_of (check_is H2.out _)).mono ?_; rintro e _ ⟨rfl, d1, rfl⟩)
      | (go_at_call 11; with_reducible refine (Calls.ext_of (check_is H3.out _)).mono ?_; rintro e _ ⟨rfl, d1, rfl⟩)
      | (go_at_call 20; with_reducible refine (Calls.ext_of (less_is G1.out _)).mono ?_; rintro e _ ⟨rfl, d1, rfl⟩)
      | (go_at_call 20; with_reducible refine (Calls.ext_of (less_is G2.out _)).mono ?_; rintro e _ ⟨rfl, d1, rfl⟩)
      | (go_at_call 20; with_reducible refine (Calls.ext_of (less_is G4.out _)).mono ?_; rintro e _ ⟨rfl, d1, rfl⟩)
      | (go_at_call 20; with_reducible refine (Calls.ext_of (less_is G5.out _)).mono ?_; rintro e _ ⟨rfl, d1, rfl⟩)
      | (go_at_call 26; with_reducible refine (Calls.ext_of (covers_is G6.out _)).mono ?_; rintro e _ ⟨rfl, d1, rfl⟩))
  all_goals
    go_ret
    exact ⟨rfl, ext_mk (((((Gr.refl _).alloc _).alloc _).alloc _).ext d1)⟩

set_option maxHeartbeats 1000000 in
/-- q is ahead of p. -/
theorem order_gta (l b m c n d : Int) (H1 : Hid (okB l b = true)) (H2 : Hid (okB m c = true)) (H3 : Hid (okB n d = true)) (hne : ¬ l = m) (G1 : Hid (lessB l b m c = false)) (G2 : Hid (lessB m c l b = true)) (G6 : Hid (covB l b m c = false)) (w : World) :
    Calls Try.prog 6 #[pfx l b, pfx m c, pfx n d] w fun e w' => e = .returned (.bool true) ∧ ∃ d : Ext w, w' = d.out := by
  go_enter Try.func6, Try.ntmps6
  go_wp2_with (first
      | (go_at_call 8; refine (begun_any _).mono ?_; rintro e _ ⟨rfl, d0, rfl⟩)
      | (go_at_call 11; with_reducible refine (Calls.ext_of (check_is H1.out _)).mono ?_; rintro e _ ⟨rfl, d1, rfl⟩)
      | (go_at_call 11; with_reducible refine (Calls.ext_of (check_is H2.out _)).mono ?_; rintro e _ ⟨rfl, d1, rfl⟩)
      | (go_at_call 11; with_reducible refine (Calls.ext_of (check_is H3.out _)).mono ?_; rintro e _ ⟨rfl, d1, rfl⟩)
      | (go_at_call 20; with_reducible refine (Calls.ext_of (less_is G1.out _)).mono ?_; rintro e _ ⟨rfl, d1, rfl⟩)
      | (go_at_call 20; with_reducible refine (Calls.ext_of (less_is G2.out _)).mono ?_; rintro e _ ⟨rfl, d1, rfl⟩)
      | (go_at_call 26; with_reducible refine (Calls.ext_of (covers_is G6.out _)).mono ?_; rintro e _ ⟨rfl, d1, rfl⟩))
  all_goals
    go_ret
    exact ⟨rfl, ext_mk (((((Gr.refl _).alloc _).alloc _).alloc _).ext d1)⟩

set_option maxHeartbeats 1000000 in
/-- p is ahead of q, q is not ahead of r. -/
theorem order_lt1b (l b c n d : Int) (H1 : Hid (okB l b = true)) (H2 : Hid (okB l c = true)) (H3 : Hid (okB n d = true)) (hne : ¬ b = c) (G1 : Hid (lessB l b l c = true)) (G2 : Hid (lessB l c l b = false)) (G4 : Hid (lessB l c n d = false)) (cv : Bool) (G6 : Hid (covB l b l c = cv)) (w : World) :
    Calls Try.prog 6 #[pfx l b, pfx l c, pfx n d] w fun e w' => e = .returned (.bool true) ∧ ∃ d : Ext w, w' = d.out := by
  go_enter Try.func6, Try.ntmps6
  go_wp2_with (first
      | (go_at_call 8; refine (begun_any _).mono ?_; rintro e _ ⟨rfl, d0, rfl⟩)
      | (go_at_call 11; with_reducible refine (Calls.ext_of (check_is H1.out _)).mono ?_; rintro e _ ⟨rfl, d1, rfl⟩)
      | (go_at_call 11; with_reducible refine (Calls.ext_of (check_is H2.out _)).mono ?_; rintro e _ ⟨rfl, d1, rfl⟩)
      | (go_at_call 11; with_reducible refine (Calls.ext_of (check_is H3.out _)).mono ?_; rintro e _ ⟨rfl, d1, rfl⟩)
      | (go_at_call 20; with_reducible refine (Calls.ext_of (less_is G1.out _)).mono ?_; rintro e _ ⟨rfl, d1, rfl⟩)
      | (go_at_call 20; with_reducible refine (Calls.ext_of (less_is G2.out _)).mono ?_; rintro e _ ⟨rfl, d1, rfl⟩)
      | (go_at_call 20; with_reducible refine (Calls.ext_of (less_is G4.out _)).mono ?_; rintro e _ ⟨rfl, d1, rfl⟩)
      | (go_at_call 26; with_reducible refine (Calls.ext_of (covers_is G6.out _)).mono ?_; rintro e _ ⟨rfl, d1, rfl⟩))
  all_goals
    go_ret
    exact ⟨rfl, ext_mk (((((Gr.refl _).alloc _).alloc _).alloc _).ext d1)⟩

set_option maxHeartbeats 1000000 in
/-- p is ahead of q, q ahead of r. -/
theorem order_lt2b (l b c n d : Int) (H1 : Hid (okB l b = true)) (H2 : Hid (okB l c = true)) (H3 : Hid (okB n d = true)) (hne : ¬ b = c) (G1 : Hid (lessB l b l c = true)) (G2 : Hid (lessB l c l b = false)) (G4 : Hid (lessB l c n d = true)) (G5 : Hid (lessB l b n d = true)) (cv : Bool) (G6 : Hid (covB l b l c = cv)) (w : World) :
    Calls Try.prog 6 #[pfx l b, pfx l c, pfx n d] w fun e w' => e = .returned (.bool true) ∧ ∃ d : Ext w, w' = d.out := by
  go_enter Try.func6, Try.ntmps6
  go_wp2_with (first
      | (go_at_call 8; refine (begun_any _).mono ?_; rintro e _ ⟨rfl, d0, rfl⟩)
      | (go_at_call 11; with_reducible refine (Calls.ext_of (check_is H1.out _)).mono ?_; rintro e _ ⟨rfl, d1, rfl⟩)
      | (go_at_call 11; with_reducible refine (Calls.ext_of (check_is H2.out _)).mono ?_; rintro e _ ⟨rfl, d1, rfl⟩)
      | (go_at_call 11; with_reducible refine (Calls.ext_of (check_is H3.out _)).mono ?_; rintro e _ ⟨rfl, d1, rfl⟩)
      | (go_at_call 20; with_reducible refine (Calls.ext_of (less_is G1.out _)).mono ?_; rintro e _ ⟨rfl, d1, rfl⟩)
      | (go_at_call 20; with_reducible refine (Calls.ext_of (less_is G2.out _)).mono ?_; rintro e _ ⟨rfl, d1, rfl⟩)
      | (go_at_call 20; with_reducible refine (Calls.ext_of (less_is G4.out _)).mono ?_; rintro e _ ⟨rfl, d1, rfl⟩)
      | (go_at_call 20; with_reducible refine (Calls.ext_of (less_is G5.out _)).mono ?_; rintro e _ ⟨rfl, d1, rfl⟩)
      | (go_at_call 26; with_reducible refine (Calls.ext_of (covers_is G6.out _)).mono ?_; rintro e _ ⟨rfl, d1, rfl⟩))
  all_goals
    go_ret
    exact ⟨rfl, ext_mk (((((Gr.refl _).alloc _).alloc _).alloc _).ext d1)⟩

set_option maxHeartbeats 1000000 in
/-- q is ahead of p. -/
theorem order_gtb (l b c n d : Int) (H1 : Hid (okB l b = true)) (H2 : Hid (okB l c = true)) (H3 : Hid (okB n d = true)) (hne : ¬ b = c) (G1 : Hid (lessB l b l c = false)) (G2 : Hid (lessB l c l b = true)) (G6 : Hid (covB l b l c = false)) (w : World) :
    Calls Try.prog 6 #[pfx l b, pfx l c, pfx n d] w fun e w' => e = .returned (.bool true) ∧ ∃ d : Ext w, w' = d.out := by
  go_enter Try.func6, Try.ntmps6
  go_wp2_with (first
      | (go_at_call 8; refine (begun_any _).mono ?_; rintro e _ ⟨rfl, d0, rfl⟩)
      | (go_at_call 11; with_reducible refine (Calls.ext_of (check_is H1.out _)).mono ?_; rintro e _ ⟨rfl, d1, rfl⟩)
      | (go_at_call 11; with_reducible refine (Calls.ext_of (check_is H2.out _)).mono ?_; rintro e _ ⟨rfl, d1, rfl⟩)
      | (go_at_call 11; with_reducible refine (Calls.ext_of (check_is H3.out _)).mono ?_; rintro e _ ⟨rfl, d1, rfl⟩)
      | (go_at_call 20; with_reducible refine (Calls.ext_of (less_is G1.out _)).mono ?_; rintro e _ ⟨rfl, d1, rfl⟩)
      | (go_at_call 20; with_reducible refine (Calls.ext_of (less_is G2.out _)).mono ?_; rintro e _ ⟨rfl, d1, rfl⟩)
      | (go_at_call 26; with_reducible refine (Calls.ext_of (covers_is G6.out _)).mono ?_; rintro e _ ⟨rfl, d1, rfl⟩))
  all_goals
    go_ret
    exact ⟨rfl, ext_mk (((((Gr.refl _).alloc _).alloc _).alloc _).ext d1)⟩

set_option maxHeartbeats 1000000 in
/-- p is q. -/
theorem order_eq (l b n d : Int) (H1 : Hid (okB l b = true)) (H3 : Hid (okB n d = true)) (G1 : Hid (lessB l b l b = false)) (cv : Bool) (G6 : Hid (covB l b l b = cv)) (w : World) :
    Calls Try.prog 6 #[pfx l b, pfx l b, pfx n d] w fun e w' => e = .returned (.bool true) ∧ ∃ d : Ext w, w' = d.out := by
  go_enter Try.func6, Try.ntmps6
  go_wp2_with (first
      | (go_at_call 8; refine (begun_any _).mono ?_; rintro e _ ⟨rfl, d0, rfl⟩)
      | (go_at_call 11; with_reducible refine (Calls.ext_of (check_is H1.out _)).mono ?_; rintro e _ ⟨rfl, d1, rfl⟩)
        | (go_at_call 11; with_reducible refine (Calls.ext_of (check_is H3.out _)).mono ?_; rintro e _ ⟨rfl, d1, rfl⟩)
      | (go_at_call 20; with_reducible refine (Calls.ext_of (less_is G1.out _)).mono ?_; rintro e _ ⟨rfl, d1, rfl⟩)
      | (go_at_call 26; with_reducible refine (Calls.ext_of (covers_is G6.out _)).mono ?_; rintro e _ ⟨rfl, d1, rfl⟩))
  all_goals
    go_ret
    exact ⟨rfl, ext_mk (((((Gr.refl _).alloc _).alloc _).alloc _).ext d1)⟩

theorem order_any (l b m c n d : Int) (w : World) :
    Calls Try.prog 6 #[pfx l b, pfx m c, pfx n d] w fun e w' => e = .returned (.bool true) ∧ ∃ d : Ext w, w' = d.out := by
  cases h1 : okB l b
  · exact order_bad1 l b m c n d h1 w
  cases h2 : okB m c
  · exact order_bad2 l b m c n d h1 h2 w
  cases h3 : okB n d
  · exact order_bad3 l b m c n d h1 h2 h3 w
  obtain ⟨tri, tr, cv⟩ := order_facts (n := n) (d := d) h1 h2
  rcases tri with ⟨g1, g2, g3⟩ | ⟨g1, g2, g3⟩ | ⟨g1, g2, rfl, rfl⟩
  · cases g4 : lessB m c n d
    · by_cases e : l = m
      · subst e; exact order_lt1b l b c n d h1 h2 h3 (fun e => g3 ⟨rfl, e⟩) g1 g2 g4 _ rfl w
      · exact order_lt1a l b m c n d h1 h2 h3 e g1 g2 g4 _ rfl w
    · by_cases e : l = m
      · subst e; exact order_lt2b l b c n d h1 h2 h3 (fun e => g3 ⟨rfl, e⟩) g1 g2 g4 (tr g1 g4) _ rfl w
      · exact order_lt2a l b m c n d h1 h2 h3 e g1 g2 g4 (tr g1 g4) _ rfl w
  · have g6 : covB l b m c = false := by
      cases h : covB l b m c
      · rfl
      · have := cv h g3; rw [g1] at this; cases this
    by_cases e : l = m
    · subst e; exact order_gtb l b c n d h1 h2 h3 (fun e => g3 ⟨rfl, e⟩) g1 g2 g6 w
    · exact order_gta l b m c n d h1 h2 h3 e g1 g2 g6 w
  · exact order_eq l b n d h1 h3 g1 _ rfl w

end Go.Proofs.Ytceclaboeajcaaa
