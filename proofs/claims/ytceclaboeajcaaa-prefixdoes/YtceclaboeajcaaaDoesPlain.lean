/- PLAIN FACTS for PrefixDoes. -/
import Derived.Test.YtceclaboeajcaaaI
import Derived.Test.YtceclaboeajcaaaHalvesPlain
namespace Go.Proofs.Ytceclaboeajcaaa
open Go.RowKit

/-- Has it all of another one's addresses below k? -/
def allB (l b m c : Int) : Nat → Bool
  | 0 => okB l b && okB m c
  | k + 1 => allB l b m c k && (!hasB m c k || hasB l b k)

theorem allB_iff (l b m c : Int) : ∀ k, allB l b m c k = true ↔ okB l b = true ∧ okB m c = true ∧ ∀ j : Nat, j < k → hasB m c j = true → hasB l b j = true
  | 0 => by simp [allB]
  | k + 1 => by
    simp only [allB, Bool.and_eq_true, allB_iff l b m c k, Bool.or_eq_true, Bool.not_eq_true']
    constructor
    · rintro ⟨⟨h1, h2, h3⟩, h4⟩
      refine ⟨h1, h2, fun j hj hh => ?_⟩
      rcases Nat.lt_or_eq_of_le (Nat.le_of_lt_succ hj) with h | h
      · exact h3 j h hh
      · subst h
        rcases h4 with h4 | h4
        · rw [h4] at hh; cases hh
        · exact h4
    · rintro ⟨h1, h2, h3⟩
      refine ⟨⟨h1, h2, fun j hj => h3 j (by omega)⟩, ?_⟩
      cases hh : hasB m c k
      · exact .inl rfl
      · exact .inr (h3 k (by omega) hh)

/-- Tried at each address, it is what Covers tells. -/
theorem allB_cov (l b m c : Int) : allB l b m c 256 = covB l b m c := by
  rw [Bool.eq_iff_iff, allB_iff]
  constructor
  · rintro ⟨h1, h2, h3⟩
    obtain ⟨f0, fl, l1, _⟩ := @span_has m c 0 h2
    have e1 : hasB m c ((firstI m c).toNat : Nat) = true := (@span_has m c _ h2).2.2.2.2 (by omega)
    have e2 : hasB m c ((lastI m c).toNat : Nat) = true := (@span_has m c _ h2).2.2.2.2 (by omega)
    have k1 := h3 _ (by omega) e1
    have k2 := h3 _ (by omega) e2
    have j1 := (@span_has l b _ h1).2.2.2.1 k1
    have j2 := (@span_has l b _ h1).2.2.2.1 k2
    rcases shared k1 e1 with h | h
    · exact h
    · obtain ⟨_, _, g3, g4⟩ := cov_iff.1 h
      rw [first_is_ok h1, last_is_ok h1, first_is_ok h2, last_is_ok h2] at *
      obtain ⟨a0, a8, ab, al, _, _⟩ := ok_pows h1
      obtain ⟨c0, c8, cb, cl, _, _⟩ := ok_pows h2
      have hle : (2 : Int) ^ (8 - m).toNat ≤ 2 ^ (8 - l).toNat := by omega
      have e : m = l := by
        by_cases hlt : m < l
        · exfalso
          have e : (8 - m).toNat = (l - m).toNat + (8 - l).toNat := by omega
          rw [e, Int.pow_add] at hle
          have p1 := (pw_bd (8 - l) (by omega)).1
          have e2 : (l - m).toNat = (l - m - 1).toNat + 1 := by omega
          rw [e2, Int.pow_succ] at hle
          have p2 := (pw_bd (l - m - 1) (by omega)).1
          have : (2 : Int) * 2 ^ (8 - l).toNat ≤ 2 ^ (l - m - 1).toNat * 2 * 2 ^ (8 - l).toNat := Int.mul_le_mul_of_nonneg_right (by omega) (by omega)
          omega
        · omega
      subst e
      simp at g4
      exact cov_iff.2 ⟨h1, h2, Int.le_refl _, by simp [g4]⟩
  · intro h
    obtain ⟨h1, h2, h3, h4⟩ := cov_iff.1 h
    refine ⟨h1, h2, fun j _ hh => ?_⟩
    obtain ⟨_, j0, j1, j2⟩ := has_iff.1 hh
    refine has_iff.2 ⟨h1, j0, j1, ?_⟩
    obtain ⟨a0, a8, _, _, _, _⟩ := ok_pows h1
    obtain ⟨c0, c8, _, _, _, _⟩ := ok_pows h2
    have e : (8 - l).toNat = (8 - m).toNat + (m - l).toNat := by omega
    rw [e, Int.pow_add, ← Int.ediv_ediv_of_nonneg (Int.le_of_lt (Int.pow_pos (by decide))), j2, h4]

theorem bitsOf_is {l b : Int} {T : List UInt8} (h0 : 0 ≤ l) (h8 : l ≤ 8) (hb : 0 ≤ b) (hb2 : b < 1024) (hT : bitsL l.toNat b = T) (w : World) :
    Calls Try.prog 27 #[.int .i64 b, .int .i64 l] w fun e w' => e = .returned (.string ⟨T.toArray⟩) ∧ ∃ d : Ext w, w' = d.out := by
  subst hT
  obtain ⟨n, rfl⟩ := Int.eq_ofNat_of_zero_le h0
  refine (bitsOf_any n b (by omega) hb hb2 w).mono ?_
  rintro e w' ⟨he, hw⟩
  exact ⟨he, ext_mk (by rw [hw]; exact Gr.refl w)⟩

/-- The first bytes of a text. -/
theorem slice_take (L T : List UInt8) (n : Nat) (hn : n ≤ L.length) (hT : L.take n = T) (w : World) :
    (Instr.slice 9 (.string ⟨L.toArray⟩) none (some (.int .i64 n)) none).run Try.prog w = .ok (.string ⟨T.toArray⟩) w := by
  subst hT
  rw [run_slice_string_h (w := w) (ht := Try.underlying9) (kh := .i64) (h := n) (h0 := by omega) (h2 := by simpa [ByteArray.size] using hn), ByteArray.extract_mk]
  simp

end Go.Proofs.Ytceclaboeajcaaa
