/- PLAIN FACTS for PrefixSpan: no Go in sight. -/
import Derived.Test.YtmlmcpopkcgflabPlain
namespace Go.Proofs.Ytmlmcpopkcgflab

theorem first_is_ok {l b : Int} (h : okB l b = true) : firstI l b = b * 2 ^ (8 - l).toNat := by simp [firstI, h]
theorem last_is_ok {l b : Int} (h : okB l b = true) : lastI l b = b * 2 ^ (8 - l).toNat + 2 ^ (8 - l).toNat - 1 := by simp [lastI, h]

/-- All in a row. -/
theorem span_has {l b a : Int} (h : okB l b = true) : 0 ≤ firstI l b ∧ firstI l b ≤ lastI l b ∧ lastI l b ≤ 255 ∧ (hasB l b a = true ↔ firstI l b ≤ a ∧ a ≤ lastI l b) := by
  rw [has_iff, first_is_ok h, last_is_ok h]
  obtain ⟨h0, h8, hb, hl, g1, g2⟩ := ok_pows h
  simp only [h, true_and]
  rcases nine h0 h8 with h | h | h | h | h | h | h | h | h <;> subst h <;> simp at hl g1 g2 ⊢ <;> omega

/-- The child of one bit 1. -/
theorem span_child {l b : Int} (h : okB l b = true) (h8 : l < 8) : okB (l + 1) (b * 2 + 1) = true ∧ lastI (l + 1) (b * 2 + 1) = lastI l b ∧ 2 * (lastI l b - firstI (l + 1) (b * 2 + 1) + 1) = lastI l b - firstI l b + 1 ∧ 0 ≤ firstI (l + 1) (b * 2 + 1) ∧ firstI (l + 1) (b * 2 + 1) ≤ 255 := by
  obtain ⟨h0, _, hb, hl, g1, g2⟩ := ok_pows h
  have hc : okB (l + 1) (b * 2 + 1) = true := by
    rw [ok_iff]
    refine ⟨by omega, by omega, by omega, ?_⟩
    have e : (l + 1).toNat = l.toNat + 1 := by omega
    rw [e, Int.pow_succ]; omega
  refine ⟨hc, ?_⟩
  rw [first_is_ok h, last_is_ok h, first_is_ok hc, last_is_ok hc]
  rcases nine h0 (by omega) with h | h | h | h | h | h | h | h | h <;> subst h <;> simp at hl g1 g2 h8 ⊢ <;> omega

/-- Of two prefixes with the same first and the same last address they are the same. -/
theorem span_same {l b m c : Int} (h : okB l b = true) (k : okB m c = true) (e1 : firstI m c = firstI l b) (e2 : lastI m c = lastI l b) : l = m ∧ b = c := by
  rw [first_is_ok h, first_is_ok k] at e1
  rw [last_is_ok h, last_is_ok k] at e2
  obtain ⟨h0, h8, hb, hl, g1, g2⟩ := ok_pows h
  obtain ⟨k0, k8, kb, kl, f1, f2⟩ := ok_pows k
  have e3 : (2 : Int) ^ (8 - l).toNat = 2 ^ (8 - m).toNat := by omega
  have e4 : l = m := by
    rcases nine h0 h8 with h | h | h | h | h | h | h | h | h <;> subst h <;> rcases nine k0 k8 with k | k | k | k | k | k | k | k | k <;> subst k <;> simp at e3 ⊢
  subst e4
  refine ⟨rfl, ?_⟩
  have hp := (pw_bd (8 - l) (by omega)).1
  exact (Int.eq_of_mul_eq_mul_right (by omega) e1).symm

end Go.Proofs.Ytmlmcpopkcgflab
