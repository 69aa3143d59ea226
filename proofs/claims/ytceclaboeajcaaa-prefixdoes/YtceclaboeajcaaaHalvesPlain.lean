/- PLAIN FACTS for PrefixHalves: no Go in sight. -/
import Derived.Test.YtceclaboeajcaaaSpanPlain
namespace Go.Proofs.Ytceclaboeajcaaa

/-- Half and half. -/
theorem halves {l b a : Int} (h : okB l b = true) (h8 : l < 8) : okB (l + 1) (b * 2) = true ∧ okB (l + 1) (b * 2 + 1) = true ∧
    (hasB (l + 1) (b * 2) a = true ∧ hasB (l + 1) (b * 2 + 1) a = false ∧ hasB l b a = true ∨ hasB (l + 1) (b * 2) a = false ∧ hasB (l + 1) (b * 2 + 1) a = true ∧ hasB l b a = true ∨
     hasB (l + 1) (b * 2) a = false ∧ hasB (l + 1) (b * 2 + 1) a = false ∧ hasB l b a = false) := by
  obtain ⟨h0, _, hb, hl, g1, g2⟩ := ok_pows h
  have e : (l + 1).toNat = l.toNat + 1 := by omega
  have hc0 : okB (l + 1) (b * 2) = true := by
    rw [ok_iff]
    refine ⟨by omega, by omega, by omega, ?_⟩
    rw [e, Int.pow_succ]; omega
  have hc1 : okB (l + 1) (b * 2 + 1) = true := by
    rw [ok_iff]
    refine ⟨by omega, by omega, by omega, ?_⟩
    rw [e, Int.pow_succ]; omega
  refine ⟨hc0, hc1, ?_⟩
  have f0 := (@span_has _ _ a hc0).2.2.2
  have f1 := (@span_has _ _ a hc1).2.2.2
  have f := (@span_has _ _ a h).2.2.2
  have k : firstI (l + 1) (b * 2) = firstI l b ∧ lastI (l + 1) (b * 2) + 1 = firstI (l + 1) (b * 2 + 1) ∧ lastI (l + 1) (b * 2 + 1) = lastI l b ∧ firstI (l + 1) (b * 2) ≤ lastI (l + 1) (b * 2) ∧ firstI (l + 1) (b * 2 + 1) ≤ lastI (l + 1) (b * 2 + 1) := by
    rw [first_is_ok h, last_is_ok h, first_is_ok hc0, last_is_ok hc0, first_is_ok hc1, last_is_ok hc1]
    rcases nine h0 (by omega) with h | h | h | h | h | h | h | h | h <;> subst h <;> simp at hl g1 g2 h8 ⊢ <;> omega
  cases x : hasB (l + 1) (b * 2) a <;> cases y : hasB (l + 1) (b * 2 + 1) a <;> cases z : hasB l b a <;> simp [x, y, z] at f0 f1 f ⊢ <;> omega

/-- Two prefixes that share an address: one has all of the other one's. -/
theorem shared {l b m c a : Int} (h : hasB l b a = true) (k : hasB m c a = true) : covB l b m c = true ∨ covB m c l b = true := by
  obtain ⟨h1, a0, a1, h2⟩ := has_iff.1 h
  obtain ⟨k1, _, _, k2⟩ := has_iff.1 k
  obtain ⟨h0, h8, hb, hl, _, _⟩ := ok_pows h1
  obtain ⟨k0, k8, kb, kl, _, _⟩ := ok_pows k1
  have key : ∀ {l m b c : Int}, l ≤ m → m ≤ 8 → a / 2 ^ (8 - l).toNat = b → a / 2 ^ (8 - m).toNat = c → c / 2 ^ (m - l).toNat = b := by
    intro l m b c hlm h8 e1 e2
    rw [← e1, ← e2, Int.ediv_ediv_of_nonneg (Int.le_of_lt (Int.pow_pos (by decide))), ← Int.pow_add]
    congr 2
    omega
  rw [cov_iff, cov_iff]
  by_cases hlm : l ≤ m
  · exact .inl ⟨h1, k1, hlm, key hlm k8 h2 k2⟩
  · exact .inr ⟨k1, h1, by omega, key (by omega) h8 k2 h2⟩

end Go.Proofs.Ytceclaboeajcaaa
