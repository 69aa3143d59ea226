/- PLAIN FACTS for PrefixBack: a prefix has a text that tells it, and a text that tells a prefix is its. -/
import Derived.Test.YtceclaboeajcaaaD
namespace Go.Proofs.Ytceclaboeajcaaa

theorem bitsL_bits : ∀ (n : Nat) (b : Int), (bitsL n b).all bitB = true
  | 0, _ => rfl
  | n + 1, b => by
    simp only [bitsL, List.all_append, bitsL_bits n, Bool.true_and, List.all_cons, List.all_nil, Bool.and_true]
    split <;> rfl

theorem valL_bitsL : ∀ (n : Nat) (b : Int), 0 ≤ b → b < 2 ^ n → valL (bitsL n b) = b
  | 0, b, h0, h1 => by simp at h1; simp [bitsL, valL]; omega
  | n + 1, b, h0, h1 => by
    rw [Int.pow_succ] at h1
    simp only [bitsL, valL_snoc, valL_bitsL n (b / 2) (by omega) (by omega)]
    by_cases h : b % 2 = 1 <;> simp [h] <;> omega

theorem bitsL_valL : ∀ (n : Nat) (l : List UInt8), l.length = n → l.all bitB = true → bitsL n (valL l) = l
  | 0, l, hl, _ => by
    have : l = [] := by simpa using hl
    subst this; rfl
  | n + 1, l, hl, hb => by
    have hne : l ≠ [] := by intro e; subst e; simp at hl
    have e := List.dropLast_concat_getLast hne
    generalize l.dropLast = t at e
    generalize l.getLast hne = c at e
    subst e
    simp only [List.all_append, Bool.and_eq_true, List.all_cons, List.all_nil, Bool.and_true] at hb
    have ht : t.length = n := by simpa using hl
    have ih := bitsL_valL n t ht hb.1
    rw [valL_snoc, bitsL]
    rcases bit_cases hb.2 with ⟨rfl, _⟩ | ⟨rfl, _⟩
    · have e1 : (valL t * 2 + if (48 : UInt8) = 49 then 1 else 0) / 2 = valL t := by simp
      have e2 : (valL t * 2 + if (48 : UInt8) = 49 then 1 else 0) % 2 = 0 := by simp
      rw [e1, e2, ih]; rfl
    · have e1 : (valL t * 2 + if (49 : UInt8) = 49 then 1 else 0) / 2 = valL t := by simp; omega
      have e2 : (valL t * 2 + if (49 : UInt8) = 49 then 1 else 0) % 2 = 1 := by simp
      rw [e1, e2, ih]; rfl

theorem last_bit {l : List UInt8} (h : l.all bitB = true) : l.getLast? ≠ some 42 := by
  intro e
  have hm := List.mem_of_getLast? e
  rw [List.all_eq_true] at h
  have := h 42 hm
  simp [bitB] at this

/-- There and back. -/
theorem parse_text (n : Nat) (b : Int) (h : okB n b = true) : parseL (textL n b) = some (n, b) := by
  obtain ⟨h0, h8, hb, hl⟩ := ok_iff.1 h
  have hl' : b < 2 ^ n := by simpa using hl
  have h8' : n ≤ 8 := by omega
  have ht : textL n b = bitsL n b ++ (if (n : Int) < 8 then [42] else []) := by simp [textL, h]
  have hbits := bitsL_bits n b
  have hlen := bitsL_length n b
  have hval := valL_bitsL n b hb hl'
  have hlast := last_bit hbits
  by_cases e : n = 8
  · have ht' : textL n b = bitsL n b := by rw [ht, if_neg (by omega), List.append_nil]
    have hc : cntL (bitsL n b) = some n := by
      unfold cntL
      rw [if_pos ⟨by omega, hlast⟩, e]
    unfold parseL
    rw [ht', hc]
    simp only
    have htk : (bitsL n b).take n = bitsL n b := List.take_of_length_le (by omega)
    rw [htk, if_pos hbits, hval]
  · have ht' : textL n b = bitsL n b ++ [42] := by rw [ht, if_pos (by omega)]
    have hc : cntL (bitsL n b ++ [42]) = some n := by
      unfold cntL
      rw [if_neg (by simp), if_pos ⟨by simp, by simp [hlen]; omega, by simp⟩]
      simp [hlen]
    unfold parseL
    rw [ht', hc]
    simp only
    have htk : (bitsL n b ++ [42]).take n = bitsL n b := by rw [List.take_append_of_le_length (by omega), List.take_of_length_le (by omega)]
    rw [htk, if_pos hbits, hval]

/-- A text that tells a prefix is its. -/
theorem text_parse (l : List UInt8) (n : Nat) (v : Int) (h : parseL l = some (n, v)) : okB n v = true ∧ textL n v = l := by
  unfold parseL at h
  split at h
  · cases h
  · rename_i m hm
    split at h
    · rename_i hall
      simp only [Option.some.injEq, Prod.mk.injEq] at h
      obtain ⟨rfl, rfl⟩ := h
      obtain ⟨v0, v1⟩ := valL_bd (l.take m)
      unfold cntL at hm
      split at hm
      · rename_i hc
        cases hm
        have htk : l.take 8 = l := List.take_of_length_le (by omega)
        rw [htk] at hall v0 v1 ⊢
        rw [hc.1] at v1
        have ok : okB ((8 : Nat) : Int) (valL l) = true := ok_iff.2 ⟨by omega, by omega, v0, by simpa using v1⟩
        refine ⟨ok, ?_⟩
        have hb := bitsL_valL 8 l hc.1 hall
        simp only [textL, ok, if_true]
        rw [if_neg (by omega), List.append_nil]
        exact hb
      · split at hm
        · rename_i hc
          cases hm
          obtain ⟨hc0, hc8, hc42⟩ := hc
          have hlen : (l.take (l.length - 1)).length = l.length - 1 := by simp
          rw [hlen] at v1
          have ok : okB ((l.length - 1 : Nat) : Int) (valL (l.take (l.length - 1))) = true := ok_iff.2 ⟨by omega, by omega, v0, by simpa using v1⟩
          refine ⟨ok, ?_⟩
          have hb := bitsL_valL (l.length - 1) _ hlen hall
          simp only [textL, ok, if_true]
          rw [if_pos (by omega)]
          have e2 : l.take (l.length - 1) ++ [42] = l := by
            have hne : l ≠ [] := by intro e; subst e; simp at hc0
            have e3 := List.dropLast_concat_getLast hne
            rw [List.getLast?_eq_some_getLast hne] at hc42
            rw [Option.some.inj hc42] at e3
            rw [← List.dropLast_eq_take]
            exact e3
          rw [show ((l.length - 1 : Nat) : Int).toNat = l.length - 1 from by simp, hb]
          exact e2
        · cases hm
    · cases h

end Go.Proofs.Ytceclaboeajcaaa
