/- PLAIN FACTS ON NUMBERS: no Go in sight. -/
namespace Go.Proofs.Ytmlmcpopkcgflab

/-- Is it a prefix? -/
def okB (l b : Int) : Bool := decide (0 ≤ l ∧ l ≤ 8 ∧ 0 ≤ b ∧ b < 2 ^ l.toNat)
/-- Is it an address? -/
def adB (a : Int) : Bool := decide (0 ≤ a ∧ a < 256)
/-- The lowest address. -/
def firstI (l b : Int) : Int := if okB l b then b * 2 ^ (8 - l).toNat else -1
/-- The greatest address. -/
def lastI (l b : Int) : Int := if okB l b then b * 2 ^ (8 - l).toNat + 2 ^ (8 - l).toNat - 1 else -1
/-- Is an address one of its? -/
def hasB (l b a : Int) : Bool := decide (okB l b = true ∧ 0 ≤ a ∧ a < 256 ∧ a / 2 ^ (8 - l).toNat = b)
/-- Has it all of another one's? -/
def covB (l b m c : Int) : Bool := decide (okB l b = true ∧ okB m c = true ∧ l ≤ m ∧ c / 2 ^ (m - l).toNat = b)
/-- Does it stand ahead? -/
def lessB (l b m c : Int) : Bool := decide (firstI l b < firstI m c ∨ firstI l b = firstI m c ∧ l < m)

theorem ok_iff {l b : Int} : okB l b = true ↔ 0 ≤ l ∧ l ≤ 8 ∧ 0 ≤ b ∧ b < 2 ^ l.toNat := by unfold okB; simp
theorem has_iff {l b a : Int} : hasB l b a = true ↔ okB l b = true ∧ 0 ≤ a ∧ a < 256 ∧ a / 2 ^ (8 - l).toNat = b := by unfold hasB; simp
theorem cov_iff {l b m c : Int} : covB l b m c = true ↔ okB l b = true ∧ okB m c = true ∧ l ≤ m ∧ c / 2 ^ (m - l).toNat = b := by unfold covB; simp
theorem less_iff {l b m c : Int} : lessB l b m c = true ↔ firstI l b < firstI m c ∨ firstI l b = firstI m c ∧ l < m := by unfold lessB; simp

/-- Nine lengths. -/
theorem nine {l : Int} (h0 : 0 ≤ l) (h8 : l ≤ 8) : l = 0 ∨ l = 1 ∨ l = 2 ∨ l = 3 ∨ l = 4 ∨ l = 5 ∨ l = 6 ∨ l = 7 ∨ l = 8 := by omega

theorem pw_bd (k : Int) (h : k ≤ 8) : (1 : Int) ≤ 2 ^ k.toNat ∧ (2 : Int) ^ k.toNat ≤ 256 := by
  by_cases h0 : 0 ≤ k
  · rcases nine h0 h with h | h | h | h | h | h | h | h | h <;> subst h <;> decide
  · have e : k.toNat = 0 := by omega
    rw [e]; decide

/-- What a prefix is, by its nine lengths: the bits, and both powers as numbers. -/
theorem ok_pows {l b : Int} (h : okB l b = true) : 0 ≤ l ∧ l ≤ 8 ∧ 0 ≤ b ∧ b < 2 ^ l.toNat ∧ 0 ≤ b * 2 ^ (8 - l).toNat ∧ b * 2 ^ (8 - l).toNat + 2 ^ (8 - l).toNat ≤ 256 := by
  obtain ⟨h0, h8, hb, hl⟩ := ok_iff.1 h
  refine ⟨h0, h8, hb, hl, ?_⟩
  rcases nine h0 h8 with h | h | h | h | h | h | h | h | h <;> subst h <;> simp at hl ⊢ <;> omega

/-- The n lowest bits of a number, as a text of 0 and 1, the lowest one last. -/
def bitsL : Nat → Int → List UInt8
  | 0, _ => []
  | n + 1, b => bitsL n (b / 2) ++ [if b % 2 = 1 then 49 else 48]
/-- The text of a prefix. -/
def textL (l b : Int) : List UInt8 := if okB l b then bitsL l.toNat b ++ (if l < 8 then [42] else []) else []

theorem bitsL_length : ∀ (n : Nat) (b : Int), (bitsL n b).length = n
  | 0, _ => rfl
  | n + 1, b => by simp [bitsL, bitsL_length n]

theorem div_pow_succ (b : Int) (m : Nat) : b / 2 ^ m / 2 = b / 2 ^ (m + 1) := by
  rw [Int.pow_succ, Int.ediv_ediv_of_nonneg (Int.le_of_lt (Int.pow_pos (by decide)))]

/-- One bit more. -/
theorem bitsL_next (n m : Nat) (b : Int) (v : UInt8) (hm : m + 1 ≤ n) (hv : (if b / 2 ^ m % 2 = 1 then (49 : UInt8) else 48) = v) :
    bitsL (n - m) (b / 2 ^ m) = bitsL (n - (m + 1)) (b / 2 ^ (m + 1)) ++ [v] := by
  have e : n - m = (n - (m + 1)) + 1 := by omega
  rw [e, bitsL, div_pow_succ, hv]

end Go.Proofs.Ytmlmcpopkcgflab
