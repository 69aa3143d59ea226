/- THE PLAIN TEXTS: no Go here. -/
import Derived.Sort.Statements
/- PLAIN FACTS ON NUMBERS: no Go in sight. -/
namespace Go.Proofs.YtimbgijpeomfcacGreatDoor

/-- Is it a prefix? -/
def okB (l b : Int) : Bool := decide (0 ≤ l ∧ l ≤ 8 ∧ 0 ≤ b ∧ b < 2 ^ l.toNat)
/-- Is it an address? -/
def adB (a : Int) : Bool := decide (0 ≤ a ∧ a < 256)
/-- The lowest address. -/
def firstI (l b : Int) : Int := if okB l b then b * 2 ^ (8 - l).toNat else -1
/-- The greatest address. -/
def lastI (l b : Int) : Int := if okB l b then b * 2 ^ (8 - l).toNat + 2 ^ (8 - l).toNat - 1 else -1
/-- Is an address one of its? -/
def hasB (l b a : Int) : Bool := decide (okB l b = true ∧ 0 ≤ a ∧ a < 256 ∧ a / 2 ^ (8 - l).toNat = b)
/-- Has it all of another one's? -/
def covB (l b m c : Int) : Bool := decide (okB l b = true ∧ okB m c = true ∧ l ≤ m ∧ c / 2 ^ (m - l).toNat = b)
/-- Does it stand ahead? -/
def lessB (l b m c : Int) : Bool := decide (firstI l b < firstI m c ∨ firstI l b = firstI m c ∧ l < m)

theorem ok_iff {l b : Int} : okB l b = true ↔ 0 ≤ l ∧ l ≤ 8 ∧ 0 ≤ b ∧ b < 2 ^ l.toNat := by unfold okB; simp
theorem has_iff {l b a : Int} : hasB l b a = true ↔ okB l b = true ∧ 0 ≤ a ∧ a < 256 ∧ a / 2 ^ (8 - l).toNat = b := by unfold hasB; simp
theorem cov_iff {l b m c : Int} : covB l b m c = true ↔ okB l b = true ∧ okB m c = true ∧ l ≤ m ∧ c / 2 ^ (m - l).toNat = b := by unfold covB; simp
theorem less_iff {l b m c : Int} : lessB l b m c = true ↔ firstI l b < firstI m c ∨ firstI l b = firstI m c ∧ l < m := by unfold lessB; simp

/-- Nine lengths. -/
theorem nine {l : Int} (h0 : 0 ≤ l) (h8 : l ≤ 8) : l = 0 ∨ l = 1 ∨ l = 2 ∨ l = 3 ∨ l = 4 ∨ l = 5 ∨ l = 6 ∨ l = 7 ∨ l = 8 := by omega

theorem pw_bd (k : Int) (h : k ≤ 8) : (1 : Int) ≤ 2 ^ k.toNat ∧ (2 : Int) ^ k.toNat ≤ 256 := by
  by_cases h0 : 0 ≤ k
  · rcases nine h0 h with h | h | h | h | h | h | h | h | h <;> subst h <;> decide
  · have e : k.toNat = 0 := by omega
    rw [e]; decide

/-- What a prefix is, by its nine lengths: the bits, and both powers as numbers. -/
theorem ok_pows {l b : Int} (h : okB l b = true) : 0 ≤ l ∧ l ≤ 8 ∧ 0 ≤ b ∧ b < 2 ^ l.toNat ∧ 0 ≤ b * 2 ^ (8 - l).toNat ∧ b * 2 ^ (8 - l).toNat + 2 ^ (8 - l).toNat ≤ 256 := by
  obtain ⟨h0, h8, hb, hl⟩ := ok_iff.1 h
  refine ⟨h0, h8, hb, hl, ?_⟩
  rcases nine h0 h8 with h | h | h | h | h | h | h | h | h <;> subst h <;> simp at hl ⊢ <;> omega

/-- The n lowest bits of a number, as a text of 0 and 1, the lowest one last. -/
def bitsL : Nat → Int → List UInt8
  | 0, _ => []
  | n + 1, b => bitsL n (b / 2) ++ [if b % 2 = 1 then 49 else 48]
/-- The text of a prefix. -/
def textL (l b : Int) : List UInt8 := if okB l b then bitsL l.toNat b ++ (if l < 8 then [42] else []) else []

theorem bitsL_length : ∀ (n : Nat) (b : Int), (bitsL n b).length = n
  | 0, _ => rfl
  | n + 1, b => by simp [bitsL, bitsL_length n]

theorem div_pow_succ (b : Int) (m : Nat) : b / 2 ^ m / 2 = b / 2 ^ (m + 1) := by
  rw [Int.pow_succ, Int.ediv_ediv_of_nonneg (Int.le_of_lt (Int.pow_pos (by decide)))]

/-- One bit more. -/
theorem bitsL_next (n m : Nat) (b : Int) (v : UInt8) (hm : m + 1 ≤ n) (hv : (if b / 2 ^ m % 2 = 1 then (49 : UInt8) else 48) = v) :
    bitsL (n - m) (b / 2 ^ m) = bitsL (n - (m + 1)) (b / 2 ^ (m + 1)) ++ [v] := by
  have e : n - m = (n - (m + 1)) + 1 := by omega
  rw [e, bitsL, div_pow_succ, hv]

end Go.Proofs.YtimbgijpeomfcacGreatDoor

/- PLAIN FACTS for PrefixSpan: no Go in sight. -/
namespace Go.Proofs.YtimbgijpeomfcacGreatDoor

theorem first_is_ok {l b : Int} (h : okB l b = true) : firstI l b = b * 2 ^ (8 - l).toNat := by simp [firstI, h]
theorem last_is_ok {l b : Int} (h : okB l b = true) : lastI l b = b * 2 ^ (8 - l).toNat + 2 ^ (8 - l).toNat - 1 := by simp [lastI, h]

/-- All in a row. -/
theorem span_has {l b a : Int} (h : okB l b = true) : 0 ≤ firstI l b ∧ firstI l b ≤ lastI l b ∧ lastI l b ≤ 255 ∧ (hasB l b a = true ↔ firstI l b ≤ a ∧ a ≤ lastI l b) := by
  rw [has_iff, first_is_ok h, last_is_ok h]
  obtain ⟨h0, h8, hb, hl, g1, g2⟩ := ok_pows h
  simp only [h, true_and]
  rcases nine h0 h8 with h | h | h | h | h | h | h | h | h <;> subst h <;> simp at hl g1 g2 ⊢ <;> omega

/-- The child of one bit 1. -/
theorem span_child {l b : Int} (h : okB l b = true) (h8 : l < 8) : okB (l + 1) (b * 2 + 1) = true ∧ lastI (l + 1) (b * 2 + 1) = lastI l b ∧ 2 * (lastI l b - firstI (l + 1) (b * 2 + 1) + 1) = lastI l b - firstI l b + 1 ∧ 0 ≤ firstI (l + 1) (b * 2 + 1) ∧ firstI (l + 1) (b * 2 + 1) ≤ 255 := by
  obtain ⟨h0, _, hb, hl, g1, g2⟩ := ok_pows h
  have hc : okB (l + 1) (b * 2 + 1) = true := by
    rw [ok_iff]
    refine ⟨by omega, by omega, by omega, ?_⟩
    have e : (l + 1).toNat = l.toNat + 1 := by omega
    rw [e, Int.pow_succ]; omega
  refine ⟨hc, ?_⟩
  rw [first_is_ok h, last_is_ok h, first_is_ok hc, last_is_ok hc]
  rcases nine h0 (by omega) with h | h | h | h | h | h | h | h | h <;> subst h <;> simp at hl g1 g2 h8 ⊢ <;> omega

/-- Of two prefixes with the same first and the same last address they are the same. -/
theorem span_same {l b m c : Int} (h : okB l b = true) (k : okB m c = true) (e1 : firstI m c = firstI l b) (e2 : lastI m c = lastI l b) : l = m ∧ b = c := by
  rw [first_is_ok h, first_is_ok k] at e1
  rw [last_is_ok h, last_is_ok k] at e2
  obtain ⟨h0, h8, hb, hl, g1, g2⟩ := ok_pows h
  obtain ⟨k0, k8, kb, kl, f1, f2⟩ := ok_pows k
  have e3 : (2 : Int) ^ (8 - l).toNat = 2 ^ (8 - m).toNat := by omega
  have e4 : l = m := by
    rcases nine h0 h8 with h | h | h | h | h | h | h | h | h <;> subst h <;> rcases nine k0 k8 with k | k | k | k | k | k | k | k | k <;> subst k <;> simp at e3 ⊢
  subst e4
  refine ⟨rfl, ?_⟩
  have hp := (pw_bd (8 - l) (by omega)).1
  exact (Int.eq_of_mul_eq_mul_right (by omega) e1).symm

end Go.Proofs.YtimbgijpeomfcacGreatDoor

/- TABLES AS LISTS OF ROUTES: the order of prefixes; where a route stands; setting, getting, looking; what the reference does; facts for the laws. No Go here. -/
namespace Go.Proofs.YtimbgijpeomfcacGreatDoor

/-- A route: Len, Bits, Hop. -/
abbrev Rt := Int × Int × Int
def hopB (h : Int) : Bool := decide (h = -1 ∨ (0 ≤ h ∧ h < 6))
/-- Is r a route of the prefix l, b? -/
def sameB (r : Rt) (l b : Int) : Bool := decide (r.1 = l ∧ r.2.1 = b)
/-- Is r ahead of the prefix l, b? -/
def ltB (r : Rt) (l b : Int) : Bool := lessB r.1 r.2.1 l b

/-- What a table holds. -/
structure Tab (rs : List Rt) : Prop where
  ok : ∀ r ∈ rs, okB r.1 r.2.1 = true ∧ hopB r.2.2 = true
  srt : rs.Pairwise (fun r s => lessB r.1 r.2.1 s.1 s.2.1 = true)
  len : rs.length ≤ 40

theorem less_irr (l b : Int) : lessB l b l b = false := by
  cases h : lessB l b l b
  · rfl
  · rw [less_iff] at h; omega
theorem less_tr {l b m c n d : Int} (h : lessB l b m c = true) (k : lessB m c n d = true) : lessB l b n d = true := by
  rw [less_iff] at *; omega
theorem less_asy {l b m c : Int} (h : lessB l b m c = true) : lessB m c l b = false := by
  cases k : lessB m c l b
  · rfl
  · rw [less_iff] at *; omega
theorem less_tot {l b m c : Int} (ho : okB l b = true) (hk : okB m c = true) (h : lessB l b m c = false) (k : lessB m c l b = false) : l = m ∧ b = c := by
  have h1 : ¬ (firstI l b < firstI m c ∨ firstI l b = firstI m c ∧ l < m) := fun e => by rw [less_iff.2 e] at h; cases h
  have h2 : ¬ (firstI m c < firstI l b ∨ firstI m c = firstI l b ∧ m < l) := fun e => by rw [less_iff.2 e] at k; cases k
  have e1 : l = m := by omega
  have e2 : firstI l b = firstI m c := by omega
  subst e1
  rw [first_is_ok ho, first_is_ok hk] at e2
  refine ⟨rfl, ?_⟩
  have hp : (0 : Int) < 2 ^ (8 - l).toNat := Int.pow_pos (by decide)
  exact Int.eq_of_mul_eq_mul_right (by omega) e2

/-- Two prefixes with one address: the shorter one is ahead. -/
theorem less_len {l b m c a : Int} (h : hasB l b a = true) (k : hasB m c a = true) : lessB l b m c = true ↔ l < m := by
  obtain ⟨ho, a0, a1, hb⟩ := has_iff.1 h
  obtain ⟨ho', _, _, hb'⟩ := has_iff.1 k
  obtain ⟨h0, h8, _, _⟩ := ok_iff.1 ho
  obtain ⟨k0, k8, _, _⟩ := ok_iff.1 ho'
  rw [less_iff, first_is_ok ho, first_is_ok ho']
  subst hb hb'
  rcases nine h0 h8 with rfl | rfl | rfl | rfl | rfl | rfl | rfl | rfl | rfl <;>
  rcases nine k0 k8 with rfl | rfl | rfl | rfl | rfl | rfl | rfl | rfl | rfl <;>
  simp (config := { decide := true }) only [] <;> simp <;> omega
theorem same_len {l b m c a : Int} (h : hasB l b a = true) (k : hasB m c a = true) (e : l = m) : b = c := by
  obtain ⟨_, _, _, hb⟩ := has_iff.1 h
  obtain ⟨_, _, _, hb'⟩ := has_iff.1 k
  subst e hb hb'; rfl

/-- Where a prefix stands, or would have to. -/
def plc (rs : List Rt) (l b : Int) : Nat := (rs.takeWhile (fun r => ltB r l b)).length
def fnd (rs : List Rt) (l b : Int) : Bool := (rs[plc rs l b]?).any (fun r => sameB r l b)
def getL (rs : List Rt) (l b : Int) : Int := match rs[plc rs l b]? with | some r => if sameB r l b then r.2.2 else -2 | none => -2
def setL (rs : List Rt) (l b h : Int) : List Rt × Int :=
  if okB l b = false ∨ (hopB h = false ∧ h ≠ -2) then (rs, 1)
  else if h = -2 ∧ fnd rs l b = false then (rs, 6)
  else if h = -2 then (rs.take (plc rs l b) ++ rs.drop (plc rs l b + 1), 0)
  else if fnd rs l b = true then (rs.take (plc rs l b) ++ (l, b, h) :: rs.drop (plc rs l b + 1), 0)
  else if 40 ≤ rs.length then (rs, 9)
  else (rs.take (plc rs l b) ++ (l, b, h) :: rs.drop (plc rs l b), 0)

theorem takeWhile_len_le (p : Rt → Bool) (rs : List Rt) : (rs.takeWhile p).length ≤ rs.length := by
  induction rs with
  | nil => simp
  | cons r rs ih => simp only [List.takeWhile_cons]; split <;> simp; omega
theorem plc_le (rs : List Rt) (l b : Int) : plc rs l b ≤ rs.length := takeWhile_len_le _ _
theorem takeWhile_all (p : Rt → Bool) (A B : List Rt) (hA : ∀ r ∈ A, p r = true) (hB : ∀ r ∈ B, p r = false) : (A ++ B).takeWhile p = A := by
  induction A with
  | nil => cases B with
    | nil => rfl
    | cons r B => simp [hB r (by simp)]
  | cons r A ih => simp [hA r (by simp), ih (fun x hx => hA x (by simp [hx]))]

theorem Tab.mem {rs : List Rt} (h : Tab rs) {r : Rt} (hr : r ∈ rs) : okB r.1 r.2.1 = true := (h.ok r hr).1

/-- The routes ahead of a prefix, and the others. -/
theorem Tab.cut {rs : List Rt} (h : Tab rs) (l b : Int) : ∃ A B, rs = A ++ B ∧ plc rs l b = A.length ∧ (∀ r ∈ A, ltB r l b = true) ∧ (∀ r ∈ B, ltB r l b = false) := by
  refine ⟨rs.takeWhile (fun r => ltB r l b), rs.dropWhile (fun r => ltB r l b), List.takeWhile_append_dropWhile.symm, rfl, ?_, ?_⟩
  · intro r hr
    clear h
    induction rs with
    | nil => simp at hr
    | cons x rs ih =>
      rw [List.takeWhile_cons] at hr
      split at hr
      · rename_i hx
        rcases List.mem_cons.1 hr with rfl | hr
        · exact hx
        · exact ih hr
      · simp at hr
  · have hs := h.srt
    clear h
    induction rs with
    | nil => intro r hr; simp at hr
    | cons x rs ih =>
      intro r hr
      rw [List.dropWhile_cons] at hr
      rw [List.pairwise_cons] at hs
      split at hr
      · exact ih hs.2 r hr
      · rename_i hx
        rcases List.mem_cons.1 hr with rfl | hr
        · simpa using hx
        · cases e : ltB r l b
          · rfl
          · exact absurd (less_tr (hs.1 r hr) e) hx

/-- What place finds: the places below are those ahead. -/
theorem plc_lt {rs : List Rt} (h : Tab rs) (l b : Int) (t : Nat) (ht : t < rs.length) : (t < plc rs l b → ltB rs[t] l b = true) ∧ (plc rs l b ≤ t → ltB rs[t] l b = false) := by
  obtain ⟨A, B, rfl, hp, hA, hB⟩ := h.cut l b
  rw [hp]
  refine ⟨fun hlt => ?_, fun hge => ?_⟩
  · rw [List.getElem_append_left hlt]
    exact hA _ (List.getElem_mem _)
  · rw [List.getElem_append_right hge]
    exact hB _ (List.getElem_mem _)

/-- A table parted at a prefix: its route, if it is there. -/
theorem Tab.part {rs : List Rt} (h : Tab rs) {l b : Int} (ho : okB l b = true) :
    ∃ A B, plc rs l b = A.length ∧ (∀ r ∈ A, lessB r.1 r.2.1 l b = true) ∧ (∀ r ∈ B, lessB l b r.1 r.2.1 = true) ∧
      ((rs = A ++ B ∧ fnd rs l b = false ∧ getL rs l b = -2) ∨ ∃ h0, hopB h0 = true ∧ rs = A ++ (l, b, h0) :: B ∧ fnd rs l b = true ∧ getL rs l b = h0) := by
  obtain ⟨A, B, rfl, hp, hA, hB⟩ := h.cut l b
  have key : ∀ r ∈ B, sameB r l b = false → lessB l b r.1 r.2.1 = true := by
    intro r hr hs
    cases e : lessB l b r.1 r.2.1
    · have := less_tot (h.mem (List.mem_append_right _ hr)) ho (hB r hr) e
      simp [sameB, this] at hs
    · rfl
  cases B with
  | nil =>
    refine ⟨A, [], hp, hA, by simp, .inl ⟨rfl, ?_, ?_⟩⟩
    · unfold fnd; rw [hp]; simp
    · unfold getL; rw [hp]; simp
  | cons x B =>
    have hx : (A ++ x :: B)[plc (A ++ x :: B) l b]? = some x := by rw [hp]; simp
    have hrest : ∀ r ∈ B, lessB x.1 x.2.1 r.1 r.2.1 = true := by
      have := (List.pairwise_append.1 h.srt).2.1
      exact (List.pairwise_cons.1 this).1
    cases hs : sameB x l b
    · refine ⟨A, x :: B, hp, hA, ?_, .inl ⟨rfl, ?_, ?_⟩⟩
      · intro r hr
        rcases List.mem_cons.1 hr with rfl | hr'
        · exact key _ hr hs
        · exact less_tr (key x (by simp) hs) (hrest r hr')
      · unfold fnd; rw [hx]; simp [hs]
      · unfold getL; rw [hx]; simp [hs]
    · obtain ⟨xl, xb, xh⟩ := x
      have e : xl = l ∧ xb = b := by simpa [sameB] using hs
      obtain ⟨rfl, rfl⟩ := e
      refine ⟨A, B, hp, hA, hrest, .inr ⟨xh, (h.ok (xl, xb, xh) (by simp)).2, rfl, ?_, ?_⟩⟩
      · unfold fnd; rw [hx]; simp [hs]
      · unfold getL; rw [hx]; simp [hs]

/-- What is no prefix is not there. -/
theorem Tab.lacks {rs : List Rt} (h : Tab rs) {l b : Int} (ho : okB l b = false) : fnd rs l b = false ∧ getL rs l b = -2 := by
  have : ∀ r, rs[plc rs l b]? = some r → sameB r l b = false := by
    intro r hr
    cases hs : sameB r l b
    · rfl
    · have e : r.1 = l ∧ r.2.1 = b := by simpa [sameB] using hs
      have := h.mem (List.mem_of_getElem? hr)
      rw [e.1, e.2, ho] at this
      cases this
  unfold fnd getL
  cases hr : rs[plc rs l b]? with
  | none => simp
  | some r => simp [this r hr]

/-- A table of parts. -/
theorem Tab.mk_parts {A B : List Rt} {l b h : Int} (hAB : Tab (A ++ B)) (ho : okB l b = true) (hh : hopB h = true) (hA : ∀ r ∈ A, lessB r.1 r.2.1 l b = true) (hB : ∀ r ∈ B, lessB l b r.1 r.2.1 = true) (hl : (A ++ B).length < 40) : Tab (A ++ (l, b, h) :: B) := by
  refine ⟨?_, ?_, by simp at hl ⊢; omega⟩
  · intro r hr
    rcases List.mem_append.1 hr with hr | hr
    · exact hAB.ok r (List.mem_append_left _ hr)
    · rcases List.mem_cons.1 hr with rfl | hr
      · exact ⟨ho, hh⟩
      · exact hAB.ok r (List.mem_append_right _ hr)
  · have hp := List.pairwise_append.1 hAB.srt
    refine List.pairwise_append.2 ⟨hp.1, List.pairwise_cons.2 ⟨hB, hp.2.1⟩, ?_⟩
    intro x hx y hy
    rcases List.mem_cons.1 hy with rfl | hy
    · exact hA x hx
    · exact hp.2.2 x hx y hy
theorem Tab.drop_mid {A B : List Rt} {r : Rt} (h : Tab (A ++ r :: B)) : Tab (A ++ B) := by
  refine ⟨fun x hx => h.ok x ?_, ?_, by have := h.len; simp at this ⊢; omega⟩
  · rcases List.mem_append.1 hx with hx | hx
    · exact List.mem_append_left _ hx
    · exact List.mem_append_right _ (List.mem_cons_of_mem _ hx)
  · have hp := List.pairwise_append.1 h.srt
    exact List.pairwise_append.2 ⟨hp.1, (List.pairwise_cons.1 hp.2.1).2, fun x hx y hy => hp.2.2 x hx y (List.mem_cons_of_mem _ hy)⟩

/-- Set, by parts. -/
theorem Tab.set {rs : List Rt} (h : Tab rs) (l b h' : Int) :
    ((setL rs l b h').1 = rs ∧ (setL rs l b h').2 ≠ 0) ∨
    (okB l b = true ∧ (setL rs l b h').2 = 0 ∧ ∃ A B, plc rs l b = A.length ∧ (∀ r ∈ A, lessB r.1 r.2.1 l b = true) ∧ (∀ r ∈ B, lessB l b r.1 r.2.1 = true) ∧
      ((h' = -2 ∧ ∃ h0, hopB h0 = true ∧ rs = A ++ (l, b, h0) :: B ∧ fnd rs l b = true ∧ getL rs l b = h0 ∧ (setL rs l b h').1 = A ++ B) ∨
       (hopB h' = true ∧ h' ≠ -2 ∧ (setL rs l b h').1 = A ++ (l, b, h') :: B ∧ ((rs = A ++ B ∧ rs.length < 40 ∧ fnd rs l b = false ∧ getL rs l b = -2) ∨ ∃ h0, hopB h0 = true ∧ rs = A ++ (l, b, h0) :: B ∧ fnd rs l b = true ∧ getL rs l b = h0)))) := by
  unfold setL
  by_cases h1 : okB l b = false ∨ (hopB h' = false ∧ h' ≠ -2)
  · rw [if_pos h1]; exact .inl ⟨rfl, by simp⟩
  rw [if_neg h1]
  have ho : okB l b = true := by cases e : okB l b with | true => rfl | false => exact absurd (.inl e) h1
  obtain ⟨A, B, hp, hA, hB, hc⟩ := h.part ho
  by_cases h2 : h' = -2 ∧ fnd rs l b = false
  · rw [if_pos h2]; exact .inl ⟨rfl, by simp⟩
  rw [if_neg h2]
  by_cases h3 : h' = -2
  · rw [if_pos h3]
    rcases hc with ⟨_, e, _⟩ | ⟨h0, hh0, e, hf, hg⟩
    · exact absurd ⟨h3, e⟩ h2
    · refine .inr ⟨ho, rfl, A, B, hp, hA, hB, .inl ⟨h3, h0, hh0, e, hf, hg, ?_⟩⟩
      rw [hp, e]
      simp
  rw [if_neg h3]
  have hh : hopB h' = true := by cases e : hopB h' with | true => rfl | false => exact absurd (.inr ⟨e, h3⟩) h1
  by_cases h4 : fnd rs l b = true
  · rw [if_pos h4]
    rcases hc with ⟨_, e, _⟩ | ⟨h0, hh0, e, hf, hg⟩
    · rw [e] at h4; cases h4
    · refine .inr ⟨ho, rfl, A, B, hp, hA, hB, .inr ⟨hh, h3, ?_, .inr ⟨h0, hh0, e, hf, hg⟩⟩⟩
      rw [hp, e]
      simp
  rw [if_neg h4]
  by_cases h5 : 40 ≤ rs.length
  · rw [if_pos h5]; exact .inl ⟨rfl, by simp⟩
  rw [if_neg h5]
  rcases hc with ⟨e, hf, hg⟩ | ⟨h0, hh0, e, hf, hg⟩
  · refine .inr ⟨ho, rfl, A, B, hp, hA, hB, .inr ⟨hh, h3, ?_, .inl ⟨e, by omega, hf, hg⟩⟩⟩
    rw [hp, e]
    simp
  · exact absurd hf h4

theorem Tab.set_tab {rs : List Rt} (h : Tab rs) (l b h' : Int) : Tab (setL rs l b h').1 := by
  rcases h.set l b h' with ⟨e, _⟩ | ⟨ho, _, A, B, _, hA, hB, ⟨_, h0, _, e, _, _, e'⟩ | ⟨hh, _, e', ⟨e, hl, _⟩ | ⟨h0, _, e, _⟩⟩⟩
  · rw [e]; exact h
  · rw [e']; subst e; exact h.drop_mid
  · rw [e']; subst e; exact h.mk_parts ho hh hA hB hl
  · rw [e']; subst e
    exact h.drop_mid.mk_parts ho hh hA hB (by have := h.len; simp at this ⊢; omega)

theorem Tab.nil : Tab [] := ⟨by simp, by simp, by simp⟩

/-- Looking: from the end on. -/
def lookL (rs : List Rt) (a : Int) : Int := rs.foldl (fun acc r => if hasB r.1 r.2.1 a then r.2.2 else acc) (-1)
theorem lookL_snoc (rs : List Rt) (r : Rt) (a : Int) : lookL (rs ++ [r]) a = if hasB r.1 r.2.1 a then r.2.2 else lookL rs a := by simp [lookL]
def lookFrom (x : Int) (rs : List Rt) (a : Int) : Int := rs.foldl (fun acc r => if hasB r.1 r.2.1 a then r.2.2 else acc) x
theorem lookL_append (A B : List Rt) (a : Int) : lookL (A ++ B) a = lookFrom (lookL A a) B a := by simp [lookL, lookFrom]
theorem lookFrom_none {B : List Rt} {a : Int} (h : ∀ r ∈ B, hasB r.1 r.2.1 a = false) (x : Int) : lookFrom x B a = x := by
  induction B generalizing x with
  | nil => rfl
  | cons r B ih => simp only [lookFrom, List.foldl_cons, h r (by simp)]; exact ih (fun y hy => h y (by simp [hy])) x
theorem lookFrom_some {B : List Rt} {a : Int} (h : ∃ r ∈ B, hasB r.1 r.2.1 a = true) (x y : Int) : lookFrom x B a = lookFrom y B a := by
  induction B generalizing x y with
  | nil => simp at h
  | cons r B ih =>
    simp only [lookFrom, List.foldl_cons]
    cases hr : hasB r.1 r.2.1 a
    · obtain ⟨q, hq, hqa⟩ := h
      rcases List.mem_cons.1 hq with rfl | hq
      · rw [hr] at hqa; cases hqa
      · exact ih ⟨q, hq, hqa⟩ x y
    · rfl
theorem lookL_mid {A B : List Rt} {r : Rt} {a : Int} (hr : hasB r.1 r.2.1 a = true) (hB : ∀ s ∈ B, hasB s.1 s.2.1 a = false) : lookL (A ++ r :: B) a = r.2.2 := by
  rw [lookL_append]
  simp only [lookFrom, List.foldl_cons, hr, if_true]
  exact lookFrom_none hB _
theorem lookL_skip {A B : List Rt} {r : Rt} {a : Int} (hr : hasB r.1 r.2.1 a = false) : lookL (A ++ r :: B) a = lookL (A ++ B) a := by
  rw [lookL_append, lookL_append]
  simp [lookFrom, hr]
theorem lookL_none {rs : List Rt} {a : Int} (h : ∀ r ∈ rs, hasB r.1 r.2.1 a = false) : lookL rs a = -1 := lookFrom_none h _

/-- The longest counts. -/
theorem Tab.longest {rs : List Rt} (h : Tab rs) (a : Int) {r : Rt} (hr : r ∈ rs) (ha : hasB r.1 r.2.1 a = true) (hm : ∀ s ∈ rs, hasB s.1 s.2.1 a = true → s.1 ≤ r.1) : lookL rs a = r.2.2 := by
  obtain ⟨A, B, rfl⟩ := List.append_of_mem hr
  refine lookL_mid ha fun s hs => ?_
  cases e : hasB s.1 s.2.1 a
  · rfl
  · have h1 := (List.pairwise_cons.1 (List.pairwise_append.1 h.srt).2.1).1 s hs
    have h2 := (less_len ha e).1 h1
    have h3 := hm s (by simp [hs]) e
    omega

/-- A route says nothing of others' addresses. -/
theorem Tab.apart {rs : List Rt} (h : Tab rs) (l b h' a : Int) (hc : (setL rs l b h').2 = 0) :
    (hasB l b a = false ∨ (∃ r ∈ rs, hasB r.1 r.2.1 a = true ∧ l < r.1) → lookL (setL rs l b h').1 a = lookL rs a) ∧
    (hasB l b a = true → (∀ r ∈ rs, hasB r.1 r.2.1 a = true → r.1 ≤ l) → h' ≠ -2 → lookL (setL rs l b h').1 a = h') := by
  rcases h.set l b h' with ⟨_, e⟩ | ⟨ho, _, A, B, _, hA, hB, hx⟩
  · exact absurd hc e
  have far : ∀ r ∈ B, hasB l b a = true → hasB r.1 r.2.1 a = true → l < r.1 := fun r hr h1 h2 => (less_len h1 h2).1 (hB r hr)
  have near : ∀ r ∈ A, hasB l b a = true → hasB r.1 r.2.1 a = true → r.1 < l := fun r hr h1 h2 => (less_len h2 h1).1 (hA r hr)
  have inB : ∀ mid : List Rt, (∀ r ∈ mid, r.1 = l) → hasB l b a = true → (∃ r ∈ A ++ (mid ++ B), hasB r.1 r.2.1 a = true ∧ l < r.1) → ∃ r ∈ B, hasB r.1 r.2.1 a = true := by
    rintro mid hmid h1 ⟨r, hr, hra, hrl⟩
    rcases List.mem_append.1 hr with hr | hr
    · have := near r hr h1 hra; omega
    · rcases List.mem_append.1 hr with hr | hr
      · have := hmid r hr; omega
      · exact ⟨r, hr, hra⟩
  have both : ∀ (m1 m2 : List Rt), (∃ r ∈ B, hasB r.1 r.2.1 a = true) → lookL (A ++ (m1 ++ B)) a = lookL (A ++ (m2 ++ B)) a := by
    intro m1 m2 hb
    rw [← List.append_assoc, ← List.append_assoc, lookL_append, lookL_append (A ++ m2)]
    exact lookFrom_some hb _ _
  have skip : ∀ h1 : Int, hasB l b a = false → lookL (A ++ (l, b, h1) :: B) a = lookL (A ++ B) a := fun h1 hn => lookL_skip (r := (l, b, h1)) hn
  have isL : ∀ h1 : Int, (∀ r ∈ [((l, b, h1) : Rt)], r.1 = l) := by simp
  rcases hx with ⟨e1, h0, _, e, _, _, e'⟩ | ⟨hh, h2, e', ⟨e, hl, _⟩ | ⟨h0, _, e, _⟩⟩
  · rw [e']; subst e
    refine ⟨fun hor => ?_, fun _ _ h3 => absurd e1 h3⟩
    cases hp : hasB l b a
    · exact (skip h0 hp).symm
    · rcases hor with hor | hor
      · rw [hp] at hor; cases hor
      · exact both [] [(l, b, h0)] (inB [(l, b, h0)] (isL h0) hp hor)
  · rw [e']; subst e
    refine ⟨fun hor => ?_, fun hp hno _ => ?_⟩
    · cases hp : hasB l b a
      · exact skip h' hp
      · rcases hor with hor | hor
        · rw [hp] at hor; cases hor
        · exact both [(l, b, h')] [] (inB [] (by simp) hp hor)
    · refine lookL_mid (r := (l, b, h')) hp fun s hs => ?_
      cases e : hasB s.1 s.2.1 a
      · rfl
      · have := far s hs hp e
        have := hno s (by simp [hs]) e
        omega
  · rw [e']; subst e
    refine ⟨fun hor => ?_, fun hp hno _ => ?_⟩
    · cases hp : hasB l b a
      · rw [skip h' hp, skip h0 hp]
      · rcases hor with hor | hor
        · rw [hp] at hor; cases hor
        · exact both [(l, b, h')] [(l, b, h0)] (inB [(l, b, h0)] (isL h0) hp hor)
    · refine lookL_mid (r := (l, b, h')) hp fun s hs => ?_
      cases e : hasB s.1 s.2.1 a
      · rfl
      · have := far s hs hp e
        have := hno s (by simp [hs]) e
        omega

theorem plc_parts {A B : List Rt} {l b : Int} (hA : ∀ r ∈ A, lessB r.1 r.2.1 l b = true) (hB : ∀ r ∈ B, lessB l b r.1 r.2.1 = true) :
    (plc (A ++ B) l b = A.length ∧ fnd (A ++ B) l b = false ∧ getL (A ++ B) l b = -2) ∧ ∀ h0, plc (A ++ (l, b, h0) :: B) l b = A.length ∧ fnd (A ++ (l, b, h0) :: B) l b = true ∧ getL (A ++ (l, b, h0) :: B) l b = h0 := by
  have hB' : ∀ r ∈ B, ltB r l b = false := fun r hr => less_asy (hB r hr)
  have ne : ∀ r ∈ B, sameB r l b = false := by
    intro r hr
    cases e : sameB r l b
    · rfl
    · have e' : r.1 = l ∧ r.2.1 = b := by simpa [sameB] using e
      have := hB r hr
      rw [e'.1, e'.2, less_irr] at this
      cases this
  refine ⟨?_, fun h0 => ?_⟩
  · have hp : plc (A ++ B) l b = A.length := by unfold plc; rw [takeWhile_all (fun r => ltB r l b) A B hA hB']
    refine ⟨hp, ?_, ?_⟩
    · unfold fnd; rw [hp]; cases B with
      | nil => simp
      | cons x B => simp [ne x (by simp)]
    · unfold getL; rw [hp]; cases B with
      | nil => simp
      | cons x B => simp [ne x (by simp)]
  · have hp : plc (A ++ (l, b, h0) :: B) l b = A.length := by
      unfold plc
      rw [takeWhile_all (fun r => ltB r l b) A ((l, b, h0) :: B) hA (fun r hr => ?_)]
      rcases List.mem_cons.1 hr with rfl | hr
      · exact less_irr l b
      · exact hB' r hr
    refine ⟨hp, ?_, ?_⟩
    · unfold fnd; rw [hp]; simp [sameB]
    · unfold getL; rw [hp]; simp [sameB]

/-- What was set and taken away is not there; what was there can be put back. -/
theorem Tab.back {rs : List Rt} (h : Tab rs) (l b h' : Int) (hc : (setL rs l b h').2 = 0) :
    getL (setL rs l b h').1 l b = h' ∧ (setL (setL rs l b h').1 l b (getL rs l b)).2 = 0 ∧ (setL (setL rs l b h').1 l b (getL rs l b)).1 = rs := by
  rcases h.set l b h' with ⟨_, e⟩ | ⟨ho, _, A, B, _, hA, hB, hx⟩
  · exact absurd hc e
  obtain ⟨⟨p1, p2, p3⟩, pp⟩ := plc_parts hA hB
  have hn : ¬ (okB l b = false) := by rw [ho]; simp
  rcases hx with ⟨e1, h0, hh0, e, _, hg, e'⟩ | ⟨hh, h2, e', ⟨e, hl, _, hg⟩ | ⟨h0, hh0, e, _, hg⟩⟩
  · rw [e', hg, p3]
    have h02 : h0 ≠ -2 := by intro e; subst e; simp [hopB] at hh0
    have hlen := h.len
    subst e
    refine ⟨e1.symm, ?_⟩
    unfold setL
    have hlt : ¬ 40 ≤ (A ++ B).length := by simp at hlen ⊢; omega
    simp only [hn, hh0, h02, p1, p2, hlt]
    simp
  · rw [e', hg]
    obtain ⟨q1, q2, q3⟩ := pp h'
    refine ⟨q3, ?_⟩
    subst e
    unfold setL
    simp only [hn, q1, q2]
    simp
  · rw [e', hg]
    obtain ⟨q1, q2, q3⟩ := pp h'
    have h02 : h0 ≠ -2 := by intro e; subst e; simp [hopB] at hh0
    refine ⟨q3, ?_⟩
    subst e
    unfold setL
    simp only [hn, hh0, h02, q1, q2]
    simp

/-- The reference's Set: one round; all rounds. -/
def stepR (l b h : Int) (st : List Rt × Bool) (r : Rt) : List Rt × Bool :=
  if sameB r l b then st else if !st.2 && lessB l b r.1 r.2.1 then (st.1 ++ [(l, b, h)] ++ [r], true) else (st.1 ++ [r], st.2)
def foldR (rs : List Rt) (l b h : Int) : List Rt × Bool := rs.foldl (stepR l b h) ([], decide (h = -2))
def outR (rs : List Rt) (l b h : Int) : List Rt := if (foldR rs l b h).2 then (foldR rs l b h).1 else (foldR rs l b h).1 ++ [(l, b, h)]

theorem foldR_snoc (rs : List Rt) (r : Rt) (l b h : Int) : foldR (rs ++ [r]) l b h = stepR l b h (foldR rs l b h) r := by simp [foldR]

theorem step_A {l b h : Int} {A : List Rt} (hA : ∀ r ∈ A, lessB r.1 r.2.1 l b = true) (out : List Rt) (put : Bool) : A.foldl (stepR l b h) (out, put) = (out ++ A, put) := by
  induction A generalizing out with
  | nil => simp
  | cons r A ih =>
    have hr := hA r (by simp)
    have hs : sameB r l b = false := by
      cases e : sameB r l b
      · rfl
      · have e' : r.1 = l ∧ r.2.1 = b := by simpa [sameB] using e
        rw [e'.1, e'.2, less_irr] at hr; cases hr
    have h1 : stepR l b h (out, put) r = (out ++ [r], put) := by simp [stepR, hs, less_asy hr]
    rw [List.foldl_cons, h1, ih (fun x hx => hA x (by simp [hx]))]
    simp
theorem step_B {l b h : Int} {B : List Rt} (hB : ∀ r ∈ B, lessB l b r.1 r.2.1 = true) (out : List Rt) : B.foldl (stepR l b h) (out, true) = (out ++ B, true) := by
  induction B generalizing out with
  | nil => simp
  | cons r B ih =>
    have hr := hB r (by simp)
    have hs : sameB r l b = false := by
      cases e : sameB r l b
      · rfl
      · have e' : r.1 = l ∧ r.2.1 = b := by simpa [sameB] using e
        rw [e'.1, e'.2, less_irr] at hr; cases hr
    have h1 : stepR l b h (out, true) r = (out ++ [r], true) := by simp [stepR, hs]
    rw [List.foldl_cons, h1, ih (fun x hx => hB x (by simp [hx]))]
    simp
theorem step_B0 {l b h : Int} {B : List Rt} (hB : ∀ r ∈ B, lessB l b r.1 r.2.1 = true) (out : List Rt) :
    (if (B.foldl (stepR l b h) (out, false)).2 then (B.foldl (stepR l b h) (out, false)).1 else (B.foldl (stepR l b h) (out, false)).1 ++ [(l, b, h)]) = out ++ (l, b, h) :: B := by
  cases B with
  | nil => simp
  | cons r B =>
    have hr := hB r (by simp)
    have hs : sameB r l b = false := by
      cases e : sameB r l b
      · rfl
      · have e' : r.1 = l ∧ r.2.1 = b := by simpa [sameB] using e
        rw [e'.1, e'.2, less_irr] at hr; cases hr
    have h1 : stepR l b h (out, false) r = (out ++ [(l, b, h)] ++ [r], true) := by simp [stepR, hs, hr]
    rw [List.foldl_cons, h1, step_B (fun x hx => hB x (by simp [hx]))]
    simp
theorem step_same (l b h h0 : Int) (st : List Rt × Bool) : stepR l b h st (l, b, h0) = st := by simp [stepR, sameB]

theorem Tab.outR {rs : List Rt} (h : Tab rs) (l b h' : Int) (hc : (setL rs l b h').2 = 0) : outR rs l b h' = (setL rs l b h').1 := by
  rcases h.set l b h' with ⟨_, e⟩ | ⟨ho, _, A, B, _, hA, hB, hx⟩
  · exact absurd hc e
  rcases hx with ⟨e1, h0, _, e, _, _, e'⟩ | ⟨hh, h2, e', ⟨e, hl, _⟩ | ⟨h0, _, e, _⟩⟩
  · rw [e']; subst e e1
    unfold Go.Proofs.YtimbgijpeomfcacGreatDoor.outR foldR
    rw [List.foldl_append, step_A hA, List.foldl_cons, step_same]
    simp only [decide_true, step_B hB]
    simp
  · rw [e']; subst e
    unfold Go.Proofs.YtimbgijpeomfcacGreatDoor.outR foldR
    rw [List.foldl_append, step_A hA]
    simp only [h2, decide_false, List.nil_append]
    exact step_B0 hB A
  · rw [e']; subst e
    unfold Go.Proofs.YtimbgijpeomfcacGreatDoor.outR foldR
    rw [List.foldl_append, step_A hA, List.foldl_cons, step_same]
    simp only [h2, decide_false, List.nil_append]
    exact step_B0 hB A

/-- The reference's Get. -/
def getR (rs : List Rt) (l b : Int) : Int := match rs.find? (fun r => sameB r l b && okB l b) with | some r => r.2.2 | none => -2
theorem Tab.getR {rs : List Rt} (h : Tab rs) (l b : Int) : getR rs l b = getL rs l b := by
  cases ho : okB l b
  · rw [(h.lacks ho).2]
    unfold Go.Proofs.YtimbgijpeomfcacGreatDoor.getR
    have e : rs.find? (fun r => sameB r l b && okB l b) = none := by rw [List.find?_eq_none]; intro r _; simp [ho]
    rw [e]
  · obtain ⟨A, B, _, hA, hB, hx⟩ := h.part ho
    have nA : ∀ r ∈ A, sameB r l b = false := by
      intro r hr
      cases e : sameB r l b
      · rfl
      · have e' : r.1 = l ∧ r.2.1 = b := by simpa [sameB] using e
        have := hA r hr
        rw [e'.1, e'.2, less_irr] at this; cases this
    have nB : ∀ r ∈ B, sameB r l b = false := by
      intro r hr
      cases e : sameB r l b
      · rfl
      · have e' : r.1 = l ∧ r.2.1 = b := by simpa [sameB] using e
        have := hB r hr
        rw [e'.1, e'.2, less_irr] at this; cases this
    have fA : A.find? (fun r => sameB r l b && okB l b) = none := by
      rw [List.find?_eq_none]; intro r hr; simp [nA r hr]
    have fB : B.find? (fun r => sameB r l b && okB l b) = none := by
      rw [List.find?_eq_none]; intro r hr; simp [nB r hr]
    unfold Go.Proofs.YtimbgijpeomfcacGreatDoor.getR
    rcases hx with ⟨e, _, hg⟩ | ⟨h0, _, e, _, hg⟩
    · rw [hg, e, List.find?_append, fA, fB]; rfl
    · rw [hg, e, List.find?_append, fA]
      simp [sameB, ho]

end Go.Proofs.YtimbgijpeomfcacGreatDoor

/- WHAT IS TO BE A TABLE's LIST: the code of its first fault. No Go here. -/
namespace Go.Proofs.YtimbgijpeomfcacGreatDoor

/-- The fault of a route behind another one (or the first). -/
def fltL (p : Option Rt) (r : Rt) : Int :=
  if okB r.1 r.2.1 = false ∨ hopB r.2.2 = false then 1
  else match p with
  | none => 0
  | some q => if sameB q r.1 r.2.1 then 5 else if lessB q.1 q.2.1 r.1 r.2.1 then 0 else 4
def chkGo : Option Rt → List Rt → Int
  | _, [] => 0
  | p, r :: rs => if fltL p r = 0 then chkGo (some r) rs else fltL p r
def chkL (rs : List Rt) : Int := if 40 < rs.length then 3 else chkGo none rs

/-- The one ahead of place k. -/
def prevL (rs : List Rt) (k : Nat) : Option Rt := if k = 0 then none else rs[k - 1]?
theorem prevL_zero (rs : List Rt) : prevL rs 0 = none := rfl
theorem prevL_succ {rs : List Rt} {k : Nat} (hk : k < rs.length) : prevL rs (k + 1) = some rs[k] := by simp [prevL, hk]
theorem chkGo_drop {rs : List Rt} {k : Nat} (hk : k < rs.length) : chkGo (prevL rs k) (rs.drop k) = if fltL (prevL rs k) rs[k] = 0 then chkGo (prevL rs (k + 1)) (rs.drop (k + 1)) else fltL (prevL rs k) rs[k] := by
  conv => lhs; rw [List.drop_eq_getElem_cons hk]
  rw [prevL_succ hk]; rfl

theorem fltL_ok {p : Option Rt} {r : Rt} (h : fltL p r = 0) : okB r.1 r.2.1 = true ∧ hopB r.2.2 = true ∧ ∀ q, p = some q → lessB q.1 q.2.1 r.1 r.2.1 = true := by
  unfold fltL at h
  split at h
  · cases h
  · rename_i hn
    have h1 : okB r.1 r.2.1 = true := by cases e : okB r.1 r.2.1 with | true => rfl | false => exact absurd (.inl e) hn
    have h2 : hopB r.2.2 = true := by cases e : hopB r.2.2 with | true => rfl | false => exact absurd (.inr e) hn
    refine ⟨h1, h2, fun q hq => ?_⟩
    subst hq
    simp only at h
    split at h
    · cases h
    · split at h
      · assumption
      · cases h

theorem chkGo_tab : ∀ (rs : List Rt) (p : Option Rt), chkGo p rs = 0 → (∀ r ∈ rs, okB r.1 r.2.1 = true ∧ hopB r.2.2 = true) ∧ rs.Pairwise (fun r s => lessB r.1 r.2.1 s.1 s.2.1 = true) ∧ ∀ q, p = some q → ∀ r ∈ rs, lessB q.1 q.2.1 r.1 r.2.1 = true
  | [], _, _ => ⟨by simp, by simp, by simp⟩
  | r :: rs, p, h => by
    rw [chkGo] at h
    split at h
    · rename_i hf
      obtain ⟨h1, h2, h3⟩ := fltL_ok hf
      obtain ⟨i1, i2, i3⟩ := chkGo_tab rs (some r) h
      refine ⟨?_, List.pairwise_cons.2 ⟨i3 r rfl, i2⟩, ?_⟩
      · intro s hs
        rcases List.mem_cons.1 hs with rfl | hs
        · exact ⟨h1, h2⟩
        · exact i1 s hs
      · intro q hq s hs
        rcases List.mem_cons.1 hs with rfl | hs
        · exact h3 q hq
        · exact less_tr (h3 q hq) (i3 r rfl s hs)
    · rename_i hf; exact absurd h hf
theorem chk_tab {rs : List Rt} (h : chkL rs = 0) : Tab rs := by
  unfold chkL at h
  split at h
  · cases h
  · obtain ⟨h1, h2, _⟩ := chkGo_tab rs none h
    exact ⟨h1, h2, by omega⟩

end Go.Proofs.YtimbgijpeomfcacGreatDoor

/- THE REFERENCE's LOOK: of the routes that have the address the longest one; of a table it is the last one. No Go here. -/
namespace Go.Proofs.YtimbgijpeomfcacGreatDoor

/-- Every route behind place k that has the address is longer than nn. -/
def Beyond (rs : List Rt) (a : Int) (k : Nat) (nn : Int) : Prop := ∀ r ∈ rs.drop k, hasB r.1 r.2.1 a = true → nn < r.1
theorem beyond_zero {rs : List Rt} (h : Tab rs) (a : Int) : Beyond rs a 0 (-1) := by
  intro r hr hra
  obtain ⟨h0, _⟩ := ok_iff.1 (h.mem (by simpa using hr))
  omega
theorem beyond_skip {rs : List Rt} {a : Int} {k : Nat} {nn : Int} (hk : k < rs.length) (h : Beyond rs a k nn) : Beyond rs a (k + 1) nn := by
  intro r hr hra
  exact h r (by rw [List.drop_eq_getElem_cons hk]; exact List.mem_cons_of_mem _ hr) hra
theorem beyond_here {rs : List Rt} {a : Int} {k : Nat} {nn : Int} (hk : k < rs.length) (h : Beyond rs a k nn) (hh : hasB rs[k].1 rs[k].2.1 a = true) : nn < rs[k].1 :=
  h rs[k] (by rw [List.drop_eq_getElem_cons hk]; exact List.mem_cons_self) hh
theorem beyond_next {rs : List Rt} {a : Int} {k : Nat} (hT : Tab rs) (hk : k < rs.length) (hh : hasB rs[k].1 rs[k].2.1 a = true) : Beyond rs a (k + 1) rs[k].1 := by
  intro r hr hra
  have hp : (rs.drop k).Pairwise (fun r s => lessB r.1 r.2.1 s.1 s.2.1 = true) := hT.srt.sublist (List.drop_sublist _ _)
  rw [List.drop_eq_getElem_cons hk] at hp
  exact (less_len hh hra).1 ((List.pairwise_cons.1 hp).1 r hr)
theorem lookL_take {rs : List Rt} {k : Nat} (hk : k < rs.length) (a : Int) : lookL (rs.take (k + 1)) a = if hasB rs[k].1 rs[k].2.1 a then rs[k].2.2 else lookL (rs.take k) a := by
  rw [List.take_succ_eq_append_getElem hk, lookL_snoc]

end Go.Proofs.YtimbgijpeomfcacGreatDoor

/- TRIES AS TREES: the least tree of where addresses go; its leaves in their order; looking in it. No Go here. -/
namespace Go.Proofs.YtimbgijpeomfcacGreatDoor

/-- A trie: leaves with Len, Bits, Hop; parts with Len, Bits and two halves. -/
inductive TT where
  | leaf (l b h : Int)
  | node (l b : Int) (lo hi : TT)

namespace TT
def len : TT → Int | .leaf l _ _ => l | .node l _ _ _ => l
def bits : TT → Int | .leaf _ b _ => b | .node _ b _ _ => b
def hop : TT → Int | .leaf _ _ h => h | .node _ _ _ _ => 0
def isLeaf : TT → Bool | .leaf _ _ _ => true | .node _ _ _ _ => false
def leaves : TT → List Rt | .leaf l b h => [(l, b, h)] | .node _ _ lo hi => lo.leaves ++ hi.leaves
def depth : TT → Nat | .leaf _ _ _ => 0 | .node _ _ lo hi => max lo.depth hi.depth + 1
def look : TT → Int → Int
  | .leaf l b h, a => if hasB l b a then h else -1
  | .node l b lo hi, a => if hasB l b a then (if hasB lo.len lo.bits a then lo.look a else hi.look a) else -1
/-- It is a trie of the prefix l, b in which no two leaves that are halves of one go alike. -/
def Whole : TT → Int → Int → Prop
  | .leaf l' b' _, l, b => l' = l ∧ b' = b
  | .node l' b' lo hi, l, b => l' = l ∧ b' = b ∧ 0 ≤ l ∧ l < 8 ∧ 0 ≤ b ∧ b < 256 ∧ ¬ (lo.isLeaf = true ∧ hi.isLeaf = true ∧ lo.hop = hi.hop) ∧ lo.Whole (l + 1) (b * 2) ∧ hi.Whole (l + 1) (b * 2 + 1)
end TT

/-- n addresses from o on go alike. -/
def Alk (f : Nat → Int) (o n : Nat) : Prop := ∀ j, j < n → f (o + j) = f o
instance (f : Nat → Int) (o n : Nat) : Decidable (Alk f o n) := by unfold Alk; infer_instance

/-- The trie of the prefix l, b, whose 2 ^ k addresses begin at o. -/
def tri (f : Nat → Int) : Nat → Int → Int → Nat → TT
  | 0, l, b, o => .leaf l b (f o)
  | k + 1, l, b, o => if Alk f o (2 ^ (k + 1)) then .leaf l b (f o) else .node l b (tri f k (l + 1) (b * 2) o) (tri f k (l + 1) (b * 2 + 1) (o + 2 ^ k))

theorem tri_alk {f : Nat → Int} {k : Nat} {l b : Int} {o : Nat} (h : Alk f o (2 ^ k)) : tri f k l b o = .leaf l b (f o) := by
  cases k with
  | zero => rfl
  | succ k => rw [tri, if_pos h]
theorem tri_not {f : Nat → Int} {k : Nat} {l b : Int} {o : Nat} (h : ¬ Alk f o (2 ^ (k + 1))) : tri f (k + 1) l b o = .node l b (tri f k (l + 1) (b * 2) o) (tri f k (l + 1) (b * 2 + 1) (o + 2 ^ k)) := by
  rw [tri, if_neg h]
theorem alk_one (f : Nat → Int) (o : Nat) : Alk f o (2 ^ 0) := by
  intro j hj
  have : j = 0 := by simpa using hj
  rw [this, Nat.add_zero]

theorem tri_len (f : Nat → Int) (k : Nat) (l b : Int) (o : Nat) : (tri f k l b o).len = l ∧ (tri f k l b o).bits = b := by
  cases k with
  | zero => exact ⟨rfl, rfl⟩
  | succ k => rw [tri]; split <;> exact ⟨rfl, rfl⟩
theorem tri_leaf {f : Nat → Int} {k : Nat} {l b : Int} {o : Nat} (h : (tri f k l b o).isLeaf = true) : Alk f o (2 ^ k) ∧ (tri f k l b o).hop = f o := by
  cases k with
  | zero => exact ⟨alk_one f o, rfl⟩
  | succ k =>
    rw [tri] at h ⊢
    split
    · rename_i ha; exact ⟨ha, rfl⟩
    · rename_i ha; rw [if_neg ha] at h; cases h

/-- The prefix l, b has the 2 ^ k addresses from o on. -/
def Sp (k : Nat) (l b : Int) (o : Nat) : Prop := l + k = 8 ∧ okB l b = true ∧ (o : Int) = b * 2 ^ k

theorem Sp.root : Sp 8 0 0 0 := by refine ⟨by omega, by decide, by omega⟩
theorem Sp.pow {k : Nat} {l b : Int} {o : Nat} (h : Sp k l b o) : (8 - l).toNat = k := by have := h.1; omega
theorem Sp.first {k : Nat} {l b : Int} {o : Nat} (h : Sp k l b o) : firstI l b = o := by rw [first_is_ok h.2.1, h.pow, h.2.2]
theorem Sp.last {k : Nat} {l b : Int} {o : Nat} (h : Sp k l b o) : lastI l b + 1 = ((o + 2 ^ k : Nat) : Int) := by
  rw [last_is_ok h.2.1, h.pow, Int.natCast_add, h.2.2]; simp
theorem Sp.has {k : Nat} {l b : Int} {o : Nat} (h : Sp k l b o) (a : Int) : hasB l b a = true ↔ (o : Int) ≤ a ∧ a < ((o + 2 ^ k : Nat) : Int) := by
  rw [(span_has (a := a) h.2.1).2.2.2, h.first, ← h.last]; omega
theorem Sp.top {k : Nat} {l b : Int} {o : Nat} (h : Sp k l b o) : o + 2 ^ k ≤ 256 := by
  have h1 := (span_has (a := 0) h.2.1).2.2.1
  have h2 := h.last
  omega
theorem Sp.low {k : Nat} {l b : Int} {o : Nat} (h : Sp (k + 1) l b o) : Sp k (l + 1) (b * 2) o := by
  obtain ⟨h1, h2, h3⟩ := h
  obtain ⟨g0, g8, gb, gl⟩ := ok_iff.1 h2
  refine ⟨by omega, ok_iff.2 ⟨by omega, by omega, by omega, ?_⟩, ?_⟩
  · rw [show (l + 1).toNat = l.toNat + 1 by omega, Int.pow_succ]; omega
  · rw [h3, Int.pow_succ, Int.mul_assoc, Int.mul_comm 2]
theorem Sp.high {k : Nat} {l b : Int} {o : Nat} (h : Sp (k + 1) l b o) : Sp k (l + 1) (b * 2 + 1) (o + 2 ^ k) := by
  obtain ⟨h1, h2, h3⟩ := h
  obtain ⟨g0, g8, gb, gl⟩ := ok_iff.1 h2
  refine ⟨by omega, ok_iff.2 ⟨by omega, by omega, by omega, ?_⟩, ?_⟩
  · rw [show (l + 1).toNat = l.toNat + 1 by omega, Int.pow_succ]; omega
  · rw [Int.natCast_add, h3, Int.pow_succ, Int.add_mul, Int.mul_assoc, Int.mul_comm 2]; simp
theorem Sp.bd {k : Nat} {l b : Int} {o : Nat} (h : Sp k l b o) : 0 ≤ l ∧ l ≤ 8 ∧ 0 ≤ b ∧ b < 256 := by
  obtain ⟨h0, h8, hb, hl⟩ := ok_iff.1 h.2.1
  have := (pw_bd l h8).2
  omega

/-- Looking in the trie. -/
theorem look_tri {f : Nat → Int} : ∀ {k : Nat} {l b : Int} {o : Nat}, Sp k l b o → ∀ a : Int, (tri f k l b o).look a = if hasB l b a then f a.toNat else -1
  | k, l, b, o, h, a => by
    by_cases ha : Alk f o (2 ^ k)
    · rw [tri_alk ha, TT.look]
      cases hh : hasB l b a
      · rfl
      · have := (h.has a).1 hh
        have e := ha (a.toNat - o) (by omega)
        rw [show o + (a.toNat - o) = a.toNat by omega] at e
        simp [e]
    · cases k with
      | zero => exact absurd (alk_one f o) ha
      | succ k =>
        rw [tri_not ha, TT.look, (tri_len f k (l + 1) (b * 2) o).1, (tri_len f k (l + 1) (b * 2) o).2, look_tri h.low a, look_tri h.high a]
        cases hh : hasB l b a
        · rfl
        · have h1 := (h.has a).1 hh
          have e : 2 ^ (k + 1) = 2 ^ k + 2 ^ k := by rw [Nat.pow_succ]; omega
          cases hl : hasB (l + 1) (b * 2) a
          · have hr : hasB (l + 1) (b * 2 + 1) a = true := by
              rw [h.high.has a]
              have : ¬ ((o : Int) ≤ a ∧ a < ((o + 2 ^ k : Nat) : Int)) := fun q => by rw [(h.low.has a).2 q] at hl; cases hl
              omega
            simp [hr]
          · simp

/-- Routes one beside the other, from s to below e. -/
def Chn : Int → List Rt → Int → Prop
  | s, [], e => s = e
  | s, r :: rs, e => okB r.1 r.2.1 = true ∧ firstI r.1 r.2.1 = s ∧ Chn (lastI r.1 r.2.1 + 1) rs e
theorem Chn.append : ∀ {A B : List Rt} {s m e : Int}, Chn s A m → Chn m B e → Chn s (A ++ B) e
  | [], B, s, m, e, h, k => by cases h; exact k
  | r :: A, B, s, m, e, h, k => ⟨h.1, h.2.1, Chn.append h.2.2 k⟩
theorem chn_tri {f : Nat → Int} : ∀ {k : Nat} {l b : Int} {o : Nat}, Sp k l b o → Chn o (tri f k l b o).leaves ((o + 2 ^ k : Nat) : Int)
  | k, l, b, o, h => by
    by_cases ha : Alk f o (2 ^ k)
    · rw [tri_alk ha]
      exact ⟨h.2.1, h.first, h.last⟩
    · cases k with
      | zero => exact absurd (alk_one f o) ha
      | succ k =>
        rw [tri_not ha, TT.leaves]
        have h1 := chn_tri (f := f) h.low
        have h2 := chn_tri (f := f) h.high
        rw [show o + 2 ^ k + 2 ^ k = o + 2 ^ (k + 1) by rw [Nat.pow_succ]; omega] at h2
        exact h1.append h2
/-- Of a row of routes: all are prefixes, none begins ahead of s. -/
theorem Chn.mem : ∀ {rs : List Rt} {s e : Int}, Chn s rs e → s ≤ e ∧ ∀ r ∈ rs, okB r.1 r.2.1 = true ∧ s ≤ firstI r.1 r.2.1 ∧ lastI r.1 r.2.1 < e
  | [], s, e, h => by cases h; exact ⟨Int.le_refl _, by simp⟩
  | r :: rs, s, e, h => by
    obtain ⟨h1, h2, h3⟩ := h
    obtain ⟨i1, i2⟩ := h3.mem
    obtain ⟨g0, g1, g2, _⟩ := span_has (a := 0) h1
    refine ⟨by omega, fun x hx => ?_⟩
    rcases List.mem_cons.1 hx with rfl | hx
    · exact ⟨h1, by omega, by omega⟩
    · obtain ⟨j1, j2, j3⟩ := i2 x hx
      exact ⟨j1, by omega, j3⟩
theorem Chn.srt : ∀ {rs : List Rt} {s e : Int}, Chn s rs e → rs.Pairwise (fun r s => lessB r.1 r.2.1 s.1 s.2.1 = true)
  | [], s, e, h => by simp
  | r :: rs, s, e, h => by
    obtain ⟨h1, h2, h3⟩ := h
    refine List.pairwise_cons.2 ⟨fun x hx => ?_, h3.srt⟩
    obtain ⟨_, j2, _⟩ := h3.mem.2 x hx
    obtain ⟨g0, g1, g2, _⟩ := span_has (a := 0) h1
    rw [less_iff]; omega
/-- How many have an address. -/
def cntL (rs : List Rt) (a : Int) : Nat := rs.countP (fun r => hasB r.1 r.2.1 a)
theorem Chn.cnt : ∀ {rs : List Rt} {s e : Int} (a : Int), Chn s rs e → cntL rs a = if s ≤ a ∧ a < e then 1 else 0
  | [], s, e, a, h => by cases h; rw [if_neg (by omega)]; rfl
  | r :: rs, s, e, a, h => by
    obtain ⟨h1, h2, h3⟩ := h
    have ih := h3.cnt a
    have hm := h3.mem.1
    obtain ⟨g0, g1, g2, g3⟩ := span_has (a := a) h1
    unfold cntL at ih ⊢
    rw [List.countP_cons, ih]
    cases hh : hasB r.1 r.2.1 a
    · have : ¬ (firstI r.1 r.2.1 ≤ a ∧ a ≤ lastI r.1 r.2.1) := fun q => by rw [g3.2 q] at hh; cases hh
      by_cases hq : s ≤ a ∧ a < e
      · rw [if_pos hq, if_pos (by omega)]; simp
      · rw [if_neg hq, if_neg (by omega)]; simp
    · have hq := g3.1 hh
      rw [if_neg (show ¬ (lastI r.1 r.2.1 + 1 ≤ a ∧ a < e) by omega), if_pos (show s ≤ a ∧ a < e by omega)]; simp
theorem Chn.length : ∀ {rs : List Rt} {s e : Int}, Chn s rs e → (rs.length : Int) ≤ e - s
  | [], s, e, h => by cases h; simp
  | r :: rs, s, e, h => by
    obtain ⟨h1, h2, h3⟩ := h
    have := h3.length
    obtain ⟨g0, g1, g2, g3⟩ := span_has (a := 0) h1
    simp; omega

/-- What a leaf tells of its addresses. -/
theorem leaf_tri {f : Nat → Int} : ∀ {k : Nat} {l b : Int} {o : Nat}, Sp k l b o → ∀ r ∈ (tri f k l b o).leaves, ∀ a : Int, hasB r.1 r.2.1 a = true → r.2.2 = f a.toNat
  | k, l, b, o, h, r, hr, a, ha => by
    by_cases hk : Alk f o (2 ^ k)
    · rw [tri_alk hk] at hr
      have : r = (l, b, f o) := by simpa [TT.leaves] using hr
      subst this
      have h2 := (h.has a).1 ha
      have e := hk (a.toNat - o) (by omega)
      rw [show o + (a.toNat - o) = a.toNat by omega] at e
      exact e.symm
    · cases k with
      | zero => exact absurd (alk_one f o) hk
      | succ k =>
        rw [tri_not hk, TT.leaves] at hr
        rcases List.mem_append.1 hr with hr | hr
        · exact leaf_tri h.low r hr a ha
        · exact leaf_tri h.high r hr a ha

/-- Where the same addresses go alike the tries are the same. -/
theorem tri_congr {f g : Nat → Int} : ∀ {k : Nat} {l b : Int} {o : Nat}, (∀ j, j < 2 ^ k → f (o + j) = g (o + j)) → tri f k l b o = tri g k l b o
  | 0, l, b, o, h => by rw [tri, tri, show f o = g o from h 0 (by decide)]
  | k + 1, l, b, o, h => by
    have e0 : f o = g o := h 0 (Nat.pow_pos (by decide))
    have e : 2 ^ (k + 1) = 2 ^ k + 2 ^ k := by rw [Nat.pow_succ]; omega
    have ea : Alk f o (2 ^ (k + 1)) ↔ Alk g o (2 ^ (k + 1)) := by
      constructor
      · intro q j hj; rw [← h j hj, q j hj, e0]
      · intro q j hj; rw [h j hj, q j hj, e0]
    have e1 : tri f k (l + 1) (b * 2) o = tri g k (l + 1) (b * 2) o := tri_congr fun j hj => h j (by omega)
    have e2 : tri f k (l + 1) (b * 2 + 1) (o + 2 ^ k) = tri g k (l + 1) (b * 2 + 1) (o + 2 ^ k) := tri_congr fun j hj => by rw [Nat.add_assoc]; exact h _ (by omega)
    rw [tri, tri, e0, e1, e2]
    by_cases hq : Alk g o (2 ^ (k + 1))
    · rw [if_pos (ea.2 hq), if_pos hq]
    · rw [if_neg (fun q => hq (ea.1 q)), if_neg hq]

theorem cnt_mem {rs : List Rt} {a : Int} (h : cntL rs a = 1) : ∃ r ∈ rs, hasB r.1 r.2.1 a = true := by
  have : 0 < rs.countP (fun r => hasB r.1 r.2.1 a) := by unfold cntL at h; omega
  exact List.countP_pos_iff.1 this

attribute [irreducible] tri
/-- The trie of all addresses. -/
def triT (f : Nat → Int) : TT := tri f 8 0 0 0
theorem chn_T (f : Nat → Int) : Chn 0 (triT f).leaves 256 := by
  have h := chn_tri (f := f) Sp.root
  rw [show ((0 + 2 ^ 8 : Nat) : Int) = 256 by decide, show ((0 : Nat) : Int) = 0 by decide] at h
  unfold triT
  exact h
theorem len_T (f : Nat → Int) : (triT f).leaves.length ≤ 256 := by have := (chn_T f).length; omega
theorem root_has (a : Int) : hasB 0 0 a = true ↔ 0 ≤ a ∧ a < 256 := by rw [Sp.root.has a]; simp
theorem look_T (f : Nat → Int) (a : Int) : (triT f).look a = if 0 ≤ a ∧ a < 256 then f a.toNat else -1 := by
  unfold triT
  rw [look_tri Sp.root a]
  by_cases h : 0 ≤ a ∧ a < 256
  · rw [if_pos h, if_pos ((root_has a).2 h)]
  · rw [if_neg h, if_neg (fun q => h ((root_has a).1 q))]
theorem cnt_T (f : Nat → Int) (a : Int) : cntL (triT f).leaves a = if 0 ≤ a ∧ a < 256 then 1 else 0 := (chn_T f).cnt a
theorem leaf_T {f : Nat → Int} {r : Rt} (hr : r ∈ (triT f).leaves) {a : Int} (ha : hasB r.1 r.2.1 a = true) : r.2.2 = f a.toNat := leaf_tri Sp.root r hr a ha
theorem leaf_look {f : Nat → Int} {r : Rt} (hr : r ∈ (triT f).leaves) {a : Int} (ha : hasB r.1 r.2.1 a = true) : r.2.2 = (triT f).look a := by
  obtain ⟨_, h0, h1, _⟩ := has_iff.1 ha
  rw [look_T, if_pos ⟨h0, h1⟩, leaf_T hr ha]
/-- Every leaf's hop is one of the addresses'. -/
theorem leaf_hop {f : Nat → Int} {r : Rt} (hr : r ∈ (triT f).leaves) : ∃ j : Nat, j < 256 ∧ r.2.2 = f j := by
  obtain ⟨ho, h1, h2⟩ := (chn_T f).mem.2 r hr
  obtain ⟨g0, g1, g2, g3⟩ := span_has (a := firstI r.1 r.2.1) ho
  exact ⟨(firstI r.1 r.2.1).toNat, by omega, leaf_T hr (g3.2 ⟨Int.le_refl _, g1⟩)⟩
/-- The same leaves: all addresses go alike. -/
theorem leaves_same {f g : Nat → Int} : (triT f).leaves = (triT g).leaves ↔ ∀ j : Nat, j < 256 → f j = g j := by
  constructor
  · intro h j hj
    obtain ⟨r, hr, ha⟩ := cnt_mem (a := (j : Int)) (by rw [cnt_T f, if_pos (by omega)])
    rw [show f j = r.2.2 by rw [leaf_T hr ha]; simp]
    rw [h] at hr
    rw [leaf_T hr ha]; simp
  · intro h
    rw [triT, triT, tri_congr (g := g) (fun j hj => by simpa using h j hj)]

theorem whole_tri {f : Nat → Int} : ∀ {k : Nat} {l b : Int} {o : Nat}, Sp k l b o → (tri f k l b o).Whole l b
  | k, l, b, o, h => by
    by_cases hk : Alk f o (2 ^ k)
    · rw [tri_alk hk]; exact ⟨rfl, rfl⟩
    · cases k with
      | zero => exact absurd (alk_one f o) hk
      | succ k =>
        rw [tri_not hk]
        obtain ⟨b1, b2, b3, b4⟩ := h.bd
        refine ⟨rfl, rfl, b1, by have := h.1; omega, b3, b4, ?_, whole_tri h.low, whole_tri h.high⟩
        rintro ⟨e1, e2, e3⟩
        obtain ⟨a1, c1⟩ := tri_leaf e1
        obtain ⟨a2, c2⟩ := tri_leaf e2
        rw [c1, c2] at e3
        refine hk fun j hj => ?_
        have e : 2 ^ (k + 1) = 2 ^ k + 2 ^ k := by rw [Nat.pow_succ]; omega
        by_cases hj2 : j < 2 ^ k
        · exact a1 j hj2
        · have := a2 (j - 2 ^ k) (by omega)
          rw [show o + 2 ^ k + (j - 2 ^ k) = o + j by omega] at this
          rw [this, e3]
theorem whole_T (f : Nat → Int) : (triT f).Whole 0 0 := by unfold triT; exact whole_tri Sp.root

/-- A list of leaves is a table's, but that it may be too long. -/
theorem chkGo_ok : ∀ (rs : List Rt) (p : Option Rt), (∀ r ∈ rs, okB r.1 r.2.1 = true ∧ hopB r.2.2 = true) → rs.Pairwise (fun r s => lessB r.1 r.2.1 s.1 s.2.1 = true) → (∀ q, p = some q → ∀ r ∈ rs, lessB q.1 q.2.1 r.1 r.2.1 = true) → chkGo p rs = 0
  | [], _, _, _, _ => rfl
  | r :: rs, p, h1, h2, h3 => by
    have hf : fltL p r = 0 := by
      obtain ⟨a1, a2⟩ := h1 r (by simp)
      unfold fltL
      rw [if_neg (by simp [a1, a2])]
      cases p with
      | none => rfl
      | some q =>
        have hq := h3 q rfl r (by simp)
        have hs : sameB q r.1 r.2.1 = false := by
          cases e : sameB q r.1 r.2.1
          · rfl
          · have e' : q.1 = r.1 ∧ q.2.1 = r.2.1 := by simpa [sameB] using e
            rw [e'.1, e'.2, less_irr] at hq; cases hq
        simp [hs, hq]
    rw [chkGo, if_pos hf]
    obtain ⟨p1, p2⟩ := List.pairwise_cons.1 h2
    exact chkGo_ok rs (some r) (fun x hx => h1 x (by simp [hx])) p2 (fun q hq x hx => by cases hq; exact p1 x hx)
theorem chk_T {f : Nat → Int} (hf : ∀ j : Nat, j < 256 → hopB (f j) = true) : chkL (triT f).leaves = if 40 < (triT f).leaves.length then 3 else 0 := by
  unfold chkL
  split
  · rfl
  · refine chkGo_ok _ none (fun r hr => ⟨((chn_T f).mem.2 r hr).1, ?_⟩) (chn_T f).srt (fun q hq => by cases hq)
    obtain ⟨j, hj, e⟩ := leaf_hop hr
    rw [e]; exact hf j hj

/-- Of routes that each tell of their addresses what is so, and one has the address. -/
theorem lookL_all {rs : List Rt} {a x : Int} (h : ∀ r ∈ rs, hasB r.1 r.2.1 a = true → r.2.2 = x) (he : ∃ r ∈ rs, hasB r.1 r.2.1 a = true) : lookL rs a = x := by
  have key : ∀ (rs : List Rt) (y : Int), (∀ r ∈ rs, hasB r.1 r.2.1 a = true → r.2.2 = x) → ((∃ r ∈ rs, hasB r.1 r.2.1 a = true) ∨ y = x) → lookFrom y rs a = x := by
    intro rs
    induction rs with
    | nil => intro y _ h2; rcases h2 with ⟨r, hr, _⟩ | h2
             · simp at hr
             · exact h2
    | cons r rs ih =>
      intro y h1 h2
      show lookFrom (if hasB r.1 r.2.1 a then r.2.2 else y) rs a = x
      refine ih _ (fun s hs => h1 s (by simp [hs])) ?_
      cases hh : hasB r.1 r.2.1 a
      · rcases h2 with ⟨s, hs, hsa⟩ | h2
        · rcases List.mem_cons.1 hs with rfl | hs
          · rw [hh] at hsa; cases hsa
          · exact .inl ⟨s, hs, hsa⟩
        · exact .inr (by simpa using h2)
      · exact .inr (by simpa using h1 r (by simp) hh)
  exact key rs (-1) h (.inl he)
theorem lookL_T (f : Nat → Int) (j : Nat) (hj : j < 256) : lookL (triT f).leaves j = f j := by
  refine lookL_all (fun r hr ha => by rw [leaf_T hr ha]; simp) (cnt_mem (by rw [cnt_T, if_pos (by omega)]))

/-- Where an address goes is a hop. -/
theorem lookFrom_hop {a : Int} : ∀ (rs : List Rt) (x : Int), hopB x = true → (∀ r ∈ rs, hopB r.2.2 = true) → hopB (lookFrom x rs a) = true
  | [], x, hx, _ => hx
  | r :: rs, x, hx, h => by
    show hopB (lookFrom (if hasB r.1 r.2.1 a then r.2.2 else x) rs a) = true
    refine lookFrom_hop rs _ ?_ (fun s hs => h s (by simp [hs]))
    split
    · exact h r (by simp)
    · exact hx
theorem Tab.look_hop {rs : List Rt} (h : Tab rs) (a : Int) : hopB (lookL rs a) = true := lookFrom_hop rs (-1) (by decide) (fun r hr => (h.ok r hr).2)
theorem look_no {rs : List Rt} {a : Int} (h : ¬ (0 ≤ a ∧ a < 256)) : lookL rs a = -1 := lookL_none fun r _ => by
  cases e : hasB r.1 r.2.1 a
  · rfl
  · obtain ⟨_, h0, h1, _⟩ := has_iff.1 e
    exact absurd ⟨h0, h1⟩ h
/-- The table's own trie. -/
def trT (rs : List Rt) : TT := triT fun j => lookL rs j
theorem trT_look (rs : List Rt) (a : Int) : (trT rs).look a = lookL rs a := by
  rw [trT, look_T]
  by_cases h : 0 ≤ a ∧ a < 256
  · rw [if_pos h, show ((a.toNat : Nat) : Int) = a by omega]
  · rw [if_neg h, look_no h]

end Go.Proofs.YtimbgijpeomfcacGreatDoor

/- AS FEW AS CAN BE, as numbers: what a part wishes, how few routes are enough, the table of as few as can be. No Go here. -/
namespace Go.Proofs.YtimbgijpeomfcacGreatDoor

def hopsR : List Int := [-1, 0, 1, 2, 3, 4, 5]
theorem hop_mem {h : Int} : hopB h = true ↔ h ∈ hopsR := by
  unfold hopB hopsR
  simp
  omega

/-- What two halves wish together. -/
def both (A B : Int → Bool) : Bool := hopsR.any fun g => A g && B g
def comb (A B : Int → Bool) (h : Int) : Bool := if both A B then A h && B h else A h || B h
/-- The wishes of a part. -/
def wish (f : Nat → Int) : Nat → Nat → Int → Bool
  | 0, o, h => decide (h = f o)
  | k + 1, o, h => if Alk f o (2 ^ (k + 1)) then decide (h = f o) else comb (wish f k o) (wish f k (o + 2 ^ k)) h
/-- How few routes are enough where a wish is met. -/
def few (f : Nat → Int) : Nat → Nat → Nat
  | 0, _ => 0
  | k + 1, o => few f k o + few f k (o + 2 ^ k) + (if both (wish f k o) (wish f k (o + 2 ^ k)) then 0 else 1)
def off (W : Int → Bool) (h : Int) : Nat := if W h then 0 else 1
/-- The least of the wishes. -/
def lowW (W : Int → Bool) (h : Int) : Int := (hopsR.find? W).getD h
/-- The hop to which all goes in a part, if it was h ahead of it. -/
def nxt (W : Int → Bool) (h : Int) : Int := if W h then h else lowW W h

theorem alk_low {f : Nat → Int} {o k : Nat} (h : Alk f o (2 ^ (k + 1))) : Alk f o (2 ^ k) := fun j hj => h j (by rw [Nat.pow_succ]; omega)
theorem alk_high {f : Nat → Int} {o k : Nat} (h : Alk f o (2 ^ (k + 1))) : Alk f (o + 2 ^ k) (2 ^ k) ∧ f (o + 2 ^ k) = f o := by
  have e : f (o + 2 ^ k) = f o := h (2 ^ k) (by rw [Nat.pow_succ]; have := Nat.pow_pos (n := k) (show 0 < 2 by decide); omega)
  refine ⟨fun j hj => ?_, e⟩
  rw [Nat.add_assoc, h (2 ^ k + j) (by rw [Nat.pow_succ]; omega), e]
theorem wish_alk {f : Nat → Int} {k o : Nat} (h : Alk f o (2 ^ k)) (x : Int) : wish f k o x = decide (x = f o) := by
  cases k with
  | zero => rfl
  | succ k => rw [wish, if_pos h]
theorem wish_not {f : Nat → Int} {k o : Nat} (h : ¬ Alk f o (2 ^ (k + 1))) (x : Int) : wish f (k + 1) o x = comb (wish f k o) (wish f k (o + 2 ^ k)) x := by rw [wish, if_neg h]
theorem both_iff {A B : Int → Bool} : both A B = true ↔ ∃ g ∈ hopsR, A g = true ∧ B g = true := by simp [both, List.any_eq_true]
/-- A part wishes what its halves do, also where all go alike. -/
theorem wish_rec {f : Nat → Int} (hf : ∀ j, f j ∈ hopsR) (k o : Nat) (x : Int) : wish f (k + 1) o x = comb (wish f k o) (wish f k (o + 2 ^ k)) x := by
  by_cases h : Alk f o (2 ^ (k + 1))
  · have hl := wish_alk (alk_low h)
    have hh := wish_alk (alk_high h).1
    rw [(alk_high h).2] at hh
    have hb : both (wish f k o) (wish f k (o + 2 ^ k)) = true := both_iff.2 ⟨f o, hf o, by rw [hl]; simp, by rw [hh]; simp⟩
    rw [wish_alk h, comb, if_pos hb, hl, hh]; simp
  · exact wish_not h x
theorem few_alk {f : Nat → Int} (hf : ∀ j, f j ∈ hopsR) : ∀ {k o : Nat}, Alk f o (2 ^ k) → few f k o = 0
  | 0, _, _ => rfl
  | k + 1, o, h => by
    have hl := wish_alk (alk_low h)
    have hh := wish_alk (alk_high h).1
    rw [(alk_high h).2] at hh
    have hb : both (wish f k o) (wish f k (o + 2 ^ k)) = true := both_iff.2 ⟨f o, hf o, by rw [hl]; simp, by rw [hh]; simp⟩
    rw [few, few_alk hf (alk_low h), few_alk hf (alk_high h).1, if_pos hb]
/-- Some hop is wished. -/
theorem wish_some {f : Nat → Int} (hf : ∀ j, f j ∈ hopsR) : ∀ (k o : Nat), ∃ g ∈ hopsR, wish f k o g = true
  | 0, o => ⟨f o, hf o, by simp [wish]⟩
  | k + 1, o => by
    by_cases hb : both (wish f k o) (wish f k (o + 2 ^ k)) = true
    · obtain ⟨g, hg, h1, h2⟩ := both_iff.1 hb
      exact ⟨g, hg, by rw [wish_rec hf, comb, if_pos hb, h1, h2]; rfl⟩
    · obtain ⟨g, hg, h1⟩ := wish_some hf k o
      exact ⟨g, hg, by rw [wish_rec hf, comb, if_neg hb, h1]; rfl⟩
/-- Only hops are wished. -/
theorem wish_mem {f : Nat → Int} (hf : ∀ j, f j ∈ hopsR) : ∀ (k o : Nat) {h : Int}, wish f k o h = true → h ∈ hopsR
  | 0, o, h, hw => by
    have : h = f o := by simpa [wish] using hw
    rw [this]; exact hf o
  | k + 1, o, h, hw => by
    rw [wish_rec hf, comb] at hw
    split at hw
    · simp only [Bool.and_eq_true] at hw
      exact wish_mem hf k o hw.1
    · simp only [Bool.or_eq_true] at hw
      rcases hw with hw | hw
      · exact wish_mem hf k o hw
      · exact wish_mem hf k _ hw
theorem lowW_is {W : Int → Bool} (h : ∃ g ∈ hopsR, W g = true) (x : Int) : W (lowW W x) = true ∧ lowW W x ∈ hopsR := by
  unfold lowW
  cases e : hopsR.find? W with
  | none =>
    obtain ⟨g, hg, hw⟩ := h
    exact absurd hw (by simpa using List.find?_eq_none.1 e g hg)
  | some g => exact ⟨List.find?_some e, List.mem_of_find?_eq_some e⟩
theorem nxt_is {W : Int → Bool} (h : ∃ g ∈ hopsR, W g = true) {x : Int} (hx : x ∈ hopsR) : W (nxt W x) = true ∧ nxt W x ∈ hopsR := by
  unfold nxt
  split
  · rename_i hw; exact ⟨hw, hx⟩
  · exact lowW_is h x

/-- What is enough, half by half. -/
theorem few_rec {f : Nat → Int} (hf : ∀ j, f j ∈ hopsR) (k o : Nat) {h : Int} (hw : wish f (k + 1) o h = true) : few f (k + 1) o = (few f k o + off (wish f k o) h) + (few f k (o + 2 ^ k) + off (wish f k (o + 2 ^ k)) h) := by
  rw [wish_rec hf, comb] at hw
  rw [few]
  unfold off
  by_cases hb : both (wish f k o) (wish f k (o + 2 ^ k)) = true
  · rw [if_pos hb] at hw
    simp only [Bool.and_eq_true] at hw
    simp only [if_pos hb, hw.1, hw.2, if_true]; omega
  · rw [if_neg hb] at hw
    rw [if_neg hb]
    cases h1 : wish f k o h <;> cases h2 : wish f k (o + 2 ^ k) h
    · simp [h1, h2] at hw
    · simp; omega
    · simp; omega
    · simp at *
      by_cases hm : h ∈ hopsR
      · exact absurd (both_iff.2 ⟨h, hm, h1, h2⟩) (by simpa using hb)
      · exact absurd (wish_mem hf k o h1) hm
/-- With a route of the part itself, or without one: no fewer. -/
theorem few_le {f : Nat → Int} (hf : ∀ j, f j ∈ hopsR) (k o : Nat) (h : Int) : few f (k + 1) o + off (wish f (k + 1) o) h ≤ (few f k o + off (wish f k o) h) + (few f k (o + 2 ^ k) + off (wish f k (o + 2 ^ k)) h) := by
  cases hw : wish f (k + 1) o h
  · have e : off (wish f (k + 1) o) h = 1 := by unfold off; rw [hw]; rfl
    rw [e]
    rw [wish_rec hf, comb] at hw
    rw [few]
    unfold off
    by_cases hb : both (wish f k o) (wish f k (o + 2 ^ k)) = true
    · rw [if_pos hb] at hw ⊢
      cases h1 : wish f k o h <;> cases h2 : wish f k (o + 2 ^ k) h <;> simp [h1, h2] at hw ⊢ <;> omega
    · rw [if_neg hb] at hw ⊢
      cases h1 : wish f k o h <;> cases h2 : wish f k (o + 2 ^ k) h <;> simp [h1, h2] at hw ⊢ <;> omega
  · have e : off (wish f (k + 1) o) h = 0 := by unfold off; rw [hw]; rfl
    rw [e, few_rec hf k o hw]
    exact Nat.le_refl _

/-- The reference's counting: with and without a route of the part itself, each hop tried. -/
def triedF (p : Int → Nat) (h : Int) : Nat := hopsR.foldl (fun m g => if 1 + p g < m then 1 + p g else m) (p h)
def cnts (f : Nat → Int) : Nat → Nat → Int → Nat
  | 0, o, h => triedF (fun g => if g = f o then 0 else 1000) h
  | k + 1, o, h => triedF (fun g => cnts f k o g + cnts f k (o + 2 ^ k) g) h
theorem foldl_tried (p : Int → Nat) : ∀ (L : List Int) (x : Nat), L.foldl (fun m g => if 1 + p g < m then 1 + p g else m) x ≤ x ∧ (∀ g ∈ L, L.foldl (fun m g => if 1 + p g < m then 1 + p g else m) x ≤ 1 + p g) ∧ (L.foldl (fun m g => if 1 + p g < m then 1 + p g else m) x = x ∨ ∃ g ∈ L, L.foldl (fun m g => if 1 + p g < m then 1 + p g else m) x = 1 + p g)
  | [], x => ⟨Nat.le_refl _, by simp, .inl rfl⟩
  | a :: L, x => by
    simp only [List.foldl_cons]
    obtain ⟨h1, h2, h3⟩ := foldl_tried p L (if 1 + p a < x then 1 + p a else x)
    have hx : (if 1 + p a < x then 1 + p a else x) ≤ x ∧ (if 1 + p a < x then 1 + p a else x) ≤ 1 + p a := by split <;> omega
    refine ⟨by omega, ?_, ?_⟩
    · intro g hg
      rcases List.mem_cons.1 hg with rfl | hg
      · omega
      · exact h2 g hg
    · rcases h3 with h3 | ⟨g, hg, h3⟩
      · by_cases hlt : 1 + p a < x
        · rw [if_pos hlt] at h3 ⊢
          exact .inr ⟨a, by simp, h3⟩
        · rw [if_neg hlt] at h3 ⊢
          exact .inl h3
      · exact .inr ⟨g, by simp [hg], h3⟩
/-- If p is n where it is wished, and at least one more elsewhere. -/
theorem tried_is {p : Int → Nat} {W : Int → Bool} {n : Nat} (hs : ∃ g ∈ hopsR, W g = true) (h1 : ∀ g ∈ hopsR, W g = true → p g = n) (h2 : ∀ g ∈ hopsR, W g = false → n + 1 ≤ p g) {h : Int} (hh : h ∈ hopsR) : triedF p h = n + off W h := by
  unfold triedF
  obtain ⟨a1, a2, a3⟩ := foldl_tried p hopsR (p h)
  obtain ⟨g, hg, hw⟩ := hs
  have b1 := a2 g hg
  rw [h1 g hg hw] at b1
  have lo : ∀ g ∈ hopsR, n ≤ p g := fun g hg => by
    cases e : W g
    · have := h2 g hg e; omega
    · rw [h1 g hg e]; exact Nat.le_refl _
  unfold off
  cases e : W h
  · have := h2 h hh e
    simp only [Bool.false_eq_true, if_false]
    rcases a3 with a3 | ⟨x, hx, a3⟩
    · omega
    · have := lo x hx; omega
  · have := h1 h hh e
    simp only [if_true]
    rcases a3 with a3 | ⟨x, hx, a3⟩
    · omega
    · have := lo x hx; omega
theorem cnts_is {f : Nat → Int} (hf : ∀ j, f j ∈ hopsR) : ∀ (k o : Nat) {h : Int}, h ∈ hopsR → cnts f k o h = few f k o + off (wish f k o) h
  | 0, o, h, hh => by
    rw [cnts, few]
    refine tried_is (wish_some hf 0 o) (fun g _ hw => ?_) (fun g _ hw => ?_) hh
    · have : g = f o := by simpa [wish] using hw
      rw [if_pos this]
    · have : g ≠ f o := by simpa [wish] using hw
      rw [if_neg this]; omega
  | k + 1, o, h, hh => by
    rw [cnts]
    refine tried_is (wish_some hf (k + 1) o) (fun g hg hw => ?_) (fun g hg hw => ?_) hh
    · simp only [cnts_is hf k o hg, cnts_is hf k (o + 2 ^ k) hg]
      rw [few_rec hf k o hw]
    · simp only [cnts_is hf k o hg, cnts_is hf k (o + 2 ^ k) hg]
      have := few_le hf k o g
      have e : off (wish f (k + 1) o) g = 1 := by unfold off; rw [hw]; rfl
      omega

/-- The routes of as few as can be, from the top on. -/
def leastR (f : Nat → Int) : Nat → Int → Int → Nat → Int → List Rt
  | 0, l, b, o, h => if wish f 0 o h then [] else [(l, b, lowW (wish f 0 o) h)]
  | k + 1, l, b, o, h =>
    (if wish f (k + 1) o h then [] else [(l, b, lowW (wish f (k + 1) o) h)]) ++
    (if Alk f o (2 ^ (k + 1)) then [] else leastR f k (l + 1) (b * 2) o (nxt (wish f (k + 1) o) h) ++ leastR f k (l + 1) (b * 2 + 1) (o + 2 ^ k) (nxt (wish f (k + 1) o) h))
theorem off_wish {W : Int → Bool} {h : Int} (hw : W h = true) : off W h = 0 := by unfold off; rw [hw]; rfl
theorem least_len {f : Nat → Int} (hf : ∀ j, f j ∈ hopsR) : ∀ (k : Nat) (l b : Int) (o : Nat) {h : Int}, h ∈ hopsR → (leastR f k l b o h).length = few f k o + off (wish f k o) h
  | 0, l, b, o, h, hh => by
    rw [leastR, few]; unfold off
    split <;> simp
  | k + 1, l, b, o, h, hh => by
    have hhere : (if wish f (k + 1) o h then ([] : List Rt) else [(l, b, lowW (wish f (k + 1) o) h)]).length = off (wish f (k + 1) o) h := by
      unfold off; split <;> simp
    rw [leastR, List.length_append, hhere]
    by_cases ha : Alk f o (2 ^ (k + 1))
    · rw [if_pos ha, few_alk hf ha]; simp
    · obtain ⟨n1, n2⟩ := nxt_is (wish_some hf (k + 1) o) hh
      rw [if_neg ha, List.length_append, least_len hf k _ _ _ n2, least_len hf k _ _ _ n2, few_rec hf k o n1]
      omega

end Go.Proofs.YtimbgijpeomfcacGreatDoor

/- AS FEW AS CAN BE: by these routes all go as they did; no sorted list of routes by which all go so has fewer; one less is not enough. No Go here. -/
namespace Go.Proofs.YtimbgijpeomfcacGreatDoor

theorem lookFrom_append (x : Int) (A B : List Rt) (a : Int) : lookFrom x (A ++ B) a = lookFrom (lookFrom x A a) B a := by simp [lookFrom]
theorem lookFrom_cons (x : Int) (r : Rt) (B : List Rt) (a : Int) : lookFrom x (r :: B) a = lookFrom (if hasB r.1 r.2.1 a then r.2.2 else x) B a := rfl
theorem lookFrom_nil (x a : Int) : lookFrom x [] a = x := rfl
theorem lookL_from (rs : List Rt) (a : Int) : lookL rs a = lookFrom (-1) rs a := rfl

/-- A route of a part: it stands in the prefix l, b. -/
structure Ins (l b : Int) (r : Rt) : Prop where
  ok : okB r.1 r.2.1 = true
  fst : firstI l b ≤ firstI r.1 r.2.1
  lst : lastI r.1 r.2.1 ≤ lastI l b
  len : l ≤ r.1
theorem Ins.has {l b : Int} {r : Rt} (h : Ins l b r) (ho : okB l b = true) {a : Int} (ha : hasB r.1 r.2.1 a = true) : hasB l b a = true := by
  have := (span_has (a := a) h.ok).2.2.2.1 ha
  have h1 := h.fst; have h2 := h.lst
  exact (span_has (a := a) ho).2.2.2.2 (by omega)
theorem Ins.low {k : Nat} {l b : Int} {o : Nat} {r : Rt} (hS : Sp (k + 1) l b o) (h : Ins (l + 1) (b * 2) r) : Ins l b r := by
  have e1 := hS.first; have e2 := hS.low.first; have e3 := hS.last; have e4 := hS.low.last
  have e5 : 2 ^ (k + 1) = 2 ^ k + 2 ^ k := by rw [Nat.pow_succ]; omega
  have e0 := Nat.pow_pos (n := k) (show 0 < 2 by decide)
  have h1 := h.fst; have h2 := h.lst; have h3 := h.len
  exact ⟨h.ok, by omega, by omega, by omega⟩
theorem Ins.high {k : Nat} {l b : Int} {o : Nat} {r : Rt} (hS : Sp (k + 1) l b o) (h : Ins (l + 1) (b * 2 + 1) r) : Ins l b r := by
  have e1 := hS.first; have e2 := hS.high.first; have e3 := hS.last; have e4 := hS.high.last
  have e5 : 2 ^ (k + 1) = 2 ^ k + 2 ^ k := by rw [Nat.pow_succ]; omega
  have e0 := Nat.pow_pos (n := k) (show 0 < 2 by decide)
  have h1 := h.fst; have h2 := h.lst; have h3 := h.len
  exact ⟨h.ok, by omega, by omega, by omega⟩

/-- All routes of the least table stand in their part, and go to hops. -/
theorem least_ins {f : Nat → Int} (hf : ∀ j, f j ∈ hopsR) : ∀ {k : Nat} {l b : Int} {o : Nat} {h : Int}, Sp k l b o → ∀ r ∈ leastR f k l b o h, Ins l b r ∧ hopB r.2.2 = true
  | 0, l, b, o, h, hS, r, hr => by
    rw [leastR] at hr
    split at hr
    · simp at hr
    · have : r = (l, b, lowW (wish f 0 o) h) := by simpa using hr
      subst this
      exact ⟨⟨hS.2.1, Int.le_refl _, Int.le_refl _, Int.le_refl _⟩, hop_mem.2 (lowW_is (wish_some hf 0 o) h).2⟩
  | k + 1, l, b, o, h, hS, r, hr => by
    rw [leastR] at hr
    rcases List.mem_append.1 hr with hr | hr
    · split at hr
      · simp at hr
      · have : r = (l, b, lowW (wish f (k + 1) o) h) := by simpa using hr
        subst this
        exact ⟨⟨hS.2.1, Int.le_refl _, Int.le_refl _, Int.le_refl _⟩, hop_mem.2 (lowW_is (wish_some hf (k + 1) o) h).2⟩
    · split at hr
      · simp at hr
      · rcases List.mem_append.1 hr with hr | hr
        · obtain ⟨h1, h2⟩ := least_ins hf hS.low r hr
          exact ⟨h1.low hS, h2⟩
        · obtain ⟨h1, h2⟩ := least_ins hf hS.high r hr
          exact ⟨h1.high hS, h2⟩
/-- They stand in order. -/
theorem least_srt {f : Nat → Int} (hf : ∀ j, f j ∈ hopsR) : ∀ {k : Nat} {l b : Int} {o : Nat} {h : Int}, Sp k l b o → (leastR f k l b o h).Pairwise (fun r s => lessB r.1 r.2.1 s.1 s.2.1 = true)
  | 0, l, b, o, h, hS => by
    rw [leastR]
    split <;> simp
  | k + 1, l, b, o, h, hS => by
    rw [leastR]
    have e1 := hS.first
    have e2 := hS.low.first
    have e3 := hS.low.last
    have e4 := hS.high.first
    have e0 := Nat.pow_pos (n := k) (show 0 < 2 by decide)
    refine List.pairwise_append.2 ⟨?_, ?_, ?_⟩
    · split <;> simp
    · split
      · simp
      · refine List.pairwise_append.2 ⟨least_srt hf hS.low, least_srt hf hS.high, fun r hr s hs => ?_⟩
        obtain ⟨h1, _⟩ := least_ins hf hS.low r hr
        obtain ⟨h2, _⟩ := least_ins hf hS.high s hs
        have g1 := h1.lst; have g2 := h2.fst
        have g3 := (span_has (a := 0) h1.ok).2.1
        rw [less_iff]; omega
    · intro r hr s hs
      split at hr
      · simp at hr
      · have : r = (l, b, lowW (wish f (k + 1) o) h) := by simpa using hr
        subst this
        split at hs
        · simp at hs
        · rcases List.mem_append.1 hs with hs | hs
          · obtain ⟨h2, _⟩ := least_ins hf hS.low s hs
            have g2 := h2.fst; have g3 := h2.len
            rw [less_iff]; simp only; omega
          · obtain ⟨h2, _⟩ := least_ins hf hS.high s hs
            have g2 := h2.fst; have g3 := h2.len
            rw [less_iff]; simp only; omega
/-- By them all go as they should. -/
theorem least_look {f : Nat → Int} (hf : ∀ j, f j ∈ hopsR) : ∀ {k : Nat} {l b : Int} {o : Nat} {h : Int}, Sp k l b o → ∀ a : Int, hasB l b a = true → lookFrom h (leastR f k l b o h) a = f a.toNat
  | k, l, b, o, h, hS, a, ha => by
    by_cases hk : Alk f o (2 ^ k)
    · have e : f a.toNat = f o := by
        have h2 := (hS.has a).1 ha
        have := hk (a.toNat - o) (by omega)
        rwa [show o + (a.toNat - o) = a.toNat by omega] at this
      have hl : leastR f k l b o h = if wish f k o h then [] else [(l, b, lowW (wish f k o) h)] := by
        cases k with
        | zero => rw [leastR]
        | succ k => rw [leastR, if_pos hk, List.append_nil]
      rw [hl, e]
      split
      · rename_i hw
        rw [wish_alk hk] at hw
        rw [lookFrom_nil]; simpa using hw
      · have hw := (lowW_is (wish_some hf k o) h).1
        rw [wish_alk hk] at hw
        rw [lookFrom_cons, lookFrom_nil, if_pos ha]
        simpa using hw
    · cases k with
      | zero => exact absurd (alk_one f o) hk
      | succ k =>
        rw [leastR, if_neg hk, lookFrom_append, lookFrom_append]
        have hn : lookFrom h (if wish f (k + 1) o h then [] else [(l, b, lowW (wish f (k + 1) o) h)]) a = nxt (wish f (k + 1) o) h := by
          unfold nxt
          split
          · rw [lookFrom_nil]
          · rw [lookFrom_cons, lookFrom_nil, if_pos ha]
        rw [hn]
        have h1 := (hS.has a).1 ha
        have e5 : 2 ^ (k + 1) = 2 ^ k + 2 ^ k := by rw [Nat.pow_succ]; omega
        cases hl : hasB (l + 1) (b * 2) a
        · have hr : hasB (l + 1) (b * 2 + 1) a = true := by
            rw [hS.high.has a]
            have : ¬ ((o : Int) ≤ a ∧ a < ((o + 2 ^ k : Nat) : Int)) := fun q => by rw [(hS.low.has a).2 q] at hl; cases hl
            omega
          rw [lookFrom_none (B := leastR f k (l + 1) (b * 2) o (nxt (wish f (k + 1) o) h)) (fun r hr => ?_)]
          · exact least_look hf hS.high a hr
          · cases e : hasB r.1 r.2.1 a
            · rfl
            · rw [(least_ins hf hS.low r hr).1.has hS.low.2.1 e] at hl; cases hl
        · rw [least_look hf hS.low a hl]
          refine lookFrom_none (fun r hr => ?_) _
          cases e : hasB r.1 r.2.1 a
          · rfl
          · have g1 := (hS.high.has a).1 ((least_ins hf hS.high r hr).1.has hS.high.2.1 e)
            have g2 := (hS.low.has a).1 hl
            omega

theorem lookFrom_filter {p : Rt → Bool} {a : Int} : ∀ (J : List Rt) (x : Int), (∀ r ∈ J, p r = false → hasB r.1 r.2.1 a = false) → lookFrom x (J.filter p) a = lookFrom x J a
  | [], x, _ => rfl
  | r :: J, x, h => by
    have ih := fun y => lookFrom_filter J y (fun s hs => h s (by simp [hs]))
    rw [List.filter_cons, lookFrom_cons]
    cases hp : p r
    · rw [if_neg (by simp), h r (by simp) hp]; exact ih x
    · rw [if_pos rfl, lookFrom_cons]; exact ih _
theorem filter_lens (p : Rt → Bool) : ∀ J : List Rt, (J.filter p).length + (J.filter (fun r => !p r)).length = J.length
  | [] => rfl
  | r :: J => by
    have ih := filter_lens p J
    rw [List.filter_cons, List.filter_cons]
    cases hp : p r <;> simp <;> omega
theorem off_le (W : Int → Bool) (h : Int) : off W h ≤ 1 := by unfold off; split <;> omega

/-- A route in a half, or in the other one. -/
theorem Ins.part {k : Nat} {l b : Int} {o : Nat} {r : Rt} (hS : Sp (k + 1) l b o) (h : Ins l b r) (hl : l < r.1) :
    (firstI r.1 r.2.1 < ((o + 2 ^ k : Nat) : Int) → Ins (l + 1) (b * 2) r) ∧ (¬ firstI r.1 r.2.1 < ((o + 2 ^ k : Nat) : Int) → Ins (l + 1) (b * 2 + 1) r) := by
  have e1 := hS.first; have e2 := hS.low.first; have e3 := hS.last; have e4 := hS.low.last
  have e6 := hS.high.first; have e7 := hS.high.last
  have e5 : 2 ^ (k + 1) = 2 ^ k + 2 ^ k := by rw [Nat.pow_succ]; omega
  have e0 := Nat.pow_pos (n := k) (show 0 < 2 by decide)
  have h1 := h.fst; have h2 := h.lst; have h3 := h.len
  refine ⟨fun hq => ⟨h.ok, by omega, ?_, by omega⟩, fun hq => ⟨h.ok, by omega, by omega, by omega⟩⟩
  obtain ⟨r0, r8, rb, rl, _, _⟩ := ok_pows h.ok
  have f1 := first_is_ok h.ok
  have f2 := last_is_ok h.ok
  have hk8 : l + (k + 1 : Nat) = 8 := hS.1
  obtain ⟨d, hd⟩ : ∃ d : Nat, k = d + (8 - r.1).toNat := ⟨k - (8 - r.1).toNat, by omega⟩
  have hp : (2 : Int) ^ k = 2 ^ d * 2 ^ (8 - r.1).toNat := by rw [hd, Int.pow_add]
  have hpos : (0 : Int) < 2 ^ (8 - r.1).toNat := Int.pow_pos (by decide)
  have ho : ((o + 2 ^ k : Nat) : Int) = (b * 2 + 1) * 2 ^ k := by rw [← hS.high.2.2]
  have hc : ((2 ^ k : Nat) : Int) = (2 : Int) ^ k := by simp
  have hmid : lastI (l + 1) (b * 2) + 1 = (b * 2 + 1) * 2 ^ d * 2 ^ (8 - r.1).toNat := by rw [e4, ho, hp, Int.mul_assoc]
  have hq2 : r.2.1 * 2 ^ (8 - r.1).toNat < (b * 2 + 1) * 2 ^ d * 2 ^ (8 - r.1).toNat := by
    rw [← f1, ← hmid, e4]; exact hq
  have hlt : r.2.1 < (b * 2 + 1) * 2 ^ d := Int.lt_of_mul_lt_mul_right hq2 (Int.le_of_lt hpos)
  have hle := Int.mul_le_mul_of_nonneg_right (show r.2.1 + 1 ≤ (b * 2 + 1) * 2 ^ d by omega) (Int.le_of_lt hpos)
  rw [Int.add_mul, Int.one_mul] at hle
  rw [f2]; omega

/-- No sorted list of routes in a part by which all go so has fewer. -/
theorem min_part {f : Nat → Int} (hf : ∀ j, f j ∈ hopsR) : ∀ (k : Nat) {l b : Int} {o : Nat} (I : List Rt) (h : Int), Sp k l b o → (∀ r ∈ I, Ins l b r) → I.Pairwise (fun r s => lessB r.1 r.2.1 s.1 s.2.1 = true) →
    (∀ a, hasB l b a = true → lookFrom h I a = f a.toNat) → few f k o + off (wish f k o) h ≤ I.length
  | 0, l, b, o, I, h, hS, hI, _, hL => by
    rw [few]
    cases I with
    | nil =>
      have := hL (o : Int) ((hS.has _).2 (by omega))
      rw [lookFrom_nil] at this
      have hw : wish f 0 o h = true := by rw [wish]; simpa using this
      rw [off_wish hw]; exact Nat.le_refl _
    | cons r I =>
      have := off_le (wish f 0 o) h
      simp only [List.length_cons]; omega
  | k + 1, l, b, o, I, h, hS, hI, hP, hL => by
    -- strictly inside
    have strict : ∀ (J : List Rt) (g : Int), (∀ r ∈ J, Ins l b r ∧ l < r.1) → J.Pairwise (fun r s => lessB r.1 r.2.1 s.1 s.2.1 = true) → (∀ a, hasB l b a = true → lookFrom g J a = f a.toNat) → few f (k + 1) o + off (wish f (k + 1) o) g ≤ J.length := by
      intro J g hJ hJP hJL
      have e0 := Nat.pow_pos (n := k) (show 0 < 2 by decide)
      have e5 : 2 ^ (k + 1) = 2 ^ k + 2 ^ k := by rw [Nat.pow_succ]; omega
      let p : Rt → Bool := fun r => decide (firstI r.1 r.2.1 < ((o + 2 ^ k : Nat) : Int))
      have hlo : ∀ r ∈ J, p r = true → Ins (l + 1) (b * 2) r := fun r hr hp => (Ins.part hS (hJ r hr).1 (hJ r hr).2).1 (of_decide_eq_true hp)
      have hhi : ∀ r ∈ J, p r = false → Ins (l + 1) (b * 2 + 1) r := fun r hr hp => (Ins.part hS (hJ r hr).1 (hJ r hr).2).2 (of_decide_eq_false hp)
      have i1 := min_part hf k (J.filter p) g hS.low (fun r hr => by rw [List.mem_filter] at hr; exact hlo r hr.1 hr.2) (hJP.filter p) (fun a ha => by
        rw [lookFrom_filter]
        · exact hJL a ((hS.has a).2 (by have := (hS.low.has a).1 ha; omega))
        · intro r hr hp
          cases e : hasB r.1 r.2.1 a
          · rfl
          · have g1 := (hS.high.has a).1 ((hhi r hr hp).has hS.high.2.1 e)
            have g2 := (hS.low.has a).1 ha
            omega)
      have i2 := min_part hf k (J.filter (fun r => !p r)) g hS.high (fun r hr => by rw [List.mem_filter] at hr; exact hhi r hr.1 (by simpa using hr.2)) (hJP.filter _) (fun a ha => by
        rw [lookFrom_filter]
        · exact hJL a ((hS.has a).2 (by have := (hS.high.has a).1 ha; omega))
        · intro r hr hp
          cases e : hasB r.1 r.2.1 a
          · rfl
          · have g1 := (hS.low.has a).1 ((hlo r hr (by simpa using hp)).has hS.low.2.1 e)
            have g2 := (hS.high.has a).1 ha
            omega)
      have i3 := filter_lens p J
      have i4 := few_le hf k o g
      omega
    -- a route of the part itself stands first
    have hone : ∀ r, Ins l b r → ¬ l < r.1 → r.1 = l ∧ r.2.1 = b := by
      intro r hr hn
      have e1 : r.1 = l := by have := hr.len; omega
      refine ⟨e1, ?_⟩
      have h1 := hr.fst; have h2 := hr.lst
      have e2 := first_is_ok hr.ok; have e3 := last_is_ok hr.ok
      have e4 := first_is_ok hS.2.1; have e6 := last_is_ok hS.2.1
      rw [e1] at e2 e3
      have e7 : firstI r.1 r.2.1 = firstI l b := by rw [e1] at h1 h2 ⊢; omega
      have hp : (0 : Int) < 2 ^ (8 - l).toNat := Int.pow_pos (by decide)
      rw [e1, e2, e4] at e7
      exact Int.eq_of_mul_eq_mul_right (by omega) e7
    have hnl : ∀ x, Ins l b x → lessB x.1 x.2.1 l b = false := by
      intro x hx
      have h1 := hx.fst; have h2 := hx.len
      cases e : lessB x.1 x.2.1 l b
      · rfl
      · rw [less_iff] at e; omega
    cases I with
    | nil => exact strict [] h (by simp) (by simp) hL
    | cons r I =>
      rw [List.pairwise_cons] at hP
      have tail : ∀ s ∈ I, Ins l b s ∧ l < s.1 := by
        intro s hs
        refine ⟨hI s (by simp [hs]), ?_⟩
        by_cases hq : l < s.1
        · exact hq
        · obtain ⟨q1, q2⟩ := hone s (hI s (by simp [hs])) hq
          have := hP.1 s hs
          rw [q1, q2, hnl r (hI r (by simp))] at this
          cases this
      by_cases hr : l < r.1
      · exact strict (r :: I) h (fun s hs => by
          rcases List.mem_cons.1 hs with rfl | hs
          · exact ⟨hI _ (by simp), hr⟩
          · exact tail s hs) (List.pairwise_cons.2 hP) hL
      · obtain ⟨q1, q2⟩ := hone r (hI r (by simp)) hr
        have := strict I r.2.2 tail hP.2 (fun a ha => by
          have := hL a ha
          rw [lookFrom_cons, q1, q2, if_pos ha] at this
          exact this)
        have := off_le (wish f (k + 1) o) h
        simp only [List.length_cons]; omega

/-- The table of as few as can be. -/
def leastT (f : Nat → Int) : List Rt := leastR f 8 0 0 0 (-1)
theorem mem_m1 : (-1 : Int) ∈ hopsR := by decide
theorem least_T_len {f : Nat → Int} (hf : ∀ j, f j ∈ hopsR) : (leastT f).length = few f 8 0 + off (wish f 8 0) (-1) := least_len hf 8 0 0 0 mem_m1
theorem cnts_T {f : Nat → Int} (hf : ∀ j, f j ∈ hopsR) : cnts f 8 0 (-1) = (leastT f).length := by rw [least_T_len hf, cnts_is hf 8 0 mem_m1]
theorem least_T_look {f : Nat → Int} (hf : ∀ j, f j ∈ hopsR) (j : Nat) (hj : j < 256) : lookL (leastT f) j = f j := by
  rw [lookL_from, leastT, least_look hf Sp.root j ((root_has _).2 (by omega))]; simp
theorem ins_root {r : Rt} (h : okB r.1 r.2.1 = true) : Ins 0 0 r := by
  obtain ⟨g0, g1, g2, _⟩ := span_has (a := 0) h
  obtain ⟨h0, _⟩ := ok_iff.1 h
  have e1 : firstI 0 0 = 0 := by decide
  have e2 : lastI 0 0 = 255 := by decide
  exact ⟨h, by omega, by omega, h0⟩
/-- NO TABLE HAS FEWER. -/
theorem least_min {f : Nat → Int} (hf : ∀ j, f j ∈ hopsR) {rs : List Rt} (ho : ∀ r ∈ rs, okB r.1 r.2.1 = true) (hs : rs.Pairwise (fun r s => lessB r.1 r.2.1 s.1 s.2.1 = true)) (hl : ∀ j : Nat, j < 256 → lookL rs j = f j) : (leastT f).length ≤ rs.length := by
  rw [least_T_len hf]
  refine min_part hf 8 rs (-1) Sp.root (fun r hr => ins_root (ho r hr)) hs (fun a ha => ?_)
  obtain ⟨a0, a1⟩ := (root_has a).1 ha
  have := hl a.toNat (by omega)
  rw [show ((a.toNat : Nat) : Int) = a by omega] at this
  exact this
theorem least_T_ok {f : Nat → Int} (hf : ∀ j, f j ∈ hopsR) : (∀ r ∈ leastT f, okB r.1 r.2.1 = true ∧ hopB r.2.2 = true) ∧ (leastT f).Pairwise (fun r s => lessB r.1 r.2.1 s.1 s.2.1 = true) :=
  ⟨fun r hr => ⟨(least_ins hf Sp.root r hr).1.ok, (least_ins hf Sp.root r hr).2⟩, least_srt hf Sp.root⟩
theorem least_tab {f : Nat → Int} (hf : ∀ j, f j ∈ hopsR) (h : (leastT f).length ≤ 40) : Tab (leastT f) := ⟨(least_T_ok hf).1, (least_T_ok hf).2, h⟩
/-- One route less is not enough. -/
theorem least_less {f : Nat → Int} (hf : ∀ j, f j ∈ hopsR) {A B : List Rt} {r : Rt} (e : leastT f = A ++ r :: B) : ¬ ∀ j : Nat, j < 256 → lookL (A ++ B) j = f j := by
  intro h
  obtain ⟨h1, h2⟩ := least_T_ok hf
  rw [e] at h1 h2
  have hs : (A ++ B).Pairwise (fun r s => lessB r.1 r.2.1 s.1 s.2.1 = true) := h2.sublist (List.Sublist.append_left (List.sublist_cons_self r B) A)
  have := least_min hf (fun s hs => (h1 s (by rcases List.mem_append.1 hs with q | q <;> simp [q])).1) hs h
  rw [e] at this
  simp at this
  omega
/-- With another hop of one of its routes addresses go otherwise. -/
theorem least_other {f : Nat → Int} (hf : ∀ j, f j ∈ hopsR) {A B : List Rt} {l b g g' : Int} (e : leastT f = A ++ (l, b, g) :: B) (hne : g' ≠ g) : ¬ ∀ j : Nat, j < 256 → lookL (A ++ (l, b, g') :: B) j = f j := by
  intro h
  by_cases hu : ∃ a, hasB l b a = true ∧ ∀ s ∈ B, hasB s.1 s.2.1 a = false
  · obtain ⟨a, ha, hB⟩ := hu
    obtain ⟨_, a0, a1, _⟩ := has_iff.1 ha
    have h1 := h a.toNat (by omega)
    have h2 := least_T_look hf a.toNat (by omega)
    rw [show ((a.toNat : Nat) : Int) = a by omega] at h1 h2
    rw [e, lookL_mid (r := (l, b, g)) ha hB] at h2
    rw [lookL_mid (r := (l, b, g')) ha hB] at h1
    exact hne (h1.trans h2.symm)
  · refine least_less hf e fun j hj => ?_
    have h2 := least_T_look hf j hj
    rw [e] at h2
    rw [← h2]
    cases ha : hasB l b j
    · exact (lookL_skip (r := (l, b, g)) ha).symm
    · rw [lookL_append, lookL_append, lookFrom_cons, if_pos ha]
      refine lookFrom_some ?_ _ _
      refine Classical.byContradiction fun hn => hu ⟨j, ha, fun s hs => ?_⟩
      cases q : hasB s.1 s.2.1 j
      · rfl
      · exact absurd ⟨s, hs, q⟩ hn

end Go.Proofs.YtimbgijpeomfcacGreatDoor

/- CHANGES BETWEEN TABLES: what is to be changed in one so that it is another one; changes done one by one. No Go here. -/
namespace Go.Proofs.YtimbgijpeomfcacGreatDoor

/-- In a strict order lists with the same members are the same. -/
theorem srt_unique {α : Type} (lt : α → α → Prop) (irr : ∀ x, ¬ lt x x) (asy : ∀ x y, lt x y → ¬ lt y x) : ∀ (A B : List α), A.Pairwise lt → B.Pairwise lt → (∀ x, x ∈ A ↔ x ∈ B) → A = B
  | [], B, _, _, h => by
    cases B with
    | nil => rfl
    | cons y B => exact absurd ((h y).2 (by simp)) (by simp)
  | x :: A, [], _, _, h => absurd ((h x).1 (by simp)) (by simp)
  | x :: A, y :: B, hA, hB, h => by
    rw [List.pairwise_cons] at hA hB
    have e : x = y := by
      rcases List.mem_cons.1 ((h x).1 (by simp)) with e | e
      · exact e
      · rcases List.mem_cons.1 ((h y).2 (by simp)) with e' | e'
        · exact e'.symm
        · exact absurd (hA.1 y e') (asy _ _ (hB.1 x e))
    subst e
    have ih := srt_unique lt irr asy A B hA.2 hB.2 (fun z => ?_)
    · rw [ih]
    · constructor
      · intro hz
        rcases List.mem_cons.1 ((h z).1 (by simp [hz])) with e | e
        · subst e; exact absurd (hA.1 z hz) (irr z)
        · exact e
      · intro hz
        rcases List.mem_cons.1 ((h z).2 (by simp [hz])) with e | e
        · subst e; exact absurd (hB.1 z hz) (irr z)
        · exact e
theorem less_not (l b : Int) : ¬ lessB l b l b = true := by rw [less_irr]; simp
theorem less_asy' {l b m c : Int} (h : lessB l b m c = true) : ¬ lessB m c l b = true := by rw [less_asy h]; simp
theorem nodup_len {α : Type} [BEq α] [LawfulBEq α] : ∀ (A B : List α), A.Nodup → (∀ x ∈ A, x ∈ B) → A.length ≤ B.length
  | [], B, _, _ => by simp
  | a :: A, B, h, hs => by
    rw [List.nodup_cons] at h
    have ha : a ∈ B := hs a (by simp)
    have ih := nodup_len A (B.erase a) h.2 (fun x hx => (List.mem_erase_of_ne (fun e : x = a => h.1 (by rw [← e]; exact hx))).2 (hs x (by simp [hx])))
    rw [List.length_erase_of_mem ha] at ih
    have : 0 < B.length := List.length_pos_of_mem ha
    simp only [List.length_cons]; omega

theorem hop_ne {h : Int} (hh : hopB h = true) : h ≠ -2 := by intro e; subst e; simp [hopB] at hh
/-- What a table has. -/
theorem Tab.mem_get {rs : List Rt} (h : Tab rs) (l b x : Int) : (l, b, x) ∈ rs ↔ getL rs l b = x ∧ x ≠ -2 := by
  cases ho : okB l b
  · rw [(h.lacks ho).2]
    constructor
    · intro hm; have := h.mem hm; simp [ho] at this
    · rintro ⟨rfl, e⟩; exact absurd rfl e
  · obtain ⟨A, B, hp, hA, hB, hc⟩ := h.part ho
    have nA : ∀ y, (l, b, y) ∉ A := fun y hy => less_not l b (hA _ hy)
    have nB : ∀ y, (l, b, y) ∉ B := fun y hy => less_not l b (hB _ hy)
    rcases hc with ⟨e, _, hg⟩ | ⟨h0, hh0, e, _, hg⟩
    · rw [hg]
      constructor
      · intro hm
        rw [e] at hm
        rcases List.mem_append.1 hm with q | q
        · exact absurd q (nA _)
        · exact absurd q (nB _)
      · rintro ⟨rfl, e⟩; exact absurd rfl e
    · rw [hg]
      constructor
      · intro hm
        rw [e] at hm
        rcases List.mem_append.1 hm with q | q
        · exact absurd q (nA _)
        · rcases List.mem_cons.1 q with q | q
          · have : x = h0 := by simpa using q
            subst this
            exact ⟨rfl, hop_ne hh0⟩
          · exact absurd q (nB _)
      · rintro ⟨rfl, _⟩
        rw [e]; simp
theorem Tab.get_hop {rs : List Rt} (h : Tab rs) {l b : Int} (hn : getL rs l b ≠ -2) : okB l b = true ∧ hopB (getL rs l b) = true := by
  have := h.ok _ ((h.mem_get l b _).2 ⟨rfl, hn⟩)
  exact this
/-- Tables that have the same of each prefix are the same. -/
theorem tab_ext {rs ss : List Rt} (h : Tab rs) (k : Tab ss) (e : ∀ l b, getL rs l b = getL ss l b) : rs = ss := by
  refine srt_unique _ (fun x => less_not _ _) (fun x y => less_asy') rs ss h.srt k.srt (fun r => ?_)
  obtain ⟨l, b, x⟩ := r
  rw [h.mem_get, k.mem_get, e]
/-- What a table has behind Set. -/
theorem Tab.get_set {rs : List Rt} (h : Tab rs) {l b h' : Int} (hc : (setL rs l b h').2 = 0) : getL (setL rs l b h').1 l b = h' ∧ ∀ m c, ¬ (m = l ∧ c = b) → getL (setL rs l b h').1 m c = getL rs m c := by
  refine ⟨(h.back l b h' hc).1, fun m c hn => ?_⟩
  have hT := h.set_tab l b h'
  have key : ∀ y, (m, c, y) ∈ (setL rs l b h').1 ↔ (m, c, y) ∈ rs := by
    intro y
    have ne : ∀ z : Int, ¬ ((m, c, y) = (l, b, z)) := fun z e => hn (by simp at e; exact ⟨e.1, e.2.1⟩)
    rcases h.set l b h' with ⟨_, e⟩ | ⟨ho, _, A, B, _, hA, hB, ⟨_, h0, _, e, _, _, e'⟩ | ⟨hh, _, e', ⟨e, hl, _⟩ | ⟨h0, _, e, _⟩⟩⟩
    · exact absurd hc e
    · rw [e']; conv => rhs; rw [e]
      simp [ne]
    · rw [e']; conv => rhs; rw [e]
      simp [ne]
    · rw [e']; conv => rhs; rw [e]
      simp [ne]
  by_cases e : getL rs m c = -2
  · by_cases e' : getL (setL rs l b h').1 m c = -2
    · rw [e, e']
    · have := (h.mem_get m c _).1 ((key _).1 ((hT.mem_get m c _).2 ⟨rfl, e'⟩))
      exact absurd (this.1.symm.trans e) this.2
  · exact ((hT.mem_get m c _).1 ((key _).2 ((h.mem_get m c _).2 ⟨rfl, e⟩))).1
/-- A route that is there can be taken away. -/
theorem Tab.can_del {rs : List Rt} (h : Tab rs) {l b : Int} (hn : getL rs l b ≠ -2) : (setL rs l b (-2)).2 = 0 := by
  obtain ⟨ho, hh⟩ := h.get_hop hn
  obtain ⟨A, B, hp, hA, hB, ⟨e, _, hg⟩ | ⟨h0, hh0, e, hf, hg⟩⟩ := h.part ho
  · exact absurd hg hn
  · unfold setL
    simp [ho, hf]
/-- A route can be set where there is one, or room. -/
theorem Tab.can_set {rs : List Rt} (h : Tab rs) {l b h' : Int} (ho : okB l b = true) (hh : hopB h' = true) (hr : getL rs l b ≠ -2 ∨ rs.length < 40) : (setL rs l b h').2 = 0 := by
  have h2 := hop_ne hh
  obtain ⟨A, B, hp, hA, hB, ⟨e, hf, hg⟩ | ⟨h0, hh0, e, hf, hg⟩⟩ := h.part ho
  · have hl : ¬ 40 ≤ rs.length := by rcases hr with hr | hr; exact absurd hg hr; omega
    unfold setL
    simp [ho, hh, h2, hf, hl]
  · unfold setL
    simp [ho, hh, h2, hf]
/-- A table whose prefixes are some of another one's, but not all, is shorter. -/
theorem Tab.shorter {rs ss : List Rt} (h : Tab rs) (k : Tab ss) (hs : ∀ l b, getL rs l b ≠ -2 → getL ss l b ≠ -2) {l b : Int} (h1 : getL rs l b = -2) (h2 : getL ss l b ≠ -2) : rs.length < ss.length := by
  have key := nodup_len ((l, b) :: rs.map (fun r => (r.1, r.2.1))) (ss.map (fun r => (r.1, r.2.1))) ?_ ?_
  · simp at key; omega
  · rw [List.nodup_cons]
    refine ⟨fun hm => ?_, ?_⟩
    · obtain ⟨⟨m, c, x⟩, hr, e⟩ := List.mem_map.1 hm
      simp at e
      rw [e.1, e.2] at hr
      have := (h.mem_get l b x).1 hr
      exact this.2 (this.1.symm.trans h1)
    · rw [List.Nodup, List.pairwise_map]
      refine h.srt.imp fun {r s} hr e => ?_
      simp at e
      rw [e.1, e.2] at hr
      exact less_not _ _ hr
  · intro p hp
    rcases List.mem_cons.1 hp with rfl | hp
    · exact List.mem_map.2 ⟨(l, b, getL ss l b), (k.mem_get l b _).2 ⟨rfl, h2⟩, rfl⟩
    · obtain ⟨⟨m, c, x⟩, hr, e⟩ := List.mem_map.1 hp
      have hm := (h.mem_get m c x).1 hr
      subst e
      have := hs m c (by rw [hm.1]; exact hm.2)
      exact List.mem_map.2 ⟨(m, c, getL ss m c), (k.mem_get m c _).2 ⟨rfl, this⟩, rfl⟩

/-- A change: Len, Bits, Old, New. -/
abbrev Ch := Int × Int × Int × Int
/-- What is to be changed in rs so that it is ss. -/
structure IsDiff (rs ss : List Rt) (ds : List Ch) : Prop where
  srt : ds.Pairwise (fun c d => lessB c.1 c.2.1 d.1 d.2.1 = true)
  mem : ∀ l b x y, (l, b, x, y) ∈ ds ↔ getL rs l b = x ∧ getL ss l b = y ∧ x ≠ y
theorem IsDiff.unique {rs ss : List Rt} {ds es : List Ch} (h : IsDiff rs ss ds) (k : IsDiff rs ss es) : ds = es := by
  refine srt_unique _ (fun x => less_not _ _) (fun x y => less_asy') ds es h.srt k.srt (fun c => ?_)
  obtain ⟨l, b, x, y⟩ := c
  rw [h.mem, k.mem]
theorem IsDiff.self {rs : List Rt} {ds : List Ch} (h : IsDiff rs rs ds) : ds = [] := by
  cases ds with
  | nil => rfl
  | cons c ds =>
    obtain ⟨l, b, x, y⟩ := c
    obtain ⟨h1, h2, h3⟩ := (h.mem l b x y).1 (by simp)
    exact absurd (h1.symm.trans h2) h3

/-- Changes of which New is none (z), or the others, one by one, to the first that can't be done. -/
def passD (z : Bool) : List Rt → List Ch → List Rt × Int
  | rs, [] => (rs, 0)
  | rs, c :: cs =>
    if decide (c.2.2.2 = -2) ≠ z then passD z rs cs
    else if getL rs c.1 c.2.1 ≠ c.2.2.1 then (rs, 11)
    else if (setL rs c.1 c.2.1 c.2.2.2).2 ≠ 0 then (rs, (setL rs c.1 c.2.1 c.2.2.2).2)
    else passD z (setL rs c.1 c.2.1 c.2.2.2).1 cs
def doneL (rs : List Rt) (cs : List Ch) : List Rt × Int :=
  if (passD true rs cs).2 ≠ 0 then passD true rs cs else passD false (passD true rs cs).1 cs
theorem passD_tab (z : Bool) : ∀ (cs : List Ch) {rs : List Rt}, Tab rs → Tab (passD z rs cs).1
  | [], rs, h => h
  | c :: cs, rs, h => by
    rw [passD]
    split
    · exact passD_tab z cs h
    · split
      · exact h
      · split
        · exact h
        · exact passD_tab z cs (h.set_tab _ _ _)
theorem doneL_tab {rs : List Rt} (h : Tab rs) (cs : List Ch) : Tab (doneL rs cs).1 := by
  unfold doneL
  split
  · exact passD_tab _ _ h
  · exact passD_tab _ _ (passD_tab _ _ h)

theorem pass_del : ∀ (cs : List Ch) {rs : List Rt}, Tab rs → cs.Pairwise (fun c d => lessB c.1 c.2.1 d.1 d.2.1 = true) → (∀ c ∈ cs, c.2.2.2 = -2 → getL rs c.1 c.2.1 = c.2.2.1 ∧ c.2.2.1 ≠ -2) →
    (passD true rs cs).2 = 0 ∧ (∀ c ∈ cs, c.2.2.2 = -2 → getL (passD true rs cs).1 c.1 c.2.1 = -2) ∧ ∀ l b, (∀ c ∈ cs, c.2.2.2 = -2 → ¬ (l = c.1 ∧ b = c.2.1)) → getL (passD true rs cs).1 l b = getL rs l b
  | [], rs, h, _, _ => ⟨rfl, by simp, fun _ _ _ => rfl⟩
  | c :: cs, rs, h, hs, hc => by
    rw [List.pairwise_cons] at hs
    have hne : ∀ d ∈ cs, ¬ (d.1 = c.1 ∧ d.2.1 = c.2.1) := fun d hd e => by
      have := hs.1 d hd
      rw [e.1, e.2] at this
      exact less_not _ _ this
    rw [passD]
    by_cases hz : c.2.2.2 = -2
    · obtain ⟨h1, h2⟩ := hc c (by simp) hz
      have hdel := h.can_del (l := c.1) (b := c.2.1) (by rw [h1]; exact h2)
      obtain ⟨g1, g2⟩ := h.get_set hdel
      rw [if_neg (by simp [hz]), if_neg (by simp [h1]), hz, if_neg (by simp [hdel])]
      obtain ⟨i1, i2, i3⟩ := pass_del cs (h.set_tab c.1 c.2.1 (-2)) hs.2 (fun d hd e => by
        rw [g2 d.1 d.2.1 (hne d hd)]
        exact hc d (by simp [hd]) e)
      refine ⟨i1, fun d hd e => ?_, fun l b hq => ?_⟩
      · rcases List.mem_cons.1 hd with rfl | hd
        · rw [i3 d.1 d.2.1 (fun x hx _ e => hne x hx ⟨e.1.symm, e.2.symm⟩)]
          exact g1
        · exact i2 d hd e
      · rw [i3 l b (fun d hd e => hq d (by simp [hd]) e), g2 l b (hq c (by simp) hz)]
    · rw [if_pos (by simp [hz])]
      obtain ⟨i1, i2, i3⟩ := pass_del cs h hs.2 (fun d hd e => hc d (by simp [hd]) e)
      refine ⟨i1, fun d hd e => ?_, fun l b hq => i3 l b fun d hd e => hq d (by simp [hd]) e⟩
      rcases List.mem_cons.1 hd with rfl | hd
      · exact absurd e hz
      · exact i2 d hd e
theorem pass_set {ss : List Rt} (kT : Tab ss) : ∀ (cs : List Ch) {rs : List Rt}, Tab rs → cs.Pairwise (fun c d => lessB c.1 c.2.1 d.1 d.2.1 = true) → (∀ c ∈ cs, c.2.2.2 ≠ -2 → getL rs c.1 c.2.1 = c.2.2.1 ∧ getL ss c.1 c.2.1 = c.2.2.2) → (∀ l b, getL rs l b ≠ -2 → getL ss l b ≠ -2) →
    (passD false rs cs).2 = 0 ∧ (∀ c ∈ cs, c.2.2.2 ≠ -2 → getL (passD false rs cs).1 c.1 c.2.1 = c.2.2.2) ∧ ∀ l b, (∀ c ∈ cs, c.2.2.2 ≠ -2 → ¬ (l = c.1 ∧ b = c.2.1)) → getL (passD false rs cs).1 l b = getL rs l b
  | [], rs, h, _, _, _ => ⟨rfl, by simp, fun _ _ _ => rfl⟩
  | c :: cs, rs, h, hs, hc, hsub => by
    rw [List.pairwise_cons] at hs
    have hne : ∀ d ∈ cs, ¬ (d.1 = c.1 ∧ d.2.1 = c.2.1) := fun d hd e => by
      have := hs.1 d hd
      rw [e.1, e.2] at this
      exact less_not _ _ this
    rw [passD]
    by_cases hz : c.2.2.2 = -2
    · rw [if_pos (by simp [hz])]
      obtain ⟨i1, i2, i3⟩ := pass_set kT cs h hs.2 (fun d hd e => hc d (by simp [hd]) e) hsub
      refine ⟨i1, fun d hd e => ?_, fun l b hq => i3 l b fun d hd e => hq d (by simp [hd]) e⟩
      rcases List.mem_cons.1 hd with rfl | hd
      · exact absurd hz e
      · exact i2 d hd e
    · obtain ⟨h1, h2⟩ := hc c (by simp) hz
      have hk : getL ss c.1 c.2.1 ≠ -2 := by rw [h2]; exact hz
      obtain ⟨ho, hh⟩ := kT.get_hop hk
      rw [h2] at hh
      have hset := h.can_set ho hh (by
        by_cases e : getL rs c.1 c.2.1 = -2
        · exact .inr (Nat.lt_of_lt_of_le (h.shorter kT hsub e hk) kT.len)
        · exact .inl e)
      obtain ⟨g1, g2⟩ := h.get_set hset
      rw [if_neg (by simp [hz]), if_neg (by simp [h1]), if_neg (by simp [hset])]
      obtain ⟨i1, i2, i3⟩ := pass_set kT cs (h.set_tab c.1 c.2.1 c.2.2.2) hs.2 (fun d hd e => by
        rw [g2 d.1 d.2.1 (hne d hd)]
        exact hc d (by simp [hd]) e) (fun l b hq => by
        by_cases e : l = c.1 ∧ b = c.2.1
        · rw [e.1, e.2]; exact hk
        · rw [g2 l b e] at hq; exact hsub l b hq)
      refine ⟨i1, fun d hd e => ?_, fun l b hq => ?_⟩
      · rcases List.mem_cons.1 hd with rfl | hd
        · rw [i3 d.1 d.2.1 (fun x hx _ e => hne x hx ⟨e.1.symm, e.2.symm⟩)]
          exact g1
        · exact i2 d hd e
      · rw [i3 l b (fun d hd e => hq d (by simp [hd]) e), g2 l b (hq c (by simp) hz)]
/-- DONE, IT IS THE OTHER ONE. -/
theorem done_diff {rs ss : List Rt} {ds : List Ch} (h : Tab rs) (k : Tab ss) (hd : IsDiff rs ss ds) : doneL rs ds = (ss, 0) := by
  have m : ∀ c ∈ ds, getL rs c.1 c.2.1 = c.2.2.1 ∧ getL ss c.1 c.2.1 = c.2.2.2 ∧ c.2.2.1 ≠ c.2.2.2 := fun c hc => by
    obtain ⟨l, b, x, y⟩ := c
    exact (hd.mem l b x y).1 hc
  obtain ⟨p1, p2, p3⟩ := pass_del ds h hd.srt (fun c hc e => by
    obtain ⟨m1, m2, m3⟩ := m c hc
    exact ⟨m1, by rw [e] at m3; exact m3⟩)
  have hT1 := passD_tab true ds h
  have keep : ∀ l b, getL ss l b ≠ -2 → getL (passD true rs ds).1 l b = getL rs l b := fun l b hq => p3 l b fun c hc e q => by
    have := (m c hc).2.1
    rw [← q.1, ← q.2, e] at this
    exact hq this
  have gone : ∀ l b, getL ss l b = -2 → getL (passD true rs ds).1 l b = -2 := fun l b hq => by
    by_cases e : getL rs l b = -2
    · rw [← e]
      refine p3 l b fun c hc e' q => ?_
      obtain ⟨m1, m2, m3⟩ := m c hc
      rw [← q.1, ← q.2, e] at m1
      rw [e', ← m1] at m3
      exact m3 rfl
    · exact p2 (l, b, getL rs l b, -2) ((hd.mem l b _ _).2 ⟨rfl, hq, e⟩) rfl
  obtain ⟨q1, q2, q3⟩ := pass_set k ds hT1 hd.srt (fun c hc e => by
    obtain ⟨m1, m2, m3⟩ := m c hc
    exact ⟨by rw [keep c.1 c.2.1 (by rw [m2]; exact e), m1], m2⟩) (fun l b hq e => hq (gone l b e))
  unfold doneL
  rw [if_neg (by simp [p1])]
  refine Prod.ext ?_ q1
  refine tab_ext (passD_tab false ds hT1) k fun l b => ?_
  by_cases e : getL ss l b = -2
  · rw [q3 l b (fun c hc e' q => by
      have := (m c hc).2.1
      rw [← q.1, ← q.2, e] at this
      exact e' this.symm), gone l b e, e]
  · by_cases e2 : getL rs l b = getL ss l b
    · rw [q3 l b (fun c hc e' q => by
        obtain ⟨m1, m2, m3⟩ := m c hc
        rw [← q.1, ← q.2] at m1 m2
        exact m3 (m1.symm.trans (e2.trans m2))), keep l b e, e2]
    · exact q2 (l, b, getL rs l b, getL ss l b) ((hd.mem l b _ _).2 ⟨rfl, rfl, e2⟩) e

end Go.Proofs.YtimbgijpeomfcacGreatDoor

/- THE REFERENCE's CHANGES: a list of the prefixes of both tables, in order, and of each where they have not the same. No Go here. -/
namespace Go.Proofs.YtimbgijpeomfcacGreatDoor

/-- A route more, in its order. -/
def insR (all : List Rt) (r : Rt) : List Rt := all.takeWhile (fun s => ltB s r.1 r.2.1) ++ r :: all.dropWhile (fun s => ltB s r.1 r.2.1)
/-- The routes of a, and those of b of whose prefixes a has none. -/
def uniR (rs ss : List Rt) : List Rt := ss.foldl (fun all r => if getL rs r.1 r.2.1 = -2 then insR all r else all) rs
def chgR (rs ss : List Rt) : List Ch := (uniR rs ss).filterMap fun r => if getL rs r.1 r.2.1 ≠ getL ss r.1 r.2.1 then some (r.1, r.2.1, getL rs r.1 r.2.1, getL ss r.1 r.2.1) else none

/-- Prefixes in order. -/
structure Ord (all : List Rt) : Prop where
  ok : ∀ r ∈ all, okB r.1 r.2.1 = true
  srt : all.Pairwise (fun r s => lessB r.1 r.2.1 s.1 s.2.1 = true)
theorem Ord.cut {all : List Rt} (h : Ord all) (l b : Int) : (∀ r ∈ all.takeWhile (fun s => ltB s l b), ltB r l b = true) ∧ (∀ r ∈ all.dropWhile (fun s => ltB s l b), ltB r l b = false) := by
  refine ⟨fun r hr => ?_, ?_⟩
  · have hs := h
    clear h
    induction all with
    | nil => simp at hr
    | cons x all ih =>
      rw [List.takeWhile_cons] at hr
      split at hr
      · rename_i hx
        rcases List.mem_cons.1 hr with rfl | hr
        · exact hx
        · exact ih hr ⟨fun s hm => hs.ok s (by simp [hm]), (List.pairwise_cons.1 hs.srt).2⟩
      · simp at hr
  · have hs := h.srt
    clear h
    induction all with
    | nil => intro r hr; simp at hr
    | cons x all ih =>
      intro r hr
      rw [List.dropWhile_cons] at hr
      rw [List.pairwise_cons] at hs
      split at hr
      · exact ih hs.2 r hr
      · rename_i hx
        rcases List.mem_cons.1 hr with rfl | hr
        · simpa using hx
        · cases e : ltB r l b
          · rfl
          · exact absurd (less_tr (hs.1 r hr) e) hx
theorem Ord.ins {all : List Rt} (h : Ord all) {r : Rt} (ho : okB r.1 r.2.1 = true) (hn : ∀ s ∈ all, ¬ (s.1 = r.1 ∧ s.2.1 = r.2.1)) : Ord (insR all r) ∧ ∀ s, s ∈ insR all r ↔ s = r ∨ s ∈ all := by
  obtain ⟨h1, h2⟩ := h.cut r.1 r.2.1
  have e : all.takeWhile (fun s => ltB s r.1 r.2.1) ++ all.dropWhile (fun s => ltB s r.1 r.2.1) = all := List.takeWhile_append_dropWhile
  have mA : ∀ s ∈ all.takeWhile (fun s => ltB s r.1 r.2.1), s ∈ all := fun s hs => by rw [← e]; exact List.mem_append_left _ hs
  have mB : ∀ s ∈ all.dropWhile (fun s => ltB s r.1 r.2.1), s ∈ all := fun s hs => by rw [← e]; exact List.mem_append_right _ hs
  have hB : ∀ s ∈ all.dropWhile (fun s => ltB s r.1 r.2.1), lessB r.1 r.2.1 s.1 s.2.1 = true := fun s hs => by
    cases q : lessB r.1 r.2.1 s.1 s.2.1
    · have := less_tot (h.ok s (mB s hs)) ho (h2 s hs) q
      exact absurd this (hn s (mB s hs))
    · rfl
  have hs := h.srt
  rw [← e] at hs
  obtain ⟨s1, s2, s3⟩ := List.pairwise_append.1 hs
  unfold insR
  refine ⟨⟨fun s hs => ?_, List.pairwise_append.2 ⟨s1, List.pairwise_cons.2 ⟨hB, s2⟩, fun x hx y hy => ?_⟩⟩, fun s => ?_⟩
  · rcases List.mem_append.1 hs with q | q
    · exact h.ok s (mA s q)
    · rcases List.mem_cons.1 q with rfl | q
      · exact ho
      · exact h.ok s (mB s q)
  · rcases List.mem_cons.1 hy with rfl | hy
    · exact h1 x hx
    · exact s3 x hx y hy
  · constructor
    · intro hs
      rcases List.mem_append.1 hs with q | q
      · exact .inr (mA s q)
      · rcases List.mem_cons.1 q with q | q
        · exact .inl q
        · exact .inr (mB s q)
    · rintro (rfl | hs)
      · simp
      · rw [← e] at hs
        rcases List.mem_append.1 hs with q | q
        · exact List.mem_append_left _ q
        · exact List.mem_append_right _ (List.mem_cons_of_mem _ q)

/-- The fold, from whatever list on. -/
theorem uni_fold {rs : List Rt} : ∀ (ts : List Rt) (all : List Rt), Ord all → (∀ r ∈ ts, okB r.1 r.2.1 = true) → ts.Pairwise (fun r s => lessB r.1 r.2.1 s.1 s.2.1 = true) →
    (∀ r ∈ ts, getL rs r.1 r.2.1 = -2 → ∀ s ∈ all, ¬ (s.1 = r.1 ∧ s.2.1 = r.2.1)) →
    Ord (ts.foldl (fun all r => if getL rs r.1 r.2.1 = -2 then insR all r else all) all) ∧ ∀ s, s ∈ ts.foldl (fun all r => if getL rs r.1 r.2.1 = -2 then insR all r else all) all ↔ s ∈ all ∨ (s ∈ ts ∧ getL rs s.1 s.2.1 = -2)
  | [], all, h, _, _, _ => ⟨h, by simp⟩
  | r :: ts, all, h, ho, hs, hn => by
    rw [List.pairwise_cons] at hs
    simp only [List.foldl_cons]
    by_cases hg : getL rs r.1 r.2.1 = -2
    · rw [if_pos hg]
      obtain ⟨i1, i2⟩ := h.ins (ho r (by simp)) (hn r (by simp) hg)
      obtain ⟨j1, j2⟩ := uni_fold ts (insR all r) i1 (fun s hs => ho s (by simp [hs])) hs.2 (fun t ht hgt s hm e => by
        rcases (i2 s).1 hm with rfl | hm
        · have := hs.1 t ht
          rw [e.1, e.2] at this
          exact less_not _ _ this
        · exact hn t (by simp [ht]) hgt s hm e)
      refine ⟨j1, fun s => ?_⟩
      rw [j2, i2]
      constructor
      · rintro ((rfl | q) | q)
        · exact .inr ⟨by simp, hg⟩
        · exact .inl q
        · exact .inr ⟨by simp [q.1], q.2⟩
      · rintro (q | ⟨q1, q2⟩)
        · exact .inl (.inr q)
        · rcases List.mem_cons.1 q1 with rfl | q1
          · exact .inl (.inl rfl)
          · exact .inr ⟨q1, q2⟩
    · rw [if_neg hg]
      obtain ⟨j1, j2⟩ := uni_fold ts all h (fun s hs => ho s (by simp [hs])) hs.2 (fun t ht => hn t (by simp [ht]))
      refine ⟨j1, fun s => ?_⟩
      rw [j2]
      constructor
      · rintro (q | q)
        · exact .inl q
        · exact .inr ⟨by simp [q.1], q.2⟩
      · rintro (q | ⟨q1, q2⟩)
        · exact .inl q
        · rcases List.mem_cons.1 q1 with rfl | q1
          · exact absurd q2 hg
          · exact .inr ⟨q1, q2⟩
theorem Tab.ord {rs : List Rt} (h : Tab rs) : Ord rs := ⟨fun r hr => (h.ok r hr).1, h.srt⟩
theorem uni_is {rs ss : List Rt} (h : Tab rs) (k : Tab ss) : Ord (uniR rs ss) ∧ ∀ s, s ∈ uniR rs ss ↔ s ∈ rs ∨ (s ∈ ss ∧ getL rs s.1 s.2.1 = -2) :=
  uni_fold ss rs h.ord (fun r hr => (k.ok r hr).1) k.srt (fun r _ hg s hs e => by
    obtain ⟨l, b, x⟩ := s
    have := (h.mem_get l b x).1 hs
    simp only at e
    rw [← e.1, ← e.2] at hg
    exact this.2 (this.1.symm.trans hg))
theorem pairwise_filterMap {p : Rt → Option Ch} (hp : ∀ r c, p r = some c → c.1 = r.1 ∧ c.2.1 = r.2.1) : ∀ (L : List Rt), L.Pairwise (fun r s => lessB r.1 r.2.1 s.1 s.2.1 = true) → (L.filterMap p).Pairwise (fun c d => lessB c.1 c.2.1 d.1 d.2.1 = true)
  | [], _ => by simp
  | r :: L, h => by
    rw [List.pairwise_cons] at h
    have ih := pairwise_filterMap hp L h.2
    cases e : p r with
    | none => rw [List.filterMap_cons_none e]; exact ih
    | some c =>
      rw [List.filterMap_cons_some e, List.pairwise_cons]
      refine ⟨fun d hd => ?_, ih⟩
      obtain ⟨s, hs, es⟩ := List.mem_filterMap.1 hd
      rw [(hp r c e).1, (hp r c e).2, (hp s d es).1, (hp s d es).2]
      exact h.1 s hs
/-- The reference's list is what is to be changed. -/
theorem chg_is {rs ss : List Rt} (h : Tab rs) (k : Tab ss) : IsDiff rs ss (chgR rs ss) := by
  obtain ⟨u1, u2⟩ := uni_is h k
  refine ⟨pairwise_filterMap (fun r c hc => ?_) _ u1.srt, fun l b x y => ?_⟩
  · split at hc
    · cases hc; exact ⟨rfl, rfl⟩
    · cases hc
  · unfold chgR
    rw [List.mem_filterMap]
    constructor
    · rintro ⟨r, hr, hc⟩
      split at hc
      · rename_i hne
        have e : (r.1, r.2.1, getL rs r.1 r.2.1, getL ss r.1 r.2.1) = (l, b, x, y) := by simpa using hc
        simp only [Prod.mk.injEq] at e
        obtain ⟨e1, e2, e3, e4⟩ := e
        rw [e1, e2] at e3 e4 hne
        refine ⟨e3, e4, ?_⟩
        rw [← e3, ← e4]; exact hne
      · cases hc
    · rintro ⟨h1, h2, h3⟩
      by_cases e : x = -2
      · have hy : y ≠ -2 := fun q => h3 (e.trans q.symm)
        refine ⟨(l, b, y), (u2 _).2 (.inr ⟨(k.mem_get l b y).2 ⟨h2, hy⟩, by simpa [h1] using e⟩), ?_⟩
        simp only [h1, h2]
        rw [if_pos h3]
      · refine ⟨(l, b, x), (u2 _).2 (.inl ((h.mem_get l b x).2 ⟨h1, e⟩)), ?_⟩
        simp only [h1, h2]
        rw [if_pos h3]

end Go.Proofs.YtimbgijpeomfcacGreatDoor

/- WISHES AS BITS: the program's sets of hops; the routes that it hands over, part by part. No Go here. -/
namespace Go.Proofs.YtimbgijpeomfcacGreatDoor

/-- A hop's place among the bits. -/
def hb (h : Int) : Nat := (h + 1).toNat
theorem hb_lt {h : Int} (hh : h ∈ hopsR) : hb h < 7 := by
  have := hop_mem.2 hh
  simp [hopB] at this
  unfold hb; omega
theorem hb_back {i : Nat} (hi : i < 7) : ((i : Int) - 1) ∈ hopsR ∧ hb ((i : Int) - 1) = i := by
  refine ⟨hop_mem.1 ?_, by unfold hb; omega⟩
  simp [hopB]; omega
theorem hb_inj {g h : Int} (hg : g ∈ hopsR) (hh : h ∈ hopsR) (e : hb g = hb h) : g = h := by
  have a := hop_mem.2 hg
  have b := hop_mem.2 hh
  simp [hopB] at a b
  unfold hb at e; omega

/-- The program's wishes of a part. -/
def wm : TT → Nat
  | .leaf _ _ h => 2 ^ hb h
  | .node _ _ lo hi => if wm lo &&& wm hi = 0 then wm lo ||| wm hi else wm lo &&& wm hi
/-- A set of hops, as bits. -/
structure Bits (W : Int → Bool) (m : Nat) : Prop where
  lt : m < 128
  bit : ∀ h ∈ hopsR, m.testBit (hb h) = W h
theorem bits_zero {m : Nat} (h : m < 128) (hz : ∀ i, i < 7 → m.testBit i = false) : m = 0 := by
  apply Nat.eq_of_testBit_eq
  intro i
  rw [Nat.zero_testBit]
  by_cases hi : i < 7
  · exact hz i hi
  · exact Nat.testBit_lt_two_pow (Nat.lt_of_lt_of_le h (by have : 2 ^ 7 ≤ 2 ^ i := Nat.pow_le_pow_right (by decide) (by omega); omega))
theorem Bits.and {A B : Int → Bool} {m n : Nat} (h : Bits A m) (k : Bits B n) : (m &&& n = 0) ↔ both A B = false := by
  have hl : m &&& n < 128 := Nat.lt_of_le_of_lt Nat.and_le_left h.lt
  constructor
  · intro e
    rw [Bool.eq_false_iff]
    intro hb'
    obtain ⟨g, hg, h1, h2⟩ := both_iff.1 hb'
    have := Nat.testBit_and m n (hb g)
    rw [e, h.bit g hg, k.bit g hg, h1, h2] at this
    simp at this
  · intro e
    refine bits_zero hl fun i hi => ?_
    obtain ⟨h1, h2⟩ := hb_back hi
    rw [Nat.testBit_and, ← h2, h.bit _ h1, k.bit _ h1]
    cases ha : A ((i : Int) - 1) <;> cases hb' : B ((i : Int) - 1) <;> try rfl
    exact absurd (both_iff.2 ⟨_, h1, ha, hb'⟩) (by rw [e]; simp)
theorem wm_tri {f : Nat → Int} (hf : ∀ j, f j ∈ hopsR) : ∀ (k : Nat) (l b : Int) (o : Nat), Bits (wish f k o) (wm (tri f k l b o))
  | k, l, b, o => by
    by_cases ha : Alk f o (2 ^ k)
    · rw [tri_alk ha, wm]
      have h7 := hb_lt (hf o)
      refine ⟨?_, fun h hh => ?_⟩
      · have : 2 ^ hb (f o) ≤ 2 ^ 6 := Nat.pow_le_pow_right (by decide) (by omega)
        omega
      · rw [wish_alk ha, Nat.testBit_two_pow]
        by_cases e : h = f o
        · subst e; simp
        · have : hb (f o) ≠ hb h := fun e' => e (hb_inj hh (hf o) e'.symm)
          simp [e, this]
    · cases k with
      | zero => exact absurd (alk_one f o) ha
      | succ k =>
        rw [tri_not ha, wm]
        have h1 := wm_tri hf k (l + 1) (b * 2) o
        have h2 := wm_tri hf k (l + 1) (b * 2 + 1) (o + 2 ^ k)
        have hz := h1.and h2
        split
        · rename_i e
          have hb' := hz.1 e
          refine ⟨Nat.or_lt_two_pow (n := 7) h1.lt h2.lt, fun h hh => ?_⟩
          rw [wish_rec hf, comb, hb', Nat.testBit_or, h1.bit h hh, h2.bit h hh]; simp
        · rename_i e
          have hb' : both (wish f k o) (wish f k (o + 2 ^ k)) = true := by
            rcases hbb : both (wish f k o) (wish f k (o + 2 ^ k)) with _ | _
            · exact absurd (hz.2 hbb) e
            · rfl
          refine ⟨Nat.lt_of_le_of_lt Nat.and_le_left h1.lt, fun h hh => ?_⟩
          rw [wish_rec hf, comb, hb', Nat.testBit_and, h1.bit h hh, h2.bit h hh]; simp
/-- The lowest bit. -/
def lowB (m : Nat) : Int := ((List.range 7).find? (fun i => m.testBit i)).getD 0 - (1 : Int)
/-- The routes that the program hands over. -/
def each : TT → Int → List Rt
  | .leaf l b g, h => if (wm (.leaf l b g)).testBit (hb h) then [] else [(l, b, lowB (wm (.leaf l b g)))]
  | .node l b lo hi, h =>
    (if (wm (.node l b lo hi)).testBit (hb h) then [] else [(l, b, lowB (wm (.node l b lo hi)))]) ++
      (each lo (if (wm (.node l b lo hi)).testBit (hb h) then h else lowB (wm (.node l b lo hi))) ++ each hi (if (wm (.node l b lo hi)).testBit (hb h) then h else lowB (wm (.node l b lo hi))))
theorem Bits.low {W : Int → Bool} {m : Nat} (h : Bits W m) (hs : ∃ g ∈ hopsR, W g = true) (x : Int) : lowB m = lowW W x := by
  have e : ∀ i : Nat, i < 7 → m.testBit i = W ((i : Int) - 1) := fun i hi => by
    obtain ⟨h1, h2⟩ := hb_back hi
    rw [← h.bit _ h1, h2]
  have e0 : m.testBit 0 = W (-1) := e 0 (by decide)
  have e1 : m.testBit 1 = W 0 := e 1 (by decide)
  have e2 : m.testBit 2 = W 1 := e 2 (by decide)
  have e3 : m.testBit 3 = W 2 := e 3 (by decide)
  have e4 : m.testBit 4 = W 3 := e 4 (by decide)
  have e5 : m.testBit 5 = W 4 := e 5 (by decide)
  have e6 : m.testBit 6 = W 5 := e 6 (by decide)
  unfold lowB lowW
  rw [show List.range 7 = [0, 1, 2, 3, 4, 5, 6] from rfl]
  unfold hopsR at hs ⊢
  simp only [List.find?, e0, e1, e2, e3, e4, e5, e6]
  cases h0 : W (-1)
  · cases h1 : W 0
    · cases h2 : W 1
      · cases h3 : W 2
        · cases h4 : W 3
          · cases h5 : W 4
            · cases h6 : W 5
              · obtain ⟨g, hg, hw⟩ := hs
                simp only [List.mem_cons, List.not_mem_nil, or_false] at hg
                rcases hg with rfl | rfl | rfl | rfl | rfl | rfl | rfl <;> simp_all
              · simp
            · simp
          · simp
        · simp
      · simp
    · simp
  · simp
theorem Bits.has {W : Int → Bool} {m : Nat} (h : Bits W m) {g : Int} (hg : g ∈ hopsR) : m.testBit (hb g) = W g := h.bit g hg
theorem Bits.pos {W : Int → Bool} {m : Nat} (h : Bits W m) (hs : ∃ g ∈ hopsR, W g = true) : m ≠ 0 := by
  obtain ⟨g, hg, hw⟩ := hs
  intro e
  have := h.bit g hg
  rw [e, hw] at this
  simp at this
/-- The program's routes are those of as few as can be. -/
theorem each_tri {f : Nat → Int} (hf : ∀ j, f j ∈ hopsR) : ∀ (k : Nat) (l b : Int) (o : Nat) (h : Int), h ∈ hopsR → each (tri f k l b o) h = leastR f k l b o h
  | k, l, b, o, h, hh => by
    have hB := wm_tri hf k l b o
    have hs := wish_some hf k o
    have hlow := hB.low hs h
    have hbit := hB.bit h hh
    have hnx := nxt_is hs hh
    unfold nxt at hnx
    by_cases ha : Alk f o (2 ^ k)
    · rw [tri_alk ha] at hB hlow hbit ⊢
      rw [each, hbit, hlow]
      cases k with
      | zero => rw [leastR]
      | succ k => rw [leastR, if_pos ha, List.append_nil]
    · cases k with
      | zero => exact absurd (alk_one f o) ha
      | succ k =>
        rw [tri_not ha] at hB hlow hbit ⊢
        rw [each, hbit, hlow, leastR, if_neg ha, each_tri hf k _ _ _ _ hnx.2, each_tri hf k _ _ _ _ hnx.2]
        rfl
theorem ctz_low : ∀ m : Nat, m < 128 → m ≠ 0 → lowB m ∈ hopsR := by decide
theorem each_T {f : Nat → Int} (hf : ∀ j, f j ∈ hopsR) : each (triT f) (-1) = leastT f := each_tri hf 8 0 0 0 (-1) mem_m1
/-- Trees whose hops are hops. -/
def HopT : TT → Prop
  | .leaf _ _ h => h ∈ hopsR
  | .node _ _ lo hi => HopT lo ∧ HopT hi
theorem hop_tri {f : Nat → Int} (hf : ∀ j, f j ∈ hopsR) : ∀ (k : Nat) (l b : Int) (o : Nat), HopT (tri f k l b o)
  | k, l, b, o => by
    by_cases ha : Alk f o (2 ^ k)
    · rw [tri_alk ha]; exact hf o
    · cases k with
      | zero => exact absurd (alk_one f o) ha
      | succ k => rw [tri_not ha]; exact ⟨hop_tri hf k _ _ _, hop_tri hf k _ _ _⟩
theorem or_pos {m n : Nat} (h : m ≠ 0) : m ||| n ≠ 0 := by
  intro e
  have : m ≤ m ||| n := Nat.left_le_or
  omega
theorem wm_bd : ∀ {T : TT}, HopT T → wm T < 128 ∧ wm T ≠ 0
  | .leaf l b h, hh => by
    have h7 := hb_lt hh
    have : 2 ^ hb h ≤ 2 ^ 6 := Nat.pow_le_pow_right (by decide) (by omega)
    have p : 0 < 2 ^ hb h := Nat.pow_pos (by decide)
    rw [wm]; omega
  | .node l b lo hi, hh => by
    obtain ⟨a1, a2⟩ := wm_bd hh.1
    obtain ⟨b1, b2⟩ := wm_bd hh.2
    rw [wm]
    split
    · exact ⟨Nat.or_lt_two_pow (n := 7) a1 b1, or_pos a2⟩
    · rename_i e
      exact ⟨Nat.lt_of_le_of_lt Nat.and_le_left a1, e⟩
end Go.Proofs.YtimbgijpeomfcacGreatDoor

/- Diff, as lists: all prefixes of two tables, sorted, each once; what is to be changed. No Go here. -/
namespace Go.Proofs.YtimbgijpeomfcacGreatDoor

abbrev Pf := Int × Int
def ltP (p q : Pf) : Bool := lessB p.1 p.2 q.1 q.2
theorem ltP_swo : Go.Sort.SWO ltP where
  irrefl := fun p => less_irr p.1 p.2
  trans := fun _ _ _ h k => less_tr h k
  ntrans := fun x y z h k => by
    unfold ltP lessB at *
    simp only [decide_eq_false_iff_not] at *
    omega
/-- What slices.Compact leaves. -/
def cmpGo (q : Pf) : List Pf → List Pf
  | [] => []
  | p :: L => if p = q then cmpGo q L else p :: cmpGo p L
def cmpL : List Pf → List Pf
  | [] => []
  | p :: L => p :: cmpGo p L
def SrtP (L : List Pf) : Prop := L.Pairwise (fun p q => ltP q p = false)
theorem cmpGo_is : ∀ (L : List Pf) (q : Pf), SrtP (q :: L) → (∀ p ∈ q :: L, okB p.1 p.2 = true) → (q :: cmpGo q L).Pairwise (fun p q => ltP p q = true) ∧ ∀ p, p ∈ q :: cmpGo q L ↔ p ∈ q :: L
  | [], q, _, _ => by simp [cmpGo]
  | p :: L, q, hs, ho => by
    rw [cmpGo]
    unfold SrtP at hs
    rw [List.pairwise_cons] at hs
    by_cases e : p = q
    · rw [if_pos e]
      subst e
      obtain ⟨h1, h2⟩ := cmpGo_is L p hs.2 (fun r hr => ho r (List.mem_cons_of_mem _ hr))
      refine ⟨h1, fun r => ?_⟩
      rw [h2]; simp
    · rw [if_neg e]
      obtain ⟨h1, h2⟩ := cmpGo_is L p hs.2 (fun r hr => ho r (List.mem_cons_of_mem _ hr))
      have hlt : ltP q p = true := by
        have h3 := hs.1 p (by simp)
        cases h4 : ltP q p
        · have := less_tot (ho p (by simp)) (ho q (by simp)) h3 h4
          exact absurd (Prod.ext this.1 this.2) e
        · rfl
      refine ⟨List.pairwise_cons.2 ⟨fun r hr => ?_, h1⟩, fun r => ?_⟩
      · rcases List.mem_cons.1 hr with rfl | hr
        · exact hlt
        · exact less_tr hlt ((List.pairwise_cons.1 h1).1 r hr)
      · rw [List.mem_cons, h2, List.mem_cons (a := r) (b := q)]
theorem cmp_is {L : List Pf} (hs : SrtP L) (ho : ∀ p ∈ L, okB p.1 p.2 = true) : (cmpL L).Pairwise (fun p q => ltP p q = true) ∧ ∀ p, p ∈ cmpL L ↔ p ∈ L := by
  cases L with
  | nil => simp [cmpL]
  | cons p L => exact cmpGo_is L p hs ho
def keyL (rs : List Rt) : List Pf := rs.map fun r => (r.1, r.2.1)
def chOf (rs ss : List Rt) (p : Pf) : List Ch := if getL rs p.1 p.2 = getL ss p.1 p.2 then [] else [(p.1, p.2, getL rs p.1 p.2, getL ss p.1 p.2)]
def difL (rs ss : List Rt) (L : List Pf) : List Ch := L.flatMap (chOf rs ss)
theorem difL_nil (rs ss : List Rt) : difL rs ss [] = [] := rfl
theorem difL_snoc (rs ss : List Rt) (L : List Pf) (p : Pf) : difL rs ss (L ++ [p]) = difL rs ss L ++ chOf rs ss p := by simp [difL]
theorem mem_chOf {rs ss : List Rt} {p : Pf} {c : Ch} : c ∈ chOf rs ss p ↔ c = (p.1, p.2, getL rs p.1 p.2, getL ss p.1 p.2) ∧ getL rs p.1 p.2 ≠ getL ss p.1 p.2 := by
  unfold chOf
  split
  · rename_i e; simp [e]
  · rename_i e; simp [e]
theorem mem_dif {rs ss : List Rt} {L : List Pf} {c : Ch} : c ∈ difL rs ss L ↔ (c.1, c.2.1) ∈ L ∧ c.2.2.1 = getL rs c.1 c.2.1 ∧ c.2.2.2 = getL ss c.1 c.2.1 ∧ getL rs c.1 c.2.1 ≠ getL ss c.1 c.2.1 := by
  unfold difL
  rw [List.mem_flatMap]
  constructor
  · rintro ⟨p, hp, hc⟩
    obtain ⟨rfl, hn⟩ := mem_chOf.1 hc
    exact ⟨hp, rfl, rfl, hn⟩
  · rintro ⟨hp, h1, h2, h3⟩
    refine ⟨_, hp, mem_chOf.2 ⟨?_, h3⟩⟩
    obtain ⟨l, b, x, y⟩ := c
    simp only at h1 h2
    rw [h1, h2]
theorem dif_srt {rs ss : List Rt} : ∀ (L : List Pf), L.Pairwise (fun p q => ltP p q = true) → (difL rs ss L).Pairwise (fun c d => lessB c.1 c.2.1 d.1 d.2.1 = true)
  | [], _ => by simp [difL]
  | p :: L, h => by
    rw [List.pairwise_cons] at h
    show (chOf rs ss p ++ difL rs ss L).Pairwise _
    rw [List.pairwise_append]
    refine ⟨?_, dif_srt L h.2, fun c hc d hd => ?_⟩
    · unfold chOf; split <;> simp
    · obtain ⟨rfl, _⟩ := mem_chOf.1 hc
      exact h.1 _ (mem_dif.1 hd).1
theorem mem_key {rs : List Rt} (h : Tab rs) (l b : Int) : (l, b) ∈ keyL rs ↔ getL rs l b ≠ -2 := by
  unfold keyL
  rw [List.mem_map]
  constructor
  · rintro ⟨⟨m, c, x⟩, hr, e⟩
    cases e
    obtain ⟨h1, h2⟩ := (h.mem_get m c x).1 hr
    show getL rs m c ≠ -2
    rw [h1]; exact h2
  · intro hn
    exact ⟨(l, b, getL rs l b), (h.mem_get l b _).2 ⟨rfl, hn⟩, rfl⟩
/-- What Diff tells. -/
theorem dif_is {rs ss : List Rt} (h : Tab rs) (k : Tab ss) {L : List Pf} (hp : L.Perm (keyL rs ++ keyL ss)) (hs : SrtP L) : IsDiff rs ss (difL rs ss (cmpL L)) := by
  have hm : ∀ p, p ∈ L ↔ getL rs p.1 p.2 ≠ -2 ∨ getL ss p.1 p.2 ≠ -2 := fun p => by
    rw [hp.mem_iff, List.mem_append]
    exact or_congr (mem_key h p.1 p.2) (mem_key k p.1 p.2)
  have ho : ∀ p ∈ L, okB p.1 p.2 = true := fun p hpL => by
    rcases (hm p).1 hpL with h1 | h1
    · exact (h.get_hop h1).1
    · exact (k.get_hop h1).1
  obtain ⟨c1, c2⟩ := cmp_is hs ho
  refine ⟨dif_srt _ c1, fun l b x y => ?_⟩
  rw [mem_dif]
  simp only [c2, hm]
  constructor
  · rintro ⟨_, rfl, rfl, hn⟩
    exact ⟨rfl, rfl, hn⟩
  · rintro ⟨rfl, rfl, hn⟩
    refine ⟨?_, rfl, rfl, hn⟩
    by_cases e : getL rs l b = -2
    · right; intro e2; exact hn (e.trans e2.symm)
    · left; exact e
end Go.Proofs.YtimbgijpeomfcacGreatDoor
