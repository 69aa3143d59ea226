/- LINKS AS NUMBERS: what they cost, and how far it is. No Go here. -/
namespace Go.Proofs.Ytimbgijpeomfcad

/-- Costs of links: the same from both ends, none of a node with itself. -/
structure Lk (c : Nat → Nat → Nat) : Prop where
  sym : ∀ a b, c a b = c b a
  self : ∀ a, c a a = 0
  le : ∀ a b, c a b ≤ 15

/-- The least of d n and of what comes by the first j nodes. -/
def via (c : Nat → Nat → Nat) (d : Nat → Nat) (n : Nat) : Nat → Nat
  | 0 => d n
  | j + 1 => if 0 < c j n ∧ d j + c j n < via c d n j then d j + c j n else via c d n j
/-- The least cost of a way of at most k links. -/
def wk (c : Nat → Nat → Nat) (f : Int) : Nat → Nat → Nat
  | 0, n => if (n : Int) = f then 0 else 200
  | k + 1, n => via c (wk c f k) n 6

theorem via_le (c : Nat → Nat → Nat) (d : Nat → Nat) (n : Nat) : ∀ j, via c d n j ≤ d n
  | 0 => Nat.le_refl _
  | j + 1 => by
    have := via_le c d n j
    rw [via]; split <;> omega
theorem via_by (c : Nat → Nat → Nat) (d : Nat → Nat) (n : Nat) : ∀ j i, i < j → 0 < c i n → via c d n j ≤ d i + c i n
  | 0, i, h, _ => by omega
  | j + 1, i, h, hc => by
    rw [via]
    by_cases e : i = j
    · subst e
      split <;> omega
    · have := via_by c d n j i (by omega) hc
      split <;> omega
theorem via_is (c : Nat → Nat → Nat) (d : Nat → Nat) (n : Nat) : ∀ j, via c d n j = d n ∨ ∃ i, i < j ∧ 0 < c i n ∧ via c d n j = d i + c i n
  | 0 => .inl rfl
  | j + 1 => by
    rw [via]
    split
    · next h => exact .inr ⟨j, by omega, h.1, rfl⟩
    · rcases via_is c d n j with h | ⟨i, h1, h2, h3⟩
      · exact .inl h
      · exact .inr ⟨i, by omega, h2, h3⟩
theorem via_congr (c : Nat → Nat → Nat) (d e : Nat → Nat) (n : Nat) (hn : d n = e n) : ∀ j, (∀ i, i < j → d i = e i) → via c d n j = via c e n j
  | 0, _ => hn
  | j + 1, h => by
    rw [via, via, via_congr c d e n hn j (fun i hi => h i (by omega)), h j (by omega)]
theorem wk_anti (c : Nat → Nat → Nat) (f : Int) (k n : Nat) : wk c f (k + 1) n ≤ wk c f k n := via_le _ _ _ _
theorem wk_le (c : Nat → Nat → Nat) (f : Int) : ∀ k n, wk c f k n ≤ 200
  | 0, n => by rw [wk]; split <;> omega
  | k + 1, n => Nat.le_trans (wk_anti c f k n) (wk_le c f k n)
theorem wk_mono (c : Nat → Nat → Nat) (f : Int) (k n : Nat) : ∀ j, wk c f (k + j) n ≤ wk c f k n
  | 0 => Nat.le_refl _
  | j + 1 => Nat.le_trans (wk_anti c f (k + j) n) (wk_mono c f k n j)
theorem wk_le_of (c : Nat → Nat → Nat) (f : Int) {k j : Nat} (h : k ≤ j) (n : Nat) : wk c f j n ≤ wk c f k n := by
  have := wk_mono c f k n (j - k)
  rwa [show k + (j - k) = j by omega] at this

def sum6 (d : Nat → Nat) : Nat := d 0 + d 1 + d 2 + d 3 + d 4 + d 5
theorem six {n : Nat} (h : n < 6) : n = 0 ∨ n = 1 ∨ n = 2 ∨ n = 3 ∨ n = 4 ∨ n = 5 := by omega
theorem wk_stops (c : Nat → Nat → Nat) (f : Int) : ∀ s k, sum6 (wk c f k) ≤ s → ∃ K, ∀ n, n < 6 → wk c f (K + 1) n = wk c f K n := by
  intro s
  induction s with
  | zero =>
    intro k h
    refine ⟨k, fun n hn => ?_⟩
    have a := wk_anti c f k n
    unfold sum6 at h
    rcases six hn with rfl | rfl | rfl | rfl | rfl | rfl <;> omega
  | succ s ih =>
    intro k h
    have a0 := wk_anti c f k 0
    have a1 := wk_anti c f k 1
    have a2 := wk_anti c f k 2
    have a3 := wk_anti c f k 3
    have a4 := wk_anti c f k 4
    have a5 := wk_anti c f k 5
    by_cases e : sum6 (wk c f (k + 1)) = sum6 (wk c f k)
    · refine ⟨k, fun n hn => ?_⟩
      unfold sum6 at e
      rcases six hn with rfl | rfl | rfl | rfl | rfl | rfl <;> omega
    · refine ih (k + 1) ?_
      unfold sum6 at *
      omega

/-- What it comes to. -/
structure Lm (c : Nat → Nat → Nat) (f : Int) (L : Nat → Nat) : Prop where
  le : ∀ k n, n < 6 → L n ≤ wk c f k n
  at_ : ∃ K, ∀ n, n < 6 → L n = wk c f K n

theorem lm_is (c : Nat → Nat → Nat) (f : Int) : ∃ L, Lm c f L := by
  obtain ⟨K, hK⟩ := wk_stops c f (sum6 (wk c f 0)) 0 (Nat.le_refl _)
  have st : ∀ j n, n < 6 → wk c f (K + j) n = wk c f K n := by
    intro j
    induction j with
    | zero => intro n _; rfl
    | succ j ih =>
      intro n hn
      rw [← hK n hn]
      show via c (wk c f (K + j)) n 6 = via c (wk c f K) n 6
      exact via_congr c _ _ n (ih n hn) 6 ih
  refine ⟨wk c f K, fun k n hn => ?_, K, fun n _ => rfl⟩
  by_cases h : k ≤ K
  · exact wk_le_of c f h n
  · have := st (k - K) n hn
    rw [show K + (k - K) = k by omega] at this
    rw [this]; exact Nat.le_refl _
theorem Lm.edge {c : Nat → Nat → Nat} {f : Int} {L : Nat → Nat} (h : Lm c f L) {m n : Nat} (hm : m < 6) (hn : n < 6) (hc : 0 < c m n) : L n ≤ L m + c m n := by
  obtain ⟨K, hK⟩ := h.at_
  have h1 := h.le (K + 1) n hn
  have h2 : wk c f (K + 1) n ≤ wk c f K m + c m n := via_by c _ n 6 m hm hc
  rw [← hK m hm] at h2
  omega
theorem wk_last (c : Nat → Nat → Nat) (f : Int) : ∀ k n, wk c f k n = wk c f 0 n ∨ ∃ m j, m < 6 ∧ 0 < c m n ∧ wk c f k n = wk c f j m + c m n
  | 0, _ => .inl rfl
  | k + 1, n => by
    rcases via_is c (wk c f k) n 6 with h | ⟨i, h1, h2, h3⟩
    · rcases wk_last c f k n with e | ⟨m, j, h4, h5, h6⟩
      · exact .inl (h.trans e)
      · exact .inr ⟨m, j, h4, h5, h.trans h6⟩
    · exact .inr ⟨i, k, h1, h2, h3⟩
theorem Lm.last {c : Nat → Nat → Nat} {f : Int} {L : Nat → Nat} (h : Lm c f L) {n : Nat} (hn : n < 6) : L n = wk c f 0 n ∨ ∃ m, m < 6 ∧ 0 < c m n ∧ L n = L m + c m n := by
  obtain ⟨K, hK⟩ := h.at_
  rcases wk_last c f K n with e | ⟨m, j, h1, h2, h3⟩
  · exact .inl ((hK n hn).trans e)
  · have h4 := h.le j m h1
    have h5 := h.edge h1 hn h2
    have h6 := hK n hn
    exact .inr ⟨m, h1, h2, by omega⟩

theorem countP_lt {α : Type} (p q : α → Bool) : ∀ l : List α, (∀ x ∈ l, p x = true → q x = true) → (∃ x ∈ l, q x = true ∧ p x = false) → l.countP p < l.countP q
  | [], _, h => by obtain ⟨x, hx, _⟩ := h; cases hx
  | y :: l, hi, h => by
    have hm : l.countP p ≤ l.countP q := List.countP_mono_left (fun x hx => hi x (List.mem_cons_of_mem _ hx))
    obtain ⟨x, hx, h1, h2⟩ := h
    rw [List.countP_cons, List.countP_cons]
    rcases List.mem_cons.1 hx with rfl | hx
    · simp only [h1, h2, if_true]
      simp
      omega
    · have := countP_lt p q l (fun x hx => hi x (List.mem_cons_of_mem _ hx)) ⟨x, hx, h1, h2⟩
      by_cases hp : p y = true
      · simp only [hp, hi y (by simp) hp, if_true]; omega
      · rw [if_neg hp]; omega
theorem least_of (L : Nat → Nat) (p : Nat → Prop) : ∀ s n, L n ≤ s → n < 6 → p n → ∃ m, m < 6 ∧ p m ∧ ∀ i, i < 6 → p i → L m ≤ L i := by
  intro s
  induction s with
  | zero => intro n h hn hp; exact ⟨n, hn, hp, fun i _ _ => by omega⟩
  | succ s ih =>
    intro n h hn hp
    by_cases e : ∃ i, i < 6 ∧ p i ∧ L i < L n
    · obtain ⟨i, h1, h2, h3⟩ := e
      exact ih i (by omega) h1 h2
    · refine ⟨n, hn, hp, fun i hi hpi => ?_⟩
      exact Nat.le_of_not_lt (fun hlt => e ⟨i, hi, hpi, hlt⟩)

theorem wk_none (c : Nat → Nat → Nat) (f : Int) (hf : ¬ (0 ≤ f ∧ f < 6)) : ∀ k n, n < 6 → wk c f k n = 200
  | 0, n, hn => by rw [wk, if_neg (by omega)]
  | k + 1, n, hn => by
    rcases via_is c (wk c f k) n 6 with h | ⟨i, h1, h2, h3⟩
    · exact h.trans (wk_none c f hf k n hn)
    · have e := wk_none c f hf k i h1
      have l := wk_le c f (k + 1) n
      rw [wk] at l ⊢
      omega

/-- Five links are enough. -/
theorem wk_five {c : Nat → Nat → Nat} {f : Int} {L : Nat → Nat} (h : Lm c f L) : ∀ n, n < 6 → wk c f 5 n = L n := by
  by_cases hf : 0 ≤ f ∧ f < 6
  · have key : ∀ k, (∀ n, n < 6 → wk c f k n = L n) ∨ k + 1 ≤ (List.range 6).countP (fun n => decide (wk c f k n = L n)) := by
      intro k
      induction k with
      | zero =>
        right
        have e : wk c f 0 f.toNat = L f.toNat := by
          have := h.le 0 f.toNat (by omega)
          rw [wk, if_pos (by omega)] at this ⊢
          omega
        exact List.countP_pos_iff.2 ⟨f.toNat, List.mem_range.2 (by omega), by simp [e]⟩
      | succ k ih =>
        have up : ∀ n, n < 6 → wk c f k n = L n → wk c f (k + 1) n = L n := by
          intro n hn e
          have h1 := h.le (k + 1) n hn
          have h2 := wk_anti c f k n
          omega
        rcases ih with ih | ih
        · exact .inl fun n hn => up n hn (ih n hn)
        · by_cases hall : ∀ n, n < 6 → wk c f k n = L n
          · exact .inl fun n hn => up n hn (hall n hn)
          · right
            have : ∃ n, n < 6 ∧ wk c f k n ≠ L n := Classical.byContradiction fun hne => hall fun n hn => Classical.byContradiction fun e => hne ⟨n, hn, e⟩
            obtain ⟨n0, hn0, hp0⟩ := this
            obtain ⟨n, hn, hp, hmin⟩ := least_of L (fun n => wk c f k n ≠ L n) (L n0) n0 (Nat.le_refl _) hn0 hp0
            have hnew : wk c f (k + 1) n = L n := by
              rcases h.last hn with e | ⟨m, hm, hc, e⟩
              · exfalso
                have h1 := h.le k n hn
                have h2 := wk_le_of c f (Nat.zero_le k) n
                omega
              · have hk : wk c f k m = L m := by
                  refine Classical.byContradiction fun hne => ?_
                  have := hmin m hm hne
                  omega
                have h1 := h.le (k + 1) n hn
                have h2 : wk c f (k + 1) n ≤ wk c f k m + c m n := via_by c _ n 6 m hm hc
                omega
            have hlt := countP_lt (fun n => decide (wk c f k n = L n)) (fun n => decide (wk c f (k + 1) n = L n)) (List.range 6)
              (fun x hx hpx => by
                have := up x (List.mem_range.1 hx) (of_decide_eq_true hpx)
                exact decide_eq_true this)
              ⟨n, List.mem_range.2 hn, decide_eq_true hnew, decide_eq_false hp⟩
            omega
    rcases key 5 with hk | hk
    · exact hk
    · have hl : (List.range 6).countP (fun n => decide (wk c f 5 n = L n)) = (List.range 6).length := by
        have := List.countP_le_length (p := fun n => decide (wk c f 5 n = L n)) (l := List.range 6)
        simp only [List.length_range] at this ⊢
        omega
      intro n hn
      have := List.countP_eq_length.1 hl n (List.mem_range.2 hn)
      exact of_decide_eq_true this
  · intro n hn
    obtain ⟨K, hK⟩ := h.at_
    rw [hK n hn, wk_none c f hf 5 n hn, wk_none c f hf K n hn]

/-- How far it is. -/
def dst (c : Nat → Nat → Nat) (f : Int) (n : Nat) : Nat := wk c f 5 n
theorem dst_lm (c : Nat → Nat → Nat) (f : Int) : Lm c f (dst c f) := by
  obtain ⟨L, h⟩ := lm_is c f
  have e : ∀ n, n < 6 → dst c f n = L n := wk_five h
  refine ⟨fun k n hn => by rw [e n hn]; exact h.le k n hn, ?_⟩
  obtain ⟨K, hK⟩ := h.at_
  exact ⟨K, fun n hn => by rw [e n hn]; exact hK n hn⟩
theorem dst_le (c : Nat → Nat → Nat) (f : Int) (n : Nat) : dst c f n ≤ 200 := wk_le c f 5 n
theorem dst_self (c : Nat → Nat → Nat) {f : Nat} (h : f < 6) : dst c f f = 0 := by
  have := (dst_lm c f).le 0 f h
  rw [wk, if_pos rfl] at this
  omega
theorem dst_edge (c : Nat → Nat → Nat) (f : Int) {m n : Nat} (hm : m < 6) (hn : n < 6) (hc : 0 < c m n) : dst c f n ≤ dst c f m + c m n := (dst_lm c f).edge hm hn hc
theorem dst_last (c : Nat → Nat → Nat) (f : Int) {n : Nat} (hn : n < 6) (hf : (n : Int) ≠ f) (hl : dst c f n < 200) : ∃ m, m < 6 ∧ 0 < c m n ∧ dst c f n = dst c f m + c m n := by
  rcases (dst_lm c f).last hn with e | e
  · rw [wk, if_neg hf] at e; omega
  · exact e
/-- Nothing is greater that no link shortens. -/
theorem dst_most (c : Nat → Nat → Nat) (f : Int) (e : Nat → Nat) (h0 : ∀ n, n < 6 → e n ≤ wk c f 0 n) (h1 : ∀ m n, m < 6 → n < 6 → 0 < c m n → e n ≤ e m + c m n) : ∀ n, n < 6 → e n ≤ dst c f n := by
  have : ∀ k n, n < 6 → e n ≤ wk c f k n := by
    intro k
    induction k with
    | zero => exact h0
    | succ k ih =>
      intro n hn
      rcases via_is c (wk c f k) n 6 with h | ⟨i, h2, h3, h4⟩
      · rw [wk, h]; exact ih n hn
      · rw [wk, h4]
        have := ih i h2
        have := h1 i n h2 hn h3
        omega
  exact this 5
theorem dst_is (c : Nat → Nat → Nat) (f : Int) {d : Nat → Nat} {k : Nat} (h5 : 5 ≤ k) (h1 : ∀ n, n < 6 → dst c f n ≤ d n) (h2 : ∀ n, n < 6 → d n ≤ wk c f k n) : ∀ n, n < 6 → d n = dst c f n := by
  intro n hn
  have a := h1 n hn
  have b := h2 n hn
  have e := wk_le_of c f h5 n
  unfold dst at *
  omega

/-- Not farther than by any node between. -/
theorem dst_tri (c : Nat → Nat → Nat) {a b : Nat} (hb : b < 6) {n : Nat} (hn : n < 6) : dst c a n ≤ dst c a b + dst c b n := by
  have := dst_most c b (fun n => dst c a n - dst c a b) (fun n hn => by
    rw [wk]
    split
    · next e => have : n = b := by omega
                subst this; omega
    · have := dst_le c a n; omega) (fun m n hm hn hc => by
      have := dst_edge c a hm hn hc
      omega) n hn
  omega
theorem dst_link (c : Nat → Nat → Nat) {a b : Nat} (ha : a < 6) (hb : b < 6) (hc : 0 < c a b) : dst c a b ≤ c a b := by
  have h1 := dst_edge c a ha hb hc
  rw [dst_self c ha] at h1
  omega
/-- As far there as back. -/
theorem dst_back {c : Nat → Nat → Nat} (hc : Lk c) {a b : Nat} (ha : a < 6) (hb : b < 6) : dst c a b = dst c b a := by
  have half : ∀ {x y : Nat}, x < 6 → y < 6 → dst c y x ≤ dst c x y := by
    intro x y hx hy
    refine dst_most c x (fun n => dst c n x) (fun n hn => ?_) (fun m n hm hn hmn => ?_) y hy
    · rw [wk]
      split
      · next e => have : n = x := by omega
                  subst this; rw [dst_self c hn]; exact Nat.le_refl _
      · exact dst_le c _ _
    · show dst c n x ≤ dst c m x + c m n
      have h1 := dst_tri c (a := n) hm hx
      have h2 := dst_link c hn hm (by rw [hc.sym]; exact hmn)
      rw [hc.sym n m] at h2
      omega
  have h1 := half ha hb
  have h2 := half hb ha
  omega
/-- Some link leads on the least way. -/
theorem dst_first {c : Nat → Nat → Nat} (hc : Lk c) {a b : Nat} (ha : a < 6) (hb : b < 6) (hne : a ≠ b) (hl : dst c a b < 200) : ∃ m, m < 6 ∧ 0 < c a m ∧ c a m + dst c m b = dst c a b := by
  rw [dst_back hc ha hb] at hl ⊢
  obtain ⟨m, hm, h1, h2⟩ := dst_last c b ha (by omega) hl
  refine ⟨m, hm, by rw [hc.sym]; exact h1, ?_⟩
  rw [dst_back hc hm hb, h2, hc.sym a m]
  omega

/-- Another cost of one link. -/
def setC (c : Nat → Nat → Nat) (a b v : Nat) : Nat → Nat → Nat := fun i j => if (i = a ∧ j = b) ∨ (i = b ∧ j = a) then v else c i j
theorem Lk.set {c : Nat → Nat → Nat} (h : Lk c) {a b v : Nat} (hne : a ≠ b) (hv : v ≤ 15) : Lk (setC c a b v) := by
  refine ⟨fun i j => ?_, fun i => ?_, fun i j => ?_⟩
  · unfold setC
    rw [h.sym i j]
    by_cases e : (i = a ∧ j = b) ∨ (i = b ∧ j = a)
    · rw [if_pos e, if_pos (by omega)]
    · rw [if_neg e, if_neg (by omega)]
  · unfold setC
    rw [if_neg (by omega)]; exact h.self i
  · unfold setC
    split
    · exact hv
    · exact h.le i j
theorem lk_zero : Lk (fun _ _ => 0) := ⟨fun _ _ => rfl, fun _ => rfl, fun _ _ => by omega⟩
/-- More or cheaper links: no farther. -/
theorem dst_less {c e : Nat → Nat → Nat} (h : ∀ i j, 0 < c i j → 0 < e i j ∧ e i j ≤ c i j) (f : Int) : ∀ n, n < 6 → dst e f n ≤ dst c f n :=
  dst_most c f (dst e f) (fun n hn => (dst_lm e f).le 0 n hn) (fun m n hm hn hc => by
    obtain ⟨h1, h2⟩ := h m n hc
    have := dst_edge e f hm hn h1
    omega)
theorem setC_less {c : Nat → Nat → Nat} {a b v : Nat} (hc : Lk c) (h : 0 < v ∧ (c a b = 0 ∨ v ≤ c a b)) : ∀ i j, 0 < c i j → 0 < setC c a b v i j ∧ setC c a b v i j ≤ c i j := by
  intro i j hij
  unfold setC
  by_cases e : (i = a ∧ j = b) ∨ (i = b ∧ j = a)
  · rw [if_pos e]
    have : c i j = c a b := by
      rcases e with ⟨rfl, rfl⟩ | ⟨rfl, rfl⟩
      · rfl
      · exact hc.sym _ _
    omega
  · rw [if_neg e]; omega
theorem setC_more {c : Nat → Nat → Nat} {a b v : Nat} (hc : Lk c) (h : 0 < c a b ∧ (v = 0 ∨ c a b ≤ v)) : ∀ i j, 0 < setC c a b v i j → 0 < c i j ∧ c i j ≤ setC c a b v i j := by
  intro i j hij
  unfold setC at hij ⊢
  by_cases e : (i = a ∧ j = b) ∨ (i = b ∧ j = a)
  · rw [if_pos e] at hij ⊢
    have : c i j = c a b := by
      rcases e with ⟨rfl, rfl⟩ | ⟨rfl, rfl⟩
      · rfl
      · exact hc.sym _ _
    omega
  · rw [if_neg e] at hij ⊢; omega
theorem setC_same {c : Nat → Nat → Nat} {a b v : Nat} (hc : Lk c) (h : c a b = v) : setC c a b v = c := by
  funext i j
  unfold setC
  by_cases e : (i = a ∧ j = b) ∨ (i = b ∧ j = a)
  · rw [if_pos e]
    rcases e with ⟨rfl, rfl⟩ | ⟨rfl, rfl⟩
    · exact h.symm
    · rw [hc.sym]; exact h.symm
  · rw [if_neg e]
/-- By a link more, or a cheaper one: as it was, or by that link. -/
theorem dst_by {c : Nat → Nat → Nat} {a b v : Nat} (hc : Lk c) (ha : a < 6) (hb : b < 6) (hne : a ≠ b) (hv : v ≤ 15) (h : 0 < v ∧ (c a b = 0 ∨ v ≤ c a b)) {n m : Nat} (hn : n < 6) (hm : m < 6) :
    dst (setC c a b v) n m = min (dst c n m) (min (dst c n a + v + dst c b m) (dst c n b + v + dst c a m)) := by
  have hl := setC_less hc h
  have le : ∀ {x y : Nat}, x < 6 → y < 6 → dst (setC c a b v) x y ≤ dst c x y := fun {x y} _ hy => dst_less hl x y hy
  have eab : setC c a b v a b = v := by unfold setC; rw [if_pos (by omega)]
  have eba : setC c a b v b a = v := by unfold setC; rw [if_pos (by omega)]
  have lab := dst_link (setC c a b v) ha hb (by omega)
  have lba := dst_link (setC c a b v) hb ha (by omega)
  apply Nat.le_antisymm
  · have h1 := le hn hm
    have h2 := dst_tri (setC c a b v) (a := n) ha hm
    have h3 := dst_tri (setC c a b v) (a := a) hb hm
    have h4 := dst_tri (setC c a b v) (a := n) hb hm
    have h5 := dst_tri (setC c a b v) (a := b) ha hm
    have h6 := le hn ha
    have h7 := le hb hm
    have h8 := le hn hb
    have h9 := le ha hm
    omega
  · refine dst_most (setC c a b v) n (fun m => min (dst c n m) (min (dst c n a + v + dst c b m) (dst c n b + v + dst c a m))) (fun m hm => ?_) (fun i j hi hj hij => ?_) m hm
    · have := (dst_lm c n).le 0 m hm
      show min (dst c n m) _ ≤ wk (setC c a b v) n 0 m
      have e : wk (setC c a b v) (n : Int) 0 m = wk c n 0 m := rfl
      omega
    · show min (dst c n j) (min (dst c n a + v + dst c b j) (dst c n b + v + dst c a j)) ≤ min (dst c n i) (min (dst c n a + v + dst c b i) (dst c n b + v + dst c a i)) + setC c a b v i j
      by_cases e : (i = a ∧ j = b) ∨ (i = b ∧ j = a)
      · have sa := dst_self c ha
        have sb := dst_self c hb
        rcases e with ⟨rfl, rfl⟩ | ⟨rfl, rfl⟩
        · rw [eab, sb, sa]; omega
        · rw [eba, sb, sa]; omega
      · have es : setC c a b v i j = c i j := by unfold setC; rw [if_neg e]
        rw [es] at hij ⊢
        have h1 := dst_edge c n hi hj hij
        have h2 := dst_edge c a hi hj hij
        have h3 := dst_edge c b hi hj hij
        omega

end Go.Proofs.Ytimbgijpeomfcad
