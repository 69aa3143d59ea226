/- LINKS AS LISTS, AND BOTH WAYS TO RECKON HOW FAR IT IS. No Go here. -/
import Derived.Test.YtimbgijpeomfcadKPlain
namespace Go.Proofs.Ytimbgijpeomfcad

def upd (d : Nat → Nat) (i v : Nat) : Nat → Nat := fun j => if j = i then v else d j
abbrev Tri := Nat × Nat × Nat

/-- The links of a, to the first j nodes above it. -/
def rowTo (c : Nat → Nat → Nat) (a : Nat) : Nat → List Tri
  | 0 => []
  | j + 1 => rowTo c a j ++ (if c a (a + 1 + j) = 0 then [] else [(a, a + 1 + j, c a (a + 1 + j))])
/-- The links of the first n nodes. -/
def allTo (c : Nat → Nat → Nat) : Nat → List Tri
  | 0 => []
  | a + 1 => allTo c a ++ rowTo c a (5 - a)
/-- Those with which a is linked, of the first j. -/
def ofTo (c : Nat → Nat → Nat) (a : Nat) : Nat → List Nat
  | 0 => []
  | j + 1 => ofTo c a j ++ (if c a j = 0 then [] else [j])

theorem row_mem (c : Nat → Nat → Nat) (a : Nat) : ∀ j x, x ∈ rowTo c a j ↔ x.1 = a ∧ a < x.2.1 ∧ x.2.1 ≤ a + j ∧ x.2.2 = c a x.2.1 ∧ 0 < c a x.2.1
  | 0, x => by simp only [rowTo, List.not_mem_nil, false_iff]; omega
  | j + 1, x => by
    rw [rowTo, List.mem_append, row_mem c a j x]
    constructor
    · rintro (h | h)
      · obtain ⟨h1, h2, h3, h4, h5⟩ := h
        exact ⟨h1, h2, by omega, h4, h5⟩
      · split at h
        · cases h
        · next e =>
          have := List.mem_singleton.1 h
          subst this
          exact ⟨rfl, by simp only; omega, by simp only; omega, rfl, by simp only; omega⟩
    · rintro ⟨h1, h2, h3, h4, h5⟩
      by_cases e : x.2.1 ≤ a + j
      · exact .inl ⟨h1, h2, e, h4, h5⟩
      · right
        have e2 : x.2.1 = a + 1 + j := by omega
        rw [e2] at h4 h5
        rw [if_neg (by omega)]
        obtain ⟨x1, x2, x3⟩ := x
        simp only at h1 e2 h4
        rw [h1, e2, h4]
        exact List.mem_singleton.2 rfl
theorem all_mem (c : Nat → Nat → Nat) : ∀ n, n ≤ 6 → ∀ x, x ∈ allTo c n ↔ x.1 < n ∧ x.1 < x.2.1 ∧ x.2.1 < 6 ∧ x.2.2 = c x.1 x.2.1 ∧ 0 < c x.1 x.2.1
  | 0, _, x => by simp [allTo]
  | n + 1, hn, x => by
    rw [allTo, List.mem_append, all_mem c n (by omega) x, row_mem]
    constructor
    · rintro (⟨h1, h2, h3, h4, h5⟩ | ⟨h1, h2, h3, h4, h5⟩)
      · exact ⟨by omega, h2, h3, h4, h5⟩
      · rw [← h1] at h4 h5; exact ⟨by omega, by omega, by omega, h4, h5⟩
    · rintro ⟨h1, h2, h3, h4, h5⟩
      by_cases e : x.1 < n
      · exact .inl ⟨e, h2, h3, h4, h5⟩
      · have e2 : x.1 = n := by omega
        rw [e2] at h2 h4 h5
        exact .inr ⟨e2, h2, by omega, h4, h5⟩
theorem of_mem (c : Nat → Nat → Nat) (a : Nat) : ∀ j x, x ∈ ofTo c a j ↔ x < j ∧ 0 < c a x
  | 0, x => by simp [ofTo]
  | j + 1, x => by
    rw [ofTo, List.mem_append, of_mem c a j x]
    constructor
    · rintro (⟨h1, h2⟩ | h)
      · exact ⟨by omega, h2⟩
      · split at h
        · cases h
        · have := List.mem_singleton.1 h
          subst this; exact ⟨by omega, by omega⟩
    · rintro ⟨h1, h2⟩
      by_cases e : x < j
      · exact .inl ⟨e, h2⟩
      · have e2 : x = j := by omega
        subst e2
        rw [if_neg (by omega)]
        exact .inr (List.mem_singleton.2 rfl)
theorem row_len (c : Nat → Nat → Nat) (a : Nat) : ∀ j, (rowTo c a j).length ≤ j
  | 0 => Nat.le_refl _
  | j + 1 => by
    have := row_len c a j
    rw [rowTo, List.length_append]
    split <;> simp <;> omega
theorem all_len (c : Nat → Nat → Nat) : ∀ n, (allTo c n).length ≤ 5 * n
  | 0 => Nat.le_refl _
  | n + 1 => by
    have h1 := all_len c n
    have h2 := row_len c n (5 - n)
    rw [allTo, List.length_append]; omega
theorem of_len (c : Nat → Nat → Nat) (a : Nat) : ∀ j, (ofTo c a j).length ≤ j
  | 0 => Nat.le_refl _
  | j + 1 => by
    have := of_len c a j
    rw [ofTo, List.length_append]
    split <;> simp <;> omega

/-- One link, both ways. -/
def rxa (d : Nat → Nat) (x : Tri) : Nat → Nat := upd d x.1 (min (d x.1) (d x.2.1 + x.2.2))
def rxb (d : Nat → Nat) (x : Tri) : Nat → Nat := upd d x.2.1 (min (d x.2.1) (d x.1 + x.2.2))
def rx (d : Nat → Nat) (x : Tri) : Nat → Nat := rxb (rxa d x) x
def rds (l : List Tri) (d : Nat → Nat) : Nat → Nat → Nat
  | 0 => d
  | k + 1 => l.foldl rx (rds l d k)
theorem rxa_le (d : Nat → Nat) (x : Tri) (n : Nat) : rxa d x n ≤ d n := by
  unfold rxa upd
  split
  · next e => subst e; omega
  · exact Nat.le_refl _
theorem rxb_le (d : Nat → Nat) (x : Tri) (n : Nat) : rxb d x n ≤ d n := by
  unfold rxb upd
  split
  · next e => subst e; omega
  · exact Nat.le_refl _
theorem rx_le (d : Nat → Nat) (x : Tri) (n : Nat) : rx d x n ≤ d n := Nat.le_trans (rxb_le _ _ _) (rxa_le _ _ _)
theorem rx_one (d : Nat → Nat) (x : Tri) : rx d x x.1 ≤ d x.2.1 + x.2.2 := by
  refine Nat.le_trans (rxb_le _ _ _) ?_
  unfold rxa upd
  rw [if_pos rfl]; omega
theorem rx_two (d : Nat → Nat) (x : Tri) : rx d x x.2.1 ≤ d x.1 + x.2.2 := by
  have := rxa_le d x x.1
  show rxb (rxa d x) x x.2.1 ≤ _
  unfold rxb
  show upd _ _ _ _ ≤ _
  rw [upd, if_pos rfl]; omega
theorem fold_le : ∀ (l : List Tri) (d : Nat → Nat) (n : Nat), l.foldl rx d n ≤ d n
  | [], _, _ => Nat.le_refl _
  | x :: l, d, n => Nat.le_trans (fold_le l (rx d x) n) (rx_le d x n)
theorem fold_by : ∀ (l : List Tri) (d : Nat → Nat) (x : Tri), x ∈ l → l.foldl rx d x.1 ≤ d x.2.1 + x.2.2 ∧ l.foldl rx d x.2.1 ≤ d x.1 + x.2.2
  | [], _, _, h => by cases h
  | y :: l, d, x, h => by
    rcases List.mem_cons.1 h with rfl | h
    · exact ⟨Nat.le_trans (fold_le l _ _) (rx_one d x), Nat.le_trans (fold_le l _ _) (rx_two d x)⟩
    · obtain ⟨h1, h2⟩ := fold_by l (rx d y) x h
      exact ⟨Nat.le_trans h1 (Nat.add_le_add_right (rx_le d y _) _), Nat.le_trans h2 (Nat.add_le_add_right (rx_le d y _) _)⟩
theorem rx_low {c : Nat → Nat → Nat} (hc : Lk c) (f : Int) {d : Nat → Nat} {x : Tri} (h1 : x.1 < 6) (h2 : x.2.1 < 6) (h3 : x.2.2 = c x.1 x.2.1) (h4 : 0 < c x.1 x.2.1) (h : ∀ n, n < 6 → dst c f n ≤ d n) : ∀ n, n < 6 → dst c f n ≤ rx d x n := by
  have e1 := dst_edge c f h1 h2 h4
  have e2 := dst_edge c f h2 h1 (by rw [hc.sym]; exact h4)
  rw [hc.sym x.2.1 x.1] at e2
  have a : ∀ n, n < 6 → dst c f n ≤ rxa d x n := by
    intro n hn
    unfold rxa upd
    split
    · next e => subst e; have := h _ h1; have := h _ h2; omega
    · exact h n hn
  intro n hn
  show dst c f n ≤ rxb (rxa d x) x n
  unfold rxb
  rw [upd]
  split
  · next e => subst e; have := a _ h1; have := a _ h2; omega
  · exact a n hn
theorem fold_low {c : Nat → Nat → Nat} (hc : Lk c) (f : Int) : ∀ (l : List Tri) (d : Nat → Nat), (∀ x ∈ l, x.1 < 6 ∧ x.2.1 < 6 ∧ x.2.2 = c x.1 x.2.1 ∧ 0 < c x.1 x.2.1) → (∀ n, n < 6 → dst c f n ≤ d n) → ∀ n, n < 6 → dst c f n ≤ l.foldl rx d n
  | [], _, _, h => h
  | x :: l, d, hl, h => by
    obtain ⟨h1, h2, h3, h4⟩ := hl x (by simp)
    exact fold_low hc f l (rx d x) (fun y hy => hl y (List.mem_cons_of_mem _ hy)) (rx_low hc f h1 h2 h3 h4 h)
/-- The program's reckoning. -/
theorem rds_is {c : Nat → Nat → Nat} (hc : Lk c) (f : Int) {d : Nat → Nat} (h0 : ∀ n, n < 6 → d n = wk c f 0 n) : ∀ n, n < 6 → rds (allTo c 6) d 5 n = dst c f n := by
  have hm : ∀ x ∈ allTo c 6, x.1 < 6 ∧ x.2.1 < 6 ∧ x.2.2 = c x.1 x.2.1 ∧ 0 < c x.1 x.2.1 := fun x hx => by
    obtain ⟨h1, h2, h3, h4, h5⟩ := (all_mem c 6 (by omega) x).1 hx
    exact ⟨h1, h3, h4, h5⟩
  have low : ∀ k, ∀ n, n < 6 → dst c f n ≤ rds (allTo c 6) d k n := by
    intro k
    induction k with
    | zero => intro n hn; rw [rds, h0 n hn]; exact (dst_lm c f).le 0 n hn
    | succ k ih => exact fold_low hc f _ _ hm ih
  have up : ∀ k, ∀ n, n < 6 → rds (allTo c 6) d k n ≤ wk c f k n := by
    intro k
    induction k with
    | zero => intro n hn; rw [rds, h0 n hn]; exact Nat.le_refl _
    | succ k ih =>
      intro n hn
      rw [rds, wk]
      rcases via_is c (wk c f k) n 6 with h | ⟨i, h1, h2, h3⟩
      · rw [h]; exact Nat.le_trans (fold_le _ _ _) (ih n hn)
      · rw [h3]
        have hi := ih i h1
        by_cases e : i < n
        · have := (fold_by (allTo c 6) (rds (allTo c 6) d k) (i, n, c i n) ((all_mem c 6 (by omega) _).2 ⟨h1, e, hn, rfl, h2⟩)).2
          simp only at this
          omega
        · have e2 : n < i := by
            rcases Nat.lt_or_eq_of_le (Nat.le_of_not_lt e) with h | h
            · exact h
            · subst h; rw [hc.self] at h2; omega
          have := (fold_by (allTo c 6) (rds (allTo c 6) d k) (n, i, c n i) ((all_mem c 6 (by omega) _).2 ⟨hn, e2, h1, rfl, by rw [hc.sym]; exact h2⟩)).1
          simp only at this
          rw [hc.sym n i] at this
          omega
  exact dst_is c f (Nat.le_refl 5) (low 5) (up 5)
theorem rds_le {l : List Tri} {d : Nat → Nat} : ∀ k n, rds l d k n ≤ d n
  | 0, _ => Nat.le_refl _
  | k + 1, n => Nat.le_trans (fold_le l _ n) (rds_le k n)

/-- The reference's. -/
def ry (c : Nat → Nat → Nat) (d : Nat → Nat) (a b : Nat) : Nat → Nat := if 0 < c a b ∧ d a < 200 ∧ d a + c a b < d b then upd d b (d a + c a b) else d
def ryr (c : Nat → Nat → Nat) (d : Nat → Nat) (a : Nat) : Nat → Nat → Nat
  | 0 => d
  | j + 1 => ry c (ryr c d a j) a j
def rys (c : Nat → Nat → Nat) (d : Nat → Nat) : Nat → Nat → Nat
  | 0 => d
  | i + 1 => ryr c (rys c d i) i 6
def rdy (c : Nat → Nat → Nat) (d : Nat → Nat) : Nat → Nat → Nat
  | 0 => d
  | k + 1 => rys c (rdy c d k) 6
theorem ry_le (c : Nat → Nat → Nat) (d : Nat → Nat) (a b n : Nat) : ry c d a b n ≤ d n := by
  unfold ry upd
  split
  · next h =>
    show (if n = b then _ else _) ≤ _
    split
    · next e => subst e; omega
    · exact Nat.le_refl _
  · exact Nat.le_refl _
theorem ry_by (c : Nat → Nat → Nat) (d : Nat → Nat) (a b : Nat) (hd : d b ≤ 200) (hc : 0 < c a b) : ry c d a b b ≤ d a + c a b := by
  unfold ry upd
  split
  · show (if b = b then _ else _) ≤ _
    rw [if_pos rfl]; exact Nat.le_refl _
  · next h => omega
theorem ry_low (c : Nat → Nat → Nat) (f : Int) {d : Nat → Nat} {a b : Nat} (ha : a < 6) (hb : b < 6) (h : ∀ n, n < 6 → dst c f n ≤ d n) : ∀ n, n < 6 → dst c f n ≤ ry c d a b n := by
  intro n hn
  unfold ry upd
  split
  · next e =>
    show _ ≤ (if n = b then _ else _)
    split
    · next q => subst q; have := dst_edge c f ha hb e.1; have := h a ha; omega
    · exact h n hn
  · exact h n hn
theorem ryr_le (c : Nat → Nat → Nat) (d : Nat → Nat) (a : Nat) : ∀ j n, ryr c d a j n ≤ d n
  | 0, _ => Nat.le_refl _
  | j + 1, n => Nat.le_trans (ry_le c _ a j n) (ryr_le c d a j n)
theorem ryr_low (c : Nat → Nat → Nat) (f : Int) {d : Nat → Nat} {a : Nat} (ha : a < 6) (h : ∀ n, n < 6 → dst c f n ≤ d n) : ∀ j, j ≤ 6 → ∀ n, n < 6 → dst c f n ≤ ryr c d a j n
  | 0, _ => h
  | j + 1, hj => ry_low c f ha (by omega) (ryr_low c f ha h j (by omega))
theorem ryr_by (c : Nat → Nat → Nat) (d : Nat → Nat) (a : Nat) : ∀ j b, b < j → d b ≤ 200 → 0 < c a b → ryr c d a j b ≤ d a + c a b
  | 0, b, h, _, _ => by omega
  | j + 1, b, h, hd, hc => by
    by_cases e : b = j
    · subst e
      have h1 := ryr_le c d a b b
      have h2 := ry_by c (ryr c d a b) a b (by omega) hc
      have h3 := ryr_le c d a b a
      rw [ryr]; omega
    · exact Nat.le_trans (ry_le c _ a j b) (ryr_by c d a j b (by omega) hd hc)
theorem rys_le (c : Nat → Nat → Nat) (d : Nat → Nat) : ∀ i n, rys c d i n ≤ d n
  | 0, _ => Nat.le_refl _
  | i + 1, n => Nat.le_trans (ryr_le c _ i 6 n) (rys_le c d i n)
theorem rys_low (c : Nat → Nat → Nat) (f : Int) {d : Nat → Nat} (h : ∀ n, n < 6 → dst c f n ≤ d n) : ∀ i, i ≤ 6 → ∀ n, n < 6 → dst c f n ≤ rys c d i n
  | 0, _ => h
  | i + 1, hi => ryr_low c f (by omega) (rys_low c f h i (by omega)) 6 (Nat.le_refl _)
theorem rys_by (c : Nat → Nat → Nat) (d : Nat → Nat) : ∀ i a b, a < i → b < 6 → d b ≤ 200 → 0 < c a b → rys c d i b ≤ d a + c a b
  | 0, a, b, h, _, _, _ => by omega
  | i + 1, a, b, h, hb, hd, hc => by
    by_cases e : a = i
    · subst e
      have h1 := rys_le c d a b
      have h2 := ryr_by c (rys c d a) a 6 b hb (by omega) hc
      have h3 := rys_le c d a a
      rw [rys]; omega
    · exact Nat.le_trans (ryr_le c _ i 6 b) (rys_by c d i a b (by omega) hb hd hc)
theorem rdy_le (c : Nat → Nat → Nat) (d : Nat → Nat) : ∀ k n, rdy c d k n ≤ d n
  | 0, _ => Nat.le_refl _
  | k + 1, n => Nat.le_trans (rys_le c _ 6 n) (rdy_le c d k n)
theorem rdy_is (c : Nat → Nat → Nat) (f : Int) {d : Nat → Nat} (h0 : ∀ n, n < 6 → d n = wk c f 0 n) : ∀ n, n < 6 → rdy c d 6 n = dst c f n := by
  have low : ∀ k, ∀ n, n < 6 → dst c f n ≤ rdy c d k n := by
    intro k
    induction k with
    | zero => intro n hn; rw [rdy, h0 n hn]; exact (dst_lm c f).le 0 n hn
    | succ k ih => exact rys_low c f ih 6 (Nat.le_refl _)
  have up : ∀ k, ∀ n, n < 6 → rdy c d k n ≤ wk c f k n := by
    intro k
    induction k with
    | zero => intro n hn; rw [rdy, h0 n hn]; exact Nat.le_refl _
    | succ k ih =>
      intro n hn
      rw [rdy, wk]
      rcases via_is c (wk c f k) n 6 with h | ⟨i, h1, h2, h3⟩
      · rw [h]; exact Nat.le_trans (rys_le c _ 6 n) (ih n hn)
      · rw [h3]
        have hi := ih i h1
        have hl := ih n hn
        have hw := wk_le c f k n
        have := rys_by c (rdy c d k) 6 i n h1 hn (by omega) h2
        omega
  exact dst_is c f (by omega) (low 6) (up 6)

end Go.Proofs.Ytimbgijpeomfcad
