/- THE PLAIN TEXTS: no Go here. -/
/- A NODE, AS NUMBERS: what it knows, which of what neighbours said may be gone, its ways and the best. No Go here. -/
namespace Go.Proofs.Ythiojjkgodffnae

/-- Is a way of an age and a length better than another one? -/
def bet (s d s2 d2 : Int) : Bool := if s = s2 then decide (d < d2) else decide (s2 < s)
theorem bet_iff {s d s2 d2 : Int} : bet s d s2 d2 = true ↔ s2 < s ∨ (s = s2 ∧ d < d2) := by
  unfold bet
  split
  · next h => simp [h]
  · next h => simp [h]
theorem bet_not {s d s2 d2 : Int} : bet s d s2 d2 = false ↔ s < s2 ∨ (s = s2 ∧ d2 ≤ d) := by
  have := bet_iff (s := s) (d := d) (s2 := s2) (d2 := d2)
  constructor
  · intro h
    have hn : ¬ (s2 < s ∨ (s = s2 ∧ d < d2)) := fun e => by rw [this.2 e] at h; cases h
    omega
  · intro h
    cases e : bet s d s2 d2
    · rfl
    · have := this.1 e; omega

/-- What a node knows: costs, what was said (age, length), ways (age, length, hop), the best. -/
structure Md where
  me : Nat
  cost : Nat → Int
  heard : Nat → Nat → Int × Int
  ways : Nat → Int × Int × Int
  bests : Nat → Int × Int

/-- May what k said of 'to' be gone? -/
def mayB (m : Md) (to k : Nat) : Bool := decide (m.cost k ≠ 0) && decide ((m.heard k to).2 + m.cost k < 200) && bet (m.heard k to).1 (m.heard k to).2 (m.bests to).1 (m.bests to).2
def wayBy (m : Md) (to k : Nat) : Int × Int × Int := ((m.heard k to).1, (m.heard k to).2 + m.cost k, (k : Int))
theorem may_iff {m : Md} {to k : Nat} : mayB m to k = true ↔ m.cost k ≠ 0 ∧ (m.heard k to).2 + m.cost k < 200 ∧ bet (m.heard k to).1 (m.heard k to).2 (m.bests to).1 (m.bests to).2 = true := by
  unfold mayB
  simp only [Bool.and_eq_true, decide_eq_true_eq]
  constructor
  · rintro ⟨⟨h1, h2⟩, h3⟩; exact ⟨h1, h2, h3⟩
  · rintro ⟨h1, h2, h3⟩; exact ⟨⟨h1, h2⟩, h3⟩

/-- Which one is gone, as the document says it: the youngest, then the shortest, then the lowest neighbour's. -/
def IsPick (m : Md) (to : Nat) (w : Int × Int × Int) : Prop :=
  (∃ k, k < 6 ∧ mayB m to k = true ∧ w = wayBy m to k ∧ ∀ j, j < 6 → mayB m to j = true → bet (wayBy m to j).1 (wayBy m to j).2.1 w.1 w.2.1 = false ∧ (bet w.1 w.2.1 (wayBy m to j).1 (wayBy m to j).2.1 = false → k ≤ j)) ∨
  ((∀ j, j < 6 → mayB m to j = false) ∧ w = ((m.bests to).1, 200, -1))
theorem IsPick.unique {m : Md} {to : Nat} {w v : Int × Int × Int} (h : IsPick m to w) (h' : IsPick m to v) : w = v := by
  rcases h with ⟨k, hk, mk, rfl, hw⟩ | ⟨hn, rfl⟩
  · rcases h' with ⟨j, hj, mj, rfl, hv⟩ | ⟨hn, _⟩
    · obtain ⟨a1, a2⟩ := hw j hj mj
      obtain ⟨b1, b2⟩ := hv k hk mk
      have c1 := a2 b1
      have c2 := b2 a1
      have : k = j := by omega
      rw [this]
    · rw [hn k hk] at mk; cases mk
  · rcases h' with ⟨j, hj, mj, rfl, hv⟩ | ⟨_, rfl⟩
    · rw [hn j hj] at mj; cases mj
    · rfl

/-- The reference's search, down from the greatest number: the first s of them. -/
def pkD (m : Md) (to : Nat) : Nat → Int × Int × Int
  | 0 => ((m.bests to).1, 200, -1)
  | s + 1 =>
    if mayB m to (5 - s) = true then
      (if (pkD m to s).2.2 = -1 ∨ bet (pkD m to s).1 (pkD m to s).2.1 (wayBy m to (5 - s)).1 (wayBy m to (5 - s)).2.1 = false then wayBy m to (5 - s) else pkD m to s)
    else pkD m to s
theorem pkD_part (m : Md) (to : Nat) : ∀ s, s ≤ 6 →
    (∃ k, 6 - s ≤ k ∧ k < 6 ∧ mayB m to k = true ∧ pkD m to s = wayBy m to k ∧ ∀ j, 6 - s ≤ j → j < 6 → mayB m to j = true → bet (wayBy m to j).1 (wayBy m to j).2.1 (wayBy m to k).1 (wayBy m to k).2.1 = false ∧ (bet (wayBy m to k).1 (wayBy m to k).2.1 (wayBy m to j).1 (wayBy m to j).2.1 = false → k ≤ j)) ∨
    ((∀ j, 6 - s ≤ j → j < 6 → mayB m to j = false) ∧ pkD m to s = ((m.bests to).1, 200, -1))
  | 0, _ => .inr ⟨fun j h1 h2 => by omega, rfl⟩
  | s + 1, hs => by
    have e : 6 - (s + 1) = 5 - s := by omega
    rcases pkD_part m to s (by omega) with ⟨k, k1, k2, mk, hp, hall⟩ | ⟨hn, hp⟩
    · rw [pkD, hp]
      by_cases hm : mayB m to (5 - s) = true
      · rw [if_pos hm]
        by_cases hb : (wayBy m to k).2.2 = -1 ∨ bet (wayBy m to k).1 (wayBy m to k).2.1 (wayBy m to (5 - s)).1 (wayBy m to (5 - s)).2.1 = false
        · rw [if_pos hb]
          have hb2 : bet (wayBy m to k).1 (wayBy m to k).2.1 (wayBy m to (5 - s)).1 (wayBy m to (5 - s)).2.1 = false := by
            rcases hb with h | h
            · exfalso
              have : (k : Int) = -1 := h
              omega
            · exact h
          refine .inl ⟨5 - s, by omega, by omega, hm, rfl, fun j j1 j2 mj => ?_⟩
          by_cases ej : j = 5 - s
          · subst ej
            refine ⟨?_, fun _ => Nat.le_refl _⟩
            rw [bet_not]; omega
          · obtain ⟨a1, a2⟩ := hall j (by omega) j2 mj
            refine ⟨?_, fun _ => by omega⟩
            rw [bet_not] at a1 hb2 ⊢
            omega
        · rw [if_neg hb]
          have hb2 : bet (wayBy m to k).1 (wayBy m to k).2.1 (wayBy m to (5 - s)).1 (wayBy m to (5 - s)).2.1 = true := by
            cases h : bet (wayBy m to k).1 (wayBy m to k).2.1 (wayBy m to (5 - s)).1 (wayBy m to (5 - s)).2.1
            · exact absurd (.inr h) hb
            · rfl
          refine .inl ⟨k, by omega, k2, mk, rfl, fun j j1 j2 mj => ?_⟩
          by_cases ej : j = 5 - s
          · subst ej
            rw [hb2]
            refine ⟨?_, fun h => by cases h⟩
            rw [bet_iff] at hb2
            rw [bet_not]
            omega
          · exact hall j (by omega) j2 mj
      · rw [if_neg hm]
        refine .inl ⟨k, by omega, k2, mk, rfl, fun j j1 j2 mj => ?_⟩
        by_cases ej : j = 5 - s
        · subst ej; exact absurd mj hm
        · exact hall j (by omega) j2 mj
    · rw [pkD, hp]
      by_cases hm : mayB m to (5 - s) = true
      · rw [if_pos hm, if_pos (.inl rfl)]
        refine .inl ⟨5 - s, by omega, by omega, hm, rfl, fun j j1 j2 mj => ?_⟩
        by_cases ej : j = 5 - s
        · subst ej
          refine ⟨?_, fun _ => Nat.le_refl _⟩
          rw [bet_not]; omega
        · rw [hn j (by omega) j2] at mj; cases mj
      · rw [if_neg hm]
        refine .inr ⟨fun j j1 j2 => ?_, rfl⟩
        by_cases ej : j = 5 - s
        · subst ej
          cases h : mayB m to (5 - s)
          · rfl
          · exact absurd h hm
        · exact hn j (by omega) j2
/-- The reference's search finds what the document says. -/
theorem pkD_is (m : Md) (to : Nat) : IsPick m to (pkD m to 6) := by
  rcases pkD_part m to 6 (Nat.le_refl _) with ⟨k, _, k2, mk, hp, hall⟩ | ⟨hn, hp⟩
  · rw [hp]
    exact .inl ⟨k, k2, mk, rfl, fun j hj mj => hall j (by omega) hj mj⟩
  · rw [hp]
    exact .inr ⟨fun j hj => hn j (by omega) hj, rfl⟩

def updW {α : Type} (f : Nat → α) (i : Nat) (v : α) : Nat → α := fun j => if j = i then v else f j
theorem updW_same {α : Type} (f : Nat → α) (i : Nat) (v : α) : updW f i v i = v := by unfold updW; rw [if_pos rfl]
theorem updW_ne {α : Type} (f : Nat → α) {i j : Nat} (v : α) (h : j ≠ i) : updW f i v j = f j := by unfold updW; rw [if_neg h]
/-- The way to another node anew. -/
def lookM (m : Md) (to : Nat) : Md :=
  if to = m.me then m else
    { m with
      ways := updW m.ways to (pkD m to 6)
      bests := if (pkD m to 6).2.2 ≠ -1 ∧ bet (pkD m to 6).1 (pkD m to 6).2.1 (m.bests to).1 (m.bests to).2 = true then updW m.bests to ((pkD m to 6).1, (pkD m to 6).2.1) else m.bests }
def lookTo (m : Md) : Nat → Md
  | 0 => m
  | k + 1 => lookM (lookTo m k) k
def newM (me : Nat) : Md := { me := me, cost := fun _ => 0, heard := fun _ _ => (0, 200), ways := updW (fun _ => (0, 200, -1)) me (0, 0, (me : Int)), bests := updW (fun _ => (0, 200)) me (0, 0) }
def linkM (m : Md) (who : Nat) (c : Int) : Md :=
  lookTo { m with cost := updW m.cost who c, heard := if c = 0 then updW m.heard who (fun _ => (0, 200)) else m.heard } 6
def hearM (m : Md) (f to : Nat) (s d : Int) : Md := lookM { m with heard := updW m.heard f (updW (m.heard f) to (s, d)) } to
def tickM (m : Md) : Md :=
  { m with ways := updW m.ways m.me ((m.ways m.me).1 + 1, (m.ways m.me).2.1, (m.ways m.me).2.2), bests := updW m.bests m.me ((m.ways m.me).1 + 1, 0) }

theorem look_me (m : Md) (to : Nat) : (lookM m to).me = m.me := by unfold lookM; split <;> rfl
theorem look_cost (m : Md) (to : Nat) : (lookM m to).cost = m.cost := by unfold lookM; split <;> rfl
theorem look_heard (m : Md) (to : Nat) : (lookM m to).heard = m.heard := by unfold lookM; split <;> rfl
theorem look_other (m : Md) {to k : Nat} (h : k ≠ to) : (lookM m to).ways k = m.ways k ∧ (lookM m to).bests k = m.bests k := by
  unfold lookM
  split
  · exact ⟨rfl, rfl⟩
  · refine ⟨updW_ne _ _ h, ?_⟩
    dsimp only
    split
    · exact updW_ne _ _ h
    · rfl
/-- What is known of a way. -/
structure WayOk (m : Md) (k : Nat) : Prop where
  drop : (m.ways k).2.2 = -1 → (m.ways k).2.1 = 200
  notBetter : (m.ways k).2.2 ≠ -1 → bet (m.ways k).1 (m.ways k).2.1 (m.bests k).1 (m.bests k).2 = false
  by_ : (m.ways k).2.2 ≠ -1 → k ≠ m.me → ∃ j, j < 6 ∧ m.ways k = wayBy m k j ∧ m.cost j ≠ 0 ∧ (m.heard j k).2 + m.cost j < 200 ∧ bet (m.heard j k).1 (m.heard j k).2 (m.bests k).1 (m.bests k).2 = true
theorem look_ok (m : Md) {to : Nat} (h : to ≠ m.me) (hc : ∀ j, j < 6 → 0 ≤ m.cost j) : WayOk (lookM m to) to ∧ bet (m.bests to).1 (m.bests to).2 ((lookM m to).bests to).1 ((lookM m to).bests to).2 = false := by
  have hp := pkD_is m to
  have ew : (lookM m to).ways to = pkD m to 6 := by unfold lookM; rw [if_neg h]; exact updW_same _ _ _
  have eb : (lookM m to).bests to = if (pkD m to 6).2.2 ≠ -1 ∧ bet (pkD m to 6).1 (pkD m to 6).2.1 (m.bests to).1 (m.bests to).2 = true then ((pkD m to 6).1, (pkD m to 6).2.1) else m.bests to := by
    unfold lookM
    rw [if_neg h]
    dsimp only
    split
    · exact updW_same _ _ _
    · rfl
  rcases hp with ⟨k, hk, mk, hw, _⟩ | ⟨_, hw⟩
  · obtain ⟨c0, c1, c2⟩ := may_iff.1 mk
    have hck := hc k hk
    have hne : (pkD m to 6).2.2 ≠ -1 := by rw [hw]; show (k : Int) ≠ -1; omega
    have e1 : (pkD m to 6).1 = (m.heard k to).1 := by rw [hw]; rfl
    have e2 : (pkD m to 6).2.1 = (m.heard k to).2 + m.cost k := by rw [hw]; rfl
    by_cases hb : bet (pkD m to 6).1 (pkD m to 6).2.1 (m.bests to).1 (m.bests to).2 = true
    · rw [if_pos ⟨hne, hb⟩] at eb
      refine ⟨⟨fun e => ?_, fun _ => ?_, fun _ _ => ⟨k, hk, ?_, ?_, ?_, ?_⟩⟩, ?_⟩
      · rw [ew] at e; exact absurd e hne
      · rw [ew, eb, bet_not]; simp
      · rw [ew, hw]; unfold wayBy; rw [look_heard, look_cost]
      · rw [look_cost]; exact c0
      · rw [look_heard, look_cost]; exact c1
      · rw [look_heard, eb, bet_iff]; simp only; omega
      · rw [eb, bet_not]
        rw [bet_iff] at hb
        simp only; omega
    · rw [if_neg (fun q => hb q.2)] at eb
      have hb' : bet (pkD m to 6).1 (pkD m to 6).2.1 (m.bests to).1 (m.bests to).2 = false := by
        cases q : bet (pkD m to 6).1 (pkD m to 6).2.1 (m.bests to).1 (m.bests to).2
        · rfl
        · exact absurd q hb
      refine ⟨⟨fun e => ?_, fun _ => ?_, fun _ _ => ⟨k, hk, ?_, ?_, ?_, ?_⟩⟩, ?_⟩
      · rw [ew] at e; exact absurd e hne
      · rw [ew, eb]; exact hb'
      · rw [ew, hw]; unfold wayBy; rw [look_heard, look_cost]
      · rw [look_cost]; exact c0
      · rw [look_heard, look_cost]; exact c1
      · rw [look_heard, eb]; exact c2
      · rw [eb, bet_not]; omega
  · have hd : (pkD m to 6).2.2 = -1 := by rw [hw]
    rw [if_neg (fun q => q.1 hd)] at eb
    refine ⟨⟨fun _ => by rw [ew, hw], fun e => ?_, fun e => ?_⟩, ?_⟩
    · rw [ew] at e; exact absurd hd e
    · rw [ew] at e; exact absurd hd e
    · rw [eb, bet_not]; omega

end Go.Proofs.Ythiojjkgodffnae

/- A NODE, AS NUMBERS: whatever it hears, the best is never worse, and each way is as its neighbour said. No Go here. -/
namespace Go.Proofs.Ythiojjkgodffnae

structure MdOk (m : Md) : Prop where
  me : m.me < 6
  cost : ∀ j, 0 ≤ m.cost j ∧ m.cost j ≤ 15
  said : ∀ j k, 0 ≤ (m.heard j k).1 ∧ 0 ≤ (m.heard j k).2 ∧ (m.heard j k).2 ≤ 200
  best : ∀ k, 0 ≤ (m.bests k).1
  self : ∃ s, 0 ≤ s ∧ m.ways m.me = (s, 0, (m.me : Int)) ∧ m.bests m.me = (s, 0)
  way : ∀ k, k < 6 → k ≠ m.me → WayOk m k
theorem WayOk.keep {m m' : Md} {k : Nat} (h : WayOk m k) (e1 : m'.ways k = m.ways k) (e2 : m'.bests k = m.bests k) (e3 : m'.cost = m.cost) (e4 : ∀ j, m'.heard j k = m.heard j k) (e5 : m'.me = m.me) : WayOk m' k := by
  refine ⟨fun e => ?_, fun e => ?_, fun e hk => ?_⟩
  · rw [e1] at e ⊢; exact h.drop e
  · rw [e1] at e; rw [e1, e2]; exact h.notBetter e
  · rw [e1] at e
    rw [e5] at hk
    obtain ⟨j, hj, hw, hc, hd, hb⟩ := h.by_ e hk
    refine ⟨j, hj, ?_, ?_, ?_, ?_⟩
    · rw [e1, hw]; unfold wayBy; rw [e3, e4]
    · rw [e3]; exact hc
    · rw [e3, e4]; exact hd
    · rw [e4, e2]; exact hb
theorem look_best0 (m : Md) (to : Nat) (hb : ∀ k, 0 ≤ (m.bests k).1) (hs : ∀ j k, 0 ≤ (m.heard j k).1) : ∀ k, 0 ≤ ((lookM m to).bests k).1 := by
  intro k
  by_cases e : k = to
  · subst e
    unfold lookM
    split
    · exact hb k
    · dsimp only
      split
      · rw [updW_same]
        rcases pkD_is m k with ⟨j, _, _, hw, _⟩ | ⟨_, hw⟩
        · rw [hw]; exact hs j k
        · rw [hw]; exact hb k
      · exact hb k
  · rw [(look_other m e).2]; exact hb k
theorem look_self (m : Md) (to : Nat) : (lookM m to).ways m.me = m.ways m.me ∧ (lookM m to).bests m.me = m.bests m.me := by
  by_cases e : m.me = to
  · unfold lookM; rw [if_pos e.symm]; exact ⟨rfl, rfl⟩
  · exact look_other m e
theorem lookTo_all (m : Md) : ∀ n, (lookTo m n).me = m.me ∧ (lookTo m n).cost = m.cost ∧ (lookTo m n).heard = m.heard ∧ (lookTo m n).ways m.me = m.ways m.me ∧ (lookTo m n).bests m.me = m.bests m.me
  | 0 => ⟨rfl, rfl, rfl, rfl, rfl⟩
  | n + 1 => by
    obtain ⟨h1, h2, h3, h4, h5⟩ := lookTo_all m n
    have hs := look_self (lookTo m n) n
    rw [h1] at hs
    refine ⟨?_, ?_, ?_, ?_, ?_⟩
    · rw [lookTo, look_me, h1]
    · rw [lookTo, look_cost, h2]
    · rw [lookTo, look_heard, h3]
    · rw [lookTo, hs.1, h4]
    · rw [lookTo, hs.2, h5]
theorem bet_refl (s d : Int) : bet s d s d = false := by rw [bet_not]; omega
theorem bet_trans {a b c d e f : Int} (h : bet a b c d = false) (k : bet c d e f = false) : bet a b e f = false := by
  rw [bet_not] at *; omega
theorem lookTo_ok (m : Md) (hc : ∀ j, 0 ≤ m.cost j) : ∀ n k, (k < n → k ≠ m.me → WayOk (lookTo m n) k) ∧ bet (m.bests k).1 (m.bests k).2 ((lookTo m n).bests k).1 ((lookTo m n).bests k).2 = false
  | 0, k => ⟨fun h => by omega, bet_refl _ _⟩
  | n + 1, k => by
    obtain ⟨h1, h2⟩ := lookTo_ok m hc n k
    obtain ⟨e1, e2, e3, e4, e5⟩ := lookTo_all m n
    by_cases e : k = n
    · subst e
      by_cases hk : k = m.me
      · refine ⟨fun _ hne => absurd hk hne, ?_⟩
        have hs := (look_self (lookTo m k) k).2
        rw [e1, ← hk] at hs
        rw [lookTo, hs]; exact h2
      · have := look_ok (lookTo m k) (to := k) (by rw [e1]; exact hk) (fun j _ => by rw [e2]; exact hc j)
        exact ⟨fun _ _ => this.1, bet_trans h2 this.2⟩
    · obtain ⟨o1, o2⟩ := look_other (lookTo m n) e
      refine ⟨fun hlt hne => ?_, ?_⟩
      · exact (h1 (by omega) hne).keep o1 o2 (look_cost _ _) (fun j => by rw [lookTo, look_heard]) (look_me _ _)
      · rw [lookTo, o2]; exact h2
theorem lookTo_best0 (m : Md) (hb : ∀ k, 0 ≤ (m.bests k).1) (hs : ∀ j k, 0 ≤ (m.heard j k).1) : ∀ n k, 0 ≤ ((lookTo m n).bests k).1
  | 0, k => hb k
  | n + 1, k => look_best0 (lookTo m n) n (lookTo_best0 m hb hs n) (fun j k => by rw [(lookTo_all m n).2.2.1]; exact hs j k) k

theorem new_ok {me : Nat} (h : me < 6) : MdOk (newM me) := by
  have ew : (newM me).ways me = (0, 0, (me : Int)) := by unfold newM; dsimp only; exact updW_same _ _ _
  have eb : (newM me).bests me = (0, 0) := by unfold newM; dsimp only; exact updW_same _ _ _
  refine ⟨h, fun j => ⟨by simp [newM], by simp [newM]⟩, fun j k => by simp [newM], fun k => ?_, ⟨0, by omega, ew, eb⟩, fun k _ hk => ?_⟩
  · unfold newM updW; dsimp only; split <;> simp
  · have e : (newM me).ways k = (0, 200, -1) := by
      unfold newM
      dsimp only
      exact updW_ne _ _ hk
    exact ⟨fun _ => by rw [e], fun q => absurd (by rw [e]) q, fun q => absurd (by rw [e]) q⟩
theorem link_ok {m : Md} (h : MdOk m) {who : Nat} {c : Int} (hc0 : 0 ≤ c) (hc : c ≤ 15) : MdOk (linkM m who c) ∧ ∀ k, bet (m.bests k).1 (m.bests k).2 ((linkM m who c).bests k).1 ((linkM m who c).bests k).2 = false := by
  obtain ⟨m1, hm1⟩ : ∃ m1 : Md, m1 = { m with cost := updW m.cost who c, heard := if c = 0 then updW m.heard who (fun _ => (0, 200)) else m.heard } := ⟨_, rfl⟩
  have el : linkM m who c = lookTo m1 6 := by rw [hm1]; rfl
  have b1 : m1.bests = m.bests := by rw [hm1]
  have w1 : m1.ways = m.ways := by rw [hm1]
  have me1 : m1.me = m.me := by rw [hm1]
  have cs : ∀ j, 0 ≤ m1.cost j ∧ m1.cost j ≤ 15 := fun j => by
    rw [hm1]
    show 0 ≤ updW m.cost who c j ∧ updW m.cost who c j ≤ 15
    unfold updW
    split
    · exact ⟨hc0, hc⟩
    · exact h.cost j
  have hs : ∀ j k, 0 ≤ (m1.heard j k).1 ∧ 0 ≤ (m1.heard j k).2 ∧ (m1.heard j k).2 ≤ 200 := fun j k => by
    rw [hm1]
    dsimp only
    split
    · unfold updW
      split
      · simp
      · exact h.said j k
    · exact h.said j k
  obtain ⟨e1, e2, e3, e4, e5⟩ := lookTo_all m1 6
  rw [el]
  refine ⟨⟨by rw [e1, me1]; exact h.me, fun j => by rw [e2]; exact cs j, fun j k => by rw [e3]; exact hs j k, lookTo_best0 m1 (fun k => by rw [b1]; exact h.best k) (fun j k => (hs j k).1) 6, ?_, fun k hk hne => ?_⟩, fun k => ?_⟩
  · obtain ⟨s, h0, hw, hb⟩ := h.self
    refine ⟨s, h0, ?_, ?_⟩
    · rw [e1, e4, w1, me1]; exact hw
    · rw [e1, e5, b1, me1]; exact hb
  · exact (lookTo_ok m1 (fun j => (cs j).1) 6 k).1 hk (by rw [e1] at hne; exact hne)
  · have := (lookTo_ok m1 (fun j => (cs j).1) 6 k).2
    rw [b1] at this; exact this
theorem hear_ok {m : Md} (h : MdOk m) {f to : Nat} {s d : Int} (hs : 0 ≤ s) (hd0 : 0 ≤ d) (hd : d ≤ 200) : MdOk (hearM m f to s d) ∧ ∀ k, bet (m.bests k).1 (m.bests k).2 ((hearM m f to s d).bests k).1 ((hearM m f to s d).bests k).2 = false := by
  obtain ⟨m1, hm1⟩ : ∃ m1 : Md, m1 = { m with heard := updW m.heard f (updW (m.heard f) to (s, d)) } := ⟨_, rfl⟩
  have el : hearM m f to s d = lookM m1 to := by rw [hm1]; rfl
  have b1 : m1.bests = m.bests := by rw [hm1]
  have w1 : m1.ways = m.ways := by rw [hm1]
  have me1 : m1.me = m.me := by rw [hm1]
  have c1 : m1.cost = m.cost := by rw [hm1]
  have hh : ∀ j k, m1.heard j k = if j = f ∧ k = to then (s, d) else m.heard j k := fun j k => by
    rw [hm1]
    show updW m.heard f (updW (m.heard f) to (s, d)) j k = _
    unfold updW
    by_cases e : j = f
    · rw [if_pos e]
      by_cases e2 : k = to
      · rw [if_pos e2, if_pos ⟨e, e2⟩]
      · rw [if_neg e2, if_neg (fun q => e2 q.2), e]
    · rw [if_neg e, if_neg (fun q => e q.1)]
  have hsd : ∀ j k, 0 ≤ (m1.heard j k).1 ∧ 0 ≤ (m1.heard j k).2 ∧ (m1.heard j k).2 ≤ 200 := fun j k => by
    rw [hh]
    split
    · exact ⟨hs, hd0, hd⟩
    · exact h.said j k
  rw [el]
  have hsf := look_self m1 to
  refine ⟨⟨by rw [look_me, me1]; exact h.me, fun j => by rw [look_cost, c1]; exact h.cost j, fun j k => by rw [look_heard]; exact hsd j k, look_best0 m1 to (fun k => by rw [b1]; exact h.best k) (fun j k => (hsd j k).1), ?_, fun k hk hne => ?_⟩, fun k => ?_⟩
  · obtain ⟨s', h0, hw, hb⟩ := h.self
    rw [look_me]
    refine ⟨s', h0, ?_, ?_⟩
    · rw [hsf.1, w1, me1]; exact hw
    · rw [hsf.2, b1, me1]; exact hb
  · rw [look_me, me1] at hne
    by_cases e : k = to
    · subst e
      exact (look_ok m1 (by rw [me1]; exact hne) (fun j _ => by rw [c1]; exact (h.cost j).1)).1
    · obtain ⟨o1, o2⟩ := look_other m1 e
      exact (h.way k hk hne).keep (by rw [o1, w1]) (by rw [o2, b1]) (by rw [look_cost, c1]) (fun j => by rw [look_heard, hh, if_neg (fun q => e q.2)]) (by rw [look_me, me1])
  · by_cases e : k = to
    · subst e
      by_cases hk : k = m1.me
      · have := hsf.2
        rw [← hk] at this
        rw [this, b1]; exact bet_refl _ _
      · have := (look_ok m1 hk (fun j _ => by rw [c1]; exact (h.cost j).1)).2
        rw [b1] at this; exact this
    · rw [(look_other m1 e).2, b1]; exact bet_refl _ _
theorem tick_ok {m : Md} (h : MdOk m) : MdOk (tickM m) ∧ ∀ k, bet (m.bests k).1 (m.bests k).2 ((tickM m).bests k).1 ((tickM m).bests k).2 = false := by
  obtain ⟨s, h0, hw, hb⟩ := h.self
  have ew : (tickM m).ways m.me = (s + 1, 0, (m.me : Int)) := by
    show updW m.ways m.me _ m.me = _
    rw [updW_same, hw]
  have eb : (tickM m).bests m.me = (s + 1, 0) := by
    show updW m.bests m.me _ m.me = _
    rw [updW_same, hw]
  refine ⟨⟨h.me, h.cost, h.said, fun k => ?_, ⟨s + 1, by omega, ew, eb⟩, fun k hk hne => ?_⟩, fun k => ?_⟩
  · by_cases e : k = m.me
    · rw [e, eb]; simp only; omega
    · show 0 ≤ (updW m.bests m.me _ k).1
      rw [updW_ne _ _ e]; exact h.best k
  · exact (h.way k hk hne).keep (updW_ne _ _ hne) (updW_ne _ _ hne) rfl (fun _ => rfl) rfl
  · by_cases e : k = m.me
    · rw [e, eb, hb, bet_not]; simp only; omega
    · show bet (m.bests k).1 (m.bests k).2 (updW m.bests m.me _ k).1 (updW m.bests m.me _ k).2 = false
      rw [updW_ne _ _ e]; exact bet_refl _ _

/-- What is heard changes no way but the one that it is of; and where that is gone, what was heard is better than the best. -/
theorem hear_ways (m : Md) {f to : Nat} {s d : Int} {k : Nat} (h : k ≠ to) : (hearM m f to s d).ways k = m.ways k ∧ (hearM m f to s d).bests k = m.bests k := look_other _ h
theorem hear_gone {m : Md} (h : MdOk m) {f to : Nat} {s d : Int} (hs : 0 ≤ s) (hd0 : 0 ≤ d) (hd : d ≤ 200) (ht : to < 6) (hne : to ≠ m.me) (hg : ((hearM m f to s d).ways to).2.2 = (f : Int)) :
    bet s d ((hearM m f to s d).bests to).1 ((hearM m f to s d).bests to).2 = true := by
  have hk := (hear_ok h (f := f) (to := to) hs hd0 hd).1
  have eme : (hearM m f to s d).me = m.me := look_me _ _
  obtain ⟨j, _, hw, _, _, hb⟩ := (hk.way to ht (by rw [eme]; exact hne)).by_ (by rw [hg]; omega) (by rw [eme]; exact hne)
  have ej : j = f := by
    have : ((hearM m f to s d).ways to).2.2 = (j : Int) := by rw [hw]; rfl
    omega
  subst ej
  have eh : (hearM m j to s d).heard j to = (s, d) := by
    unfold hearM
    rw [look_heard]
    show updW m.heard j (updW (m.heard j) to (s, d)) j to = _
    rw [updW_same, updW_same]
  rw [eh] at hb
  exact hb

end Go.Proofs.Ythiojjkgodffnae

/- A NODE, AS NUMBERS: a new one that is told all learns all. No Go here. -/
namespace Go.Proofs.Ythiojjkgodffnae

/-- What a new one, linked for c with 'me', has of the way w that is told it. -/
def tgt (me : Nat) (c : Int) (w : Int × Int × Int) : Int × Int × Int := if w.2.1 + c < 200 then (w.1, w.2.1 + c, (me : Int)) else (0, 200, -1)
/-- Behind the first j news. -/
structure Lrn (x : Md) (who me : Nat) (c : Int) (w : Nat → Int × Int × Int) (j : Nat) : Prop where
  mine : x.me = who
  cost : ∀ f, x.cost f = if f = me then c else 0
  heard : ∀ f k, x.heard f k = if f = me ∧ k < j then ((w k).1, (w k).2.1) else (0, 200)
  old : ∀ k, k ≠ who → k < j → x.ways k = tgt me c (w k)
  new : ∀ k, k ≠ who → j ≤ k → x.ways k = (0, 200, -1) ∧ x.bests k = (0, 200)
  self : x.ways who = (0, 0, (who : Int))
theorem pick_none {m : Md} {to : Nat} (h : ∀ j, j < 6 → mayB m to j = false) : pkD m to 6 = ((m.bests to).1, 200, -1) := (pkD_is m to).unique (.inr ⟨h, rfl⟩)
theorem look_none {m : Md} {to : Nat} (h : ∀ j, j < 6 → mayB m to j = false) (hne : to ≠ m.me) : (lookM m to).ways to = ((m.bests to).1, 200, -1) ∧ (lookM m to).bests to = m.bests to := by
  have hp := pick_none h
  unfold lookM
  rw [if_neg hne]
  dsimp only
  rw [updW_same, hp]
  refine ⟨rfl, ?_⟩
  rw [if_neg (by simp)]
theorem look_one {m : Md} {to f : Nat} (hf : f < 6) (hm : mayB m to f = true) (h : ∀ j, j < 6 → j ≠ f → mayB m to j = false) (hne : to ≠ m.me) : (lookM m to).ways to = wayBy m to f := by
  have hp : pkD m to 6 = wayBy m to f := (pkD_is m to).unique (.inl ⟨f, hf, hm, rfl, fun j hj mj => by
    have e : j = f := Classical.byContradiction fun e => by rw [h j hj e] at mj; cases mj
    subst e
    exact ⟨bet_refl _ _, fun _ => Nat.le_refl _⟩⟩)
  unfold lookM
  rw [if_neg hne]
  dsimp only
  rw [updW_same, hp]
theorem learn_start {who me : Nat} {c : Int} (_ : me ≠ who) (hc0 : 1 ≤ c) (w : Nat → Int × Int × Int) : Lrn (linkM (newM who) me c) who me c w 0 := by
  obtain ⟨m1, hm1⟩ : ∃ m1 : Md, m1 = { newM who with cost := updW (newM who).cost me c, heard := if c = 0 then updW (newM who).heard me (fun _ => (0, 200)) else (newM who).heard } := ⟨_, rfl⟩
  have el : linkM (newM who) me c = lookTo m1 6 := by rw [hm1]; rfl
  have me1 : m1.me = who := by rw [hm1]; rfl
  have c1 : ∀ f, m1.cost f = if f = me then c else 0 := fun f => by rw [hm1]; rfl
  have h1 : ∀ f k, m1.heard f k = (0, 200) := fun f k => by rw [hm1]; dsimp only; rw [if_neg (by omega)]; rfl
  have w1 : ∀ k, k ≠ who → m1.ways k = (0, 200, -1) ∧ m1.bests k = (0, 200) := fun k hk => by
    rw [hm1]
    unfold newM
    dsimp only
    exact ⟨updW_ne _ _ hk, updW_ne _ _ hk⟩
  have s1 : m1.ways who = (0, 0, (who : Int)) := by rw [hm1]; unfold newM; dsimp only; exact updW_same _ _ _
  have key : ∀ n k, k ≠ who → (lookTo m1 n).ways k = (0, 200, -1) ∧ (lookTo m1 n).bests k = (0, 200) := by
    intro n
    induction n with
    | zero => exact w1
    | succ n ih =>
      intro k hk
      obtain ⟨e1, e2, e3, _, _⟩ := lookTo_all m1 n
      by_cases e : k = n
      · subst e
        have hn : ∀ j, j < 6 → mayB (lookTo m1 k) k j = false := fun j _ => by
          cases q : mayB (lookTo m1 k) k j
          · rfl
          · obtain ⟨_, q2, _⟩ := may_iff.1 q
            rw [e3, e2, h1, c1] at q2
            simp only at q2
            split at q2 <;> omega
        obtain ⟨a, b⟩ := look_none hn (by rw [e1, me1]; exact hk)
        rw [lookTo, a, b, (ih k hk).2]
        exact ⟨rfl, rfl⟩
      · obtain ⟨o1, o2⟩ := look_other (lookTo m1 n) e
        rw [lookTo, o1, o2]
        exact ih k hk
  obtain ⟨e1, e2, e3, e4, _⟩ := lookTo_all m1 6
  rw [el]
  refine ⟨by rw [e1, me1], fun f => by rw [e2]; exact c1 f, fun f k => by rw [e3, h1, if_neg (by omega)], fun k _ h => by omega, fun k hk _ => key 6 k hk, ?_⟩
  rw [me1] at e4
  rw [e4]; exact s1
theorem learn_step {x : Md} {who me : Nat} {c : Int} {w : Nat → Int × Int × Int} {j : Nat} (h : Lrn x who me c w j) (hm : me < 6) (hc0 : 1 ≤ c) (hs : 0 ≤ (w j).1) (hd : (w j).2.1 + c < 200 → (w j).2.1 < 200) :
    Lrn (hearM x me j (w j).1 (w j).2.1) who me c w (j + 1) := by
  obtain ⟨m1, hm1⟩ : ∃ m1 : Md, m1 = { x with heard := updW x.heard me (updW (x.heard me) j ((w j).1, (w j).2.1)) } := ⟨_, rfl⟩
  have el : hearM x me j (w j).1 (w j).2.1 = lookM m1 j := by rw [hm1]; rfl
  have me1 : m1.me = who := by rw [hm1]; exact h.mine
  have c1 : ∀ f, m1.cost f = if f = me then c else 0 := fun f => by rw [hm1]; exact h.cost f
  have w1 : m1.ways = x.ways := by rw [hm1]
  have b1 : m1.bests = x.bests := by rw [hm1]
  have h1 : ∀ f k, m1.heard f k = if f = me ∧ k < j + 1 then ((w k).1, (w k).2.1) else (0, 200) := fun f k => by
    rw [hm1]
    show updW x.heard me (updW (x.heard me) j ((w j).1, (w j).2.1)) f k = _
    unfold updW
    by_cases e : f = me
    · rw [if_pos e]
      by_cases e2 : k = j
      · rw [if_pos e2, if_pos ⟨e, by omega⟩, e2]
      · rw [if_neg e2, h.heard]
        by_cases e3 : k < j
        · rw [if_pos ⟨rfl, e3⟩, if_pos ⟨e, by omega⟩]
        · rw [if_neg (fun q => e3 q.2), if_neg (fun q => by omega)]
    · rw [if_neg e, h.heard, if_neg (fun q => e q.1), if_neg (fun q => e q.1)]
  rw [el]
  refine ⟨by rw [look_me, me1], fun f => by rw [look_cost]; exact c1 f, fun f k => by rw [look_heard]; exact h1 f k, fun k hk hlt => ?_, fun k hk hle => ?_, ?_⟩
  · by_cases e : k = j
    · subst e
      have hb := (h.new k hk (Nat.le_refl _)).2
      have hno : ∀ f, f ≠ me → mayB m1 k f = false := fun f hf => by
        cases q : mayB m1 k f
        · rfl
        · obtain ⟨q1, _, _⟩ := may_iff.1 q
          rw [c1, if_neg hf] at q1
          exact absurd rfl q1
      have hh : m1.heard me k = ((w k).1, (w k).2.1) := by rw [h1, if_pos ⟨rfl, by omega⟩]
      have hcm : m1.cost me = c := by rw [c1, if_pos rfl]
      unfold tgt
      by_cases hlt2 : (w k).2.1 + c < 200
      · rw [if_pos hlt2]
        have hmay : mayB m1 k me = true := may_iff.2 ⟨by rw [hcm]; omega, by rw [hh, hcm]; exact hlt2, by
          rw [hh, b1, hb, bet_iff]
          have := hd hlt2
          simp only
          omega⟩
        rw [look_one hm hmay (fun f _ hf => hno f hf) (by rw [me1]; exact hk)]
        unfold wayBy
        rw [hh, hcm]
      · rw [if_neg hlt2]
        have hall : ∀ f, f < 6 → mayB m1 k f = false := fun f _ => by
          by_cases e : f = me
          · subst e
            cases q : mayB m1 k f
            · rfl
            · obtain ⟨_, q2, _⟩ := may_iff.1 q
              rw [hh, hcm] at q2
              exact absurd q2 hlt2
          · exact hno f e
        rw [(look_none hall (by rw [me1]; exact hk)).1, b1, hb]
    · rw [(look_other m1 e).1, w1]
      exact h.old k hk (by omega)
  · obtain ⟨o1, o2⟩ := look_other m1 (to := j) (k := k) (by omega)
    rw [o1, o2, w1, b1]
    exact h.new k hk (by omega)
  · have := (look_self m1 j).1
    rw [me1] at this
    rw [this, w1]; exact h.self
/-- All that a node tells, one behind the other. -/
def tellAll (x : Md) (me : Nat) (w : Nat → Int × Int × Int) : Nat → Md
  | 0 => x
  | j + 1 => hearM (tellAll x me w j) me j (w j).1 (w j).2.1
theorem way_seq {m : Md} (h : MdOk m) {k : Nat} (hk : k < 6) (hd : (m.ways k).2.2 ≠ -1) : 0 ≤ (m.ways k).1 ∧ 0 ≤ (m.ways k).2.1 ∧ (m.ways k).2.1 < 200 := by
  by_cases e : k = m.me
  · obtain ⟨s, h0, hw, _⟩ := h.self
    rw [e, hw]; simp only; omega
  · obtain ⟨j, hj, hw, hc, hlt, _⟩ := (h.way k hk e).by_ hd e
    have h1 := h.said j k
    have h2 := h.cost j
    rw [hw]
    unfold wayBy
    simp only
    omega
theorem learns {m : Md} (h : MdOk m) {who : Nat} {c : Int} (hw : ∀ k, k < 6 → 0 ≤ (m.ways k).1) (hne : m.me ≠ who) (hc0 : 1 ≤ c) : ∀ j, j ≤ 6 → Lrn (tellAll (linkM (newM who) m.me c) m.me m.ways j) who m.me c m.ways j
  | 0, _ => learn_start hne hc0 _
  | j + 1, hj => learn_step (learns h hw hne hc0 j (by omega)) h.me hc0 (hw j (by omega)) (fun q => by omega)

end Go.Proofs.Ythiojjkgodffnae

/- NODES THAT TELL EACH OTHER, AS NUMBERS: along each way the best becomes better, whatever is lost, late or doubled. No Go here. -/
namespace Go.Proofs.Ythiojjkgodffnae

/-- Besides: what a way that is none says, and how long the best is. -/
structure MdX (m : Md) : Prop where
  ok : MdOk m
  none_ : ∀ k, (m.ways k).2.2 = -1 → m.ways k = ((m.bests k).1, 200, -1)
  b200 : ∀ k, 0 ≤ (m.bests k).2 ∧ (m.bests k).2 ≤ 200
/-- What a look leaves of one node, told together. -/
theorem look_x (m : Md) {to : Nat} (hne : to ≠ m.me) (hc : ∀ j, 0 ≤ m.cost j) (hs : ∀ j k, 0 ≤ (m.heard j k).2) (hb : 0 ≤ (m.bests to).2 ∧ (m.bests to).2 ≤ 200) :
    (((lookM m to).ways to).2.2 = -1 → (lookM m to).ways to = (((lookM m to).bests to).1, 200, -1)) ∧ 0 ≤ ((lookM m to).bests to).2 ∧ ((lookM m to).bests to).2 ≤ 200 := by
  have ew : (lookM m to).ways to = pkD m to 6 := by unfold lookM; rw [if_neg hne]; exact updW_same _ _ _
  have eb : (lookM m to).bests to = if (pkD m to 6).2.2 ≠ -1 ∧ bet (pkD m to 6).1 (pkD m to 6).2.1 (m.bests to).1 (m.bests to).2 = true then ((pkD m to 6).1, (pkD m to 6).2.1) else m.bests to := by
    unfold lookM
    rw [if_neg hne]
    dsimp only
    split
    · exact updW_same _ _ _
    · rfl
  rcases pkD_is m to with ⟨k, hk, mk, hw, _⟩ | ⟨_, hw⟩
  · obtain ⟨_, c1, _⟩ := may_iff.1 mk
    have hne' : (pkD m to 6).2.2 ≠ -1 := by rw [hw]; show (k : Int) ≠ -1; omega
    have e2 : (pkD m to 6).2.1 = (m.heard k to).2 + m.cost k := by rw [hw]; rfl
    have h1 := hc k
    have h2 := hs k to
    refine ⟨fun e => absurd (by rw [← ew]; exact e) hne', ?_⟩
    rw [eb]
    split
    · simp only; omega
    · exact hb
  · have hd : (pkD m to 6).2.2 = -1 := by rw [hw]
    rw [if_neg (fun q => q.1 hd)] at eb
    rw [ew, eb, hw]
    exact ⟨fun _ => rfl, hb⟩
theorem lookTo_x (m : Md) (hc : ∀ j, 0 ≤ m.cost j) (hs : ∀ j k, 0 ≤ (m.heard j k).2) (hb : ∀ k, 0 ≤ (m.bests k).2 ∧ (m.bests k).2 ≤ 200) (hself : (m.ways m.me).2.2 ≠ -1) (hn : ∀ k, 6 ≤ k → (m.ways k).2.2 = -1 → m.ways k = ((m.bests k).1, 200, -1)) : ∀ n, n ≤ 6 → ∀ k,
    (k < n ∨ 6 ≤ k → ((lookTo m n).ways k).2.2 = -1 → (lookTo m n).ways k = (((lookTo m n).bests k).1, 200, -1)) ∧ 0 ≤ ((lookTo m n).bests k).2 ∧ ((lookTo m n).bests k).2 ≤ 200
  | 0, _, k => ⟨fun h => hn k (by omega), hb k⟩
  | n + 1, hn6, k => by
    obtain ⟨i1, i2⟩ := lookTo_x m hc hs hb hself hn n (by omega) k
    obtain ⟨e1, e2, e3, e4, e5⟩ := lookTo_all m n
    by_cases e : k = n
    · subst e
      by_cases hk : k = m.me
      · have hs' := look_self (lookTo m k) k
        rw [e1, ← hk] at hs'
        rw [lookTo, hs'.1, hs'.2]
        rw [← hk] at e4
        exact ⟨fun _ q => absurd q (by rw [e4, hk]; exact hself), i2⟩
      · have := look_x (lookTo m k) (to := k) (by rw [e1]; exact hk) (fun j => by rw [e2]; exact hc j) (fun j k => by rw [e3]; exact hs j k) i2
        exact ⟨fun _ => this.1, this.2⟩
    · obtain ⟨o1, o2⟩ := look_other (lookTo m n) e
      rw [lookTo, o1, o2]
      exact ⟨fun h => i1 (by omega), i2⟩
theorem new_x {me : Nat} (h : me < 6) : MdX (newM me) := by
  refine ⟨new_ok h, fun k hk => ?_, fun k => ?_⟩
  · by_cases e : k = me
    · subst e
      have ew : (newM k).ways k = (0, 0, (k : Int)) := by unfold newM; dsimp only; exact updW_same _ _ _
      rw [ew] at hk
      have : (k : Int) = -1 := hk
      omega
    · have ew : (newM me).ways k = (0, 200, -1) := by unfold newM; dsimp only; exact updW_ne _ _ e
      have eb : (newM me).bests k = (0, 200) := by unfold newM; dsimp only; exact updW_ne _ _ e
      rw [ew, eb]
  · unfold newM updW; dsimp only; split <;> simp
theorem MdX.selfNe {m : Md} (h : MdX m) : (m.ways m.me).2.2 ≠ -1 := by
  obtain ⟨s, _, hw, _⟩ := h.ok.self
  rw [hw]; show ((m.me : Nat) : Int) ≠ -1; omega
theorem link_x {m : Md} (h : MdX m) {who : Nat} {c : Int} (hc0 : 0 ≤ c) (hc : c ≤ 15) : MdX (linkM m who c) := by
  obtain ⟨m1, hm1⟩ : ∃ m1 : Md, m1 = { m with cost := updW m.cost who c, heard := if c = 0 then updW m.heard who (fun _ => (0, 200)) else m.heard } := ⟨_, rfl⟩
  have el : linkM m who c = lookTo m1 6 := by rw [hm1]; rfl
  have b1 : m1.bests = m.bests := by rw [hm1]
  have w1 : m1.ways = m.ways := by rw [hm1]
  have me1 : m1.me = m.me := by rw [hm1]
  have cs : ∀ j, 0 ≤ m1.cost j := fun j => by
    rw [hm1]
    show 0 ≤ updW m.cost who c j
    unfold updW
    split
    · exact hc0
    · exact (h.ok.cost j).1
  have hs : ∀ j k, 0 ≤ (m1.heard j k).2 := fun j k => by
    rw [hm1]
    dsimp only
    split
    · unfold updW
      split
      · simp
      · exact (h.ok.said j k).2.1
    · exact (h.ok.said j k).2.1
  have key := lookTo_x m1 cs hs (fun k => by rw [b1]; exact h.b200 k) (by rw [w1, me1]; exact h.selfNe) (fun k _ => by rw [w1, b1]; exact h.none_ k) 6 (Nat.le_refl _)
  refine ⟨(link_ok h.ok hc0 hc).1, fun k => ?_, fun k => ?_⟩
  · rw [el]; exact (key k).1 (by omega)
  · rw [el]; exact (key k).2
theorem hear_x {m : Md} (h : MdX m) {f to : Nat} {s d : Int} (hs : 0 ≤ s) (hd0 : 0 ≤ d) (hd : d ≤ 200) : MdX (hearM m f to s d) := by
  have hk := (hear_ok h.ok (f := f) (to := to) hs hd0 hd).1
  obtain ⟨m1, hm1⟩ : ∃ m1 : Md, m1 = { m with heard := updW m.heard f (updW (m.heard f) to (s, d)) } := ⟨_, rfl⟩
  have el : hearM m f to s d = lookM m1 to := by rw [hm1]; rfl
  have b1 : m1.bests = m.bests := by rw [hm1]
  have w1 : m1.ways = m.ways := by rw [hm1]
  have me1 : m1.me = m.me := by rw [hm1]
  have c1 : m1.cost = m.cost := by rw [hm1]
  have hsd : ∀ j k, 0 ≤ (m1.heard j k).2 := fun j k => by
    have := (hk.said j k).2.1
    rw [el, look_heard] at this
    exact this
  have one : ∀ k, ((lookM m1 to).ways k).2.2 = -1 → (lookM m1 to).ways k = (((lookM m1 to).bests k).1, 200, -1) := fun k => by
    by_cases e : k = to
    · subst e
      by_cases hme : k = m1.me
      · have hs' := look_self m1 k
        rw [← hme] at hs'
        rw [hs'.1, hs'.2, w1, b1]
        exact h.none_ k
      · exact (look_x m1 hme (fun j => by rw [c1]; exact (h.ok.cost j).1) hsd (by rw [b1]; exact h.b200 k)).1
    · rw [(look_other m1 e).1, (look_other m1 e).2, w1, b1]
      exact h.none_ k
  have two : ∀ k, 0 ≤ ((lookM m1 to).bests k).2 ∧ ((lookM m1 to).bests k).2 ≤ 200 := fun k => by
    by_cases e : k = to
    · subst e
      by_cases hme : k = m1.me
      · have hs' := look_self m1 k
        rw [← hme] at hs'
        rw [hs'.2, b1]
        exact h.b200 k
      · exact (look_x m1 hme (fun j => by rw [c1]; exact (h.ok.cost j).1) hsd (by rw [b1]; exact h.b200 k)).2
    · rw [(look_other m1 e).2, b1]
      exact h.b200 k
  exact ⟨hk, by rw [el]; exact one, by rw [el]; exact two⟩
theorem tick_x {m : Md} (h : MdX m) : MdX (tickM m) := by
  obtain ⟨s, h0, hw, hb⟩ := h.ok.self
  refine ⟨(tick_ok h.ok).1, fun k hk => ?_, fun k => ?_⟩
  · by_cases e : k = m.me
    · subst e
      exfalso
      have : (updW m.ways m.me ((m.ways m.me).1 + 1, (m.ways m.me).2.1, (m.ways m.me).2.2) m.me).2.2 = -1 := hk
      rw [updW_same, hw] at this
      have : ((m.me : Nat) : Int) = -1 := this
      omega
    · have e1 : (tickM m).ways k = m.ways k := updW_ne _ _ e
      have e2 : (tickM m).bests k = m.bests k := updW_ne _ _ e
      rw [e1] at hk
      rw [e1, e2]
      exact h.none_ k hk
  · by_cases e : k = m.me
    · subst e
      have e2 : (tickM m).bests m.me = ((m.ways m.me).1 + 1, 0) := updW_same _ _ _
      rw [e2]; simp
    · have e2 : (tickM m).bests k = m.bests k := updW_ne _ _ e
      rw [e2]; exact h.b200 k
/-- What a node tells is no better than its best. -/
theorem MdX.tells {m : Md} (h : MdX m) {k : Nat} (hk : k < 6) : bet (m.ways k).1 (m.ways k).2.1 (m.bests k).1 (m.bests k).2 = false ∧ 0 ≤ (m.ways k).1 ∧ 0 ≤ (m.ways k).2.1 ∧ (m.ways k).2.1 ≤ 200 := by
  by_cases hd : (m.ways k).2.2 = -1
  · have e := h.none_ k hd
    have hb := h.b200 k
    rw [e, bet_not]
    refine ⟨?_, h.ok.best k, ?_, ?_⟩
    · right; simp only; exact ⟨trivial, hb.2⟩
    · simp
    · simp
  · have hs := way_seq h.ok hk hd
    refine ⟨?_, hs.1, hs.2.1, by omega⟩
    by_cases e : k = m.me
    · obtain ⟨s, _, hw, hb⟩ := h.ok.self
      rw [e, hw, hb]; exact bet_refl _ _
    · exact (h.ok.way k hk e).notBetter hd

/-- News: from whom, for whom, of whom, the age and the length. -/
structure Nw where
  f : Nat
  g : Nat
  to : Nat
  s : Int
  d : Int
/-- A net: what each node knows, and the news on their way. -/
structure Tn where
  cst : Nat → Nat → Int
  nd : Nat → Md
  news : List Nw
structure TnOk (t : Tn) : Prop where
  node : ∀ a, a < 6 → MdX (t.nd a) ∧ (t.nd a).me = a
  heard : ∀ a f k, a < 6 → f < 6 → k < 6 → bet ((t.nd a).heard f k).1 ((t.nd a).heard f k).2 ((t.nd f).bests k).1 ((t.nd f).bests k).2 = false
  news : ∀ x ∈ t.news, x.f < 6 ∧ x.g < 6 ∧ x.f ≠ x.g ∧ x.to < 6 ∧ 0 ≤ x.s ∧ 0 ≤ x.d ∧ x.d ≤ 200 ∧ bet x.s x.d ((t.nd x.f).bests x.to).1 ((t.nd x.f).bests x.to).2 = false
  cost : ∀ a b, a < 6 → b < 6 → (t.nd a).cost b = t.cst a b
/-- ALONG EACH WAY THE BEST BECOMES BETTER, and each way is by a link. -/
theorem TnOk.straight {t : Tn} (h : TnOk t) {a to : Nat} (ha : a < 6) (ht : to < 6) (hne : to ≠ a) (hd : ((t.nd a).ways to).2.2 ≠ -1) :
    ∃ j : Nat, j < 6 ∧ ((t.nd a).ways to).2.2 = (j : Int) ∧ t.cst a j ≠ 0 ∧ bet ((t.nd j).bests to).1 ((t.nd j).bests to).2 ((t.nd a).bests to).1 ((t.nd a).bests to).2 = true := by
  obtain ⟨hx, hme⟩ := h.node a ha
  obtain ⟨j, hj, hw, hc, _, hb⟩ := (hx.ok.way to ht (by rw [hme]; exact hne)).by_ hd (by rw [hme]; exact hne)
  refine ⟨j, hj, by rw [hw]; rfl, by rw [← h.cost a j ha hj]; exact hc, ?_⟩
  have h1 := h.heard a j to ha hj ht
  rw [bet_not] at h1
  rw [bet_iff] at hb ⊢
  omega
/-- One node has changed, its best not to the worse, and what it heard is no better than what those know who said it. -/
theorem TnOk.one {t : Tn} (h : TnOk t) {a : Nat} (ha : a < 6) {m : Md} {cst' : Nat → Nat → Int} {nw : List Nw} (hx : MdX m) (hme : m.me = a) (hb : ∀ k, bet ((t.nd a).bests k).1 ((t.nd a).bests k).2 (m.bests k).1 (m.bests k).2 = false)
    (hh : ∀ f k, f < 6 → k < 6 → bet (m.heard f k).1 (m.heard f k).2 ((t.nd f).bests k).1 ((t.nd f).bests k).2 = false)
    (hn : ∀ x ∈ nw, x.f < 6 ∧ x.g < 6 ∧ x.f ≠ x.g ∧ x.to < 6 ∧ 0 ≤ x.s ∧ 0 ≤ x.d ∧ x.d ≤ 200 ∧ bet x.s x.d ((updW t.nd a m x.f).bests x.to).1 ((updW t.nd a m x.f).bests x.to).2 = false)
    (hc : ∀ b c, b < 6 → c < 6 → (updW t.nd a m b).cost c = cst' b c) : TnOk { cst := cst', nd := updW t.nd a m, news := nw } := by
  have up : ∀ f k s d, bet s d ((t.nd f).bests k).1 ((t.nd f).bests k).2 = false → bet s d ((updW t.nd a m f).bests k).1 ((updW t.nd a m f).bests k).2 = false := fun f k s d q => by
    by_cases e : f = a
    · subst e
      rw [updW_same]; exact bet_trans q (hb k)
    · rw [updW_ne _ _ e]; exact q
  refine ⟨fun b hb' => ?_, fun b f k hb' hf hk => ?_, hn, hc⟩
  · show MdX (updW t.nd a m b) ∧ (updW t.nd a m b).me = b
    by_cases e : b = a
    · subst e
      rw [updW_same]; exact ⟨hx, hme⟩
    · rw [updW_ne _ _ e]; exact h.node b hb'
  · show bet ((updW t.nd a m b).heard f k).1 ((updW t.nd a m b).heard f k).2 ((updW t.nd a m f).bests k).1 ((updW t.nd a m f).bests k).2 = false
    refine up f k _ _ ?_
    by_cases e : b = a
    · subst e
      rw [updW_same]; exact hh f k hf hk
    · rw [updW_ne _ _ e]; exact h.heard b f k hb' hf hk

end Go.Proofs.Ythiojjkgodffnae

/- THE PROGRAM'S NODE, AS NUMBERS: its search upwards finds what the reference's finds; looked at twice it is looked at once; the best of itself is not kept. No Go here. -/
namespace Go.Proofs.Ythiojjkgodffnae

/-- The program's search, up from the least number: the first s of them. -/
def pkU (m : Md) (z : Nat) : Nat → Int × Int × Int
  | 0 => ((m.bests z).1, 200, -1)
  | s + 1 => if mayB m z s = true ∧ bet (wayBy m z s).1 (wayBy m z s).2.1 (pkU m z s).1 (pkU m z s).2.1 = true then wayBy m z s else pkU m z s
theorem pkU_part (m : Md) (z : Nat) : ∀ s,
    (∃ k, k < s ∧ mayB m z k = true ∧ pkU m z s = wayBy m z k ∧ ∀ j, j < s → mayB m z j = true → bet (wayBy m z j).1 (wayBy m z j).2.1 (wayBy m z k).1 (wayBy m z k).2.1 = false ∧ (bet (wayBy m z k).1 (wayBy m z k).2.1 (wayBy m z j).1 (wayBy m z j).2.1 = false → k ≤ j)) ∨
    ((∀ j, j < s → mayB m z j = false) ∧ pkU m z s = ((m.bests z).1, 200, -1))
  | 0 => .inr ⟨fun j h => by omega, rfl⟩
  | s + 1 => by
    rcases pkU_part m z s with ⟨k, k1, mk, hp, hall⟩ | ⟨hn, hp⟩
    · rw [pkU, hp]
      by_cases hm : mayB m z s = true ∧ bet (wayBy m z s).1 (wayBy m z s).2.1 (wayBy m z k).1 (wayBy m z k).2.1 = true
      · rw [if_pos hm]
        obtain ⟨hm1, hb⟩ := hm
        refine .inl ⟨s, by omega, hm1, rfl, fun j j1 mj => ?_⟩
        by_cases ej : j = s
        · subst ej
          exact ⟨by rw [bet_not]; omega, fun _ => Nat.le_refl _⟩
        · obtain ⟨a1, _⟩ := hall j (by omega) mj
          rw [bet_not] at a1
          rw [bet_iff] at hb
          refine ⟨by rw [bet_not]; omega, fun q => ?_⟩
          rw [bet_not] at q
          omega
      · rw [if_neg hm]
        refine .inl ⟨k, by omega, mk, rfl, fun j j1 mj => ?_⟩
        by_cases ej : j = s
        · subst ej
          refine ⟨?_, fun _ => by omega⟩
          cases q : bet (wayBy m z j).1 (wayBy m z j).2.1 (wayBy m z k).1 (wayBy m z k).2.1
          · rfl
          · exact absurd ⟨mj, q⟩ hm
        · exact hall j (by omega) mj
    · rw [pkU, hp]
      by_cases hm : mayB m z s = true
      · obtain ⟨_, c1, c2⟩ := may_iff.1 hm
        have hb : bet (wayBy m z s).1 (wayBy m z s).2.1 (m.bests z).1 200 = true := by
          rw [bet_iff] at c2 ⊢
          unfold wayBy
          simp only
          omega
        rw [if_pos ⟨hm, hb⟩]
        refine .inl ⟨s, by omega, hm, rfl, fun j j1 mj => ?_⟩
        by_cases ej : j = s
        · subst ej
          exact ⟨by rw [bet_not]; omega, fun _ => Nat.le_refl _⟩
        · rw [hn j (by omega)] at mj; cases mj
      · rw [if_neg (fun q => hm q.1)]
        refine .inr ⟨fun j j1 => ?_, rfl⟩
        by_cases ej : j = s
        · subst ej
          cases h : mayB m z j
          · rfl
          · exact absurd h hm
        · exact hn j (by omega)
theorem pkU_is (m : Md) (z : Nat) : pkU m z 6 = pkD m z 6 := by
  refine IsPick.unique (m := m) (to := z) ?_ (pkD_is m z)
  rcases pkU_part m z 6 with ⟨k, k2, mk, hp, hall⟩ | ⟨hn, hp⟩
  · rw [hp]
    exact .inl ⟨k, k2, mk, rfl, hall⟩
  · rw [hp]
    exact .inr ⟨hn, rfl⟩
theorem pkU_bet (m : Md) (z : Nat) (hb : (m.bests z).2 ≤ 200) : bet (pkU m z 6).1 (pkU m z 6).2.1 (m.bests z).1 (m.bests z).2 = true ↔ (pkD m z 6).2.2 ≠ -1 ∧ bet (pkD m z 6).1 (pkD m z 6).2.1 (m.bests z).1 (m.bests z).2 = true := by
  rw [pkU_is]
  constructor
  · intro h
    refine ⟨fun e => ?_, h⟩
    rcases pkD_is m z with ⟨k, _, _, hw, _⟩ | ⟨_, hw⟩
    · rw [hw] at e
      have : (k : Int) = -1 := e
      omega
    · rw [hw, bet_iff] at h
      simp only at h
      omega
  · exact fun h => h.2
/-- The program's choose. -/
theorem look_u (m : Md) {z : Nat} (hz : z ≠ m.me) (hb : (m.bests z).2 ≤ 200) :
    lookM m z = { m with ways := updW m.ways z (pkU m z 6), bests := if bet (pkU m z 6).1 (pkU m z 6).2.1 (m.bests z).1 (m.bests z).2 = true then updW m.bests z ((pkU m z 6).1, (pkU m z 6).2.1) else m.bests } := by
  have h := pkU_bet m z hb
  unfold lookM
  rw [if_neg hz]
  by_cases c : bet (pkU m z 6).1 (pkU m z 6).2.1 (m.bests z).1 (m.bests z).2 = true
  · rw [if_pos c, if_pos (h.1 c), pkU_is]
  · rw [if_neg c, if_neg (fun q => c (h.2 q)), pkU_is]

theorem mayB_congr {m m' : Md} {z : Nat} (e1 : m'.cost = m.cost) (e2 : ∀ j, m'.heard j z = m.heard j z) (e3 : m'.bests z = m.bests z) (j : Nat) : mayB m' z j = mayB m z j ∧ wayBy m' z j = wayBy m z j := by
  unfold mayB wayBy
  rw [e1, e2, e3]
  exact ⟨rfl, rfl⟩
theorem pkD_congr {m m' : Md} {z : Nat} (e1 : m'.cost = m.cost) (e2 : ∀ j, m'.heard j z = m.heard j z) (e3 : m'.bests z = m.bests z) : ∀ s, pkD m' z s = pkD m z s
  | 0 => by rw [pkD, pkD, e3]
  | s + 1 => by
    obtain ⟨a, b⟩ := mayB_congr e1 e2 e3 (5 - s)
    rw [pkD, pkD, pkD_congr e1 e2 e3 s, a, b]

/-- The way to z has been looked at. -/
def LkZ (m : Md) (z : Nat) : Prop := m.ways z = pkD m z 6 ∧ ((pkD m z 6).2.2 ≠ -1 → bet (pkD m z 6).1 (pkD m z 6).2.1 (m.bests z).1 (m.bests z).2 = false)
theorem LkZ.keep {m m' : Md} {z : Nat} (h : LkZ m z) (e1 : m'.cost = m.cost) (e2 : ∀ j, m'.heard j z = m.heard j z) (e3 : m'.bests z = m.bests z) (e4 : m'.ways z = m.ways z) : LkZ m' z := by
  unfold LkZ
  rw [pkD_congr e1 e2 e3, e3, e4]
  exact h
theorem updW_id {α : Type} (f : Nat → α) (i : Nat) (v : α) (h : f i = v) : updW f i v = f := by
  funext j
  unfold updW
  split
  · next e => rw [e, h]
  · rfl
theorem LkZ.look {m : Md} {z : Nat} (h : LkZ m z) : lookM m z = m := by
  unfold lookM
  split
  · rfl
  · rw [updW_id _ _ _ h.1, if_neg (fun q => by rw [h.2 q.1] at q; exact absurd q.2 (by simp))]
theorem look_lkz (m : Md) {z : Nat} (hz : z ≠ m.me) (hc : ∀ j, j < 6 → 0 ≤ m.cost j) : LkZ (lookM m z) z := by
  obtain ⟨hok, hbb⟩ := look_ok m hz hc
  have ew : (lookM m z).ways z = pkD m z 6 := by unfold lookM; rw [if_neg hz]; exact updW_same _ _ _
  have hp : pkD (lookM m z) z 6 = pkD m z 6 := by
    refine (pkD_is (lookM m z) z).unique ?_
    have hwb : ∀ j, wayBy (lookM m z) z j = wayBy m z j := fun j => by unfold wayBy; rw [look_heard, look_cost]
    have hmay : ∀ j, mayB (lookM m z) z j = true → mayB m z j = true := fun j hj => by
      obtain ⟨a, b, c⟩ := may_iff.1 hj
      rw [look_cost] at a b
      rw [look_heard] at b c
      refine may_iff.2 ⟨a, b, ?_⟩
      rw [bet_not] at hbb
      rw [bet_iff] at c ⊢
      omega
    rcases pkD_is m z with ⟨k, hk, mk, hw, hall⟩ | ⟨hn, hw⟩
    · refine .inl ⟨k, hk, ?_, by rw [hwb]; exact hw, fun j hj mj => by rw [hwb]; exact hall j hj (hmay j mj)⟩
      have hne : ((lookM m z).ways z).2.2 ≠ -1 := by rw [ew, hw]; show (k : Int) ≠ -1; omega
      obtain ⟨j, _, hj2, hj3, hj4, hj5⟩ := hok.by_ hne (by rw [look_me]; exact hz)
      have ejk : j = k := by
        rw [ew, hw] at hj2
        have : (k : Int) = (j : Int) := congrArg (fun x => x.2.2) hj2
        omega
      subst ejk
      exact may_iff.2 ⟨hj3, hj4, hj5⟩
    · refine .inr ⟨fun j hj => ?_, ?_⟩
      · cases q : mayB (lookM m z) z j
        · rfl
        · have := hn j hj
          rw [hmay j q] at this; cases this
      · have eb : (lookM m z).bests z = m.bests z := by
          unfold lookM
          rw [if_neg hz]
          dsimp only
          rw [if_neg (fun q => q.1 (by rw [hw]))]
        rw [eb]; exact hw
  unfold LkZ
  rw [hp, ew]
  refine ⟨rfl, fun q => ?_⟩
  have := hok.notBetter (by rw [ew]; exact q)
  rw [ew] at this
  exact this
theorem look_keep (m : Md) {z k : Nat} (h : k ≠ z) (hk : LkZ m k) : LkZ (lookM m z) k :=
  hk.keep (look_cost _ _) (fun j => by rw [look_heard]) (look_other m h).2 (look_other m h).1
theorem lookTo_lkz (m : Md) (hc : ∀ j, j < 6 → 0 ≤ m.cost j) : ∀ n k, k < n → k ≠ m.me → LkZ (lookTo m n) k
  | 0, k, h, _ => by omega
  | n + 1, k, h, hk => by
    obtain ⟨e1, e2, _⟩ := lookTo_all m n
    by_cases e : k = n
    · subst e
      exact look_lkz _ (by rw [e1]; exact hk) (fun j hj => by rw [e2]; exact hc j hj)
    · exact look_keep _ e (lookTo_lkz m hc n k (by omega) hk)
/-- All ways have been looked at. -/
def Lkd (m : Md) : Prop := ∀ k, k < 6 → k ≠ m.me → LkZ m k
theorem new_lkd (me : Nat) : Lkd (newM me) := fun k _ hk => by
  have hk' : k ≠ me := hk
  have hn : ∀ j, j < 6 → mayB (newM me) k j = false := fun j _ => by unfold mayB newM; simp
  have hp := pick_none hn
  have ew : (newM me).ways k = (0, 200, -1) := by unfold newM; dsimp only; exact updW_ne _ _ hk'
  have eb : (newM me).bests k = (0, 200) := by unfold newM; dsimp only; exact updW_ne _ _ hk'
  unfold LkZ
  rw [hp, ew, eb]
  exact ⟨rfl, fun q => absurd rfl q⟩
theorem link_lkd {m : Md} (h : MdOk m) {who : Nat} {c : Int} (hc0 : 0 ≤ c) : Lkd (linkM m who c) := fun k hk hne => by
  unfold linkM at hne ⊢
  refine lookTo_lkz _ (fun j _ => ?_) 6 k hk (by rw [(lookTo_all _ 6).1] at hne; exact hne)
  show 0 ≤ updW m.cost who c j
  unfold updW
  split
  · exact hc0
  · exact (h.cost j).1
theorem heard_other (m : Md) {f z k : Nat} (h : k ≠ z) (v : Int × Int) (j : Nat) : updW m.heard f (updW (m.heard f) z v) j k = m.heard j k := by
  by_cases e : j = f
  · rw [e, updW_same, updW_ne _ _ h]
  · rw [updW_ne _ _ e]
theorem hear_lkd {m : Md} (h : MdOk m) (hl : Lkd m) {f z : Nat} {s d : Int} : Lkd (hearM m f z s d) := fun k hk hne => by
  have hme : (hearM m f z s d).me = m.me := look_me _ _
  rw [hme] at hne
  unfold hearM
  by_cases e : k = z
  · subst e
    exact look_lkz _ hne (fun j _ => (h.cost j).1)
  · exact look_keep _ e ((hl k hk hne).keep rfl (heard_other m e (s, d)) rfl rfl)
theorem tick_lkd {m : Md} (hl : Lkd m) : Lkd (tickM m) := fun k hk hne =>
  (hl k hk hne).keep rfl (fun _ => rfl) (updW_ne _ _ hne) (updW_ne _ _ hne)
/-- The program's Hear looks at all ways. -/
def hearD (m : Md) (f z : Nat) (s d : Int) : Md := lookTo { m with heard := updW m.heard f (updW (m.heard f) z (s, d)) } 6
def tickD (m : Md) : Md := { m with ways := updW m.ways m.me ((m.ways m.me).1 + 1, (m.ways m.me).2.1, (m.ways m.me).2.2) }
theorem lookTo_one (m : Md) {z : Nat} (hl : ∀ k, k < 6 → k ≠ z → k ≠ m.me → LkZ m k) : ∀ n, n ≤ 6 → lookTo m n = if z < n then lookM m z else m
  | 0, _ => by rw [if_neg (by omega)]; rfl
  | n + 1, hn => by
    rw [lookTo, lookTo_one m hl n (by omega)]
    by_cases e : z = n
    · subst e
      rw [if_neg (by omega), if_pos (by omega)]
    · have hk : ∀ m' : Md, m'.me = m.me → (n ≠ m.me → LkZ m' n) → lookM m' n = m' := fun m' e' h' => by
        by_cases q : n = m.me
        · unfold lookM; rw [if_pos (by rw [e']; exact q)]
        · exact (h' q).look
      by_cases hz : z < n
      · rw [if_pos hz, if_pos (by omega)]
        exact hk _ (look_me _ _) (fun q => look_keep m (fun x => e x.symm) (hl n (by omega) (fun x => e x.symm) q))
      · rw [if_neg hz, if_neg (by omega)]
        exact hk _ rfl (fun q => hl n (by omega) (fun x => e x.symm) q)
theorem hearD_is {m : Md} (hl : Lkd m) {f z : Nat} (hz : z < 6) (s d : Int) : hearD m f z s d = hearM m f z s d := by
  unfold hearD hearM
  have := lookTo_one { m with heard := updW m.heard f (updW (m.heard f) z (s, d)) } (z := z) (fun k hk hkz hne => (hl k hk hne).keep (m' := { m with heard := updW m.heard f (updW (m.heard f) z (s, d)) }) rfl (heard_other m hkz (s, d)) rfl rfl) 6 (Nat.le_refl _)
  rw [this, if_pos hz]

/-- The program does not keep the best of the node itself. -/
def sel (m : Md) : Md := { m with bests := updW m.bests m.me (0, 200) }
theorem sel_look (m : Md) (z : Nat) : lookM (sel m) z = sel (lookM m z) := by
  by_cases e : z = m.me
  · unfold lookM
    rw [if_pos e, if_pos (show z = (sel m).me from e)]
  · have hb : (sel m).bests z = m.bests z := updW_ne _ _ e
    have hp : pkD (sel m) z 6 = pkD m z 6 := pkD_congr (m := m) (m' := sel m) rfl (fun _ => rfl) hb 6
    have e' : ¬ z = (sel m).me := e
    unfold lookM
    rw [if_neg e, if_neg e', hp, hb]
    unfold sel
    dsimp only
    congr 1
    split
    · funext j
      unfold updW
      by_cases j1 : j = z
      · rw [if_pos j1, if_neg (fun q => e (by rw [← j1]; exact q)), if_pos j1]
      · rw [if_neg j1]
        by_cases j2 : j = m.me
        · rw [if_pos j2, if_pos j2]
        · rw [if_neg j2, if_neg j2, if_neg j1]
    · rfl
theorem sel_lookTo (m : Md) : ∀ n, lookTo (sel m) n = sel (lookTo m n)
  | 0 => rfl
  | n + 1 => by rw [lookTo, sel_lookTo m n, sel_look, lookTo]
theorem sel_link (m : Md) (f : Nat) (c : Int) : linkM (sel m) f c = sel (linkM m f c) := by
  unfold linkM
  rw [← sel_lookTo]
  rfl
theorem sel_hear {m : Md} (hl : Lkd m) {f z : Nat} (hz : z < 6) (s d : Int) : hearD (sel m) f z s d = sel (hearM m f z s d) := by
  rw [← hearD_is hl hz]
  unfold hearD
  rw [← sel_lookTo]
  rfl
theorem sel_tick (m : Md) : tickD (sel m) = sel (tickM m) := by
  unfold tickD sel tickM
  dsimp only
  congr 1
  funext j
  unfold updW
  split <;> rfl
theorem sel_best (m : Md) {k : Nat} (h : k ≠ m.me) : (sel m).bests k = m.bests k := updW_ne _ _ h

/-- All that is known of a node behind steps. -/
structure MdZ (m : Md) : Prop where
  x : MdX m
  l : Lkd m
theorem MdZ.ok {m : Md} (h : MdZ m) : MdOk m := h.x.ok
theorem new_z {me : Nat} (h : me < 6) : MdZ (newM me) := ⟨new_x h, new_lkd me⟩
theorem link_z {m : Md} (h : MdZ m) {who : Nat} {c : Int} (hc0 : 0 ≤ c) (hc : c ≤ 15) : MdZ (linkM m who c) := ⟨link_x h.x hc0 hc, link_lkd h.ok hc0⟩
theorem hear_z {m : Md} (h : MdZ m) {f z : Nat} {s d : Int} (hs : 0 ≤ s) (hd0 : 0 ≤ d) (hd : d ≤ 200) : MdZ (hearM m f z s d) := ⟨hear_x h.x hs hd0 hd, hear_lkd h.ok h.l⟩
theorem tick_z {m : Md} (h : MdZ m) : MdZ (tickM m) := ⟨tick_x h.x, tick_lkd h.l⟩

end Go.Proofs.Ythiojjkgodffnae

/- A NET, AS NUMBERS: each step keeps what makes ways straight. No Go here. -/
namespace Go.Proofs.Ythiojjkgodffnae

def newT : Tn := { cst := fun _ _ => 0, nd := newM, news := [] }
/-- Nothing was said: that is better than no best. -/
theorem MdX.nothing {m : Md} (h : MdX m) (k : Nat) : bet 0 200 (m.bests k).1 (m.bests k).2 = false := by
  have h1 := h.ok.best k
  have h2 := (h.b200 k).2
  rw [bet_not]; omega
theorem new_t : TnOk newT := by
  refine ⟨fun a ha => ⟨new_x ha, rfl⟩, fun a f k ha hf hk => ?_, fun x hx => (by cases hx), fun a b _ _ => rfl⟩
  exact (new_x hf).nothing k
/-- Fewer news, or some of them twice. -/
theorem TnOk.sub {t : Tn} (h : TnOk t) {nw : List Nw} (hn : ∀ x ∈ nw, x ∈ t.news) : TnOk { t with news := nw } :=
  ⟨h.node, h.heard, fun x hx => h.news x (hn x hx), h.cost⟩
/-- All that a tells b. -/
def tellT (t : Tn) (a b : Nat) : List Nw := (List.range 6).map fun k => ⟨a, b, k, ((t.nd a).ways k).1, ((t.nd a).ways k).2.1⟩
theorem tellT_mem {t : Tn} (h : TnOk t) {a b : Nat} (ha : a < 6) (hb : b < 6) (hne : a ≠ b) : ∀ x ∈ tellT t a b, x.f < 6 ∧ x.g < 6 ∧ x.f ≠ x.g ∧ x.to < 6 ∧ 0 ≤ x.s ∧ 0 ≤ x.d ∧ x.d ≤ 200 ∧ bet x.s x.d ((t.nd x.f).bests x.to).1 ((t.nd x.f).bests x.to).2 = false := by
  intro x hx
  obtain ⟨k, hk, rfl⟩ := List.mem_map.1 hx
  have hk6 := List.mem_range.1 hk
  obtain ⟨h1, h2, h3, h4⟩ := (h.node a ha).1.tells hk6
  exact ⟨ha, hb, hne, hk6, h2, h3, h4, h1⟩
theorem TnOk.tell {t : Tn} (h : TnOk t) {a b : Nat} (ha : a < 6) (hb : b < 6) (hne : a ≠ b) : TnOk { t with news := t.news ++ tellT t a b } := by
  refine ⟨h.node, h.heard, fun x hx => ?_, h.cost⟩
  rcases List.mem_append.1 hx with hx | hx
  · exact h.news x hx
  · exact tellT_mem h ha hb hne x hx
theorem TnOk.newsUp {t : Tn} (_ : TnOk t) {a : Nat} {m : Md} (hb : ∀ k, bet ((t.nd a).bests k).1 ((t.nd a).bests k).2 (m.bests k).1 (m.bests k).2 = false) {nw : List Nw} (hn : ∀ x ∈ nw, x.f < 6 ∧ x.g < 6 ∧ x.f ≠ x.g ∧ x.to < 6 ∧ 0 ≤ x.s ∧ 0 ≤ x.d ∧ x.d ≤ 200 ∧ bet x.s x.d ((t.nd x.f).bests x.to).1 ((t.nd x.f).bests x.to).2 = false) :
    ∀ x ∈ nw, x.f < 6 ∧ x.g < 6 ∧ x.f ≠ x.g ∧ x.to < 6 ∧ 0 ≤ x.s ∧ 0 ≤ x.d ∧ x.d ≤ 200 ∧ bet x.s x.d ((updW t.nd a m x.f).bests x.to).1 ((updW t.nd a m x.f).bests x.to).2 = false := by
  intro x hx
  obtain ⟨h1, h2, h3, h4, h5, h6, h7, h8⟩ := hn x hx
  refine ⟨h1, h2, h3, h4, h5, h6, h7, ?_⟩
  by_cases e : x.f = a
  · rw [e, updW_same]
    rw [e] at h8
    exact bet_trans h8 (hb x.to)
  · rw [updW_ne _ _ e]; exact h8
/-- A node hears what was said; whatever else is on its way stays. -/
theorem TnOk.hear {t : Tn} (h : TnOk t) {x : Nw} (hx : x.f < 6 ∧ x.g < 6 ∧ x.f ≠ x.g ∧ x.to < 6 ∧ 0 ≤ x.s ∧ 0 ≤ x.d ∧ x.d ≤ 200 ∧ bet x.s x.d ((t.nd x.f).bests x.to).1 ((t.nd x.f).bests x.to).2 = false) :
    TnOk { t with nd := updW t.nd x.g (hearM (t.nd x.g) x.f x.to x.s x.d) } := by
  obtain ⟨h1, h2, h3, h4, h5, h6, h7, h8⟩ := hx
  obtain ⟨hX, hme⟩ := h.node x.g h2
  have hk := hear_ok hX.ok (f := x.f) (to := x.to) h5 h6 h7
  refine h.one h2 (hear_x hX h5 h6 h7) ((look_me _ _).trans hme) hk.2 (fun f k hf hk6 => ?_) (h.newsUp hk.2 h.news) (fun b c hb hc => ?_)
  · have e : (hearM (t.nd x.g) x.f x.to x.s x.d).heard f k = if f = x.f ∧ k = x.to then (x.s, x.d) else (t.nd x.g).heard f k := by
      unfold hearM
      rw [look_heard]
      show updW (t.nd x.g).heard x.f (updW ((t.nd x.g).heard x.f) x.to (x.s, x.d)) f k = _
      unfold updW
      by_cases e : f = x.f
      · rw [if_pos e]
        by_cases e2 : k = x.to
        · rw [if_pos e2, if_pos ⟨e, e2⟩]
        · rw [if_neg e2, if_neg (fun q => e2 q.2), e]
      · rw [if_neg e, if_neg (fun q => e q.1)]
    rw [e]
    split
    · next q => rw [q.1, q.2]; exact h8
    · exact h.heard x.g f k h2 hf hk6
  · by_cases e : b = x.g
    · subst e
      rw [updW_same]
      show (lookM _ _).cost c = _
      rw [look_cost]
      exact h.cost x.g c hb hc
    · rw [updW_ne _ _ e]; exact h.cost b c hb hc
theorem TnOk.tick {t : Tn} (h : TnOk t) {a : Nat} (ha : a < 6) : TnOk { t with nd := updW t.nd a (tickM (t.nd a)) } := by
  obtain ⟨hX, hme⟩ := h.node a ha
  have hk := tick_ok hX.ok
  refine h.one ha (tick_x hX) hme hk.2 (fun f k hf hk6 => h.heard a f k ha hf hk6) (h.newsUp hk.2 h.news) (fun b c hb hc => ?_)
  by_cases e : b = a
  · subst e
    rw [updW_same]; exact h.cost b c hb hc
  · rw [updW_ne _ _ e]; exact h.cost b c hb hc
def cstUp (cst : Nat → Nat → Int) (a b : Nat) (c : Int) : Nat → Nat → Int := fun i j => if i = a ∧ j = b then c else cst i j
theorem linkT_heard (m : Md) (who : Nat) (c : Int) (f k : Nat) : (linkM m who c).heard f k = if c = 0 ∧ f = who then (0, 200) else m.heard f k := by
  unfold linkM
  rw [(lookTo_all _ 6).2.2.1]
  dsimp only
  by_cases e : c = 0
  · rw [if_pos e]
    unfold updW
    by_cases e2 : f = who
    · rw [if_pos e2, if_pos ⟨e, e2⟩]
    · rw [if_neg e2, if_neg (fun q => e2 q.2)]
  · rw [if_neg e, if_neg (fun q => e q.1)]
theorem linkT_cost (m : Md) (who : Nat) (c : Int) (k : Nat) : (linkM m who c).cost k = if k = who then c else m.cost k := by
  unfold linkM
  rw [(lookTo_all _ 6).2.1]
  rfl
/-- One of the two knows that they are linked, for so much. -/
theorem TnOk.link {t : Tn} (h : TnOk t) {a b : Nat} {c : Int} (ha : a < 6) (hc0 : 0 ≤ c) (hc : c ≤ 15) : TnOk { t with cst := cstUp t.cst a b c, nd := updW t.nd a (linkM (t.nd a) b c) } := by
  obtain ⟨hX, hme⟩ := h.node a ha
  have hk := link_ok hX.ok (who := b) hc0 hc
  refine h.one ha (link_x hX hc0 hc) ((lookTo_all _ 6).1.trans hme) hk.2 (fun f k hf hk6 => ?_) (h.newsUp hk.2 h.news) (fun i j hi hj => ?_)
  · rw [linkT_heard]
    split
    · exact (h.node f hf).1.nothing k
    · exact h.heard a f k ha hf hk6
  · unfold cstUp
    by_cases e : i = a
    · subst e
      rw [updW_same, linkT_cost]
      by_cases e2 : j = b
      · rw [if_pos e2, if_pos ⟨rfl, e2⟩]
      · rw [if_neg e2, if_neg (fun q => e2 q.2)]
        exact h.cost i j hi hj
    · rw [updW_ne _ _ e, if_neg (fun q => e q.1)]
      exact h.cost i j hi hj

end Go.Proofs.Ythiojjkgodffnae

/- IT SETTLES, AS NUMBERS: where no way leads, none is said: what is told comes from ever better bests, and there are but six. No Go here. -/
namespace Go.Proofs.Ythiojjkgodffnae

/-- Of one end: what was heard (by whom, from whom), the ways and the bests. -/
structure Pd where
  h : Nat → Nat → Int × Int
  w : Nat → Int × Int × Int
  b : Nat → Int × Int
/-- As many nodes of U have a best that is as good as v. -/
def asGood (U : Nat → Bool) (P : Pd) (v : Int × Int) : Nat := (List.range 6).countP fun x => U x && !bet v.1 v.2 (P.b x).1 (P.b x).2
theorem asGood_le (U : Nat → Bool) (P : Pd) (v : Int × Int) : asGood U P v ≤ 6 := by
  have := List.countP_le_length (p := fun x => U x && !bet v.1 v.2 (P.b x).1 (P.b x).2) (l := List.range 6)
  simpa [asGood] using this
/-- No best is worse than it was. -/
def Up (P Q : Pd) : Prop := ∀ x, bet (P.b x).1 (P.b x).2 (Q.b x).1 (Q.b x).2 = false
theorem Up.refl (P : Pd) : Up P P := fun _ => bet_refl _ _
theorem Up.good {P Q : Pd} (h : Up P Q) (U : Nat → Bool) (v : Int × Int) : asGood U P v ≤ asGood U Q v := by
  unfold asGood
  refine List.countP_mono_left fun x _ hx => ?_
  simp only [Bool.and_eq_true, Bool.not_eq_true'] at hx ⊢
  exact ⟨hx.1, bet_trans hx.2 (h x)⟩
/-- Each way of U is by one of U who said something that is better than the best; a way is no better than the best. -/
structure PdOk (U : Nat → Bool) (P : Pd) : Prop where
  by_ : ∀ x, x < 6 → U x = true → (P.w x).2.2 ≠ -1 → ∃ j, j < 6 ∧ U j = true ∧ (P.h x j).2 < 200 ∧ bet (P.h x j).1 (P.h x j).2 (P.b x).1 (P.b x).2 = true
  nb : ∀ x, x < 6 → U x = true → bet (P.w x).1 (P.w x).2.1 (P.b x).1 (P.b x).2 = false
  far : ∀ x, x < 6 → U x = true → (P.w x).2.2 = -1 → (P.w x).2.1 = 200
/-- What x heard of j, if it is of use, is of no better than r bests. -/
def Few (U : Nat → Bool) (P : Pd) (r : Nat) (x j : Nat) : Prop := (P.h x j).2 < 200 → r ≤ asGood U P (P.h x j)
theorem countP_more {α : Type} (p q : α → Bool) : ∀ l : List α, (∀ x ∈ l, p x = true → q x = true) → (∃ x ∈ l, q x = true ∧ p x = false) → l.countP p + 1 ≤ l.countP q
  | [], _, h => by obtain ⟨x, hx, _⟩ := h; cases hx
  | y :: l, hi, h => by
    have hm : l.countP p ≤ l.countP q := List.countP_mono_left (fun x hx => hi x (List.mem_cons_of_mem _ hx))
    obtain ⟨x, hx, h1, h2⟩ := h
    rw [List.countP_cons, List.countP_cons]
    rcases List.mem_cons.1 hx with rfl | hx
    · rw [if_neg (by simp [h2]), if_pos h1]; omega
    · have := countP_more p q l (fun x hx => hi x (List.mem_cons_of_mem _ hx)) ⟨x, hx, h1, h2⟩
      by_cases hp : p y = true
      · rw [if_pos hp, if_pos (hi y (by simp) hp)]; omega
      · rw [if_neg hp]; omega
/-- What a node tells that has a way comes of one best more than what it heard. -/
theorem tell_more {U : Nat → Bool} {P : Pd} (hP : PdOk U P) {r : Nat} {a : Nat} (ha : a < 6) (hU : U a = true) (hF : ∀ j, j < 6 → U j = true → Few U P r a j) (hw : (P.w a).2.1 < 200) : r + 1 ≤ asGood U P ((P.w a).1, (P.w a).2.1) := by
  have hd : (P.w a).2.2 ≠ -1 := fun e => by have := hP.far a ha hU e; omega
  obtain ⟨j, hj, hUj, h200, hb⟩ := hP.by_ a ha hU hd
  have h1 := hF j hj hUj h200
  have h2 := hP.nb a ha hU
  refine Nat.le_trans (Nat.add_le_add_right h1 1) ?_
  unfold asGood
  refine countP_more _ _ _ (fun x _ hx => ?_) ⟨a, List.mem_range.2 ha, ?_, ?_⟩
  · simp only [Bool.and_eq_true, Bool.not_eq_true'] at hx ⊢
    refine ⟨hx.1, ?_⟩
    have h3 := hx.2
    rw [bet_not] at h2 h3 ⊢
    rw [bet_iff] at hb
    omega
  · simp only [Bool.and_eq_true, Bool.not_eq_true']
    exact ⟨hU, h2⟩
  · rw [hb]; simp

/-- One tells another one: what is heard is the way of the teller; nobody else's changes; no best becomes worse. -/
structure Told (P Q : Pd) (a b : Nat) : Prop where
  new : Q.h b a = ((P.w a).1, (P.w a).2.1)
  old : ∀ x j, ¬ (x = b ∧ j = a) → Q.h x j = P.h x j
  up : Up P Q
/-- Who has been told in this round by whom: of those, what is heard comes of one best more. -/
def Half (U : Nat → Bool) (P : Pd) (r : Nat) (done : Nat → Nat → Bool) : Prop := ∀ x j, x < 6 → j < 6 → U x = true → U j = true → (Few U P r x j) ∧ (done x j = true → Few U P (r + 1) x j)
theorem told_half {U : Nat → Bool} {P Q : Pd} {a b r : Nat} {done : Nat → Nat → Bool} (hP : PdOk U P) (hH : Half U P r done) (hT : Told P Q a b) (ha : a < 6) (hU : U a = true) :
    Half U Q r (fun x j => done x j || (decide (x = b) && decide (j = a))) := by
  intro x j hx hj hUx hUj
  by_cases e : x = b ∧ j = a
  · obtain ⟨rfl, rfl⟩ := e
    have key : (Q.h x j).2 < 200 → r + 1 ≤ asGood U Q (Q.h x j) := fun h200 => by
      rw [hT.new] at h200 ⊢
      exact Nat.le_trans (tell_more hP ha hU (fun i hi hUi => (hH j i ha hi hU hUi).1) h200) (hT.up.good U _)
    exact ⟨fun h => by have := key h; omega, fun _ => key⟩
  · have eo := hT.old x j e
    obtain ⟨h1, h2⟩ := hH x j hx hj hUx hUj
    refine ⟨fun h => ?_, fun hd h => ?_⟩
    · rw [eo] at h ⊢
      exact Nat.le_trans (h1 h) (hT.up.good U _)
    · have hd' : done x j = true := by
        simp only [Bool.or_eq_true, Bool.and_eq_true, decide_eq_true_eq] at hd
        rcases hd with q | q
        · exact q
        · exact absurd q e
      rw [eo] at h ⊢
      exact Nat.le_trans (h2 hd' h) (hT.up.good U _)
/-- A round in which each of U has been told by each other one with which it may have a way: one best more. -/
theorem half_round {U : Nat → Bool} {P : Pd} {r : Nat} {done : Nat → Nat → Bool} (hH : Half U P r done) (hall : ∀ x j, x < 6 → j < 6 → U x = true → U j = true → done x j = false → (P.h x j).2 = 200) : Half U P (r + 1) (fun _ _ => false) := by
  intro x j hx hj hUx hUj
  refine ⟨fun h => ?_, fun q => by cases q⟩
  cases e : done x j
  · have := hall x j hx hj hUx hUj e; omega
  · exact (hH x j hx hj hUx hUj).2 e h
/-- Behind seven rounds nobody of U has a way. -/
theorem half_none {U : Nat → Bool} {P : Pd} {done : Nat → Nat → Bool} (hP : PdOk U P) (hH : Half U P 7 done) : ∀ x, x < 6 → U x = true → (P.w x).2.2 = -1 := by
  intro x hx hU
  refine Classical.byContradiction fun hne => ?_
  obtain ⟨j, hj, hUj, h200, _⟩ := hP.by_ x hx hU hne
  have h1 := (hH x j hx hj hU hUj).1 h200
  have h2 := asGood_le U P (P.h x j)
  omega
theorem half_zero (U : Nat → Bool) (P : Pd) : Half U P 0 (fun _ _ => false) := fun _ _ _ _ _ _ => ⟨fun _ => Nat.zero_le _, fun q => by cases q⟩

end Go.Proofs.Ythiojjkgodffnae

/- IT SETTLES, AS NUMBERS: a node that hears the least of the youngest has the least. No Go here. -/
namespace Go.Proofs.Ythiojjkgodffnae

/-- One neighbour said the least of the youngest age; nobody said less; the best is not less: then the way is the least, and so is the best. -/
theorem look_good {m : Md} {to f : Nat} {S D : Int} (hne : to ≠ m.me) (hf : f < 6) (hc : 0 < m.cost f) (hh : (m.heard f to).1 = S) (hd : (m.heard f to).2 + m.cost f = D) (h200 : D < 200)
    (lb : ∀ j, j < 6 → m.cost j ≠ 0 → (m.heard j to).1 ≤ S ∧ ((m.heard j to).1 = S → D ≤ (m.heard j to).2 + m.cost j))
    (hb : (m.bests to).1 ≤ S ∧ ((m.bests to).1 = S → D ≤ (m.bests to).2)) :
    (∃ k : Nat, k < 6 ∧ (lookM m to).ways to = (S, D, (k : Int)) ∧ m.cost k ≠ 0 ∧ (m.heard k to).1 = S ∧ (m.heard k to).2 + m.cost k = D) ∧ (lookM m to).bests to = (S, D) := by
  have hmay : mayB m to f = true := may_iff.2 ⟨by omega, by omega, by
    rw [bet_iff, hh]
    by_cases e : (m.bests to).1 = S
    · have := hb.2 e; omega
    · have := hb.1; omega⟩
  have ew : (lookM m to).ways to = pkD m to 6 := by unfold lookM; rw [if_neg hne]; exact updW_same _ _ _
  have eb : (lookM m to).bests to = if (pkD m to 6).2.2 ≠ -1 ∧ bet (pkD m to 6).1 (pkD m to 6).2.1 (m.bests to).1 (m.bests to).2 = true then ((pkD m to 6).1, (pkD m to 6).2.1) else m.bests to := by
    unfold lookM
    rw [if_neg hne]
    dsimp only
    split
    · exact updW_same _ _ _
    · rfl
  rcases pkD_is m to with ⟨k, hk, mk, hw, hall⟩ | ⟨hn, _⟩
  · obtain ⟨c0, c1, c2⟩ := may_iff.1 mk
    obtain ⟨l1, l2⟩ := lb k hk c0
    have h1 := (hall f hf hmay).1
    rw [hw] at h1
    have e1 : (wayBy m to f).1 = S := hh
    have e2 : (wayBy m to f).2.1 = D := hd
    have e3 : (wayBy m to k).1 = (m.heard k to).1 := rfl
    have e4 : (wayBy m to k).2.1 = (m.heard k to).2 + m.cost k := rfl
    rw [e1, e2, e3, e4, bet_not] at h1
    have s1 : (m.heard k to).1 = S := by omega
    have d1 : (m.heard k to).2 + m.cost k = D := by have := l2 s1; omega
    have epk : pkD m to 6 = (S, D, (k : Int)) := by rw [hw]; unfold wayBy; rw [s1, d1]
    refine ⟨⟨k, hk, by rw [ew, epk], c0, s1, d1⟩, ?_⟩
    rw [eb, epk]
    simp only
    by_cases hbt : bet S D (m.bests to).1 (m.bests to).2 = true
    · rw [if_pos ⟨by omega, hbt⟩]
    · rw [if_neg (fun q => hbt q.2)]
      have hbf : bet S D (m.bests to).1 (m.bests to).2 = false := by
        cases q : bet S D (m.bests to).1 (m.bests to).2
        · rfl
        · exact absurd q hbt
      rw [bet_not] at hbf
      have b1 : (m.bests to).1 = S := by have := hb.1; omega
      have b2 : (m.bests to).2 = D := by have := hb.2 b1; omega
      exact Prod.ext b1 b2
  · rw [hn f hf] at hmay; cases hmay
/-- What is found is never younger than the youngest, nor of that age shorter than the least. -/
theorem look_bound {m : Md} {to : Nat} {S D : Int} (hne : to ≠ m.me) (h200 : D ≤ 200)
    (lb : ∀ j, j < 6 → m.cost j ≠ 0 → (m.heard j to).1 ≤ S ∧ ((m.heard j to).1 = S → D ≤ (m.heard j to).2 + m.cost j))
    (hb : (m.bests to).1 ≤ S ∧ ((m.bests to).1 = S → D ≤ (m.bests to).2)) :
    (((lookM m to).ways to).1 ≤ S ∧ (((lookM m to).ways to).1 = S → D ≤ ((lookM m to).ways to).2.1)) ∧ (((lookM m to).bests to).1 ≤ S ∧ (((lookM m to).bests to).1 = S → D ≤ ((lookM m to).bests to).2)) := by
  have ew : (lookM m to).ways to = pkD m to 6 := by unfold lookM; rw [if_neg hne]; exact updW_same _ _ _
  have eb : (lookM m to).bests to = if (pkD m to 6).2.2 ≠ -1 ∧ bet (pkD m to 6).1 (pkD m to 6).2.1 (m.bests to).1 (m.bests to).2 = true then ((pkD m to 6).1, (pkD m to 6).2.1) else m.bests to := by
    unfold lookM
    rw [if_neg hne]
    dsimp only
    split
    · exact updW_same _ _ _
    · rfl
  have hw : (pkD m to 6).1 ≤ S ∧ ((pkD m to 6).1 = S → D ≤ (pkD m to 6).2.1) := by
    rcases pkD_is m to with ⟨k, hk, mk, hw, _⟩ | ⟨_, hw⟩
    · obtain ⟨c0, _, _⟩ := may_iff.1 mk
      rw [hw]; exact lb k hk c0
    · rw [hw]; exact ⟨hb.1, fun _ => h200⟩
  refine ⟨by rw [ew]; exact hw, ?_⟩
  rw [eb]
  split
  · exact hw
  · exact hb

end Go.Proofs.Ythiojjkgodffnae

/- LINKS AS NUMBERS: what they cost, and how far it is. No Go here. -/
namespace Go.Proofs.Ythiojjkgodffnae

/-- Costs of links: the same from both ends, none of a node with itself. -/
structure Lk (c : Nat → Nat → Nat) : Prop where
  sym : ∀ a b, c a b = c b a
  self : ∀ a, c a a = 0
  le : ∀ a b, c a b ≤ 15

/-- The least of d n and of what comes by the first j nodes. -/
def via (c : Nat → Nat → Nat) (d : Nat → Nat) (n : Nat) : Nat → Nat
  | 0 => d n
  | j + 1 => if 0 < c j n ∧ d j + c j n < via c d n j then d j + c j n else via c d n j
/-- The least cost of a way of at most k links. -/
def wk (c : Nat → Nat → Nat) (f : Int) : Nat → Nat → Nat
  | 0, n => if (n : Int) = f then 0 else 200
  | k + 1, n => via c (wk c f k) n 6

theorem via_le (c : Nat → Nat → Nat) (d : Nat → Nat) (n : Nat) : ∀ j, via c d n j ≤ d n
  | 0 => Nat.le_refl _
  | j + 1 => by
    have := via_le c d n j
    rw [via]; split <;> omega
theorem via_by (c : Nat → Nat → Nat) (d : Nat → Nat) (n : Nat) : ∀ j i, i < j → 0 < c i n → via c d n j ≤ d i + c i n
  | 0, i, h, _ => by omega
  | j + 1, i, h, hc => by
    rw [via]
    by_cases e : i = j
    · subst e
      split <;> omega
    · have := via_by c d n j i (by omega) hc
      split <;> omega
theorem via_is (c : Nat → Nat → Nat) (d : Nat → Nat) (n : Nat) : ∀ j, via c d n j = d n ∨ ∃ i, i < j ∧ 0 < c i n ∧ via c d n j = d i + c i n
  | 0 => .inl rfl
  | j + 1 => by
    rw [via]
    split
    · next h => exact .inr ⟨j, by omega, h.1, rfl⟩
    · rcases via_is c d n j with h | ⟨i, h1, h2, h3⟩
      · exact .inl h
      · exact .inr ⟨i, by omega, h2, h3⟩
theorem via_congr (c : Nat → Nat → Nat) (d e : Nat → Nat) (n : Nat) (hn : d n = e n) : ∀ j, (∀ i, i < j → d i = e i) → via c d n j = via c e n j
  | 0, _ => hn
  | j + 1, h => by
    rw [via, via, via_congr c d e n hn j (fun i hi => h i (by omega)), h j (by omega)]
theorem wk_anti (c : Nat → Nat → Nat) (f : Int) (k n : Nat) : wk c f (k + 1) n ≤ wk c f k n := via_le _ _ _ _
theorem wk_le (c : Nat → Nat → Nat) (f : Int) : ∀ k n, wk c f k n ≤ 200
  | 0, n => by rw [wk]; split <;> omega
  | k + 1, n => Nat.le_trans (wk_anti c f k n) (wk_le c f k n)
theorem wk_mono (c : Nat → Nat → Nat) (f : Int) (k n : Nat) : ∀ j, wk c f (k + j) n ≤ wk c f k n
  | 0 => Nat.le_refl _
  | j + 1 => Nat.le_trans (wk_anti c f (k + j) n) (wk_mono c f k n j)
theorem wk_le_of (c : Nat → Nat → Nat) (f : Int) {k j : Nat} (h : k ≤ j) (n : Nat) : wk c f j n ≤ wk c f k n := by
  have := wk_mono c f k n (j - k)
  rwa [show k + (j - k) = j by omega] at this

def sum6 (d : Nat → Nat) : Nat := d 0 + d 1 + d 2 + d 3 + d 4 + d 5
theorem six {n : Nat} (h : n < 6) : n = 0 ∨ n = 1 ∨ n = 2 ∨ n = 3 ∨ n = 4 ∨ n = 5 := by omega
theorem wk_stops (c : Nat → Nat → Nat) (f : Int) : ∀ s k, sum6 (wk c f k) ≤ s → ∃ K, ∀ n, n < 6 → wk c f (K + 1) n = wk c f K n := by
  intro s
  induction s with
  | zero =>
    intro k h
    refine ⟨k, fun n hn => ?_⟩
    have a := wk_anti c f k n
    unfold sum6 at h
    rcases six hn with rfl | rfl | rfl | rfl | rfl | rfl <;> omega
  | succ s ih =>
    intro k h
    have a0 := wk_anti c f k 0
    have a1 := wk_anti c f k 1
    have a2 := wk_anti c f k 2
    have a3 := wk_anti c f k 3
    have a4 := wk_anti c f k 4
    have a5 := wk_anti c f k 5
    by_cases e : sum6 (wk c f (k + 1)) = sum6 (wk c f k)
    · refine ⟨k, fun n hn => ?_⟩
      unfold sum6 at e
      rcases six hn with rfl | rfl | rfl | rfl | rfl | rfl <;> omega
    · refine ih (k + 1) ?_
      unfold sum6 at *
      omega

/-- What it comes to. -/
structure Lm (c : Nat → Nat → Nat) (f : Int) (L : Nat → Nat) : Prop where
  le : ∀ k n, n < 6 → L n ≤ wk c f k n
  at_ : ∃ K, ∀ n, n < 6 → L n = wk c f K n

theorem lm_is (c : Nat → Nat → Nat) (f : Int) : ∃ L, Lm c f L := by
  obtain ⟨K, hK⟩ := wk_stops c f (sum6 (wk c f 0)) 0 (Nat.le_refl _)
  have st : ∀ j n, n < 6 → wk c f (K + j) n = wk c f K n := by
    intro j
    induction j with
    | zero => intro n _; rfl
    | succ j ih =>
      intro n hn
      rw [← hK n hn]
      show via c (wk c f (K + j)) n 6 = via c (wk c f K) n 6
      exact via_congr c _ _ n (ih n hn) 6 ih
  refine ⟨wk c f K, fun k n hn => ?_, K, fun n _ => rfl⟩
  by_cases h : k ≤ K
  · exact wk_le_of c f h n
  · have := st (k - K) n hn
    rw [show K + (k - K) = k by omega] at this
    rw [this]; exact Nat.le_refl _
theorem Lm.edge {c : Nat → Nat → Nat} {f : Int} {L : Nat → Nat} (h : Lm c f L) {m n : Nat} (hm : m < 6) (hn : n < 6) (hc : 0 < c m n) : L n ≤ L m + c m n := by
  obtain ⟨K, hK⟩ := h.at_
  have h1 := h.le (K + 1) n hn
  have h2 : wk c f (K + 1) n ≤ wk c f K m + c m n := via_by c _ n 6 m hm hc
  rw [← hK m hm] at h2
  omega
theorem wk_last (c : Nat → Nat → Nat) (f : Int) : ∀ k n, wk c f k n = wk c f 0 n ∨ ∃ m j, m < 6 ∧ 0 < c m n ∧ wk c f k n = wk c f j m + c m n
  | 0, _ => .inl rfl
  | k + 1, n => by
    rcases via_is c (wk c f k) n 6 with h | ⟨i, h1, h2, h3⟩
    · rcases wk_last c f k n with e | ⟨m, j, h4, h5, h6⟩
      · exact .inl (h.trans e)
      · exact .inr ⟨m, j, h4, h5, h.trans h6⟩
    · exact .inr ⟨i, k, h1, h2, h3⟩
theorem Lm.last {c : Nat → Nat → Nat} {f : Int} {L : Nat → Nat} (h : Lm c f L) {n : Nat} (hn : n < 6) : L n = wk c f 0 n ∨ ∃ m, m < 6 ∧ 0 < c m n ∧ L n = L m + c m n := by
  obtain ⟨K, hK⟩ := h.at_
  rcases wk_last c f K n with e | ⟨m, j, h1, h2, h3⟩
  · exact .inl ((hK n hn).trans e)
  · have h4 := h.le j m h1
    have h5 := h.edge h1 hn h2
    have h6 := hK n hn
    exact .inr ⟨m, h1, h2, by omega⟩

theorem countP_lt {α : Type} (p q : α → Bool) : ∀ l : List α, (∀ x ∈ l, p x = true → q x = true) → (∃ x ∈ l, q x = true ∧ p x = false) → l.countP p < l.countP q
  | [], _, h => by obtain ⟨x, hx, _⟩ := h; cases hx
  | y :: l, hi, h => by
    have hm : l.countP p ≤ l.countP q := List.countP_mono_left (fun x hx => hi x (List.mem_cons_of_mem _ hx))
    obtain ⟨x, hx, h1, h2⟩ := h
    rw [List.countP_cons, List.countP_cons]
    rcases List.mem_cons.1 hx with rfl | hx
    · simp only [h1, h2, if_true]
      simp
      omega
    · have := countP_lt p q l (fun x hx => hi x (List.mem_cons_of_mem _ hx)) ⟨x, hx, h1, h2⟩
      by_cases hp : p y = true
      · simp only [hp, hi y (by simp) hp, if_true]; omega
      · rw [if_neg hp]; omega
theorem least_of (L : Nat → Nat) (p : Nat → Prop) : ∀ s n, L n ≤ s → n < 6 → p n → ∃ m, m < 6 ∧ p m ∧ ∀ i, i < 6 → p i → L m ≤ L i := by
  intro s
  induction s with
  | zero => intro n h hn hp; exact ⟨n, hn, hp, fun i _ _ => by omega⟩
  | succ s ih =>
    intro n h hn hp
    by_cases e : ∃ i, i < 6 ∧ p i ∧ L i < L n
    · obtain ⟨i, h1, h2, h3⟩ := e
      exact ih i (by omega) h1 h2
    · refine ⟨n, hn, hp, fun i hi hpi => ?_⟩
      exact Nat.le_of_not_lt (fun hlt => e ⟨i, hi, hpi, hlt⟩)

theorem wk_none (c : Nat → Nat → Nat) (f : Int) (hf : ¬ (0 ≤ f ∧ f < 6)) : ∀ k n, n < 6 → wk c f k n = 200
  | 0, n, hn => by rw [wk, if_neg (by omega)]
  | k + 1, n, hn => by
    rcases via_is c (wk c f k) n 6 with h | ⟨i, h1, h2, h3⟩
    · exact h.trans (wk_none c f hf k n hn)
    · have e := wk_none c f hf k i h1
      have l := wk_le c f (k + 1) n
      rw [wk] at l ⊢
      omega

/-- Five links are enough. -/
theorem wk_five {c : Nat → Nat → Nat} {f : Int} {L : Nat → Nat} (h : Lm c f L) : ∀ n, n < 6 → wk c f 5 n = L n := by
  by_cases hf : 0 ≤ f ∧ f < 6
  · have key : ∀ k, (∀ n, n < 6 → wk c f k n = L n) ∨ k + 1 ≤ (List.range 6).countP (fun n => decide (wk c f k n = L n)) := by
      intro k
      induction k with
      | zero =>
        right
        have e : wk c f 0 f.toNat = L f.toNat := by
          have := h.le 0 f.toNat (by omega)
          rw [wk, if_pos (by omega)] at this ⊢
          omega
        exact List.countP_pos_iff.2 ⟨f.toNat, List.mem_range.2 (by omega), by simp [e]⟩
      | succ k ih =>
        have up : ∀ n, n < 6 → wk c f k n = L n → wk c f (k + 1) n = L n := by
          intro n hn e
          have h1 := h.le (k + 1) n hn
          have h2 := wk_anti c f k n
          omega
        rcases ih with ih | ih
        · exact .inl fun n hn => up n hn (ih n hn)
        · by_cases hall : ∀ n, n < 6 → wk c f k n = L n
          · exact .inl fun n hn => up n hn (hall n hn)
          · right
            have : ∃ n, n < 6 ∧ wk c f k n ≠ L n := Classical.byContradiction fun hne => hall fun n hn => Classical.byContradiction fun e => hne ⟨n, hn, e⟩
            obtain ⟨n0, hn0, hp0⟩ := this
            obtain ⟨n, hn, hp, hmin⟩ := least_of L (fun n => wk c f k n ≠ L n) (L n0) n0 (Nat.le_refl _) hn0 hp0
            have hnew : wk c f (k + 1) n = L n := by
              rcases h.last hn with e | ⟨m, hm, hc, e⟩
              · exfalso
                have h1 := h.le k n hn
                have h2 := wk_le_of c f (Nat.zero_le k) n
                omega
              · have hk : wk c f k m = L m := by
                  refine Classical.byContradiction fun hne => ?_
                  have := hmin m hm hne
                  omega
                have h1 := h.le (k + 1) n hn
                have h2 : wk c f (k + 1) n ≤ wk c f k m + c m n := via_by c _ n 6 m hm hc
                omega
            have hlt := countP_lt (fun n => decide (wk c f k n = L n)) (fun n => decide (wk c f (k + 1) n = L n)) (List.range 6)
              (fun x hx hpx => by
                have := up x (List.mem_range.1 hx) (of_decide_eq_true hpx)
                exact decide_eq_true this)
              ⟨n, List.mem_range.2 hn, decide_eq_true hnew, decide_eq_false hp⟩
            omega
    rcases key 5 with hk | hk
    · exact hk
    · have hl : (List.range 6).countP (fun n => decide (wk c f 5 n = L n)) = (List.range 6).length := by
        have := List.countP_le_length (p := fun n => decide (wk c f 5 n = L n)) (l := List.range 6)
        simp only [List.length_range] at this ⊢
        omega
      intro n hn
      have := List.countP_eq_length.1 hl n (List.mem_range.2 hn)
      exact of_decide_eq_true this
  · intro n hn
    obtain ⟨K, hK⟩ := h.at_
    rw [hK n hn, wk_none c f hf 5 n hn, wk_none c f hf K n hn]

/-- How far it is. -/
def dst (c : Nat → Nat → Nat) (f : Int) (n : Nat) : Nat := wk c f 5 n
theorem dst_lm (c : Nat → Nat → Nat) (f : Int) : Lm c f (dst c f) := by
  obtain ⟨L, h⟩ := lm_is c f
  have e : ∀ n, n < 6 → dst c f n = L n := wk_five h
  refine ⟨fun k n hn => by rw [e n hn]; exact h.le k n hn, ?_⟩
  obtain ⟨K, hK⟩ := h.at_
  exact ⟨K, fun n hn => by rw [e n hn]; exact hK n hn⟩
theorem dst_le (c : Nat → Nat → Nat) (f : Int) (n : Nat) : dst c f n ≤ 200 := wk_le c f 5 n
theorem dst_self (c : Nat → Nat → Nat) {f : Nat} (h : f < 6) : dst c f f = 0 := by
  have := (dst_lm c f).le 0 f h
  rw [wk, if_pos rfl] at this
  omega
theorem dst_edge (c : Nat → Nat → Nat) (f : Int) {m n : Nat} (hm : m < 6) (hn : n < 6) (hc : 0 < c m n) : dst c f n ≤ dst c f m + c m n := (dst_lm c f).edge hm hn hc
theorem dst_last (c : Nat → Nat → Nat) (f : Int) {n : Nat} (hn : n < 6) (hf : (n : Int) ≠ f) (hl : dst c f n < 200) : ∃ m, m < 6 ∧ 0 < c m n ∧ dst c f n = dst c f m + c m n := by
  rcases (dst_lm c f).last hn with e | e
  · rw [wk, if_neg hf] at e; omega
  · exact e
/-- Nothing is greater that no link shortens. -/
theorem dst_most (c : Nat → Nat → Nat) (f : Int) (e : Nat → Nat) (h0 : ∀ n, n < 6 → e n ≤ wk c f 0 n) (h1 : ∀ m n, m < 6 → n < 6 → 0 < c m n → e n ≤ e m + c m n) : ∀ n, n < 6 → e n ≤ dst c f n := by
  have : ∀ k n, n < 6 → e n ≤ wk c f k n := by
    intro k
    induction k with
    | zero => exact h0
    | succ k ih =>
      intro n hn
      rcases via_is c (wk c f k) n 6 with h | ⟨i, h2, h3, h4⟩
      · rw [wk, h]; exact ih n hn
      · rw [wk, h4]
        have := ih i h2
        have := h1 i n h2 hn h3
        omega
  exact this 5
theorem dst_is (c : Nat → Nat → Nat) (f : Int) {d : Nat → Nat} {k : Nat} (h5 : 5 ≤ k) (h1 : ∀ n, n < 6 → dst c f n ≤ d n) (h2 : ∀ n, n < 6 → d n ≤ wk c f k n) : ∀ n, n < 6 → d n = dst c f n := by
  intro n hn
  have a := h1 n hn
  have b := h2 n hn
  have e := wk_le_of c f h5 n
  unfold dst at *
  omega

/-- Not farther than by any node between. -/
theorem dst_tri (c : Nat → Nat → Nat) {a b : Nat} (hb : b < 6) {n : Nat} (hn : n < 6) : dst c a n ≤ dst c a b + dst c b n := by
  have := dst_most c b (fun n => dst c a n - dst c a b) (fun n hn => by
    rw [wk]
    split
    · next e => have : n = b := by omega
                subst this; omega
    · have := dst_le c a n; omega) (fun m n hm hn hc => by
      have := dst_edge c a hm hn hc
      omega) n hn
  omega
theorem dst_link (c : Nat → Nat → Nat) {a b : Nat} (ha : a < 6) (hb : b < 6) (hc : 0 < c a b) : dst c a b ≤ c a b := by
  have h1 := dst_edge c a ha hb hc
  rw [dst_self c ha] at h1
  omega
/-- As far there as back. -/
theorem dst_back {c : Nat → Nat → Nat} (hc : Lk c) {a b : Nat} (ha : a < 6) (hb : b < 6) : dst c a b = dst c b a := by
  have half : ∀ {x y : Nat}, x < 6 → y < 6 → dst c y x ≤ dst c x y := by
    intro x y hx hy
    refine dst_most c x (fun n => dst c n x) (fun n hn => ?_) (fun m n hm hn hmn => ?_) y hy
    · rw [wk]
      split
      · next e => have : n = x := by omega
                  subst this; rw [dst_self c hn]; exact Nat.le_refl _
      · exact dst_le c _ _
    · show dst c n x ≤ dst c m x + c m n
      have h1 := dst_tri c (a := n) hm hx
      have h2 := dst_link c hn hm (by rw [hc.sym]; exact hmn)
      rw [hc.sym n m] at h2
      omega
  have h1 := half ha hb
  have h2 := half hb ha
  omega
/-- Some link leads on the least way. -/
theorem dst_first {c : Nat → Nat → Nat} (hc : Lk c) {a b : Nat} (ha : a < 6) (hb : b < 6) (hne : a ≠ b) (hl : dst c a b < 200) : ∃ m, m < 6 ∧ 0 < c a m ∧ c a m + dst c m b = dst c a b := by
  rw [dst_back hc ha hb] at hl ⊢
  obtain ⟨m, hm, h1, h2⟩ := dst_last c b ha (by omega) hl
  refine ⟨m, hm, by rw [hc.sym]; exact h1, ?_⟩
  rw [dst_back hc hm hb, h2, hc.sym a m]
  omega

/-- Another cost of one link. -/
def setC (c : Nat → Nat → Nat) (a b v : Nat) : Nat → Nat → Nat := fun i j => if (i = a ∧ j = b) ∨ (i = b ∧ j = a) then v else c i j
theorem Lk.set {c : Nat → Nat → Nat} (h : Lk c) {a b v : Nat} (hne : a ≠ b) (hv : v ≤ 15) : Lk (setC c a b v) := by
  refine ⟨fun i j => ?_, fun i => ?_, fun i j => ?_⟩
  · unfold setC
    rw [h.sym i j]
    by_cases e : (i = a ∧ j = b) ∨ (i = b ∧ j = a)
    · rw [if_pos e, if_pos (by omega)]
    · rw [if_neg e, if_neg (by omega)]
  · unfold setC
    rw [if_neg (by omega)]; exact h.self i
  · unfold setC
    split
    · exact hv
    · exact h.le i j
theorem lk_zero : Lk (fun _ _ => 0) := ⟨fun _ _ => rfl, fun _ => rfl, fun _ _ => by omega⟩
/-- More or cheaper links: no farther. -/
theorem dst_less {c e : Nat → Nat → Nat} (h : ∀ i j, 0 < c i j → 0 < e i j ∧ e i j ≤ c i j) (f : Int) : ∀ n, n < 6 → dst e f n ≤ dst c f n :=
  dst_most c f (dst e f) (fun n hn => (dst_lm e f).le 0 n hn) (fun m n hm hn hc => by
    obtain ⟨h1, h2⟩ := h m n hc
    have := dst_edge e f hm hn h1
    omega)
theorem setC_less {c : Nat → Nat → Nat} {a b v : Nat} (hc : Lk c) (h : 0 < v ∧ (c a b = 0 ∨ v ≤ c a b)) : ∀ i j, 0 < c i j → 0 < setC c a b v i j ∧ setC c a b v i j ≤ c i j := by
  intro i j hij
  unfold setC
  by_cases e : (i = a ∧ j = b) ∨ (i = b ∧ j = a)
  · rw [if_pos e]
    have : c i j = c a b := by
      rcases e with ⟨rfl, rfl⟩ | ⟨rfl, rfl⟩
      · rfl
      · exact hc.sym _ _
    omega
  · rw [if_neg e]; omega
theorem setC_more {c : Nat → Nat → Nat} {a b v : Nat} (hc : Lk c) (h : 0 < c a b ∧ (v = 0 ∨ c a b ≤ v)) : ∀ i j, 0 < setC c a b v i j → 0 < c i j ∧ c i j ≤ setC c a b v i j := by
  intro i j hij
  unfold setC at hij ⊢
  by_cases e : (i = a ∧ j = b) ∨ (i = b ∧ j = a)
  · rw [if_pos e] at hij ⊢
    have : c i j = c a b := by
      rcases e with ⟨rfl, rfl⟩ | ⟨rfl, rfl⟩
      · rfl
      · exact hc.sym _ _
    omega
  · rw [if_neg e] at hij ⊢; omega
theorem setC_same {c : Nat → Nat → Nat} {a b v : Nat} (hc : Lk c) (h : c a b = v) : setC c a b v = c := by
  funext i j
  unfold setC
  by_cases e : (i = a ∧ j = b) ∨ (i = b ∧ j = a)
  · rw [if_pos e]
    rcases e with ⟨rfl, rfl⟩ | ⟨rfl, rfl⟩
    · exact h.symm
    · rw [hc.sym]; exact h.symm
  · rw [if_neg e]
/-- By a link more, or a cheaper one: as it was, or by that link. -/
theorem dst_by {c : Nat → Nat → Nat} {a b v : Nat} (hc : Lk c) (ha : a < 6) (hb : b < 6) (hne : a ≠ b) (hv : v ≤ 15) (h : 0 < v ∧ (c a b = 0 ∨ v ≤ c a b)) {n m : Nat} (hn : n < 6) (hm : m < 6) :
    dst (setC c a b v) n m = min (dst c n m) (min (dst c n a + v + dst c b m) (dst c n b + v + dst c a m)) := by
  have hl := setC_less hc h
  have le : ∀ {x y : Nat}, x < 6 → y < 6 → dst (setC c a b v) x y ≤ dst c x y := fun {x y} _ hy => dst_less hl x y hy
  have eab : setC c a b v a b = v := by unfold setC; rw [if_pos (by omega)]
  have eba : setC c a b v b a = v := by unfold setC; rw [if_pos (by omega)]
  have lab := dst_link (setC c a b v) ha hb (by omega)
  have lba := dst_link (setC c a b v) hb ha (by omega)
  apply Nat.le_antisymm
  · have h1 := le hn hm
    have h2 := dst_tri (setC c a b v) (a := n) ha hm
    have h3 := dst_tri (setC c a b v) (a := a) hb hm
    have h4 := dst_tri (setC c a b v) (a := n) hb hm
    have h5 := dst_tri (setC c a b v) (a := b) ha hm
    have h6 := le hn ha
    have h7 := le hb hm
    have h8 := le hn hb
    have h9 := le ha hm
    omega
  · refine dst_most (setC c a b v) n (fun m => min (dst c n m) (min (dst c n a + v + dst c b m) (dst c n b + v + dst c a m))) (fun m hm => ?_) (fun i j hi hj hij => ?_) m hm
    · have := (dst_lm c n).le 0 m hm
      show min (dst c n m) _ ≤ wk (setC c a b v) n 0 m
      have e : wk (setC c a b v) (n : Int) 0 m = wk c n 0 m := rfl
      omega
    · show min (dst c n j) (min (dst c n a + v + dst c b j) (dst c n b + v + dst c a j)) ≤ min (dst c n i) (min (dst c n a + v + dst c b i) (dst c n b + v + dst c a i)) + setC c a b v i j
      by_cases e : (i = a ∧ j = b) ∨ (i = b ∧ j = a)
      · have sa := dst_self c ha
        have sb := dst_self c hb
        rcases e with ⟨rfl, rfl⟩ | ⟨rfl, rfl⟩
        · rw [eab, sb, sa]; omega
        · rw [eba, sb, sa]; omega
      · have es : setC c a b v i j = c i j := by unfold setC; rw [if_neg e]
        rw [es] at hij ⊢
        have h1 := dst_edge c n hi hj hij
        have h2 := dst_edge c a hi hj hij
        have h3 := dst_edge c b hi hj hij
        omega

end Go.Proofs.Ythiojjkgodffnae

/- LINKS AS LISTS, AND BOTH WAYS TO RECKON HOW FAR IT IS. No Go here. -/
namespace Go.Proofs.Ythiojjkgodffnae

def upd (d : Nat → Nat) (i v : Nat) : Nat → Nat := fun j => if j = i then v else d j
abbrev Tri := Nat × Nat × Nat

/-- The links of a, to the first j nodes above it. -/
def rowTo (c : Nat → Nat → Nat) (a : Nat) : Nat → List Tri
  | 0 => []
  | j + 1 => rowTo c a j ++ (if c a (a + 1 + j) = 0 then [] else [(a, a + 1 + j, c a (a + 1 + j))])
/-- The links of the first n nodes. -/
def allTo (c : Nat → Nat → Nat) : Nat → List Tri
  | 0 => []
  | a + 1 => allTo c a ++ rowTo c a (5 - a)
/-- Those with which a is linked, of the first j. -/
def ofTo (c : Nat → Nat → Nat) (a : Nat) : Nat → List Nat
  | 0 => []
  | j + 1 => ofTo c a j ++ (if c a j = 0 then [] else [j])

theorem row_mem (c : Nat → Nat → Nat) (a : Nat) : ∀ j x, x ∈ rowTo c a j ↔ x.1 = a ∧ a < x.2.1 ∧ x.2.1 ≤ a + j ∧ x.2.2 = c a x.2.1 ∧ 0 < c a x.2.1
  | 0, x => by simp only [rowTo, List.not_mem_nil, false_iff]; omega
  | j + 1, x => by
    rw [rowTo, List.mem_append, row_mem c a j x]
    constructor
    · rintro (h | h)
      · obtain ⟨h1, h2, h3, h4, h5⟩ := h
        exact ⟨h1, h2, by omega, h4, h5⟩
      · split at h
        · cases h
        · next e =>
          have := List.mem_singleton.1 h
          subst this
          exact ⟨rfl, by simp only; omega, by simp only; omega, rfl, by simp only; omega⟩
    · rintro ⟨h1, h2, h3, h4, h5⟩
      by_cases e : x.2.1 ≤ a + j
      · exact .inl ⟨h1, h2, e, h4, h5⟩
      · right
        have e2 : x.2.1 = a + 1 + j := by omega
        rw [e2] at h4 h5
        rw [if_neg (by omega)]
        obtain ⟨x1, x2, x3⟩ := x
        simp only at h1 e2 h4
        rw [h1, e2, h4]
        exact List.mem_singleton.2 rfl
theorem all_mem (c : Nat → Nat → Nat) : ∀ n, n ≤ 6 → ∀ x, x ∈ allTo c n ↔ x.1 < n ∧ x.1 < x.2.1 ∧ x.2.1 < 6 ∧ x.2.2 = c x.1 x.2.1 ∧ 0 < c x.1 x.2.1
  | 0, _, x => by simp [allTo]
  | n + 1, hn, x => by
    rw [allTo, List.mem_append, all_mem c n (by omega) x, row_mem]
    constructor
    · rintro (⟨h1, h2, h3, h4, h5⟩ | ⟨h1, h2, h3, h4, h5⟩)
      · exact ⟨by omega, h2, h3, h4, h5⟩
      · rw [← h1] at h4 h5; exact ⟨by omega, by omega, by omega, h4, h5⟩
    · rintro ⟨h1, h2, h3, h4, h5⟩
      by_cases e : x.1 < n
      · exact .inl ⟨e, h2, h3, h4, h5⟩
      · have e2 : x.1 = n := by omega
        rw [e2] at h2 h4 h5
        exact .inr ⟨e2, h2, by omega, h4, h5⟩
theorem of_mem (c : Nat → Nat → Nat) (a : Nat) : ∀ j x, x ∈ ofTo c a j ↔ x < j ∧ 0 < c a x
  | 0, x => by simp [ofTo]
  | j + 1, x => by
    rw [ofTo, List.mem_append, of_mem c a j x]
    constructor
    · rintro (⟨h1, h2⟩ | h)
      · exact ⟨by omega, h2⟩
      · split at h
        · cases h
        · have := List.mem_singleton.1 h
          subst this; exact ⟨by omega, by omega⟩
    · rintro ⟨h1, h2⟩
      by_cases e : x < j
      · exact .inl ⟨e, h2⟩
      · have e2 : x = j := by omega
        subst e2
        rw [if_neg (by omega)]
        exact .inr (List.mem_singleton.2 rfl)
theorem row_len (c : Nat → Nat → Nat) (a : Nat) : ∀ j, (rowTo c a j).length ≤ j
  | 0 => Nat.le_refl _
  | j + 1 => by
    have := row_len c a j
    rw [rowTo, List.length_append]
    split <;> simp <;> omega
theorem all_len (c : Nat → Nat → Nat) : ∀ n, (allTo c n).length ≤ 5 * n
  | 0 => Nat.le_refl _
  | n + 1 => by
    have h1 := all_len c n
    have h2 := row_len c n (5 - n)
    rw [allTo, List.length_append]; omega
theorem of_len (c : Nat → Nat → Nat) (a : Nat) : ∀ j, (ofTo c a j).length ≤ j
  | 0 => Nat.le_refl _
  | j + 1 => by
    have := of_len c a j
    rw [ofTo, List.length_append]
    split <;> simp <;> omega

/-- One link, both ways. -/
def rxa (d : Nat → Nat) (x : Tri) : Nat → Nat := upd d x.1 (min (d x.1) (d x.2.1 + x.2.2))
def rxb (d : Nat → Nat) (x : Tri) : Nat → Nat := upd d x.2.1 (min (d x.2.1) (d x.1 + x.2.2))
def rx (d : Nat → Nat) (x : Tri) : Nat → Nat := rxb (rxa d x) x
def rds (l : List Tri) (d : Nat → Nat) : Nat → Nat → Nat
  | 0 => d
  | k + 1 => l.foldl rx (rds l d k)
theorem rxa_le (d : Nat → Nat) (x : Tri) (n : Nat) : rxa d x n ≤ d n := by
  unfold rxa upd
  split
  · next e => subst e; omega
  · exact Nat.le_refl _
theorem rxb_le (d : Nat → Nat) (x : Tri) (n : Nat) : rxb d x n ≤ d n := by
  unfold rxb upd
  split
  · next e => subst e; omega
  · exact Nat.le_refl _
theorem rx_le (d : Nat → Nat) (x : Tri) (n : Nat) : rx d x n ≤ d n := Nat.le_trans (rxb_le _ _ _) (rxa_le _ _ _)
theorem rx_one (d : Nat → Nat) (x : Tri) : rx d x x.1 ≤ d x.2.1 + x.2.2 := by
  refine Nat.le_trans (rxb_le _ _ _) ?_
  unfold rxa upd
  rw [if_pos rfl]; omega
theorem rx_two (d : Nat → Nat) (x : Tri) : rx d x x.2.1 ≤ d x.1 + x.2.2 := by
  have := rxa_le d x x.1
  show rxb (rxa d x) x x.2.1 ≤ _
  unfold rxb
  show upd _ _ _ _ ≤ _
  rw [upd, if_pos rfl]; omega
theorem fold_le : ∀ (l : List Tri) (d : Nat → Nat) (n : Nat), l.foldl rx d n ≤ d n
  | [], _, _ => Nat.le_refl _
  | x :: l, d, n => Nat.le_trans (fold_le l (rx d x) n) (rx_le d x n)
theorem fold_by : ∀ (l : List Tri) (d : Nat → Nat) (x : Tri), x ∈ l → l.foldl rx d x.1 ≤ d x.2.1 + x.2.2 ∧ l.foldl rx d x.2.1 ≤ d x.1 + x.2.2
  | [], _, _, h => by cases h
  | y :: l, d, x, h => by
    rcases List.mem_cons.1 h with rfl | h
    · exact ⟨Nat.le_trans (fold_le l _ _) (rx_one d x), Nat.le_trans (fold_le l _ _) (rx_two d x)⟩
    · obtain ⟨h1, h2⟩ := fold_by l (rx d y) x h
      exact ⟨Nat.le_trans h1 (Nat.add_le_add_right (rx_le d y _) _), Nat.le_trans h2 (Nat.add_le_add_right (rx_le d y _) _)⟩
theorem rx_low {c : Nat → Nat → Nat} (hc : Lk c) (f : Int) {d : Nat → Nat} {x : Tri} (h1 : x.1 < 6) (h2 : x.2.1 < 6) (h3 : x.2.2 = c x.1 x.2.1) (h4 : 0 < c x.1 x.2.1) (h : ∀ n, n < 6 → dst c f n ≤ d n) : ∀ n, n < 6 → dst c f n ≤ rx d x n := by
  have e1 := dst_edge c f h1 h2 h4
  have e2 := dst_edge c f h2 h1 (by rw [hc.sym]; exact h4)
  rw [hc.sym x.2.1 x.1] at e2
  have a : ∀ n, n < 6 → dst c f n ≤ rxa d x n := by
    intro n hn
    unfold rxa upd
    split
    · next e => subst e; have := h _ h1; have := h _ h2; omega
    · exact h n hn
  intro n hn
  show dst c f n ≤ rxb (rxa d x) x n
  unfold rxb
  rw [upd]
  split
  · next e => subst e; have := a _ h1; have := a _ h2; omega
  · exact a n hn
theorem fold_low {c : Nat → Nat → Nat} (hc : Lk c) (f : Int) : ∀ (l : List Tri) (d : Nat → Nat), (∀ x ∈ l, x.1 < 6 ∧ x.2.1 < 6 ∧ x.2.2 = c x.1 x.2.1 ∧ 0 < c x.1 x.2.1) → (∀ n, n < 6 → dst c f n ≤ d n) → ∀ n, n < 6 → dst c f n ≤ l.foldl rx d n
  | [], _, _, h => h
  | x :: l, d, hl, h => by
    obtain ⟨h1, h2, h3, h4⟩ := hl x (by simp)
    exact fold_low hc f l (rx d x) (fun y hy => hl y (List.mem_cons_of_mem _ hy)) (rx_low hc f h1 h2 h3 h4 h)
/-- The program's reckoning. -/
theorem rds_is {c : Nat → Nat → Nat} (hc : Lk c) (f : Int) {d : Nat → Nat} (h0 : ∀ n, n < 6 → d n = wk c f 0 n) : ∀ n, n < 6 → rds (allTo c 6) d 5 n = dst c f n := by
  have hm : ∀ x ∈ allTo c 6, x.1 < 6 ∧ x.2.1 < 6 ∧ x.2.2 = c x.1 x.2.1 ∧ 0 < c x.1 x.2.1 := fun x hx => by
    obtain ⟨h1, h2, h3, h4, h5⟩ := (all_mem c 6 (by omega) x).1 hx
    exact ⟨h1, h3, h4, h5⟩
  have low : ∀ k, ∀ n, n < 6 → dst c f n ≤ rds (allTo c 6) d k n := by
    intro k
    induction k with
    | zero => intro n hn; rw [rds, h0 n hn]; exact (dst_lm c f).le 0 n hn
    | succ k ih => exact fold_low hc f _ _ hm ih
  have up : ∀ k, ∀ n, n < 6 → rds (allTo c 6) d k n ≤ wk c f k n := by
    intro k
    induction k with
    | zero => intro n hn; rw [rds, h0 n hn]; exact Nat.le_refl _
    | succ k ih =>
      intro n hn
      rw [rds, wk]
      rcases via_is c (wk c f k) n 6 with h | ⟨i, h1, h2, h3⟩
      · rw [h]; exact Nat.le_trans (fold_le _ _ _) (ih n hn)
      · rw [h3]
        have hi := ih i h1
        by_cases e : i < n
        · have := (fold_by (allTo c 6) (rds (allTo c 6) d k) (i, n, c i n) ((all_mem c 6 (by omega) _).2 ⟨h1, e, hn, rfl, h2⟩)).2
          simp only at this
          omega
        · have e2 : n < i := by
            rcases Nat.lt_or_eq_of_le (Nat.le_of_not_lt e) with h | h
            · exact h
            · subst h; rw [hc.self] at h2; omega
          have := (fold_by (allTo c 6) (rds (allTo c 6) d k) (n, i, c n i) ((all_mem c 6 (by omega) _).2 ⟨hn, e2, h1, rfl, by rw [hc.sym]; exact h2⟩)).1
          simp only at this
          rw [hc.sym n i] at this
          omega
  exact dst_is c f (Nat.le_refl 5) (low 5) (up 5)
theorem rds_le {l : List Tri} {d : Nat → Nat} : ∀ k n, rds l d k n ≤ d n
  | 0, _ => Nat.le_refl _
  | k + 1, n => Nat.le_trans (fold_le l _ n) (rds_le k n)

/-- The reference's. -/
def ry (c : Nat → Nat → Nat) (d : Nat → Nat) (a b : Nat) : Nat → Nat := if 0 < c a b ∧ d a < 200 ∧ d a + c a b < d b then upd d b (d a + c a b) else d
def ryr (c : Nat → Nat → Nat) (d : Nat → Nat) (a : Nat) : Nat → Nat → Nat
  | 0 => d
  | j + 1 => ry c (ryr c d a j) a j
def rys (c : Nat → Nat → Nat) (d : Nat → Nat) : Nat → Nat → Nat
  | 0 => d
  | i + 1 => ryr c (rys c d i) i 6
def rdy (c : Nat → Nat → Nat) (d : Nat → Nat) : Nat → Nat → Nat
  | 0 => d
  | k + 1 => rys c (rdy c d k) 6
theorem ry_le (c : Nat → Nat → Nat) (d : Nat → Nat) (a b n : Nat) : ry c d a b n ≤ d n := by
  unfold ry upd
  split
  · next h =>
    show (if n = b then _ else _) ≤ _
    split
    · next e => subst e; omega
    · exact Nat.le_refl _
  · exact Nat.le_refl _
theorem ry_by (c : Nat → Nat → Nat) (d : Nat → Nat) (a b : Nat) (hd : d b ≤ 200) (hc : 0 < c a b) : ry c d a b b ≤ d a + c a b := by
  unfold ry upd
  split
  · show (if b = b then _ else _) ≤ _
    rw [if_pos rfl]; exact Nat.le_refl _
  · next h => omega
theorem ry_low (c : Nat → Nat → Nat) (f : Int) {d : Nat → Nat} {a b : Nat} (ha : a < 6) (hb : b < 6) (h : ∀ n, n < 6 → dst c f n ≤ d n) : ∀ n, n < 6 → dst c f n ≤ ry c d a b n := by
  intro n hn
  unfold ry upd
  split
  · next e =>
    show _ ≤ (if n = b then _ else _)
    split
    · next q => subst q; have := dst_edge c f ha hb e.1; have := h a ha; omega
    · exact h n hn
  · exact h n hn
theorem ryr_le (c : Nat → Nat → Nat) (d : Nat → Nat) (a : Nat) : ∀ j n, ryr c d a j n ≤ d n
  | 0, _ => Nat.le_refl _
  | j + 1, n => Nat.le_trans (ry_le c _ a j n) (ryr_le c d a j n)
theorem ryr_low (c : Nat → Nat → Nat) (f : Int) {d : Nat → Nat} {a : Nat} (ha : a < 6) (h : ∀ n, n < 6 → dst c f n ≤ d n) : ∀ j, j ≤ 6 → ∀ n, n < 6 → dst c f n ≤ ryr c d a j n
  | 0, _ => h
  | j + 1, hj => ry_low c f ha (by omega) (ryr_low c f ha h j (by omega))
theorem ryr_by (c : Nat → Nat → Nat) (d : Nat → Nat) (a : Nat) : ∀ j b, b < j → d b ≤ 200 → 0 < c a b → ryr c d a j b ≤ d a + c a b
  | 0, b, h, _, _ => by omega
  | j + 1, b, h, hd, hc => by
    by_cases e : b = j
    · subst e
      have h1 := ryr_le c d a b b
      have h2 := ry_by c (ryr c d a b) a b (by omega) hc
      have h3 := ryr_le c d a b a
      rw [ryr]; omega
    · exact Nat.le_trans (ry_le c _ a j b) (ryr_by c d a j b (by omega) hd hc)
theorem rys_le (c : Nat → Nat → Nat) (d : Nat → Nat) : ∀ i n, rys c d i n ≤ d n
  | 0, _ => Nat.le_refl _
  | i + 1, n => Nat.le_trans (ryr_le c _ i 6 n) (rys_le c d i n)
theorem rys_low (c : Nat → Nat → Nat) (f : Int) {d : Nat → Nat} (h : ∀ n, n < 6 → dst c f n ≤ d n) : ∀ i, i ≤ 6 → ∀ n, n < 6 → dst c f n ≤ rys c d i n
  | 0, _ => h
  | i + 1, hi => ryr_low c f (by omega) (rys_low c f h i (by omega)) 6 (Nat.le_refl _)
theorem rys_by (c : Nat → Nat → Nat) (d : Nat → Nat) : ∀ i a b, a < i → b < 6 → d b ≤ 200 → 0 < c a b → rys c d i b ≤ d a + c a b
  | 0, a, b, h, _, _, _ => by omega
  | i + 1, a, b, h, hb, hd, hc => by
    by_cases e : a = i
    · subst e
      have h1 := rys_le c d a b
      have h2 := ryr_by c (rys c d a) a 6 b hb (by omega) hc
      have h3 := rys_le c d a a
      rw [rys]; omega
    · exact Nat.le_trans (ryr_le c _ i 6 b) (rys_by c d i a b (by omega) hb hd hc)
theorem rdy_le (c : Nat → Nat → Nat) (d : Nat → Nat) : ∀ k n, rdy c d k n ≤ d n
  | 0, _ => Nat.le_refl _
  | k + 1, n => Nat.le_trans (rys_le c _ 6 n) (rdy_le c d k n)
theorem rdy_is (c : Nat → Nat → Nat) (f : Int) {d : Nat → Nat} (h0 : ∀ n, n < 6 → d n = wk c f 0 n) : ∀ n, n < 6 → rdy c d 6 n = dst c f n := by
  have low : ∀ k, ∀ n, n < 6 → dst c f n ≤ rdy c d k n := by
    intro k
    induction k with
    | zero => intro n hn; rw [rdy, h0 n hn]; exact (dst_lm c f).le 0 n hn
    | succ k ih => exact rys_low c f ih 6 (Nat.le_refl _)
  have up : ∀ k, ∀ n, n < 6 → rdy c d k n ≤ wk c f k n := by
    intro k
    induction k with
    | zero => intro n hn; rw [rdy, h0 n hn]; exact Nat.le_refl _
    | succ k ih =>
      intro n hn
      rw [rdy, wk]
      rcases via_is c (wk c f k) n 6 with h | ⟨i, h1, h2, h3⟩
      · rw [h]; exact Nat.le_trans (rys_le c _ 6 n) (ih n hn)
      · rw [h3]
        have hi := ih i h1
        have hl := ih n hn
        have hw := wk_le c f k n
        have := rys_by c (rdy c d k) 6 i n h1 hn (by omega) h2
        omega
  exact dst_is c f (by omega) (low 6) (up 6)

end Go.Proofs.Ythiojjkgodffnae

/- A NET THAT SETTLES, AS NUMBERS: what one hears of one end when another one tells it all. No Go here. -/
namespace Go.Proofs.Ythiojjkgodffnae

/-- Of the end z two nodes know the same. -/
structure ZEq (m x : Md) (z : Nat) : Prop where
  cost : m.cost = x.cost
  me : m.me = x.me
  heard : ∀ j, m.heard j z = x.heard j z
  ways : m.ways z = x.ways z
  bests : m.bests z = x.bests z
theorem ZEq.refl (m : Md) (z : Nat) : ZEq m m z := ⟨rfl, rfl, fun _ => rfl, rfl, rfl⟩
theorem ZEq.trans {a b c : Md} {z : Nat} (h : ZEq a b z) (k : ZEq b c z) : ZEq a c z := ⟨h.cost.trans k.cost, h.me.trans k.me, fun j => (h.heard j).trans (k.heard j), h.ways.trans k.ways, h.bests.trans k.bests⟩
theorem look_zeq {m x : Md} {z : Nat} (h : ZEq m x z) : ZEq (lookM m z) (lookM x z) z := by
  have hp : pkD m z 6 = pkD x z 6 := pkD_congr h.cost h.heard h.bests 6
  refine ⟨by rw [look_cost, look_cost]; exact h.cost, by rw [look_me, look_me]; exact h.me, fun j => by rw [look_heard, look_heard]; exact h.heard j, ?_, ?_⟩
  · unfold lookM
    by_cases e : z = m.me
    · rw [if_pos e, if_pos (by rw [← h.me]; exact e)]; exact h.ways
    · have e' : ¬ z = x.me := by rw [← h.me]; exact e
      rw [if_neg e, if_neg e']
      dsimp only
      rw [updW_same, updW_same, hp]
  · unfold lookM
    by_cases e : z = m.me
    · rw [if_pos e, if_pos (by rw [← h.me]; exact e)]; exact h.bests
    · have e' : ¬ z = x.me := by rw [← h.me]; exact e
      rw [if_neg e, if_neg e']
      dsimp only
      rw [hp, h.bests]
      split
      · rw [updW_same, updW_same]
      · exact h.bests
theorem heard_z (m : Md) (f z : Nat) (v : Int × Int) (j : Nat) : updW m.heard f (updW (m.heard f) z v) j z = if j = f then v else m.heard j z := by
  by_cases e : j = f
  · rw [e, updW_same, updW_same, if_pos rfl]
  · rw [updW_ne _ _ e, if_neg e]
theorem hear_zeq {m x : Md} {z : Nat} (h : ZEq m x z) (f : Nat) (s d : Int) : ZEq (hearM m f z s d) (hearM x f z s d) z := by
  unfold hearM
  refine look_zeq ⟨h.cost, h.me, fun j => ?_, h.ways, h.bests⟩
  show updW m.heard f (updW (m.heard f) z (s, d)) j z = updW x.heard f (updW (x.heard f) z (s, d)) j z
  rw [heard_z, heard_z, h.heard]
/-- News of another end change nothing. -/
theorem hear_far (m : Md) {f z k : Nat} (hne : z ≠ k) (s d : Int) : ZEq (hearM m f k s d) m z := by
  unfold hearM
  obtain ⟨h1, h2⟩ := look_other { m with heard := updW m.heard f (updW (m.heard f) k (s, d)) } hne
  refine ⟨look_cost _ _, look_me _ _, fun j => ?_, h1, h2⟩
  rw [look_heard]
  exact heard_other m hne (s, d) j
/-- All that one tells another one, of one end. -/
theorem tellAll_z (m : Md) (a : Nat) (w : Nat → Int × Int × Int) (z : Nat) : ∀ j, ZEq (tellAll m a w j) (if z < j then hearM m a z (w z).1 (w z).2.1 else m) z
  | 0 => by rw [if_neg (by omega)]; exact ZEq.refl _ _
  | j + 1 => by
    have ih := tellAll_z m a w z j
    rw [tellAll]
    by_cases e : j = z
    · subst e
      rw [if_neg (by omega)] at ih
      rw [if_pos (by omega)]
      exact hear_zeq ih a _ _
    · refine (hear_far _ (fun q => e q.symm) _ _).trans ?_
      by_cases q : z < j
      · rw [if_pos q] at ih; rw [if_pos (by omega)]; exact ih
      · rw [if_neg q] at ih; rw [if_neg (by omega)]; exact ih

/-- a tells b all, which is heard at once, if they are linked. -/
def tellTo (t : Tn) (a b : Nat) : Tn := if t.cst a b = 0 then t else { t with nd := updW t.nd b (tellAll (t.nd b) a (t.nd a).ways 6) }
def rowT (t : Tn) (a : Nat) : Nat → Tn
  | 0 => t
  | b + 1 => tellTo (rowT t a b) a b
def roundT (t : Tn) : Nat → Tn
  | 0 => t
  | a + 1 => rowT (roundT t a) a 6
def roundsT (t : Tn) : Nat → Tn
  | 0 => t
  | r + 1 => roundT (roundsT t r) 6
def tickT (t : Tn) (a : Nat) : Tn := { t with nd := updW t.nd a (tickM (t.nd a)) }
def tickTo (t : Tn) : Nat → Tn
  | 0 => t
  | n + 1 => tickT (tickTo t n) n
def settleT (t : Tn) (r : Nat) : Tn := roundsT (tickTo { t with news := [] } 6) r
theorem tickTo_news (t : Tn) : ∀ n, (tickTo t n).news = t.news
  | 0 => rfl
  | n + 1 => tickTo_news t n
theorem tickTo_nd (t : Tn) : ∀ n x, (tickTo t n).nd x = if x < n then tickM (t.nd x) else t.nd x
  | 0, x => by rw [if_neg (by omega)]; rfl
  | n + 1, x => by
    show updW (tickTo t n).nd n (tickM ((tickTo t n).nd n)) x = _
    by_cases e : x = n
    · subst e
      rw [updW_same, tickTo_nd t x x, if_neg (by omega), if_pos (by omega)]
    · rw [updW_ne _ _ e, tickTo_nd t n x]
      by_cases q : x < n
      · rw [if_pos q, if_pos (by omega)]
      · rw [if_neg q, if_neg (by omega)]
theorem tellTo_cst (t : Tn) (a b : Nat) : (tellTo t a b).cst = t.cst := by unfold tellTo; split <;> rfl
theorem rowT_cst (t : Tn) (a : Nat) : ∀ b, (rowT t a b).cst = t.cst
  | 0 => rfl
  | b + 1 => by rw [rowT, tellTo_cst, rowT_cst t a b]
theorem roundT_cst (t : Tn) : ∀ a, (roundT t a).cst = t.cst
  | 0 => rfl
  | a + 1 => by rw [roundT, rowT_cst, roundT_cst t a]
theorem roundsT_cst (t : Tn) : ∀ r, (roundsT t r).cst = t.cst
  | 0 => rfl
  | r + 1 => by rw [roundsT, roundT_cst, roundsT_cst t r]
theorem tellTo_news (t : Tn) (a b : Nat) : (tellTo t a b).news = t.news := by unfold tellTo; split <;> rfl
theorem rowT_news (t : Tn) (a : Nat) : ∀ b, (rowT t a b).news = t.news
  | 0 => rfl
  | b + 1 => by rw [rowT, tellTo_news, rowT_news t a b]
theorem roundT_news (t : Tn) : ∀ a, (roundT t a).news = t.news
  | 0 => rfl
  | a + 1 => by rw [roundT, rowT_news, roundT_news t a]
theorem roundsT_news (t : Tn) : ∀ r, (roundsT t r).news = t.news
  | 0 => rfl
  | r + 1 => by rw [roundsT, roundT_news, roundsT_news t r]
theorem settleT_news (t : Tn) (r : Nat) : (settleT t r).news = [] := (roundsT_news _ r).trans (tickTo_news _ 6)
/-- What holds at the beginning, and is kept when linked ones tell each other, holds behind the rounds. -/
theorem rounds_keep {P : Tn → Prop} (h : ∀ t a b, a < 6 → b < 6 → P t → t.cst a b ≠ 0 → P (tellTo t a b)) {t : Tn} (h0 : P t) : ∀ r, P (roundsT t r) := by
  have one : ∀ t a b, a < 6 → b < 6 → P t → P (tellTo t a b) := fun t a b ha hb hp => by
    by_cases e : t.cst a b = 0
    · unfold tellTo; rw [if_pos e]; exact hp
    · exact h t a b ha hb hp e
  have row : ∀ a, a < 6 → ∀ t, P t → ∀ b, b ≤ 6 → P (rowT t a b) := by
    intro a ha t hp b
    induction b with
    | zero => exact fun _ => hp
    | succ b ih => exact fun hb => one _ a b ha (by omega) (ih (by omega))
  have rnd : ∀ t, P t → ∀ a, a ≤ 6 → P (roundT t a) := by
    intro t hp a
    induction a with
    | zero => exact fun _ => hp
    | succ a ih => exact fun ha => row a (by omega) _ (ih (by omega)) 6 (Nat.le_refl _)
  intro r
  induction r with
  | zero => exact h0
  | succ r ih => exact rnd _ ih 6 (Nat.le_refl _)

end Go.Proofs.Ythiojjkgodffnae

/- A NET THAT SETTLES, AS NUMBERS: behind five rounds each way is as short as the links allow. No Go here. -/
namespace Go.Proofs.Ythiojjkgodffnae

/-- The nodes know their links. -/
structure TnC (t : Tn) (c : Nat → Nat → Nat) : Prop where
  lk : Lk c
  me : ∀ a, a < 6 → (t.nd a).me = a
  cost : ∀ a b, a < 6 → b < 6 → (t.nd a).cost b = (c a b : Int)
  cst : ∀ a b, a < 6 → b < 6 → t.cst a b = (c a b : Int)
theorem tellTo_nd (t : Tn) (a b : Nat) (h : t.cst a b ≠ 0) : (tellTo t a b).nd = updW t.nd b (tellAll (t.nd b) a (t.nd a).ways 6) := by unfold tellTo; rw [if_neg h]
theorem tellTo_other (t : Tn) (a : Nat) {b x : Nat} (hx : x ≠ b) : (tellTo t a b).nd x = t.nd x := by
  unfold tellTo
  split
  · rfl
  · exact updW_ne _ _ hx
theorem tellTo_new (t : Tn) (a b z : Nat) (hz : z < 6) (h : t.cst a b ≠ 0) : ZEq ((tellTo t a b).nd b) (hearM (t.nd b) a z ((t.nd a).ways z).1 ((t.nd a).ways z).2.1) z := by
  rw [tellTo_nd t a b h, updW_same]
  have := tellAll_z (t.nd b) a (t.nd a).ways z 6
  rw [if_pos hz] at this
  exact this
theorem TnC.tellTo {t : Tn} {c : Nat → Nat → Nat} (H : TnC t c) (a b : Nat) (h : t.cst a b ≠ 0) : TnC (tellTo t a b) c := by
  have e := tellTo_new t a b 0 (by omega) h
  refine ⟨H.lk, fun x hx => ?_, fun x y hx hy => ?_, fun x y hx hy => by rw [tellTo_cst]; exact H.cst x y hx hy⟩
  · by_cases q : x = b
    · subst q; rw [e.me]; exact (look_me _ _).trans (H.me x hx)
    · rw [tellTo_other t a q]; exact H.me x hx
  · by_cases q : x = b
    · subst q
      rw [e.cost]
      unfold hearM
      rw [look_cost]
      exact H.cost x y hx hy
    · rw [tellTo_other t a q]; exact H.cost x y hx hy
/-- What b knows of z behind hearing a. -/
theorem hear_heard (m : Md) (a z : Nat) (s d : Int) (j : Nat) : (hearM m a z s d).heard j z = if j = a then (s, d) else m.heard j z := by
  unfold hearM
  rw [look_heard]
  exact heard_z m a z (s, d) j
theorem hear_me (m : Md) (a z : Nat) (s d : Int) (h : z = m.me) : (hearM m a z s d).ways z = m.ways z ∧ (hearM m a z s d).bests z = m.bests z := by
  unfold hearM lookM
  rw [if_pos (show z = ({ m with heard := updW m.heard a (updW (m.heard a) z (s, d)) } : Md).me from h)]
  exact ⟨rfl, rfl⟩

/-- Nothing that is known of z is younger than S, nor of that age shorter than the links allow. -/
structure Low (t : Tn) (c : Nat → Nat → Nat) (z : Nat) (S : Int) : Prop where
  heard : ∀ x j, x < 6 → j < 6 → ((t.nd x).heard j z).1 ≤ S ∧ (((t.nd x).heard j z).1 = S → (dst c z j : Int) ≤ ((t.nd x).heard j z).2)
  best : ∀ x, x < 6 → ((t.nd x).bests z).1 ≤ S ∧ (((t.nd x).bests z).1 = S → (dst c z x : Int) ≤ ((t.nd x).bests z).2)
  way : ∀ x, x < 6 → ((t.nd x).ways z).1 ≤ S ∧ (((t.nd x).ways z).1 = S → (dst c z x : Int) ≤ ((t.nd x).ways z).2.1)
  self : (t.nd z).ways z = (S, 0, (z : Int))
/-- The bound of what b has heard, once a has told it. -/
theorem low_lb {t : Tn} {c : Nat → Nat → Nat} (C : TnC t c) {z : Nat} {S : Int} (L : Low t c z S) {a b : Nat} (ha : a < 6) (hb : b < 6) :
    ∀ j, j < 6 → (t.nd b).cost j ≠ 0 → (updW (t.nd b).heard a (updW ((t.nd b).heard a) z (((t.nd a).ways z).1, ((t.nd a).ways z).2.1)) j z).1 ≤ S ∧
      ((updW (t.nd b).heard a (updW ((t.nd b).heard a) z (((t.nd a).ways z).1, ((t.nd a).ways z).2.1)) j z).1 = S → (dst c z b : Int) ≤ (updW (t.nd b).heard a (updW ((t.nd b).heard a) z (((t.nd a).ways z).1, ((t.nd a).ways z).2.1)) j z).2 + (t.nd b).cost j) := by
  intro j hj hcj
  rw [heard_z]
  have hc := C.cost b j hb hj
  have hpos : 0 < c j b := by
    have := C.lk.sym j b
    have : c b j ≠ 0 := fun e => hcj (by rw [hc, e]; rfl)
    omega
  have he := dst_edge c (z : Int) hj hb hpos
  have hs : c b j = c j b := (C.lk.sym b j)
  by_cases e : j = a
  · rw [if_pos e]
    have := L.way a ha
    subst e
    refine ⟨this.1, fun q => ?_⟩
    have := this.2 q
    rw [hc, hs]
    simp only
    omega
  · rw [if_neg e]
    have := L.heard b j hb hj
    refine ⟨this.1, fun q => ?_⟩
    have := this.2 q
    rw [hc, hs]
    omega
theorem Low.tellTo {t : Tn} {c : Nat → Nat → Nat} (C : TnC t c) {z : Nat} (hz : z < 6) {S : Int} (L : Low t c z S) {a b : Nat} (ha : a < 6) (hb : b < 6) (h : t.cst a b ≠ 0) : Low (tellTo t a b) c z S := by
  have E := tellTo_new t a b z hz h
  have hme := C.me b hb
  have hbnd : ((((t.nd a).ways z).1 ≤ S) ∧ (((t.nd a).ways z).1 = S → (dst c z a : Int) ≤ ((t.nd a).ways z).2.1)) := L.way a ha
  have key : b ≠ z → (((hearM (t.nd b) a z ((t.nd a).ways z).1 ((t.nd a).ways z).2.1).ways z).1 ≤ S ∧ (((hearM (t.nd b) a z ((t.nd a).ways z).1 ((t.nd a).ways z).2.1).ways z).1 = S → (dst c z b : Int) ≤ ((hearM (t.nd b) a z ((t.nd a).ways z).1 ((t.nd a).ways z).2.1).ways z).2.1)) ∧ (((hearM (t.nd b) a z ((t.nd a).ways z).1 ((t.nd a).ways z).2.1).bests z).1 ≤ S ∧ (((hearM (t.nd b) a z ((t.nd a).ways z).1 ((t.nd a).ways z).2.1).bests z).1 = S → (dst c z b : Int) ≤ ((hearM (t.nd b) a z ((t.nd a).ways z).1 ((t.nd a).ways z).2.1).bests z).2)) := fun hbz => by
    have hd := dst_le c (z : Int) b
    exact look_bound (m := { t.nd b with heard := updW (t.nd b).heard a (updW ((t.nd b).heard a) z (((t.nd a).ways z).1, ((t.nd a).ways z).2.1)) }) (D := (dst c z b : Int)) (by show z ≠ (t.nd b).me; rw [hme]; exact fun q => hbz q.symm) (by omega) (low_lb C L ha hb) (L.best b hb)
  refine ⟨fun x j hx hj => ?_, fun x hx => ?_, fun x hx => ?_, ?_⟩
  · by_cases q : x = b
    · subst q
      rw [E.heard, hear_heard]
      by_cases e : j = a
      · rw [if_pos e, e]; exact hbnd
      · rw [if_neg e]; exact L.heard x j hx hj
    · rw [tellTo_other t a q]; exact L.heard x j hx hj
  · by_cases q : x = b
    · subst q
      rw [E.bests]
      by_cases e : x = z
      · rw [(hear_me _ a z _ _ (by rw [hme]; exact e.symm)).2]; exact L.best x hx
      · exact (key e).2
    · rw [tellTo_other t a q]; exact L.best x hx
  · by_cases q : x = b
    · subst q
      rw [E.ways]
      by_cases e : x = z
      · rw [(hear_me _ a z _ _ (by rw [hme]; exact e.symm)).1]; exact L.way x hx
      · exact (key e).1
    · rw [tellTo_other t a q]; exact L.way x hx
  · by_cases q : z = b
    · subst q
      rw [E.ways, (hear_me _ a z _ _ (by rw [hme])).1]; exact L.self
    · rw [tellTo_other t a q]; exact L.self

/-- Those of G have the least way to z, and heard it of one of G. -/
structure Gd (t : Tn) (c : Nat → Nat → Nat) (z : Nat) (S : Int) (G : Nat → Prop) : Prop where
  home : G z
  ok : ∀ x, x < 6 → G x → x ≠ z → dst c z x < 200 ∧ (∃ k : Nat, k < 6 ∧ (t.nd x).ways z = (S, (dst c z x : Int), (k : Int)) ∧ 0 < c k x ∧ dst c z k + c k x = dst c z x) ∧ (t.nd x).bests z = (S, (dst c z x : Int)) ∧
    ∃ j, j < 6 ∧ G j ∧ 0 < c j x ∧ (t.nd x).heard j z = (S, (dst c z j : Int)) ∧ dst c z j + c j x = dst c z x
theorem Gd.way {t : Tn} {c : Nat → Nat → Nat} {z : Nat} {S : Int} {G : Nat → Prop} (h : Gd t c z S G) (L : Low t c z S) (hz : z < 6) {a : Nat} (ha : a < 6) (hG : G a) : ((t.nd a).ways z).1 = S ∧ ((t.nd a).ways z).2.1 = (dst c z a : Int) := by
  by_cases e : a = z
  · rw [e, L.self, dst_self c hz]; exact ⟨rfl, rfl⟩
  · obtain ⟨_, ⟨k, _, hw, _, _⟩, _⟩ := h.ok a ha hG e
    rw [hw]; exact ⟨rfl, rfl⟩
theorem Gd.tellTo {t : Tn} {c : Nat → Nat → Nat} (C : TnC t c) {z : Nat} (hz : z < 6) {S : Int} (L : Low t c z S) {G : Nat → Prop} (h : Gd t c z S G) {a b : Nat} (ha : a < 6) (hb : b < 6) (hc : t.cst a b ≠ 0) :
    Gd (tellTo t a b) c z S (fun x => G x ∨ (x = b ∧ G a ∧ dst c z a + c a b = dst c z b ∧ dst c z b < 200)) := by
  have E := tellTo_new t a b z hz hc
  have hme := C.me b hb
  have hcab : 0 < c a b := by
    have : c a b ≠ 0 := fun e => hc (by rw [C.cst a b ha hb, e]; rfl)
    omega
  refine ⟨.inl h.home, fun x hx hG hxz => ?_⟩
  by_cases q : x = b
  · subst q
    obtain ⟨f, hf, hGf, hcf, hh, hdf, h200⟩ : ∃ f, f < 6 ∧ G f ∧ 0 < c f x ∧ (hearM (t.nd x) a z ((t.nd a).ways z).1 ((t.nd a).ways z).2.1).heard f z = (S, (dst c z f : Int)) ∧ dst c z f + c f x = dst c z x ∧ dst c z x < 200 := by
      have new : G a → (hearM (t.nd x) a z ((t.nd a).ways z).1 ((t.nd a).ways z).2.1).heard a z = (S, (dst c z a : Int)) := fun g => by
        obtain ⟨w1, w2⟩ := h.way L hz ha g
        rw [hear_heard, if_pos rfl, w1, w2]
      rcases hG with g | ⟨_, g, g1, g2⟩
      · obtain ⟨g1, _, _, j, hj, hGj, hcj, hhj, hdj⟩ := h.ok x hx g hxz
        refine ⟨j, hj, hGj, hcj, ?_, hdj, g1⟩
        by_cases e : j = a
        · rw [e]; exact new (by rw [← e]; exact hGj)
        · rw [hear_heard, if_neg e]; exact hhj
      · exact ⟨a, ha, g, hcab, new g, g1, g2⟩
    have hcost : (t.nd x).cost f = (c f x : Int) := by rw [C.cost x f hx hf, C.lk.sym x f]
    have hh' : (updW (t.nd x).heard a (updW ((t.nd x).heard a) z (((t.nd a).ways z).1, ((t.nd a).ways z).2.1)) f z) = (S, (dst c z f : Int)) := by
      have := hh
      rw [hear_heard] at this
      rw [heard_z]; exact this
    have lg := look_good (m := { t.nd x with heard := updW (t.nd x).heard a (updW ((t.nd x).heard a) z (((t.nd a).ways z).1, ((t.nd a).ways z).2.1)) }) (S := S) (D := (dst c z x : Int)) (show z ≠ (t.nd x).me by rw [hme]; exact fun e => hxz e.symm) hf (show 0 < (t.nd x).cost f by rw [hcost]; omega) (by dsimp only; rw [hh']) (by dsimp only; rw [hh', hcost]; simp only; omega) (by omega) (low_lb C L ha hx) (L.best x hx)
    obtain ⟨⟨k, hk, hw, hck, hk1, hk2⟩, hbst⟩ := lg
    have L' := Low.tellTo C hz L ha hx hc
    refine ⟨h200, ⟨k, hk, by rw [E.ways]; exact hw, ?_, ?_⟩, by rw [E.bests]; exact hbst, f, hf, .inl hGf, hcf, by rw [E.heard]; exact hh, hdf⟩
    · have h1 : (t.nd x).cost k = (c k x : Int) := by rw [C.cost x k hx hk, C.lk.sym x k]
      have : (t.nd x).cost k ≠ 0 := hck
      omega
    · have h1 : (t.nd x).cost k = (c k x : Int) := by rw [C.cost x k hx hk, C.lk.sym x k]
      have hck' : (t.nd x).cost k ≠ 0 := hck
      have hpos : 0 < c k x := by omega
      have he := dst_edge c (z : Int) hk hx hpos
      have hl := L'.heard x k hx hk
      rw [E.heard, hear_heard] at hl
      have hk1' : (updW (t.nd x).heard a (updW ((t.nd x).heard a) z (((t.nd a).ways z).1, ((t.nd a).ways z).2.1)) k z).1 = S := hk1
      have hk2' : (updW (t.nd x).heard a (updW ((t.nd x).heard a) z (((t.nd a).ways z).1, ((t.nd a).ways z).2.1)) k z).2 + (t.nd x).cost k = (dst c z x : Int) := hk2
      rw [heard_z] at hk1' hk2'
      have hl2 := hl.2 hk1'
      omega
  · rcases hG with g | ⟨e, _⟩
    · obtain ⟨g1, g2, g3, j, hj, hGj, r⟩ := h.ok x hx g hxz
      rw [tellTo_other t a q]
      exact ⟨g1, g2, g3, j, hj, .inl hGj, r⟩
    · exact absurd e q

end Go.Proofs.Ythiojjkgodffnae

/- A NET THAT SETTLES, AS NUMBERS: the rounds. No Go here. -/
namespace Go.Proofs.Ythiojjkgodffnae

structure Sd (t : Tn) (c : Nat → Nat → Nat) (z : Nat) (S : Int) (G : Nat → Prop) : Prop where
  tc : TnC t c
  low : Low t c z S
  gd : Gd t c z S G
/-- x is next on the least way behind i. -/
def Nxt (c : Nat → Nat → Nat) (z i x : Nat) : Prop := 0 < c i x ∧ dst c z i + c i x = dst c z x ∧ dst c z x < 200
theorem Sd.tell {t : Tn} {c : Nat → Nat → Nat} {z : Nat} (hz : z < 6) {S : Int} {G : Nat → Prop} (h : Sd t c z S G) {a b : Nat} (ha : a < 6) (hb : b < 6) :
    ∃ G', Sd (tellTo t a b) c z S G' ∧ (∀ x, G x → G' x) ∧ (G a → Nxt c z a b → G' b) := by
  by_cases e : t.cst a b = 0
  · refine ⟨G, ?_, fun _ g => g, fun _ n => ?_⟩
    · unfold tellTo; rw [if_pos e]; exact h
    · have := h.tc.cst a b ha hb
      have := n.1
      omega
  · exact ⟨fun x => G x ∨ (x = b ∧ G a ∧ dst c z a + c a b = dst c z b ∧ dst c z b < 200), ⟨h.tc.tellTo a b e, h.low.tellTo h.tc hz ha hb e, h.gd.tellTo h.tc hz h.low ha hb e⟩, fun _ g => .inl g, fun g n => .inr ⟨rfl, g, n.2.1, n.2.2⟩⟩
theorem Sd.row {c : Nat → Nat → Nat} {z : Nat} (hz : z < 6) {S : Int} {t : Tn} {G : Nat → Prop} (h : Sd t c z S G) {a : Nat} (ha : a < 6) : ∀ b, b ≤ 6 →
    ∃ G', Sd (rowT t a b) c z S G' ∧ (∀ x, G x → G' x) ∧ ∀ x, x < b → G a → Nxt c z a x → G' x
  | 0, _ => ⟨G, h, fun _ g => g, fun x hx => by omega⟩
  | b + 1, hb => by
    obtain ⟨G1, h1, s1, n1⟩ := Sd.row hz h ha b (by omega)
    obtain ⟨G2, h2, s2, n2⟩ := h1.tell hz ha (show b < 6 by omega)
    refine ⟨G2, h2, fun x g => s2 x (s1 x g), fun x hx g n => ?_⟩
    by_cases e : x = b
    · rw [e]; rw [e] at n; exact n2 (s1 a g) n
    · exact s2 x (n1 x (by omega) g n)
theorem Sd.round {c : Nat → Nat → Nat} {z : Nat} (hz : z < 6) {S : Int} {t : Tn} {G : Nat → Prop} (h : Sd t c z S G) : ∀ a, a ≤ 6 →
    ∃ G', Sd (roundT t a) c z S G' ∧ (∀ x, G x → G' x) ∧ ∀ i x, i < a → x < 6 → G i → Nxt c z i x → G' x
  | 0, _ => ⟨G, h, fun _ g => g, fun i x hi => by omega⟩
  | a + 1, ha => by
    obtain ⟨G1, h1, s1, n1⟩ := Sd.round hz h a (by omega)
    obtain ⟨G2, h2, s2, n2⟩ := h1.row hz (show a < 6 by omega) 6 (Nat.le_refl _)
    refine ⟨G2, h2, fun x g => s2 x (s1 x g), fun i x hi hx g n => ?_⟩
    by_cases e : i = a
    · rw [e] at n g; exact n2 x hx (s1 a g) n
    · exact s2 x (n1 i x (by omega) hx g n)
theorem Sd.rounds {c : Nat → Nat → Nat} {z : Nat} (hz : z < 6) {S : Int} {t : Tn} (h : Sd t c z S (fun x => x = z)) : ∀ r,
    ∃ G, Sd (roundsT t r) c z S G ∧ ∀ x, x < 6 → wk c z r x = dst c z x → dst c z x < 200 → G x
  | 0 => by
    refine ⟨fun x => x = z, h, fun x hx hw hd => ?_⟩
    rw [← hw, wk] at hd
    by_cases e : (x : Int) = (z : Int)
    · omega
    · rw [if_neg e] at hd; omega
  | r + 1 => by
    obtain ⟨G1, h1, n1⟩ := Sd.rounds hz h r
    obtain ⟨G2, h2, s2, n2⟩ := h1.round hz 6 (Nat.le_refl _)
    refine ⟨G2, h2, fun x hx hw hd => ?_⟩
    rw [wk] at hw
    rcases via_is c (wk c z r) x 6 with q | ⟨i, hi, hc, q⟩
    · exact s2 x (n1 x hx (by rw [← q]; exact hw) hd)
    · have l1 := (dst_lm c (z : Int)).le r i hi
      have l2 := dst_edge c (z : Int) hi hx hc
      have e1 : wk c z r i = dst c z i := by omega
      exact n2 i x hi hx (n1 i hi e1 (by omega)) ⟨hc, by omega, hd⟩
theorem wk_stay (c : Nat → Nat → Nat) (f : Int) {r : Nat} (hr : 5 ≤ r) {n : Nat} (hn : n < 6) : wk c f r n = dst c f n := by
  have h1 := (dst_lm c f).le r n hn
  have h2 := wk_le_of c f hr n
  have h3 : dst c f n = wk c f 5 n := rfl
  omega
/-- Behind five rounds all that can be reached have the least way. -/
theorem Sd.all {c : Nat → Nat → Nat} {z : Nat} (hz : z < 6) {S : Int} {t : Tn} (h : Sd t c z S (fun x => x = z)) {r : Nat} (hr : 5 ≤ r) :
    ∃ G, Sd (roundsT t r) c z S G ∧ ∀ x, x < 6 → dst c z x < 200 → G x := by
  obtain ⟨G, h1, h2⟩ := h.rounds hz r
  exact ⟨G, h1, fun x hx hd => h2 x hx (wk_stay c z hr hx) hd⟩

/-- What is not without end is at most five links of fifteen. -/
theorem wk_75 {c : Nat → Nat → Nat} (hc : Lk c) (f : Int) : ∀ k n, n < 6 → wk c f k n = 200 ∨ wk c f k n ≤ 15 * k
  | 0, n, _ => by
    rw [wk]
    split
    · exact .inr (by omega)
    · exact .inl rfl
  | k + 1, n, hn => by
    rw [wk]
    have hle := via_le c (wk c f k) n 6
    have h2 := wk_le c f k n
    rcases via_is c (wk c f k) n 6 with q | ⟨i, hi, _, q⟩
    · rcases wk_75 hc f k n hn with e | e
      · exact .inl (by rw [q, e])
      · exact .inr (by rw [q]; omega)
    · have := hc.le i n
      rcases wk_75 hc f k i hi with e | e
      · rw [q, e] at hle; rw [q, e]; exact .inl (by omega)
      · exact .inr (by rw [q]; omega)
theorem dst_75 {c : Nat → Nat → Nat} (hc : Lk c) (f : Int) {n : Nat} (hn : n < 6) (h : dst c f n < 200) : dst c f n ≤ 75 := by
  rcases wk_75 hc f 5 n hn with e | e
  · have : dst c f n = wk c f 5 n := rfl
    omega
  · exact e
/-- Who is linked with one that can't be reached can't be reached. -/
theorem dst_out {c : Nat → Nat → Nat} (hc : Lk c) (f : Int) {m n : Nat} (hm : m < 6) (hn : n < 6) (h : 0 < c m n) (hd : dst c f n = 200) : dst c f m = 200 := by
  refine Classical.byContradiction fun q => ?_
  have h1 := dst_le c f m
  have h2 := dst_75 hc f hm (by omega)
  have h3 := dst_edge c f hm hn h
  have h4 := hc.le m n
  omega

/-- What holds of a net at all times, as far as settling needs it. -/
structure TnS (t : Tn) (c : Nat → Nat → Nat) : Prop where
  tc : TnC t c
  z : ∀ a, a < 6 → MdZ (t.nd a)
  nl : ∀ a j k, a < 6 → j < 6 → k < 6 → c a j = 0 → (t.nd a).heard j k = (0, 200)
theorem tellAll_zz {x : Md} (h : MdZ x) {m : Md} (hm : MdX m) (me : Nat) : ∀ j, j ≤ 6 → MdZ (tellAll x me m.ways j)
  | 0, _ => h
  | j + 1, hj => by
    obtain ⟨_, t1, t2, t3⟩ := hm.tells (k := j) (by omega)
    exact hear_z (tellAll_zz h hm me j (by omega)) t1 t2 t3
theorem TnS.tellTo {t : Tn} {c : Nat → Nat → Nat} (H : TnS t c) {a b : Nat} (ha : a < 6) (hb : b < 6) (h : t.cst a b ≠ 0) : TnS (tellTo t a b) c := by
  refine ⟨H.tc.tellTo a b h, fun x hx => ?_, fun x j k hx hj hk hc => ?_⟩
  · by_cases q : x = b
    · subst q
      rw [tellTo_nd t a x h, updW_same]
      exact tellAll_zz (H.z x hx) (H.z a ha).x a 6 (Nat.le_refl _)
    · rw [tellTo_other t a q]; exact H.z x hx
  · by_cases q : x = b
    · subst q
      rw [(tellTo_new t a x k hk h).heard, hear_heard]
      by_cases e : j = a
      · exfalso
        have h1 := H.tc.cst a x ha hx
        have h2 := H.tc.lk.sym a x
        rw [e] at hc
        exact h (by rw [h1, h2, hc]; rfl)
      · rw [if_neg e]; exact H.nl x j k hx hj hk hc
    · rw [tellTo_other t a q]; exact H.nl x j k hx hj hk hc
/-- What is known of z, as MdPlain6 has it. -/
def pdOf (t : Tn) (z : Nat) : Pd := { h := fun x j => (t.nd x).heard j z, w := fun x => (t.nd x).ways z, b := fun x => (t.nd x).bests z }
def outB (c : Nat → Nat → Nat) (z : Nat) (x : Nat) : Bool := decide (dst c z x = 200)
theorem pd_ok {t : Tn} {c : Nat → Nat → Nat} (H : TnS t c) {z : Nat} (hz : z < 6) : PdOk (outB c z) (pdOf t z) := by
  refine ⟨fun x hx hU hne => ?_, fun x hx _ => ((H.z x hx).x.tells hz).1, fun x hx _ hd => ?_⟩
  · have hd : dst c z x = 200 := of_decide_eq_true hU
    have hxz : z ≠ x := fun e => by rw [← e, dst_self c hz] at hd; omega
    have hme := H.tc.me x hx
    obtain ⟨j, hj, _, hc, hl, hb⟩ := ((H.z x hx).ok.way z hz (by rw [hme]; exact hxz)).by_ hne (by rw [hme]; exact hxz)
    have hcb := (H.z x hx).ok.cost j
    have e1 := H.tc.cost x j hx hj
    have e2 := H.tc.lk.sym x j
    refine ⟨j, hj, decide_eq_true (dst_out H.tc.lk (z : Int) hj hx (by omega) hd), ?_, hb⟩
    show ((t.nd x).heard j z).2 < 200
    omega
  · show ((t.nd x).ways z).2.1 = 200
    rw [(H.z x hx).x.none_ z hd]
theorem pd_told {t : Tn} {c : Nat → Nat → Nat} (H : TnS t c) {z : Nat} (hz : z < 6) {a b : Nat} (ha : a < 6) (hb : b < 6) (h : t.cst a b ≠ 0) : Told (pdOf t z) (pdOf (tellTo t a b) z) a b := by
  have E := tellTo_new t a b z hz h
  obtain ⟨_, t1, t2, t3⟩ := (H.z a ha).x.tells hz
  refine ⟨?_, fun x j hn => ?_, fun x => ?_⟩
  · show ((tellTo t a b).nd b).heard a z = _
    rw [E.heard, hear_heard, if_pos rfl]; rfl
  · show ((tellTo t a b).nd x).heard j z = (t.nd x).heard j z
    by_cases q : x = b
    · subst q
      rw [E.heard, hear_heard, if_neg (fun e => hn ⟨rfl, e⟩)]
    · rw [tellTo_other t a q]
  · show bet ((t.nd x).bests z).1 ((t.nd x).bests z).2 (((tellTo t a b).nd x).bests z).1 (((tellTo t a b).nd x).bests z).2 = false
    by_cases q : x = b
    · subst q
      rw [E.bests]
      exact (hear_ok (H.z x hb).ok t1 t2 t3).2 z
    · rw [tellTo_other t a q]; exact bet_refl _ _
/-- What is told by one that can be reached, or to one, is of no use here. -/
theorem told_apart {U : Nat → Bool} {P Q : Pd} {a b r : Nat} {done : Nat → Nat → Bool} (hH : Half U P r done) (hT : Told P Q a b) (hU : U a = false) : Half U Q r done := by
  intro x j hx hj hUx hUj
  have eo := hT.old x j (fun e => by rw [e.2, hU] at hUj; cases hUj)
  obtain ⟨h1, h2⟩ := hH x j hx hj hUx hUj
  refine ⟨fun h => ?_, fun hd h => ?_⟩
  · rw [eo] at h ⊢
    exact Nat.le_trans (h1 h) (hT.up.good U _)
  · rw [eo] at h ⊢
    exact Nat.le_trans (h2 hd h) (hT.up.good U _)
structure Hf (t : Tn) (c : Nat → Nat → Nat) (z r : Nat) (done : Nat → Nat → Bool) : Prop where
  s : TnS t c
  half : Half (outB c z) (pdOf t z) r done
theorem Hf.tell {t : Tn} {c : Nat → Nat → Nat} {z : Nat} (hz : z < 6) {r : Nat} {done : Nat → Nat → Bool} (h : Hf t c z r done) {a b : Nat} (ha : a < 6) (hb : b < 6) :
    ∃ done', Hf (tellTo t a b) c z r done' ∧ (∀ x j, done x j = true → done' x j = true) ∧ (outB c z a = true → 0 < c a b → done' b a = true) := by
  by_cases e : t.cst a b = 0
  · refine ⟨done, ?_, fun _ _ g => g, fun _ n => ?_⟩
    · unfold tellTo; rw [if_pos e]; exact h
    · have := h.s.tc.cst a b ha hb
      omega
  · have hT := pd_told h.s hz ha hb e
    by_cases hU : outB c z a = true
    · refine ⟨_, ⟨h.s.tellTo ha hb e, told_half (pd_ok h.s hz) h.half hT ha hU⟩, fun x j g => by simp [g], fun _ _ => by simp⟩
    · refine ⟨done, ⟨h.s.tellTo ha hb e, told_apart h.half hT ?_⟩, fun _ _ g => g, fun q => absurd q hU⟩
      cases q : outB c z a
      · rfl
      · exact absurd q hU
theorem Hf.row {c : Nat → Nat → Nat} {z : Nat} (hz : z < 6) {r : Nat} {t : Tn} {done : Nat → Nat → Bool} (h : Hf t c z r done) {a : Nat} (ha : a < 6) : ∀ b, b ≤ 6 →
    ∃ done', Hf (rowT t a b) c z r done' ∧ (∀ x j, done x j = true → done' x j = true) ∧ ∀ x, x < b → outB c z a = true → 0 < c a x → done' x a = true
  | 0, _ => ⟨done, h, fun _ _ g => g, fun x hx => by omega⟩
  | b + 1, hb => by
    obtain ⟨d1, h1, s1, n1⟩ := Hf.row hz h ha b (by omega)
    obtain ⟨d2, h2, s2, n2⟩ := h1.tell hz ha (show b < 6 by omega)
    refine ⟨d2, h2, fun x j g => s2 x j (s1 x j g), fun x hx g n => ?_⟩
    by_cases e : x = b
    · rw [e]; rw [e] at n; exact n2 g n
    · exact s2 x a (n1 x (by omega) g n)
theorem Hf.round {c : Nat → Nat → Nat} {z : Nat} (hz : z < 6) {r : Nat} {t : Tn} {done : Nat → Nat → Bool} (h : Hf t c z r done) : ∀ a, a ≤ 6 →
    ∃ done', Hf (roundT t a) c z r done' ∧ ∀ i x, i < a → x < 6 → outB c z i = true → 0 < c i x → done' x i = true
  | 0, _ => ⟨done, h, fun i x hi => by omega⟩
  | a + 1, ha => by
    obtain ⟨d1, h1, n1⟩ := Hf.round hz h a (by omega)
    obtain ⟨d2, h2, s2, n2⟩ := h1.row hz (show a < 6 by omega) 6 (Nat.le_refl _)
    refine ⟨d2, h2, fun i x hi hx g n => ?_⟩
    by_cases e : i = a
    · rw [e] at n g; rw [e]; exact n2 x hx g n
    · exact s2 x i (n1 i x (by omega) hx g n)
theorem Hf.rounds {c : Nat → Nat → Nat} {z : Nat} (hz : z < 6) {t : Tn} (h : TnS t c) : ∀ r, Hf (roundsT t r) c z r (fun _ _ => false)
  | 0 => ⟨h, half_zero _ _⟩
  | r + 1 => by
    obtain ⟨d, h1, n1⟩ := (Hf.rounds hz h r).round hz 6 (Nat.le_refl _)
    refine ⟨h1.s, half_round h1.half fun x j hx hj _ hUj hd => ?_⟩
    have e : c j x = 0 := by
      refine Classical.byContradiction fun q => ?_
      have := n1 j x hj hx hUj (by omega)
      rw [this] at hd; cases hd
    have e2 : c x j = 0 := by rw [h1.s.tc.lk.sym x j]; exact e
    show (((roundT (roundsT t r) 6).nd x).heard j z).2 = 200
    rw [h1.s.nl x j z hx hj hz e2]
/-- Behind seven rounds those that can't be reached say so, and nothing else was heard of each other. -/
theorem none_said {c : Nat → Nat → Nat} {z : Nat} (hz : z < 6) {t : Tn} (h : TnS t c) {r : Nat} (hr : 7 ≤ r) {x : Nat} (hx : x < 6) (hd : dst c z x = 200) :
    (((roundsT t r).nd x).ways z).2.2 = -1 ∧ ∀ j, j < 6 → dst c z j = 200 → 200 ≤ (((roundsT t r).nd x).heard j z).2 := by
  have H := Hf.rounds hz h r
  have few : ∀ j, j < 6 → dst c z j = 200 → 200 ≤ (((roundsT t r).nd x).heard j z).2 := fun j hj hdj => by
    refine Classical.byContradiction fun q => ?_
    have h1 := (H.half x j hx hj (decide_eq_true hd) (decide_eq_true hdj)).1 (show (((roundsT t r).nd x).heard j z).2 < 200 by omega)
    have h2 := asGood_le (outB c z) (pdOf (roundsT t r) z) ((pdOf (roundsT t r) z).h x j)
    omega
  refine ⟨Classical.byContradiction fun hne => ?_, few⟩
  obtain ⟨j, hj, hUj, h200, _⟩ := (pd_ok H.s hz).by_ x hx (decide_eq_true hd) hne
  have h1 := few j hj (of_decide_eq_true hUj)
  have : (((roundsT t r).nd x).heard j z).2 < 200 := h200
  omega

end Go.Proofs.Ythiojjkgodffnae

/- A NET AT ALL TIMES, AS NUMBERS: ages are counted at home; it settles. No Go here. -/
namespace Go.Proofs.Ythiojjkgodffnae

def agT (t : Tn) (k : Nat) : Int := ((t.nd k).ways k).1
/-- What holds of a net behind each step. -/
structure TnA (t : Tn) (c : Nat → Nat → Nat) : Prop where
  s : TnS t c
  ok : TnOk t
  heardA : ∀ a f k, a < 6 → f < 6 → k < 6 → ((t.nd a).heard f k).1 ≤ agT t k
  bestA : ∀ a k, a < 6 → k < 6 → ((t.nd a).bests k).1 ≤ agT t k
  newsA : ∀ x ∈ t.news, x.s ≤ agT t x.to
theorem TnA.self {t : Tn} {c : Nat → Nat → Nat} (H : TnA t c) {a : Nat} (ha : a < 6) : 0 ≤ agT t a ∧ (t.nd a).ways a = (agT t a, 0, (a : Int)) ∧ (t.nd a).bests a = (agT t a, 0) := by
  obtain ⟨s, h0, hw, hb⟩ := (H.s.z a ha).ok.self
  rw [H.s.tc.me a ha] at hw hb
  have e : agT t a = s := by unfold agT; rw [hw]
  rw [e]; exact ⟨h0, hw, hb⟩
theorem TnA.wayA {t : Tn} {c : Nat → Nat → Nat} (H : TnA t c) {a k : Nat} (ha : a < 6) (hk : k < 6) : ((t.nd a).ways k).1 ≤ agT t k := by
  by_cases e : k = a
  · subst e; exact Int.le_refl _
  · by_cases hd : ((t.nd a).ways k).2.2 = -1
    · rw [(H.s.z a ha).x.none_ k hd]; exact H.bestA a k ha hk
    · have hme := H.s.tc.me a ha
      obtain ⟨j, hj, hw, _⟩ := ((H.s.z a ha).ok.way k hk (by rw [hme]; exact e)).by_ hd (by rw [hme]; exact e)
      rw [hw]; exact H.heardA a j k ha hj hk
/-- What a look finds is not younger than what was heard and the best. -/
theorem look_age {m : Md} {z : Nat} {A : Int} (hh : ∀ j, j < 6 → (m.heard j z).1 ≤ A) (hb : (m.bests z).1 ≤ A) : ((lookM m z).bests z).1 ≤ A := by
  unfold lookM
  split
  · exact hb
  · dsimp only
    split
    · rw [updW_same]
      rcases pkD_is m z with ⟨k, hk, _, hw, _⟩ | ⟨_, hw⟩
      · rw [hw]; exact hh k hk
      · rw [hw]; exact hb
    · exact hb
theorem look_age' {m : Md} {z k : Nat} {A : Int} (hh : ∀ j, j < 6 → (m.heard j k).1 ≤ A) (hb : (m.bests k).1 ≤ A) : ((lookM m z).bests k).1 ≤ A := by
  by_cases e : k = z
  · subst e; exact look_age hh hb
  · rw [(look_other m e).2]; exact hb
theorem lookTo_age {m : Md} {k : Nat} {A : Int} (hh : ∀ j, j < 6 → (m.heard j k).1 ≤ A) (hb : (m.bests k).1 ≤ A) : ∀ n, ((lookTo m n).bests k).1 ≤ A
  | 0 => hb
  | n + 1 => look_age' (fun j hj => by rw [(lookTo_all m n).2.2.1]; exact hh j hj) (lookTo_age hh hb n)

theorem hear_self' (m : Md) (f z : Nat) (s d : Int) : (hearM m f z s d).ways m.me = m.ways m.me := by
  unfold hearM
  exact (look_self _ z).1

/-- The steps. -/
def sayT (t : Tn) (a b : Nat) : Tn := { t with news := t.news ++ tellT t a b }
def hearT (t : Tn) (x : Nw) : Tn := { t with nd := updW t.nd x.g (hearM (t.nd x.g) x.f x.to x.s x.d) }
def linkT (t : Tn) (a b : Nat) (v : Int) : Tn := { t with cst := cstUp (cstUp t.cst a b v) b a v, nd := updW (updW t.nd a (linkM (t.nd a) b v)) b (linkM (t.nd b) a v) }

theorem TnA.sub {t : Tn} {c : Nat → Nat → Nat} (H : TnA t c) {nw : List Nw} (hn : ∀ x ∈ nw, x ∈ t.news) : TnA { t with news := nw } c :=
  ⟨⟨⟨H.s.tc.lk, H.s.tc.me, H.s.tc.cost, H.s.tc.cst⟩, H.s.z, H.s.nl⟩, H.ok.sub hn, H.heardA, H.bestA, fun x hx => H.newsA x (hn x hx)⟩
theorem TnA.say {t : Tn} {c : Nat → Nat → Nat} (H : TnA t c) {a b : Nat} (ha : a < 6) (hb : b < 6) (hne : a ≠ b) : TnA (sayT t a b) c := by
  refine ⟨⟨⟨H.s.tc.lk, H.s.tc.me, H.s.tc.cost, H.s.tc.cst⟩, H.s.z, H.s.nl⟩, H.ok.tell ha hb hne, H.heardA, H.bestA, fun x hx => ?_⟩
  rcases List.mem_append.1 hx with h | h
  · exact H.newsA x h
  · obtain ⟨k, hk, rfl⟩ := List.mem_map.1 h
    exact H.wayA ha (List.mem_range.1 hk)
theorem TnA.tick {t : Tn} {c : Nat → Nat → Nat} (H : TnA t c) {a : Nat} (ha : a < 6) : TnA (tickT t a) c ∧ (∀ k, agT (tickT t a) k = if k = a then agT t a + 1 else agT t k) := by
  have ew : ∀ x k, k ≠ a → ((tickT t a).nd x).ways k = (t.nd x).ways k ∧ ((tickT t a).nd x).bests k = (t.nd x).bests k := fun x k hk => by
    show (updW t.nd a (tickM (t.nd a)) x).ways k = _ ∧ (updW t.nd a (tickM (t.nd a)) x).bests k = _
    by_cases q : x = a
    · subst q
      rw [updW_same]
      have hm := H.s.tc.me x ha
      exact ⟨updW_ne _ _ (by rw [hm]; exact hk), updW_ne _ _ (by rw [hm]; exact hk)⟩
    · rw [updW_ne _ _ q]; exact ⟨rfl, rfl⟩
  have hag : ∀ k, agT (tickT t a) k = if k = a then agT t a + 1 else agT t k := fun k => by
    by_cases q : k = a
    · subst q
      rw [if_pos rfl]
      show ((updW t.nd k (tickM (t.nd k)) k).ways k).1 = _
      rw [updW_same]
      have hm := H.s.tc.me k ha
      show (updW (t.nd k).ways (t.nd k).me _ k).1 = _
      rw [hm, updW_same]; rfl
    · rw [if_neg q]; unfold agT; rw [(ew k k q).1]
  have hup : ∀ k, agT t k ≤ agT (tickT t a) k := fun k => by
    rw [hag]
    by_cases q : k = a
    · rw [if_pos q, q]; omega
    · rw [if_neg q]; exact Int.le_refl _
  have heq : ∀ x f k, ((tickT t a).nd x).heard f k = (t.nd x).heard f k := fun x f k => by
    show (updW t.nd a (tickM (t.nd a)) x).heard f k = _
    by_cases q : x = a
    · subst q; rw [updW_same]; rfl
    · rw [updW_ne _ _ q]
  have hce : ∀ x, ((tickT t a).nd x).cost = (t.nd x).cost ∧ ((tickT t a).nd x).me = (t.nd x).me := fun x => by
    show (updW t.nd a (tickM (t.nd a)) x).cost = _ ∧ (updW t.nd a (tickM (t.nd a)) x).me = _
    by_cases q : x = a
    · subst q; rw [updW_same]; exact ⟨rfl, rfl⟩
    · rw [updW_ne _ _ q]; exact ⟨rfl, rfl⟩
  refine ⟨⟨⟨⟨H.s.tc.lk, fun x hx => by rw [(hce x).2]; exact H.s.tc.me x hx, fun x y hx hy => by rw [(hce x).1]; exact H.s.tc.cost x y hx hy, H.s.tc.cst⟩, fun x hx => ?_, fun x j k hx hj hk h => by rw [heq]; exact H.s.nl x j k hx hj hk h⟩, H.ok.tick ha, fun x f k hx hf hk => by rw [heq]; exact Int.le_trans (H.heardA x f k hx hf hk) (hup k), fun x k hx hk => ?_, fun x hx => Int.le_trans (H.newsA x hx) (hup x.to)⟩, hag⟩
  · show MdZ (updW t.nd a (tickM (t.nd a)) x)
    by_cases q : x = a
    · subst q; rw [updW_same]; exact tick_z (H.s.z x hx)
    · rw [updW_ne _ _ q]; exact H.s.z x hx
  · by_cases q : k = a
    · subst q
      rw [hag, if_pos rfl]
      show ((updW t.nd k (tickM (t.nd k)) x).bests k).1 ≤ _
      by_cases q2 : x = k
      · subst q2
        rw [updW_same]
        have hm := H.s.tc.me x hx
        show (updW (t.nd x).bests (t.nd x).me _ x).1 ≤ _
        rw [hm, updW_same]; exact Int.le_refl _
      · rw [updW_ne _ _ q2]
        have := H.bestA x k hx hk
        omega
    · rw [(ew x k q).2, hag, if_neg q]; exact H.bestA x k hx hk
theorem TnA.hear {t : Tn} {c : Nat → Nat → Nat} (H : TnA t c) {x : Nw} (hx : x.f < 6 ∧ x.g < 6 ∧ x.f ≠ x.g ∧ x.to < 6 ∧ 0 ≤ x.s ∧ 0 ≤ x.d ∧ x.d ≤ 200 ∧ bet x.s x.d ((t.nd x.f).bests x.to).1 ((t.nd x.f).bests x.to).2 = false) (hs : x.s ≤ agT t x.to) (hc : c x.g x.f ≠ 0) :
    TnA (hearT t x) c ∧ ∀ k, k < 6 → agT (hearT t x) k = agT t k := by
  obtain ⟨h1, h2, h3, h4, h5, h6, h7, h8⟩ := hx
  have hnd : ∀ a, (hearT t x).nd a = if a = x.g then hearM (t.nd x.g) x.f x.to x.s x.d else t.nd a := fun a => by
    show updW t.nd x.g _ a = _
    unfold updW; rfl
  have hag : ∀ k, k < 6 → agT (hearT t x) k = agT t k := fun k hk => by
    unfold agT
    rw [hnd]
    by_cases q : k = x.g
    · rw [if_pos q, q]
      have := hear_self' (t.nd x.g) x.f x.to x.s x.d
      rw [H.s.tc.me x.g h2] at this
      rw [this]
    · rw [if_neg q]
  have hhd : ∀ a f k, ((hearT t x).nd a).heard f k = if a = x.g ∧ f = x.f ∧ k = x.to then (x.s, x.d) else (t.nd a).heard f k := fun a f k => by
    rw [hnd]
    by_cases q : a = x.g
    · rw [if_pos q, q]
      unfold hearM
      rw [look_heard]
      show updW (t.nd x.g).heard x.f (updW ((t.nd x.g).heard x.f) x.to (x.s, x.d)) f k = _
      by_cases q1 : f = x.f
      · rw [q1, updW_same]
        by_cases q2 : k = x.to
        · rw [q2, updW_same, if_pos ⟨rfl, rfl, rfl⟩]
        · rw [updW_ne _ _ q2, if_neg (fun e => q2 e.2.2)]
      · rw [updW_ne _ _ q1, if_neg (fun e => q1 e.2.1)]
    · rw [if_neg q, if_neg (fun e => q e.1)]
  refine ⟨⟨⟨⟨H.s.tc.lk, fun a ha => ?_, fun a b ha hb => ?_, H.s.tc.cst⟩, fun a ha => ?_, fun a j k ha hj hk h => ?_⟩, H.ok.hear ⟨h1, h2, h3, h4, h5, h6, h7, h8⟩, fun a f k ha hf hk => ?_, fun a k ha hk => ?_, fun y hy => ?_⟩, hag⟩
  · rw [hnd]
    split
    · next e => rw [e]; exact (look_me _ _).trans (H.s.tc.me x.g h2)
    · exact H.s.tc.me a ha
  · rw [hnd]
    split
    · next e =>
      rw [e]
      unfold hearM
      rw [look_cost]
      exact H.s.tc.cost x.g b h2 hb
    · exact H.s.tc.cost a b ha hb
  · rw [hnd]
    split
    · exact hear_z (H.s.z x.g h2) h5 h6 h7
    · exact H.s.z a ha
  · rw [hhd, if_neg (fun e => hc (by rw [← e.1, ← e.2.1]; exact h))]
    exact H.s.nl a j k ha hj hk h
  · rw [hag k hk, hhd]
    split
    · next e => rw [e.2.2]; exact hs
    · exact H.heardA a f k ha hf hk
  · rw [hag k hk, hnd]
    split
    · next e =>
      unfold hearM
      refine look_age' (fun j hj => ?_) (by rw [← e]; exact H.bestA a k ha hk)
      have := hhd x.g j k
      rw [hnd, if_pos rfl] at this
      unfold hearM at this
      rw [look_heard] at this
      have this' : updW (t.nd x.g).heard x.f (updW ((t.nd x.g).heard x.f) x.to (x.s, x.d)) j k = if x.g = x.g ∧ j = x.f ∧ k = x.to then (x.s, x.d) else (t.nd x.g).heard j k := this
      show (updW (t.nd x.g).heard x.f (updW ((t.nd x.g).heard x.f) x.to (x.s, x.d)) j k).1 ≤ _
      rw [this']
      split
      · next e2 => rw [e2.2.2]; exact hs
      · exact H.heardA x.g j k h2 hj hk
    · exact H.bestA a k ha hk
  · have := H.newsA y hy
    have h6 := (H.ok.news y hy).2.2.2.1
    rw [hag y.to h6]; exact this

/-- One node of two learns of a link. -/
theorem link_self' (m : Md) (f : Nat) (v : Int) : (linkM m f v).ways m.me = m.ways m.me := by
  unfold linkM
  exact (lookTo_all _ 6).2.2.2.1
theorem link_age {m : Md} {f k : Nat} {v A : Int} (hA : 0 ≤ A) (hh : ∀ j, j < 6 → (m.heard j k).1 ≤ A) (hb : (m.bests k).1 ≤ A) : ((linkM m f v).bests k).1 ≤ A := by
  obtain ⟨m1, hm1⟩ : ∃ m1 : Md, m1 = { m with cost := updW m.cost f v, heard := if v = 0 then updW m.heard f (fun _ => (0, 200)) else m.heard } := ⟨_, rfl⟩
  have el : linkM m f v = lookTo m1 6 := by rw [hm1]; rfl
  rw [el]
  refine lookTo_age (m := m1) (fun j hj => ?_) (by rw [hm1]; exact hb) 6
  rw [hm1]
  show ((if v = 0 then updW m.heard f (fun _ => (0, 200)) else m.heard) j k).1 ≤ A
  split
  · by_cases e : j = f
    · rw [e, updW_same]; exact hA
    · rw [updW_ne _ _ e]; exact hh j hj
  · exact hh j hj
theorem cst_set (c : Nat → Nat → Nat) (cs : Nat → Nat → Int) {a b : Nat} (v : Nat) (h : ∀ i j, i < 6 → j < 6 → cs i j = (c i j : Int)) : ∀ i j, i < 6 → j < 6 → cstUp (cstUp cs a b v) b a v i j = (setC c a b v i j : Int) := by
  intro i j hi hj
  unfold cstUp setC
  by_cases e : i = b ∧ j = a
  · rw [if_pos e, if_pos (.inr e)]
  · rw [if_neg e]
    by_cases e2 : i = a ∧ j = b
    · rw [if_pos e2, if_pos (.inl e2)]
    · rw [if_neg e2, if_neg (fun q => q.elim e2 e)]; exact h i j hi hj
theorem TnA.link {t : Tn} {c : Nat → Nat → Nat} (H : TnA t c) {a b v : Nat} (ha : a < 6) (hb : b < 6) (hne : a ≠ b) (hv : v ≤ 15) : TnA (linkT t a b v) (setC c a b v) ∧ ∀ k, k < 6 → agT (linkT t a b v) k = agT t k := by
  have hba : b ≠ a := fun e => hne e.symm
  have hnd : ∀ x, (linkT t a b v).nd x = if x = b then linkM (t.nd b) a v else if x = a then linkM (t.nd a) b v else t.nd x := fun x => by
    show updW (updW t.nd a _) b _ x = _
    unfold updW; rfl
  have na : (linkT t a b v).nd a = linkM (t.nd a) b v := by rw [hnd, if_neg hne, if_pos rfl]
  have nb : (linkT t a b v).nd b = linkM (t.nd b) a v := by rw [hnd, if_pos rfl]
  have nx : ∀ x, x ≠ a → x ≠ b → (linkT t a b v).nd x = t.nd x := fun x h1 h2 => by rw [hnd, if_neg h2, if_neg h1]
  have hag : ∀ k, k < 6 → agT (linkT t a b v) k = agT t k := fun k hk => by
    unfold agT
    by_cases e : k = a
    · subst e
      have := link_self' (t.nd k) b v
      rw [H.s.tc.me k hk] at this
      rw [na, this]
    · by_cases e2 : k = b
      · subst e2
        have := link_self' (t.nd k) a v
        rw [H.s.tc.me k hk] at this
        rw [nb, this]
      · rw [nx k e e2]
  have hhd : ∀ x f k, ((linkT t a b v).nd x).heard f k = if v = 0 ∧ ((x = a ∧ f = b) ∨ (x = b ∧ f = a)) then (0, 200) else (t.nd x).heard f k := fun x f k => by
    by_cases e : x = a
    · subst e
      rw [na, linkT_heard]
      by_cases q : v = 0 ∧ f = b
      · rw [if_pos ⟨by omega, q.2⟩, if_pos ⟨q.1, .inl ⟨rfl, q.2⟩⟩]
      · rw [if_neg (fun w => q ⟨by omega, w.2⟩), if_neg (fun w => q ⟨w.1, w.2.elim (fun u => u.2) (fun u => absurd u.1 hne)⟩)]
    · by_cases e2 : x = b
      · subst e2
        rw [nb, linkT_heard]
        by_cases q : v = 0 ∧ f = a
        · rw [if_pos ⟨by omega, q.2⟩, if_pos ⟨q.1, .inr ⟨rfl, q.2⟩⟩]
        · rw [if_neg (fun w => q ⟨by omega, w.2⟩), if_neg (fun w => q ⟨w.1, w.2.elim (fun u => absurd u.1 e) (fun u => u.2)⟩)]
      · rw [nx x e e2, if_neg (fun w => w.2.elim (fun u => e u.1) (fun u => e2 u.1))]
  have hok : TnOk (linkT t a b v) := by
    have h1 := H.ok.link (a := a) (b := b) (c := (v : Int)) ha (by omega) (by omega)
    have h2 := h1.link (a := b) (b := a) (c := (v : Int)) hb (by omega) (by omega)
    have e : updW t.nd a (linkM (t.nd a) b v) b = t.nd b := updW_ne _ _ hba
    have : linkT t a b v = { { t with cst := cstUp t.cst a b v, nd := updW t.nd a (linkM (t.nd a) b v) } with cst := cstUp (cstUp t.cst a b v) b a v, nd := updW (updW t.nd a (linkM (t.nd a) b v)) b (linkM (updW t.nd a (linkM (t.nd a) b v) b) a v) } := by
      unfold linkT
      rw [e]
    rw [this]; exact h2
  refine ⟨⟨⟨⟨H.s.tc.lk.set hne hv, fun x hx => (hok.node x hx).2, fun x y hx hy => ?_, cst_set c t.cst v H.s.tc.cst⟩, fun x hx => ?_, fun x j k hx hj hk h => ?_⟩, hok, fun x f k hx hf hk => ?_, fun x k hx hk => ?_, fun y hy => ?_⟩, hag⟩
  · have e1 := hok.cost x y hx hy
    rw [e1]
    exact cst_set c t.cst v H.s.tc.cst x y hx hy
  · by_cases e : x = a
    · subst e; rw [na]; exact link_z (H.s.z x hx) (by omega) (by omega)
    · by_cases e2 : x = b
      · subst e2; rw [nb]; exact link_z (H.s.z x hx) (by omega) (by omega)
      · rw [nx x e e2]; exact H.s.z x hx
  · rw [hhd]
    by_cases q : v = 0 ∧ ((x = a ∧ j = b) ∨ (x = b ∧ j = a))
    · rw [if_pos q]
    · rw [if_neg q]
      unfold setC at h
      by_cases q2 : (x = a ∧ j = b) ∨ (x = b ∧ j = a)
      · rw [if_pos q2] at h; exact absurd ⟨h, q2⟩ q
      · rw [if_neg q2] at h; exact H.s.nl x j k hx hj hk h
  · rw [hag k hk, hhd]
    split
    · exact (H.self hk).1
    · exact H.heardA x f k hx hf hk
  · rw [hag k hk]
    by_cases e : x = a
    · subst e; rw [na]; exact link_age (H.self hk).1 (fun j hj => H.heardA x j k hx hj hk) (H.bestA x k hx hk)
    · by_cases e2 : x = b
      · subst e2; rw [nb]; exact link_age (H.self hk).1 (fun j hj => H.heardA x j k hx hj hk) (H.bestA x k hx hk)
      · rw [nx x e e2]; exact H.bestA x k hx hk
  · have := H.newsA y hy
    have h6 := (H.ok.news y hy).2.2.2.1
    rw [hag y.to h6]; exact this
theorem new_a : TnA newT (fun _ _ => 0) := by
  refine ⟨⟨⟨lk_zero, fun a _ => rfl, fun a b _ _ => rfl, fun a b _ _ => rfl⟩, fun a ha => new_z ha, fun a j k _ _ _ _ => rfl⟩, new_t, fun a f k _ _ hk => ?_, fun a k _ hk => ?_, fun x hx => by cases hx⟩
  · show (0 : Int) ≤ ((newM k).ways k).1
    have : (newM k).ways k = (0, 0, (k : Int)) := by unfold newM; dsimp only; exact updW_same _ _ _
    rw [this]; exact Int.le_refl _
  · show ((newM a).bests k).1 ≤ ((newM k).ways k).1
    have : (newM k).ways k = (0, 0, (k : Int)) := by unfold newM; dsimp only; exact updW_same _ _ _
    rw [this]
    show (updW (fun _ => ((0, 200) : Int × Int)) a (0, 0) k).1 ≤ 0
    unfold updW
    split <;> exact Int.le_refl _

end Go.Proofs.Ythiojjkgodffnae

/- A NET THAT SETTLES, AS NUMBERS: whatever was ahead of it. No Go here. -/
namespace Go.Proofs.Ythiojjkgodffnae

/-- One tells another one all: the net is what it should be. -/
theorem TnA.partly {t : Tn} {c : Nat → Nat → Nat} (H : TnA t c) {a b : Nat} (ha : a < 6) (hb : b < 6) (hc : c a b ≠ 0) : ∀ j, j ≤ 6 →
    TnA { t with nd := updW t.nd b (tellAll (t.nd b) a (t.nd a).ways j) } c ∧ ∀ k, k < 6 → agT { t with nd := updW t.nd b (tellAll (t.nd b) a (t.nd a).ways j) } k = agT t k
  | 0, _ => by
    have e : updW t.nd b (tellAll (t.nd b) a (t.nd a).ways 0) = t.nd := updW_id _ _ _ rfl
    rw [e]; exact ⟨H, fun _ _ => rfl⟩
  | j + 1, hj => by
    have hne : a ≠ b := fun e => hc (by rw [e]; exact H.s.tc.lk.self b)
    obtain ⟨T1, A1⟩ := H.partly ha hb hc j (by omega)
    obtain ⟨_, t1, t2, t3⟩ := (H.s.z a ha).x.tells (show j < 6 by omega)
    have na : ∀ m : Md, updW t.nd b m a = t.nd a := fun m => updW_ne _ _ hne
    have tl := ((H.s.z a ha).x.tells (show j < 6 by omega)).1
    have h := T1.hear (x := ⟨a, b, j, ((t.nd a).ways j).1, ((t.nd a).ways j).2.1⟩)
      ⟨ha, hb, hne, by show j < 6; omega, t1, t2, t3, by
        show bet ((t.nd a).ways j).1 ((t.nd a).ways j).2.1 ((updW t.nd b _ a).bests j).1 ((updW t.nd b _ a).bests j).2 = false
        rw [na]; exact tl⟩
      (by rw [A1 j (by omega)]; exact H.wayA ha (by omega))
      (by show c b a ≠ 0; rw [H.s.tc.lk.sym b a]; exact hc)
    have e : hearT { t with nd := updW t.nd b (tellAll (t.nd b) a (t.nd a).ways j) } ⟨a, b, j, ((t.nd a).ways j).1, ((t.nd a).ways j).2.1⟩ = { t with nd := updW t.nd b (tellAll (t.nd b) a (t.nd a).ways (j + 1)) } := by
      unfold hearT
      dsimp only
      congr 1
      funext x
      by_cases q : x = b
      · rw [q, updW_same, updW_same, updW_same]; rfl
      · rw [updW_ne _ _ q, updW_ne _ _ q, updW_ne _ _ q]
    rw [e] at h
    exact ⟨h.1, fun k hk => (h.2 k hk).trans (A1 k hk)⟩
theorem TnA.tellTo {t : Tn} {c : Nat → Nat → Nat} (H : TnA t c) {a b : Nat} (ha : a < 6) (hb : b < 6) (h : t.cst a b ≠ 0) : TnA (tellTo t a b) c ∧ ∀ k, k < 6 → agT (tellTo t a b) k = agT t k := by
  have hc : c a b ≠ 0 := fun e => h (by rw [H.s.tc.cst a b ha hb, e]; rfl)
  have := H.partly ha hb hc 6 (Nat.le_refl _)
  have e : Ythiojjkgodffnae.tellTo t a b = { t with nd := updW t.nd b (tellAll (t.nd b) a (t.nd a).ways 6) } := if_neg h
  rw [e]
  exact this
theorem TnA.rounds {t : Tn} {c : Nat → Nat → Nat} (H : TnA t c) (r : Nat) : TnA (roundsT t r) c ∧ ∀ k, k < 6 → agT (roundsT t r) k = agT t k :=
  rounds_keep (P := fun T => TnA T c ∧ ∀ k, k < 6 → agT T k = agT t k) (fun T a b ha hb hp hc => by
    obtain ⟨h1, h2⟩ := hp.1.tellTo ha hb hc
    exact ⟨h1, fun k hk => (h2 k hk).trans (hp.2 k hk)⟩) ⟨H, fun _ _ => rfl⟩ r
theorem TnA.ticks {t : Tn} {c : Nat → Nat → Nat} (H : TnA t c) : ∀ n, n ≤ 6 → TnA (tickTo t n) c ∧ ∀ k, k < 6 → agT (tickTo t n) k = if k < n then agT t k + 1 else agT t k
  | 0, _ => ⟨H, fun k _ => by rw [if_neg (by omega)]; rfl⟩
  | n + 1, hn => by
    obtain ⟨h1, h2⟩ := H.ticks n (by omega)
    obtain ⟨h3, h4⟩ := h1.tick (a := n) (by omega)
    refine ⟨h3, fun k hk => ?_⟩
    show agT (tickT (tickTo t n) n) k = _
    rw [h4]
    by_cases e : k = n
    · subst e
      rw [if_pos rfl, h2 k hk, if_neg (by omega), if_pos (by omega)]
    · rw [if_neg e, h2 k hk]
      by_cases q : k < n
      · rw [if_pos q, if_pos (by omega)]
      · rw [if_neg q, if_neg (by omega)]
/-- Behind the ticks nobody else knows of z's new age. -/
theorem ticks_low {t : Tn} {c : Nat → Nat → Nat} (H : TnA t c) {z : Nat} (hz : z < 6) : Low (tickTo t 6) c z (agT t z + 1) := by
  have hnd : ∀ x, x < 6 → (tickTo t 6).nd x = tickM (t.nd x) := fun x hx => by rw [tickTo_nd, if_pos hx]
  have hme := fun x hx => H.s.tc.me x hx
  obtain ⟨h0, hw, hb⟩ := H.self hz
  have hold : ∀ x, x < 6 → x ≠ z → ((tickTo t 6).nd x).ways z = (t.nd x).ways z ∧ ((tickTo t 6).nd x).bests z = (t.nd x).bests z := fun x hx hxz => by
    rw [hnd x hx]
    have hm := hme x hx
    exact ⟨updW_ne _ _ (by rw [hm]; exact fun e => hxz e.symm), updW_ne _ _ (by rw [hm]; exact fun e => hxz e.symm)⟩
  have hsw : ((tickTo t 6).nd z).ways z = (agT t z + 1, 0, (z : Int)) := by
    rw [hnd z hz]
    show updW (t.nd z).ways (t.nd z).me _ z = _
    rw [hme z hz, updW_same, hw]
  have hsb : ((tickTo t 6).nd z).bests z = (agT t z + 1, 0) := by
    rw [hnd z hz]
    show updW (t.nd z).bests (t.nd z).me _ z = _
    rw [hme z hz, updW_same, hw]
  have d0 := dst_self c hz
  refine ⟨fun x j hx hj => ?_, fun x hx => ?_, fun x hx => ?_, hsw⟩
  · have e : ((tickTo t 6).nd x).heard j z = (t.nd x).heard j z := by rw [hnd x hx]; rfl
    rw [e]
    have := H.heardA x j z hx hj hz
    exact ⟨by omega, fun q => by omega⟩
  · by_cases e : x = z
    · rw [e, hsb]; exact ⟨Int.le_refl _, fun _ => by rw [d0]; exact Int.le_refl _⟩
    · rw [(hold x hx e).2]
      have := H.bestA x z hx hz
      exact ⟨by omega, fun q => by omega⟩
  · by_cases e : x = z
    · rw [e, hsw]; exact ⟨Int.le_refl _, fun _ => by rw [d0]; exact Int.le_refl _⟩
    · rw [(hold x hx e).1]
      have := H.wayA hx hz
      exact ⟨by omega, fun q => by omega⟩
/-- Of the end z all is settled. -/
structure Stl (T : Tn) (c : Nat → Nat → Nat) (z : Nat) (S : Int) : Prop where
  low : Low T c z S
  reach : ∃ G, Gd T c z S G ∧ ∀ x, x < 6 → dst c z x < 200 → G x
  out : ∀ x, x < 6 → dst c z x = 200 → ((T.nd x).ways z).2.2 = -1 ∧ ∀ j, j < 6 → dst c z j = 200 → 200 ≤ ((T.nd x).heard j z).2
theorem TnA.settle {t : Tn} {c : Nat → Nat → Nat} (H : TnA t c) {r : Nat} (hr : 7 ≤ r) : TnA (settleT t r) c ∧ ∀ z, z < 6 → Stl (settleT t r) c z (agT t z + 1) := by
  have H0 : TnA { t with news := [] } c := H.sub (fun x hx => by cases hx)
  obtain ⟨H1, _⟩ := H0.ticks 6 (Nat.le_refl _)
  obtain ⟨H2, _⟩ := H1.rounds r
  refine ⟨H2, fun z hz => ?_⟩
  have L := ticks_low H0 hz
  have s0 : Sd (tickTo { t with news := [] } 6) c z (agT t z + 1) (fun x => x = z) := ⟨H1.s.tc, L, ⟨rfl, fun x _ hG hne => absurd hG hne⟩⟩
  obtain ⟨G, hG, hall⟩ := s0.all hz (show 5 ≤ r by omega)
  exact ⟨hG.low, ⟨G, hG.gd, hall⟩, fun x hx hd => none_said hz H1.s hr hx hd⟩
/-- Settled, each way is just as long as the links allow; where none leads, none is said. -/
theorem Stl.way {T : Tn} {c : Nat → Nat → Nat} {z : Nat} {S : Int} (h : Stl T c z S) (H : TnA T c) (hz : z < 6) {x : Nat} (hx : x < 6) :
    ((T.nd x).ways z).2.1 = (dst c z x : Int) ∧ (((T.nd x).ways z).2.2 = -1 ↔ dst c z x = 200) ∧
    (dst c z x < 200 → x ≠ z → ∃ k : Nat, k < 6 ∧ ((T.nd x).ways z).2.2 = (k : Int) ∧ 0 < c k x ∧ dst c z k + c k x = dst c z x) := by
  by_cases hd : dst c z x = 200
  · have ho := (h.out x hx hd).1
    refine ⟨by rw [(H.s.z x hx).x.none_ z ho, hd]; rfl, ⟨fun _ => hd, fun _ => ho⟩, fun q => by omega⟩
  · have hl : dst c z x < 200 := by have := dst_le c (z : Int) x; omega
    by_cases e : x = z
    · subst e
      rw [h.low.self, dst_self c hz]
      refine ⟨rfl, ⟨fun q => ?_, fun q => by omega⟩, fun _ q => absurd rfl q⟩
      have q' : (x : Int) = -1 := q
      omega
    · obtain ⟨G, hG, hall⟩ := h.reach
      obtain ⟨_, ⟨k, hk, hw, hc, hdk⟩, _⟩ := hG.ok x hx (hall x hx hl) e
      rw [hw]
      refine ⟨rfl, ⟨fun q => ?_, fun q => absurd q hd⟩, fun _ _ => ⟨k, hk, rfl, hc, hdk⟩⟩
      have q' : (k : Int) = -1 := q
      omega

end Go.Proofs.Ythiojjkgodffnae

/- PATHS THROUGH A NET, AS NUMBERS: none goes round; settled, each leads home at the least cost. No Go here. -/
namespace Go.Proofs.Ythiojjkgodffnae

/-- The reference's Path: hop of a node, the end, how many rounds are left, where it is, where it was. -/
def pathF (hop : Nat → Int) (z : Int) : Nat → Int → List Nat → List Nat × Bool
  | 0, _, out => (out, true)
  | f + 1, p, out => if 0 ≤ p ∧ p < 6 then (if p.toNat ∈ out then (out, decide (p = z)) else pathF hop z f (hop p.toNat) (out ++ [p.toNat])) else (out, true)
/-- A list in which each is related to the next; its first and its last. -/
inductive ChL (R : Nat → Nat → Prop) (a : Nat) : List Nat → Nat → Prop
  | one : ChL R a [a] a
  | snoc {l : List Nat} {x y : Nat} : ChL R a l x → R x y → ChL R a (l ++ [y]) y
theorem ChL.mem {R : Nat → Nat → Prop} {a : Nat} {l : List Nat} {x : Nat} (h : ChL R a l x) : x ∈ l := by
  cases h
  · simp
  · simp
theorem ChL.pos {R : Nat → Nat → Prop} {a : Nat} {l : List Nat} {x : Nat} (h : ChL R a l x) : 0 < l.length := by
  cases h
  · simp
  · simp
theorem ChL.last {R : Nat → Nat → Prop} {a : Nat} {l : List Nat} {x : Nat} (h : ChL R a l x) (hl : l.length - 1 < l.length) : l[l.length - 1] = x := by
  cases h
  · rfl
  · simp
theorem ChL.step {R : Nat → Nat → Prop} {a : Nat} {l : List Nat} {x : Nat} (h : ChL R a l x) : ∀ k (hk : k + 1 < l.length), R l[k] l[k + 1] := by
  induction h with
  | one => intro k hk; simp at hk
  | @snoc l x y h1 h2 ih =>
    intro k hk
    have hp := h1.pos
    rw [List.length_append, List.length_singleton] at hk
    by_cases e : k + 1 = l.length
    · have e1 : (l ++ [y])[k + 1]'(by rw [List.length_append, List.length_singleton]; omega) = y := by
        rw [List.getElem_append_right (by omega)]; simp
      have e2 : (l ++ [y])[k]'(by rw [List.length_append, List.length_singleton]; omega) = l[l.length - 1] := by
        rw [List.getElem_append_left (by omega)]; congr 1; omega
      rw [e1, e2, h1.last (by omega)]; exact h2
    · have e1 : (l ++ [y])[k + 1]'(by rw [List.length_append, List.length_singleton]; omega) = l[k + 1]'(by omega) := List.getElem_append_left (by omega)
      have e2 : (l ++ [y])[k]'(by rw [List.length_append, List.length_singleton]; omega) = l[k]'(by omega) := List.getElem_append_left (by omega)
      rw [e1, e2]; exact ih k (by omega)
theorem nodup_len : ∀ (n : Nat) (l : List Nat), l.Nodup → (∀ x ∈ l, x < n) → l.length ≤ n
  | 0, l, _, h => by
    cases l with
    | nil => simp
    | cons x l => have := h x (by simp); omega
  | n + 1, l, hn, h => by
    by_cases e : n ∈ l
    · have h1 := nodup_len n (l.erase n) (hn.erase n) (fun x hx => by
        have h2 := (List.Nodup.mem_erase_iff hn).1 hx
        have := h x h2.2
        omega)
      have := List.length_erase_of_mem e
      omega
    · have := nodup_len n l hn (fun x hx => by
        have h1 := h x hx
        have : x ≠ n := fun q => e (q ▸ hx)
        omega)
      omega
/-- The path as long as each next one is new. -/
theorem path_go {hop : Nat → Int} {z : Nat} {R : Nat → Nat → Prop} {a : Nat} (W : Nat → Nat → Prop)
    (hR : ∀ x, x < 6 → x ≠ z → hop x ≠ -1 → ∃ j : Nat, j < 6 ∧ hop x = (j : Int) ∧ R x j)
    (hz : hop z = (z : Int)) (hz6 : z < 6)
    (hW : ∀ x y, R x y → W y x) (htr : ∀ x y u, W x y → W y u → W x u) (hir : ∀ x, ¬ W x x) :
    ∀ f out x, ChL R a out x → (∀ y ∈ out, y < 6) → out.Nodup → (∀ y ∈ out, y = x ∨ W x y) → 7 ≤ f + out.length →
      ∃ l e, pathF hop (z : Int) f (hop x) out = (l, true) ∧ ChL R a l e ∧ (∀ y ∈ l, y < 6) ∧ l.Nodup ∧ (e = z ∨ hop e = -1)
  | 0, out, x, _, h6, hn, _, hf => by
    have := nodup_len 6 out hn h6
    omega
  | f + 1, out, x, hc, h6, hn, hw, hf => by
    have hx := h6 x hc.mem
    by_cases e : x = z
    · rw [pathF, e, hz, if_pos ⟨by omega, by omega⟩, Int.toNat_natCast, if_pos (by rw [← e]; exact hc.mem)]
      exact ⟨out, x, by simp, hc, h6, hn, .inl e⟩
    · by_cases e2 : hop x = -1
      · rw [pathF, e2, if_neg (by omega)]
        exact ⟨out, x, rfl, hc, h6, hn, .inr e2⟩
      · obtain ⟨j, hj, hh, hr⟩ := hR x hx e e2
        have hnew : j ∉ out := fun hm => by
          rcases hw j hm with q | q
          · rw [q] at hr; exact hir x (hW x x hr)
          · exact hir x (htr x j x q (hW x j hr))
        rw [pathF, hh, if_pos ⟨by omega, by omega⟩, Int.toNat_natCast, if_neg hnew]
        refine path_go W hR hz hz6 hW htr hir f (out ++ [j]) j (hc.snoc hr) (fun y hy => ?_) ?_ (fun y hy => ?_) (by rw [List.length_append, List.length_singleton]; omega)
        · rcases List.mem_append.1 hy with q | q
          · exact h6 y q
          · rw [List.mem_singleton.1 q]; exact hj
        · rw [List.nodup_append]
          refine ⟨hn, by simp, fun u hu v hv => ?_⟩
          rw [List.mem_singleton.1 hv]
          exact fun q => hnew (q ▸ hu)
        · rcases List.mem_append.1 hy with q | q
          · right
            rcases hw y q with r | r
            · rw [r]; exact hW x j hr
            · exact htr j x y (hW x j hr) r
          · exact .inl (List.mem_singleton.1 q)
/-- NO WAY GOES ROUND. -/
def hopT (t : Tn) (z x : Nat) : Int := ((t.nd x).ways z).2.2
def StepR (t : Tn) (z x y : Nat) : Prop := t.cst x y ≠ 0 ∧ bet ((t.nd y).bests z).1 ((t.nd y).bests z).2 ((t.nd x).bests z).1 ((t.nd x).bests z).2 = true ∧ hopT t z x = (y : Int)
theorem straight {t : Tn} {c : Nat → Nat → Nat} (H : TnA t c) {a z : Nat} (ha : a < 6) (hz : z < 6) :
    ∃ l e, pathF (hopT t z) (z : Int) 7 (a : Int) [] = (l, true) ∧ ChL (StepR t z) a l e ∧ (∀ y ∈ l, y < 6) ∧ l.Nodup ∧ l.length ≤ 6 ∧ (e = z ∨ hopT t z e = -1) := by
  have hs : hopT t z z = (z : Int) := by unfold hopT; rw [(H.self hz).2.1]
  obtain ⟨l, e, h1, h2, h3, h4, h5⟩ := path_go (hop := hopT t z) (z := z) (R := StepR t z) (a := a) (fun x y => bet ((t.nd x).bests z).1 ((t.nd x).bests z).2 ((t.nd y).bests z).1 ((t.nd y).bests z).2 = true)
    (fun x hx hne hd => by
      obtain ⟨j, hj, e1, e2, e3⟩ := H.ok.straight hx hz (fun q => hne q.symm) hd
      exact ⟨j, hj, e1, e2, e3, e1⟩)
    hs hz (fun x y r => r.2.1) (fun x y u p q => by rw [bet_iff] at p q ⊢; omega) (fun x p => by rw [bet_iff] at p; omega)
    6 [a] a .one (fun y hy => by rw [List.mem_singleton.1 hy]; exact ha) (by simp) (fun y hy => .inl (List.mem_singleton.1 hy)) (by simp)
  refine ⟨l, e, ?_, h2, h3, h4, nodup_len 6 l h4 h3, h5⟩
  rw [pathF, if_pos ⟨by omega, by omega⟩, Int.toNat_natCast, if_neg (by simp)]
  exact h1
/-- What the links of a path cost. -/
def sumC (c : Nat → Nat → Nat) (l : List Nat) : Nat → Nat
  | 0 => 0
  | k + 1 => sumC c l k + (if h : k + 1 < l.length then c (l[k]'(by omega)) (l[k + 1]'h) else 0)
theorem sumC_app (c : Nat → Nat → Nat) (l : List Nat) (y : Nat) : ∀ k, k < l.length → sumC c (l ++ [y]) k = sumC c l k
  | 0, _ => rfl
  | k + 1, hk => by
    rw [sumC, sumC, sumC_app c l y k (by omega)]
    have h1 : k + 1 < (l ++ [y]).length := by rw [List.length_append]; omega
    rw [dif_pos h1, dif_pos hk, List.getElem_append_left (by omega), List.getElem_append_left hk]
theorem ChL.sum {R : Nat → Nat → Prop} {a : Nat} {l : List Nat} {x : Nat} {c : Nat → Nat → Nat} {D : Nat → Nat} (hD : ∀ u v, R u v → D v + c u v = D u) (h : ChL R a l x) : sumC c l (l.length - 1) + D x = D a := by
  induction h with
  | one => simp [sumC]
  | @snoc l x y h1 h2 ih =>
    have hp := h1.pos
    obtain ⟨n, hn⟩ : ∃ n, l.length = n + 1 := ⟨l.length - 1, by omega⟩
    have e1 : (l ++ [y]).length - 1 = n + 1 := by rw [List.length_append, List.length_singleton]; omega
    rw [e1, sumC, sumC_app c l y n (by omega), dif_pos (by rw [List.length_append, List.length_singleton]; omega)]
    have e2 : (l ++ [y])[n]'(by rw [List.length_append]; omega) = x := by
      rw [List.getElem_append_left (by omega)]
      have := h1.last (by omega)
      rw [← this]; congr 1; omega
    have e3 : (l ++ [y])[n + 1]'(by rw [List.length_append, List.length_singleton]; omega) = y := by
      rw [List.getElem_append_right (by omega)]; simp
    rw [e2, e3]
    have := hD x y h2
    rw [show l.length - 1 = n by omega] at ih
    omega
/-- SETTLED, IT COMES HOME BY THE LEAST COST. -/
theorem settled_path {T : Tn} {c : Nat → Nat → Nat} {z : Nat} {S : Int} (h : Stl T c z S) (H : TnA T c) (hz : z < 6) {a : Nat} (ha : a < 6) :
    ∃ l e, pathF (hopT T z) (z : Int) 7 (a : Int) [] = (l, true) ∧ ChL (StepR T z) a l e ∧ (∀ y ∈ l, y < 6) ∧ 0 < l.length ∧ l.length ≤ 6 ∧ (dst c z a < 200 → e = z ∧ sumC c l (l.length - 1) = dst c z a) := by
  obtain ⟨l, e, h1, h2, h3, h4, h5, h6⟩ := straight H ha hz
  refine ⟨l, e, h1, h2, h3, h2.pos, h5, fun hd => ?_⟩
  -- all on it can be reached
  have key : ∀ l x, ChL (StepR T z) a l x → (∀ y ∈ l, y < 6) → (∀ k (hk : k + 1 < l.length), l[k] ≠ z) → dst c z x < 200 ∧ sumC c l (l.length - 1) + dst c z x = dst c z a := by
    intro l x hc
    induction hc with
    | one => exact fun _ _ => ⟨hd, by simp [sumC]⟩
    | @snoc l x y g1 g2 ih =>
      intro m6 mz
      have hp := g1.pos
      obtain ⟨i1, i2⟩ := ih (fun u hu => m6 u (by simp [hu])) (fun k hk => by
        have := mz k (by rw [List.length_append, List.length_singleton]; omega)
        rw [List.getElem_append_left (by omega)] at this
        exact this)
      have hx6 : x < 6 := m6 x (by simp [g1.mem])
      have hy6 : y < 6 := m6 y (by simp)
      have hxz : x ≠ z := by
        have := mz (l.length - 1) (by rw [List.length_append, List.length_singleton]; omega)
        rw [List.getElem_append_left (by omega), g1.last (by omega)] at this
        exact this
      obtain ⟨k, hk, e1, e2, e3⟩ := (h.way H hz hx6).2.2 i1 hxz
      have eky : k = y := by
        have : hopT T z x = (y : Int) := g2.2.2
        unfold hopT at this
        omega
      subst eky
      have hs := H.s.tc.lk.sym x k
      obtain ⟨n, hn⟩ : ∃ n, l.length = n + 1 := ⟨l.length - 1, by omega⟩
      refine ⟨by omega, ?_⟩
      have q1 : (l ++ [k]).length - 1 = n + 1 := by rw [List.length_append, List.length_singleton]; omega
      rw [q1, sumC, sumC_app c l k n (by omega), dif_pos (by rw [List.length_append, List.length_singleton]; omega)]
      have q2 : (l ++ [k])[n]'(by rw [List.length_append]; omega) = x := by
        rw [List.getElem_append_left (by omega)]
        have := g1.last (by omega)
        rw [← this]; congr 1; omega
      have q3 : (l ++ [k])[n + 1]'(by rw [List.length_append, List.length_singleton]; omega) = k := by
        rw [List.getElem_append_right (by omega)]; simp
      rw [q2, q3]
      rw [show l.length - 1 = n by omega] at i2
      omega
  have notz : ∀ k (hk : k + 1 < l.length), l[k] ≠ z := fun k hk e0 => by
    have hst := h2.step k hk
    rw [e0] at hst
    have hzz : hopT T z z = (z : Int) := by unfold hopT; rw [h.low.self]
    have e1 : (l[k + 1] : Int) = (z : Int) := by rw [← hst.2.2, hzz]
    have e2 : l[k + 1] = z := by omega
    rw [e2] at hst
    have := hst.2.1
    rw [bet_refl] at this
    cases this
  obtain ⟨r1, r2⟩ := key l e h2 h3 notz
  rcases h6 with q | q
  · subst q
    rw [dst_self c hz] at r2
    exact ⟨rfl, by omega⟩
  · have := ((h.way H hz (h3 e h2.mem)).2.1).1 q
    omega

end Go.Proofs.Ythiojjkgodffnae

/- THE STEPS OF A NET, AS NUMBERS, with their codes: as the document says them. No Go here. -/
namespace Go.Proofs.Ythiojjkgodffnae

/-- A step: its kind, A, B, N. -/
structure Sp where
  k : Int
  a : Int
  b : Int
  n : Int
abbrev isN (a : Int) : Prop := 0 ≤ a ∧ a < 6
/-- A tells B. -/
def sayC (t : Tn) (a b : Int) : Tn × Int :=
  if ¬ isN a ∨ ¬ isN b then (t, 1)
  else if t.cst a.toNat b.toNat = 0 then (t, 6)
  else if 40 < t.news.length + 6 then (t, 9)
  else (sayT t a.toNat b.toNat, 0)
/-- It tells the first b of all, to the first code. -/
def sayAll (t : Tn) (a : Nat) : Nat → Tn × Int
  | 0 => (t, 0)
  | b + 1 => if (sayAll t a b).2 ≠ 0 then sayAll t a b else if 0 < (sayAll t a b).1.cst a b then sayC (sayAll t a b).1 (a : Int) (b : Int) else sayAll t a b
/-- A list without the element in the place n. -/
def dropAt (l : List Nw) (n : Nat) : List Nw := l.take n ++ l.drop (n + 1)
/-- The news are heard by whom they are for. -/
def hearC (t : Tn) (y : Nw) : Tn × Int := if (t.nd y.g).cost y.f = 0 then (t, 6) else (hearT t y, 0)
def linkC (t : Tn) (a b n : Int) : Tn × Int := if isN a ∧ isN b ∧ a ≠ b ∧ 0 ≤ n ∧ n ≤ 15 then (linkT t a.toNat b.toNat n, 0) else (t, 1)
def newsC (t : Tn) (k n : Int) : Tn × Int :=
  if h : 0 ≤ n ∧ n.toNat < t.news.length then
    (if k = 6 then (if 40 ≤ t.news.length then (t, 9) else ({ t with news := t.news ++ [t.news[n.toNat]'h.2] }, 0))
     else if k = 4 then hearC { t with news := dropAt t.news n.toNat } (t.news[n.toNat]'h.2)
     else ({ t with news := dropAt t.news n.toNat }, 0))
  else (t, 6)
def doT (t : Tn) (x : Sp) : Tn × Int :=
  if x.k = 1 then linkC t x.a x.b x.n
  else if x.k = 2 then (if isN x.a then sayAll (tickT t x.a.toNat) x.a.toNat 6 else (t, 1))
  else if x.k = 3 then sayC t x.a x.b
  else if x.k = 4 ∨ x.k = 5 ∨ x.k = 6 then newsC t x.k x.n
  else (t, 8)
theorem mem_dropAt {l : List Nw} {n : Nat} {x : Nw} (h : x ∈ dropAt l n) : x ∈ l := by
  unfold dropAt at h
  rcases List.mem_append.1 h with q | q
  · exact List.mem_of_mem_take q
  · exact List.mem_of_mem_drop q
/-- Behind a step: the links, the ages, the bests. -/
structure Nx (t t' : Tn) (c c' : Nat → Nat → Nat) (up : Nat → Int) : Prop where
  a : TnA t' c'
  age : ∀ k, k < 6 → agT t' k = agT t k + up k
  best : ∀ x k, x < 6 → k < 6 → bet ((t.nd x).bests k).1 ((t.nd x).bests k).2 ((t'.nd x).bests k).1 ((t'.nd x).bests k).2 = false
theorem Nx.refl {t : Tn} {c : Nat → Nat → Nat} (H : TnA t c) : Nx t t c c (fun _ => 0) := ⟨H, fun k _ => by omega, fun x k _ _ => bet_refl _ _⟩
theorem Nx.sub {t : Tn} {c : Nat → Nat → Nat} (H : TnA t c) {nw : List Nw} (hn : ∀ x ∈ nw, x ∈ t.news) : Nx t { t with news := nw } c c (fun _ => 0) := ⟨H.sub hn, fun k _ => by show agT t k = _; omega, fun x k _ _ => bet_refl _ _⟩
theorem say_nx {t : Tn} {c : Nat → Nat → Nat} (H : TnA t c) (a b : Int) : Nx t (sayC t a b).1 c c (fun _ => 0) := by
  unfold sayC
  by_cases e : ¬ isN a ∨ ¬ isN b
  · rw [if_pos e]; exact Nx.refl H
  · rw [if_neg e]
    by_cases e2 : t.cst a.toNat b.toNat = 0
    · rw [if_pos e2]; exact Nx.refl H
    · rw [if_neg e2]
      by_cases e3 : 40 < t.news.length + 6
      · rw [if_pos e3]; exact Nx.refl H
      · rw [if_neg e3]
        have ha : a.toNat < 6 := by omega
        have hb : b.toNat < 6 := by omega
        have hne : a.toNat ≠ b.toNat := fun q => e2 (by rw [q, H.s.tc.cst _ _ hb hb, H.s.tc.lk.self]; rfl)
        exact ⟨H.say ha hb hne, fun k _ => by show agT t k = _; omega, fun x k _ _ => bet_refl _ _⟩
theorem Nx.trans {t u v : Tn} {c d e : Nat → Nat → Nat} {f g : Nat → Int} (h : Nx t u c d f) (k : Nx u v d e g) : Nx t v c e (fun i => f i + g i) :=
  ⟨k.a, fun i hi => by rw [k.age i hi, h.age i hi]; omega, fun x i hx hi => bet_trans (h.best x i hx hi) (k.best x i hx hi)⟩
theorem Nx.congr {t u : Tn} {c d : Nat → Nat → Nat} {f g : Nat → Int} (h : Nx t u c d f) (e : ∀ k, k < 6 → f k = g k) : Nx t u c d g := ⟨h.a, fun k hk => by rw [h.age k hk, e k hk], h.best⟩
theorem sayAll_nx {t : Tn} {c : Nat → Nat → Nat} (H : TnA t c) (a : Nat) : ∀ b, Nx t (sayAll t a b).1 c c (fun _ => 0)
  | 0 => Nx.refl H
  | b + 1 => by
    have ih := sayAll_nx H a b
    rw [sayAll]
    split
    · exact ih
    · split
      · exact (ih.trans (say_nx ih.a (a : Int) (b : Int))).congr (fun _ _ => rfl)
      · exact ih
theorem hear_nx {t : Tn} {c : Nat → Nat → Nat} (H : TnA t c) {y : Nw} (hy : y.f < 6 ∧ y.g < 6 ∧ y.f ≠ y.g ∧ y.to < 6 ∧ 0 ≤ y.s ∧ 0 ≤ y.d ∧ y.d ≤ 200 ∧ bet y.s y.d ((t.nd y.f).bests y.to).1 ((t.nd y.f).bests y.to).2 = false) (hs : y.s ≤ agT t y.to) : Nx t (hearC t y).1 c c (fun _ => 0) := by
  unfold hearC
  by_cases e : (t.nd y.g).cost y.f = 0
  · rw [if_pos e]; exact Nx.refl H
  · rw [if_neg e]
    have hc : c y.g y.f ≠ 0 := fun q => e (by rw [H.s.tc.cost _ _ hy.2.1 hy.1, q]; rfl)
    obtain ⟨h1, h2⟩ := H.hear hy hs hc
    refine ⟨h1, fun k hk => by rw [h2 k hk]; omega, fun x k hx _ => ?_⟩
    show bet ((t.nd x).bests k).1 ((t.nd x).bests k).2 ((updW t.nd y.g _ x).bests k).1 ((updW t.nd y.g _ x).bests k).2 = false
    by_cases q : x = y.g
    · subst q
      rw [updW_same]
      exact (hear_ok (H.s.z _ hx).ok hy.2.2.2.2.1 hy.2.2.2.2.2.1 hy.2.2.2.2.2.2.1).2 k
    · rw [updW_ne _ _ q]; exact bet_refl _ _
theorem news_nx {t : Tn} {c : Nat → Nat → Nat} (H : TnA t c) (k n : Int) : Nx t (newsC t k n).1 c c (fun _ => 0) := by
  unfold newsC
  by_cases h : 0 ≤ n ∧ n.toNat < t.news.length
  · rw [dif_pos h]
    have hm : t.news[n.toNat]'h.2 ∈ t.news := List.getElem_mem h.2
    have hs := Nx.sub H (nw := dropAt t.news n.toNat) (fun x hx => mem_dropAt hx)
    by_cases e : k = 6
    · rw [if_pos e]
      by_cases e2 : 40 ≤ t.news.length
      · rw [if_pos e2]; exact Nx.refl H
      · rw [if_neg e2]
        exact Nx.sub H (fun x hx => by
          rcases List.mem_append.1 hx with q | q
          · exact q
          · rw [List.mem_singleton.1 q]; exact hm)
    · rw [if_neg e]
      by_cases e2 : k = 4
      · rw [if_pos e2]
        exact (hs.trans (hear_nx hs.a (H.ok.news _ hm) (H.newsA _ hm))).congr (fun _ _ => rfl)
      · rw [if_neg e2]; exact hs
  · rw [dif_neg h]; exact Nx.refl H
/-- The links behind a step. -/
def nextC (c : Nat → Nat → Nat) (x : Sp) : Nat → Nat → Nat := if x.k = 1 ∧ isN x.a ∧ isN x.b ∧ x.a ≠ x.b ∧ 0 ≤ x.n ∧ x.n ≤ 15 then setC c x.a.toNat x.b.toNat x.n.toNat else c
/-- How far an age rises by a step. -/
def upA (x : Sp) (k : Nat) : Int := if x.k = 2 ∧ x.a = (k : Int) then 1 else 0
theorem link_nx {t : Tn} {c : Nat → Nat → Nat} (H : TnA t c) {a b v : Nat} (ha : a < 6) (hb : b < 6) (hne : a ≠ b) (hv : v ≤ 15) : Nx t (linkT t a b v) c (setC c a b v) (fun _ => 0) := by
  obtain ⟨h1, h2⟩ := H.link ha hb hne hv
  refine ⟨h1, fun k hk => by rw [h2 k hk]; omega, fun x k hx _ => ?_⟩
  show bet ((t.nd x).bests k).1 ((t.nd x).bests k).2 ((updW (updW t.nd a (linkM (t.nd a) b v)) b (linkM (t.nd b) a v) x).bests k).1 ((updW (updW t.nd a (linkM (t.nd a) b v)) b (linkM (t.nd b) a v) x).bests k).2 = false
  by_cases q : x = b
  · subst q
    rw [updW_same]
    exact (link_ok (H.s.z _ hx).ok (by omega) (by omega)).2 k
  · rw [updW_ne _ _ q]
    by_cases q2 : x = a
    · subst q2
      rw [updW_same]
      exact (link_ok (H.s.z _ hx).ok (by omega) (by omega)).2 k
    · rw [updW_ne _ _ q2]; exact bet_refl _ _
theorem tick_nx {t : Tn} {c : Nat → Nat → Nat} (H : TnA t c) {a : Nat} (ha : a < 6) : Nx t (tickT t a) c c (fun k => if k = a then 1 else 0) := by
  obtain ⟨h1, h2⟩ := H.tick ha
  refine ⟨h1, fun k hk => ?_, fun x k hx _ => ?_⟩
  · rw [h2]
    by_cases q : k = a
    · rw [if_pos q, if_pos q, q]
    · rw [if_neg q, if_neg q]; omega
  · show bet ((t.nd x).bests k).1 ((t.nd x).bests k).2 ((updW t.nd a (tickM (t.nd a)) x).bests k).1 ((updW t.nd a (tickM (t.nd a)) x).bests k).2 = false
    by_cases q : x = a
    · subst q
      rw [updW_same]
      exact (tick_ok (H.s.z _ hx).ok).2 k
    · rw [updW_ne _ _ q]; exact bet_refl _ _
/-- EACH STEP KEEPS WHAT HOLDS AT ALL TIMES; ages rise at home alone; no best becomes worse. -/
theorem do_nx {t : Tn} {c : Nat → Nat → Nat} (H : TnA t c) (x : Sp) : Nx t (doT t x).1 c (nextC c x) (upA x) := by
  unfold doT nextC
  by_cases e1 : x.k = 1
  · rw [if_pos e1]
    have hu : ∀ k, k < 6 → (0 : Int) = upA x k := fun k _ => by unfold upA; rw [if_neg (fun q => by omega)]
    unfold linkC
    by_cases h : isN x.a ∧ isN x.b ∧ x.a ≠ x.b ∧ 0 ≤ x.n ∧ x.n ≤ 15
    · rw [if_pos h, if_pos ⟨e1, h⟩]
      have e := link_nx H (a := x.a.toNat) (b := x.b.toNat) (v := x.n.toNat) (by omega) (by omega) (by omega) (by omega)
      rw [show ((x.n.toNat : Nat) : Int) = x.n by omega] at e
      exact e.congr hu
    · rw [if_neg h, if_neg (fun q => h q.2)]; exact (Nx.refl H).congr hu
  · have en : ¬ (x.k = 1 ∧ isN x.a ∧ isN x.b ∧ x.a ≠ x.b ∧ 0 ≤ x.n ∧ x.n ≤ 15) := fun q => e1 q.1
    rw [if_neg e1, if_neg en]
    by_cases e2 : x.k = 2
    · rw [if_pos e2]
      by_cases ha : isN x.a
      · rw [if_pos ha]
        have h1 := tick_nx H (a := x.a.toNat) (by omega)
        exact (h1.trans (sayAll_nx h1.a x.a.toNat 6)).congr (fun k hk => by
          unfold upA
          by_cases q : k = x.a.toNat
          · rw [if_pos q, if_pos ⟨e2, by omega⟩]; rfl
          · rw [if_neg q, if_neg (fun w => q (by omega))]; rfl)
      · rw [if_neg ha]
        exact (Nx.refl H).congr (fun k hk => by unfold upA; rw [if_neg (fun w => ha (by omega))])
    · rw [if_neg e2]
      have hu : ∀ k, k < 6 → (0 : Int) = upA x k := fun k _ => by unfold upA; rw [if_neg (fun q => e2 q.1)]
      by_cases e3 : x.k = 3
      · rw [if_pos e3]; exact (say_nx H x.a x.b).congr hu
      · rw [if_neg e3]
        by_cases e4 : x.k = 4 ∨ x.k = 5 ∨ x.k = 6
        · rw [if_pos e4]; exact (news_nx H x.k x.n).congr hu
        · rw [if_neg e4]; exact (Nx.refl H).congr hu
/-- Behind the first n steps of a list. -/
def playT (t : Tn) (l : List Sp) : Nat → Tn
  | 0 => t
  | n + 1 => match l[n]? with
    | some x => (doT (playT t l n) x).1
    | none => playT t l n
theorem play_succ (t : Tn) (l : List Sp) {n : Nat} (h : n < l.length) : playT t l (n + 1) = (doT (playT t l n) l[n]).1 := by
  rw [playT, List.getElem?_eq_getElem h]
theorem play_a (l : List Sp) : ∀ n, ∃ c, TnA (playT newT l n) c
  | 0 => ⟨_, new_a⟩
  | n + 1 => by
    obtain ⟨c, h⟩ := play_a l n
    rw [playT]
    split
    · exact ⟨_, (do_nx h _).a⟩
    · exact ⟨c, h⟩

end Go.Proofs.Ythiojjkgodffnae

/- SETTLED, IT STAYS SETTLED, AS NUMBERS: what is told, heard, lost or doubled leaves all lengths. No Go here. -/
namespace Go.Proofs.Ythiojjkgodffnae

theorem Low.congr {T U : Tn} {c : Nat → Nat → Nat} {z : Nat} (hz : z < 6) {S : Int} (e : ∀ x, x < 6 → ZEq (U.nd x) (T.nd x) z) (h : Low T c z S) : Low U c z S :=
  ⟨fun x j hx hj => by rw [(e x hx).heard]; exact h.heard x j hx hj, fun x hx => by rw [(e x hx).bests]; exact h.best x hx, fun x hx => by rw [(e x hx).ways]; exact h.way x hx, by rw [(e z hz).ways]; exact h.self⟩
theorem Stl.congr {T U : Tn} {c : Nat → Nat → Nat} {z : Nat} (hz : z < 6) {S : Int} (e : ∀ x, x < 6 → ZEq (U.nd x) (T.nd x) z) (h : Stl T c z S) : Stl U c z S := by
  obtain ⟨G, hG, hall⟩ := h.reach
  refine ⟨h.low.congr hz e, ⟨G, ⟨hG.home, fun x hx g hne => ?_⟩, hall⟩, fun x hx hd => ?_⟩
  · rw [(e x hx).ways, (e x hx).bests]
    obtain ⟨g1, g2, g3, j, hj, hGj, hc, hh, hd⟩ := hG.ok x hx g hne
    exact ⟨g1, g2, g3, j, hj, hGj, hc, by rw [(e x hx).heard]; exact hh, hd⟩
  · rw [(e x hx).ways]
    exact ⟨(h.out x hx hd).1, fun j hj hdj => by rw [(e x hx).heard]; exact (h.out x hx hd).2 j hj hdj⟩
/-- News as a settled net tells them. -/
structure NwS (c : Nat → Nat → Nat) (S : Int) (z f : Nat) (s d : Int) : Prop where
  low : s ≤ S ∧ (s = S → (dst c z f : Int) ≤ d)
  reach : dst c z f < 200 → s = S ∧ d = (dst c z f : Int)
  out : dst c z f = 200 → 200 ≤ d
theorem new_lb {t : Tn} {c : Nat → Nat → Nat} (C : TnC t c) {z : Nat} {S : Int} (L : Low t c z S) {a b : Nat} (hb : b < 6) {s d : Int} (N : s ≤ S ∧ (s = S → (dst c z a : Int) ≤ d)) :
    ∀ j, j < 6 → (t.nd b).cost j ≠ 0 → (updW (t.nd b).heard a (updW ((t.nd b).heard a) z (s, d)) j z).1 ≤ S ∧ ((updW (t.nd b).heard a (updW ((t.nd b).heard a) z (s, d)) j z).1 = S → (dst c z b : Int) ≤ (updW (t.nd b).heard a (updW ((t.nd b).heard a) z (s, d)) j z).2 + (t.nd b).cost j) := by
  intro j hj hcj
  rw [heard_z]
  have hc := C.cost b j hb hj
  have hs : c b j = c j b := C.lk.sym b j
  have hpos : 0 < c j b := by
    have : c b j ≠ 0 := fun e => hcj (by rw [hc, e]; rfl)
    omega
  have he := dst_edge c (z : Int) hj hb hpos
  by_cases e : j = a
  · rw [if_pos e]
    subst e
    refine ⟨N.1, fun q => ?_⟩
    have := N.2 q
    rw [hc, hs]
    simp only
    omega
  · rw [if_neg e]
    have := L.heard b j hb hj
    refine ⟨this.1, fun q => ?_⟩
    have := this.2 q
    rw [hc, hs]
    omega
/-- Of the end itself of which is heard. -/
theorem Stl.hear {t : Tn} {c : Nat → Nat → Nat} (H : TnA t c) {z : Nat} (hz : z < 6) {S : Int} (h : Stl t c z S) {a b : Nat} (ha : a < 6) (hb : b < 6) (hc : c a b ≠ 0) {s d : Int} (N : NwS c S z a s d) :
    Stl { t with nd := updW t.nd b (hearM (t.nd b) a z s d) } c z S := by
  have C := H.s.tc
  have L := h.low
  have hme := C.me b hb
  obtain ⟨U, hU⟩ : ∃ U : Tn, U = { t with nd := updW t.nd b (hearM (t.nd b) a z s d) } := ⟨_, rfl⟩
  have nb : U.nd b = hearM (t.nd b) a z s d := by rw [hU]; exact updW_same _ _ _
  have nx : ∀ x, x ≠ b → U.nd x = t.nd x := fun x hx => by rw [hU]; exact updW_ne _ _ hx
  rw [← hU]
  have key : b ≠ z → (((hearM (t.nd b) a z s d).ways z).1 ≤ S ∧ (((hearM (t.nd b) a z s d).ways z).1 = S → (dst c z b : Int) ≤ ((hearM (t.nd b) a z s d).ways z).2.1)) ∧ (((hearM (t.nd b) a z s d).bests z).1 ≤ S ∧ (((hearM (t.nd b) a z s d).bests z).1 = S → (dst c z b : Int) ≤ ((hearM (t.nd b) a z s d).bests z).2)) := fun hbz => by
    have hd := dst_le c (z : Int) b
    exact look_bound (m := { t.nd b with heard := updW (t.nd b).heard a (updW ((t.nd b).heard a) z (s, d)) }) (D := (dst c z b : Int)) (by show z ≠ (t.nd b).me; rw [hme]; exact fun q => hbz q.symm) (by omega) (new_lb C L hb N.low) (L.best b hb)
  have hL : Low U c z S := by
    refine ⟨fun x j hx hj => ?_, fun x hx => ?_, fun x hx => ?_, ?_⟩
    · by_cases q : x = b
      · subst q
        rw [nb, hear_heard]
        by_cases e : j = a
        · rw [if_pos e, e]; exact N.low
        · rw [if_neg e]; exact L.heard x j hx hj
      · rw [nx x q]; exact L.heard x j hx hj
    · by_cases q : x = b
      · subst q
        rw [nb]
        by_cases e : x = z
        · rw [(hear_me _ a z _ _ (by rw [hme]; exact e.symm)).2]; exact L.best x hx
        · exact (key e).2
      · rw [nx x q]; exact L.best x hx
    · by_cases q : x = b
      · subst q
        rw [nb]
        by_cases e : x = z
        · rw [(hear_me _ a z _ _ (by rw [hme]; exact e.symm)).1]; exact L.way x hx
        · exact (key e).1
      · rw [nx x q]; exact L.way x hx
    · by_cases q : z = b
      · subst q
        rw [nb, (hear_me _ a z _ _ (by rw [hme])).1]; exact L.self
      · rw [nx z q]; exact L.self
  have hpos : 0 < c a b := by omega
  refine ⟨hL, ?_, fun x hx hd => ?_⟩
  · obtain ⟨G, hG, hall⟩ := h.reach
    refine ⟨G, ⟨hG.home, fun x hx g hne => ?_⟩, hall⟩
    obtain ⟨g1, g2, g3, j, hj, hGj, hcj, hhj, hdj⟩ := hG.ok x hx g hne
    by_cases q : x = b
    · subst q
      rw [nb]
      have hh : (hearM (t.nd x) a z s d).heard j z = (S, (dst c z j : Int)) := by
        rw [hear_heard]
        by_cases e : j = a
        · rw [if_pos e]
          have hda : dst c z a < 200 := by rw [← e]; omega
          obtain ⟨r1, r2⟩ := N.reach hda
          rw [r1, r2, e]
        · rw [if_neg e]; exact hhj
      have hcost : (t.nd x).cost j = (c j x : Int) := by rw [C.cost x j hx hj, C.lk.sym x j]
      have hh' : updW (t.nd x).heard a (updW ((t.nd x).heard a) z (s, d)) j z = (S, (dst c z j : Int)) := by
        have := hh
        rw [hear_heard] at this
        rw [heard_z]; exact this
      have lg := look_good (m := { t.nd x with heard := updW (t.nd x).heard a (updW ((t.nd x).heard a) z (s, d)) }) (S := S) (D := (dst c z x : Int)) (show z ≠ (t.nd x).me by rw [hme]; exact fun e => hne e.symm) hj (show 0 < (t.nd x).cost j by rw [hcost]; omega) (by dsimp only; rw [hh']) (by dsimp only; rw [hh', hcost]; simp only; omega) (by omega) (new_lb C L hx N.low) (L.best x hx)
      obtain ⟨⟨k, hk, hw, hck, hk1, hk2⟩, hbst⟩ := lg
      have h1 : (t.nd x).cost k = (c k x : Int) := by rw [C.cost x k hx hk, C.lk.sym x k]
      have hck' : (t.nd x).cost k ≠ 0 := hck
      refine ⟨g1, ⟨k, hk, hw, by omega, ?_⟩, hbst, j, hj, hGj, hcj, hh, hdj⟩
      have he := dst_edge c (z : Int) hk hx (show 0 < c k x by omega)
      have hl := hL.heard x k hx hk
      rw [nb, hear_heard] at hl
      have hk1' : (updW (t.nd x).heard a (updW ((t.nd x).heard a) z (s, d)) k z).1 = S := hk1
      have hk2' : (updW (t.nd x).heard a (updW ((t.nd x).heard a) z (s, d)) k z).2 + (t.nd x).cost k = (dst c z x : Int) := hk2
      rw [heard_z] at hk1' hk2'
      have hl2 := hl.2 hk1'
      omega
    · rw [nx x q]
      exact ⟨g1, g2, g3, j, hj, hGj, hcj, hhj, hdj⟩
  · have hxz : z ≠ x := fun e => by rw [← e, dst_self c hz] at hd; omega
    by_cases q : x = b
    · subst q
      have hda : dst c z a = 200 := dst_out C.lk (z : Int) ha hx hpos hd
      have heard' : ∀ j, j < 6 → dst c z j = 200 → 200 ≤ ((hearM (t.nd x) a z s d).heard j z).2 := fun j hj hdj => by
        rw [hear_heard]
        by_cases e : j = a
        · rw [if_pos e]; exact N.out hda
        · rw [if_neg e]; exact (h.out x hx hd).2 j hj hdj
      rw [nb]
      refine ⟨?_, heard'⟩
      have hn : ∀ j, j < 6 → mayB { t.nd x with heard := updW (t.nd x).heard a (updW ((t.nd x).heard a) z (s, d)) } z j = false := fun j hj => by
        cases qm : mayB { t.nd x with heard := updW (t.nd x).heard a (updW ((t.nd x).heard a) z (s, d)) } z j
        · rfl
        · exfalso
          obtain ⟨c0, c1, _⟩ := may_iff.1 qm
          have c0' : (t.nd x).cost j ≠ 0 := c0
          have h1 : (t.nd x).cost j = (c j x : Int) := by rw [C.cost x j hx hj, C.lk.sym x j]
          have hdj := dst_out C.lk (z : Int) hj hx (show 0 < c j x by omega) hd
          have h2 := heard' j hj hdj
          rw [hear_heard] at h2
          have c1' : (updW (t.nd x).heard a (updW ((t.nd x).heard a) z (s, d)) j z).2 + (t.nd x).cost j < 200 := c1
          rw [heard_z] at c1'
          omega
      have := (look_none hn (show z ≠ (t.nd x).me by rw [hme]; exact hxz)).1
      show ((lookM _ z).ways z).2.2 = -1
      rw [this]
    · rw [nx x q]; exact h.out x hx hd

/-- A settled net, and what is on its way in it. -/
structure Ag (T : Tn) (c : Nat → Nat → Nat) (S : Nat → Int) : Prop where
  a : TnA T c
  st : ∀ z, z < 6 → Stl T c z (S z)
  nw : ∀ x ∈ T.news, NwS c (S x.to) x.to x.f x.s x.d
theorem Ag.sub {T : Tn} {c : Nat → Nat → Nat} {S : Nat → Int} (h : Ag T c S) {nw : List Nw} (hn : ∀ x ∈ nw, x ∈ T.news) : Ag { T with news := nw } c S :=
  ⟨h.a.sub hn, fun z hz => Stl.congr (T := T) hz (fun x _ => ZEq.refl (T.nd x) z) (h.st z hz), fun x hx => h.nw x (hn x hx)⟩
theorem Stl.tells {T : Tn} {c : Nat → Nat → Nat} {z : Nat} {S : Int} (h : Stl T c z S) (H : TnA T c) (hz : z < 6) {a : Nat} (ha : a < 6) : NwS c S z a ((T.nd a).ways z).1 ((T.nd a).ways z).2.1 := by
  refine ⟨h.low.way a ha, fun hd => ?_, fun hd => ?_⟩
  · obtain ⟨G, hG, hall⟩ := h.reach
    exact hG.way h.low hz ha (hall a ha hd)
  · rw [(h.way H hz ha).1, hd]; exact Int.le_refl _
theorem Ag.say {T : Tn} {c : Nat → Nat → Nat} {S : Nat → Int} (h : Ag T c S) (a b : Int) : Ag (sayC T a b).1 c S := by
  have hn := say_nx h.a a b
  unfold sayC at hn ⊢
  by_cases e : ¬ isN a ∨ ¬ isN b
  · rw [if_pos e]; exact h
  · rw [if_neg e] at hn ⊢
    by_cases e2 : T.cst a.toNat b.toNat = 0
    · rw [if_pos e2]; exact h
    · rw [if_neg e2] at hn ⊢
      by_cases e3 : 40 < T.news.length + 6
      · rw [if_pos e3]; exact h
      · rw [if_neg e3] at hn ⊢
        refine ⟨hn.a, fun z hz => Stl.congr (T := T) hz (fun x _ => ZEq.refl (T.nd x) z) (h.st z hz), fun x hx => ?_⟩
        rcases List.mem_append.1 hx with q | q
        · exact h.nw x q
        · obtain ⟨k, hk, rfl⟩ := List.mem_map.1 q
          have hk6 := List.mem_range.1 hk
          exact (h.st k hk6).tells h.a hk6 (show a.toNat < 6 by omega)
theorem Ag.hear {T : Tn} {c : Nat → Nat → Nat} {S : Nat → Int} (h : Ag T c S) {y : Nw} (hy : y.f < 6 ∧ y.g < 6 ∧ y.f ≠ y.g ∧ y.to < 6 ∧ 0 ≤ y.s ∧ 0 ≤ y.d ∧ y.d ≤ 200 ∧ bet y.s y.d ((T.nd y.f).bests y.to).1 ((T.nd y.f).bests y.to).2 = false) (hs : y.s ≤ agT T y.to) (N : NwS c (S y.to) y.to y.f y.s y.d) : Ag (hearC T y).1 c S := by
  have hn := hear_nx h.a hy hs
  unfold hearC at hn ⊢
  by_cases e : (T.nd y.g).cost y.f = 0
  · rw [if_pos e]; exact h
  · rw [if_neg e] at hn ⊢
    have hc : c y.g y.f ≠ 0 := fun q => e (by rw [h.a.s.tc.cost _ _ hy.2.1 hy.1, q]; rfl)
    have hc' : c y.f y.g ≠ 0 := by rw [h.a.s.tc.lk.sym]; exact hc
    refine ⟨hn.a, fun z hz => ?_, h.nw⟩
    by_cases q : z = y.to
    · subst q
      exact (h.st y.to hz).hear h.a hz hy.1 hy.2.1 hc' N
    · refine (h.st z hz).congr hz (fun x _ => ?_)
      show ZEq (updW T.nd y.g (hearM (T.nd y.g) y.f y.to y.s y.d) x) (T.nd x) z
      by_cases w : x = y.g
      · subst w; rw [updW_same]; exact hear_far _ q _ _
      · rw [updW_ne _ _ w]; exact ZEq.refl _ _
/-- SETTLED, IT STAYS SETTLED: but for a link that is set or an age that rises. -/
theorem Ag.step {T : Tn} {c : Nat → Nat → Nat} {S : Nat → Int} (h : Ag T c S) (x : Sp) (h1 : x.k ≠ 1) (h2 : x.k ≠ 2) : Ag (doT T x).1 c S := by
  unfold doT
  rw [if_neg h1, if_neg h2]
  by_cases e3 : x.k = 3
  · rw [if_pos e3]; exact h.say x.a x.b
  · rw [if_neg e3]
    by_cases e4 : x.k = 4 ∨ x.k = 5 ∨ x.k = 6
    · rw [if_pos e4]
      unfold newsC
      by_cases hl : 0 ≤ x.n ∧ x.n.toNat < T.news.length
      · rw [dif_pos hl]
        have hm : T.news[x.n.toNat]'hl.2 ∈ T.news := List.getElem_mem hl.2
        have hs := h.sub (nw := dropAt T.news x.n.toNat) (fun x hx => mem_dropAt hx)
        by_cases e : x.k = 6
        · rw [if_pos e]
          by_cases e2 : 40 ≤ T.news.length
          · rw [if_pos e2]; exact h
          · rw [if_neg e2]
            exact h.sub (fun x hx => by
              rcases List.mem_append.1 hx with q | q
              · exact q
              · rw [List.mem_singleton.1 q]; exact hm)
        · rw [if_neg e]
          by_cases e2 : x.k = 4
          · rw [if_pos e2]
            exact hs.hear (h.a.ok.news _ hm) (h.a.newsA _ hm) (h.nw _ hm)
          · rw [if_neg e2]; exact hs
      · rw [dif_neg hl]; exact h
    · rw [if_neg e4]; exact h
theorem Ag.start {t : Tn} {c : Nat → Nat → Nat} (H : TnA t c) {r : Nat} (hr : 7 ≤ r) : Ag (settleT t r) c (fun z => agT t z + 1) := by
  obtain ⟨h1, h2⟩ := H.settle hr
  exact ⟨h1, h2, fun x hx => by rw [settleT_news] at hx; cases hx⟩

end Go.Proofs.Ythiojjkgodffnae

/- A ROUND THAT CHANGES NO WAY: what it leaves, no further round changes. No Go here. -/
namespace Go.Proofs.Ythiojjkgodffnae

theorem TnA.tell' {t : Tn} {c : Nat → Nat → Nat} (H : TnA t c) {a b : Nat} (ha : a < 6) (hb : b < 6) : TnA (Ythiojjkgodffnae.tellTo t a b) c := by
  by_cases e : t.cst a b = 0
  · have : Ythiojjkgodffnae.tellTo t a b = t := if_pos e
    rw [this]; exact H
  · exact (H.tellTo ha hb e).1
theorem TnA.row' {t : Tn} {c : Nat → Nat → Nat} (H : TnA t c) {a : Nat} (ha : a < 6) : ∀ b, b ≤ 6 → TnA (rowT t a b) c
  | 0, _ => H
  | b + 1, hb => (H.row' ha b (by omega)).tell' ha (by omega)
theorem TnA.round' {t : Tn} {c : Nat → Nat → Nat} (H : TnA t c) : ∀ a, a ≤ 6 → TnA (roundT t a) c
  | 0, _ => H
  | a + 1, ha => (H.round' a (by omega)).row' (by omega) 6 (Nat.le_refl _)
/-- What b hears of a's ways, one by one. -/
def partT (t : Tn) (a b j : Nat) : Tn := { t with nd := updW t.nd b (tellAll (t.nd b) a (t.nd a).ways j) }
theorem part_zero (t : Tn) (a b : Nat) : partT t a b 0 = t := by
  unfold partT
  have : updW t.nd b (tellAll (t.nd b) a (t.nd a).ways 0) = t.nd := updW_id _ _ _ rfl
  rw [this]
theorem part_six (t : Tn) {a b : Nat} (h : t.cst a b ≠ 0) : partT t a b 6 = tellTo t a b := (if_neg h).symm

/-- Did it change a way? -/
def tellChg (m : Md) (a : Nat) (w : Nat → Int × Int × Int) : Nat → Bool
  | 0 => false
  | j + 1 => tellChg m a w j || decide ((tellAll m a w (j + 1)).ways j ≠ (tellAll m a w j).ways j)
def rowChg (t : Tn) (a : Nat) : Nat → Bool
  | 0 => false
  | b + 1 => rowChg t a b || (if (rowT t a b).cst a b = 0 then false else tellChg ((rowT t a b).nd b) a ((rowT t a b).nd a).ways 6)
def roundChg (t : Tn) : Nat → Bool
  | 0 => false
  | a + 1 => roundChg t a || rowChg (roundT t a) a 6
theorem hear_all (m : Md) (a z : Nat) (s d : Int) : (hearM m a z s d).heard = updW m.heard a (updW (m.heard a) z (s, d)) := by
  unfold hearM
  rw [look_heard]
theorem tell_quiet (m : Md) (a : Nat) (w : Nat → Int × Int × Int) : ∀ j, tellChg m a w j = false → (tellAll m a w j).ways = m.ways ∧ (∀ z, z < j → (tellAll m a w j).heard a z = ((w z).1, (w z).2.1)) ∧ (∀ x z, x ≠ a → (tellAll m a w j).heard x z = m.heard x z)
  | 0, _ => ⟨rfl, fun z hz => by omega, fun _ _ _ => rfl⟩
  | j + 1, h => by
    rw [tellChg, Bool.or_eq_false_iff] at h
    obtain ⟨h1, h2, h3⟩ := tell_quiet m a w j h.1
    have hj : (tellAll m a w (j + 1)).ways j = (tellAll m a w j).ways j := by
      have := of_decide_eq_false h.2
      exact Classical.byContradiction fun q => this q
    refine ⟨?_, fun z hz => ?_, fun x z hx => ?_⟩
    · funext z
      by_cases e : z = j
      · rw [e, hj, h1]
      · rw [show tellAll m a w (j + 1) = hearM (tellAll m a w j) a j (w j).1 (w j).2.1 from rfl, (hear_far _ e _ _).ways, h1]
    · rw [show tellAll m a w (j + 1) = hearM (tellAll m a w j) a j (w j).1 (w j).2.1 from rfl, hear_all, updW_same]
      by_cases e : z = j
      · rw [e, updW_same]
      · rw [updW_ne _ _ e]; exact h2 z (by omega)
    · rw [show tellAll m a w (j + 1) = hearM (tellAll m a w j) a j (w j).1 (w j).2.1 from rfl, hear_all, updW_ne _ _ hx]
      exact h3 x z hx
theorem row_quiet (t : Tn) (a : Nat) : ∀ b, rowChg t a b = false → (∀ x, ((rowT t a b).nd x).ways = (t.nd x).ways) ∧ (∀ x z, x < b → z < 6 → t.cst a x ≠ 0 → ((rowT t a b).nd x).heard a z = (((t.nd a).ways z).1, ((t.nd a).ways z).2.1)) ∧ (∀ x y z, y ≠ a → ((rowT t a b).nd x).heard y z = (t.nd x).heard y z)
  | 0, _ => ⟨fun _ => rfl, fun x z hx => by omega, fun _ _ _ _ => rfl⟩
  | b + 1, h => by
    rw [rowChg, Bool.or_eq_false_iff, rowT_cst] at h
    obtain ⟨h1, h2, h3⟩ := row_quiet t a b h.1
    by_cases e : t.cst a b = 0
    · have : rowT t a (b + 1) = rowT t a b := by
        show tellTo (rowT t a b) a b = _
        exact if_pos (by rw [rowT_cst]; exact e)
      rw [this]
      refine ⟨h1, fun x z hx hz hc => h2 x z ?_ hz hc, h3⟩
      have : x ≠ b := fun q => hc (by rw [q]; exact e)
      omega
    · have h' := h.2
      rw [if_neg e] at h'
      obtain ⟨k1, k2, k3⟩ := tell_quiet _ _ _ 6 h'
      have en : (rowT t a (b + 1)).nd = updW (rowT t a b).nd b (tellAll ((rowT t a b).nd b) a ((rowT t a b).nd a).ways 6) := tellTo_nd _ _ _ (by rw [rowT_cst]; exact e)
      refine ⟨fun x => ?_, fun x z hx hz hc => ?_, fun x y z hy => ?_⟩
      · rw [en]
        by_cases q : x = b
        · rw [q, updW_same, k1, h1]
        · rw [updW_ne _ _ q, h1]
      · rw [en]
        by_cases q : x = b
        · rw [q, updW_same, k2 z hz, h1]
        · rw [updW_ne _ _ q]; exact h2 x z (by omega) hz hc
      · rw [en]
        by_cases q : x = b
        · rw [q, updW_same, k3 y z hy, h3 b y z hy]
        · rw [updW_ne _ _ q]; exact h3 x y z hy
theorem round_quiet (t : Tn) : ∀ a, roundChg t a = false → (∀ x, ((roundT t a).nd x).ways = (t.nd x).ways) ∧ ∀ y x z, y < a → x < 6 → z < 6 → t.cst y x ≠ 0 → ((roundT t a).nd x).heard y z = (((t.nd y).ways z).1, ((t.nd y).ways z).2.1)
  | 0, _ => ⟨fun _ => rfl, fun y x z hy => by omega⟩
  | a + 1, h => by
    rw [roundChg, Bool.or_eq_false_iff] at h
    obtain ⟨h1, h2⟩ := round_quiet t a h.1
    obtain ⟨k1, k2, k3⟩ := row_quiet _ _ 6 h.2
    refine ⟨fun x => ?_, fun y x z hy hx hz hc => ?_⟩
    · rw [roundT, k1, h1]
    · rw [roundT]
      by_cases e : y = a
      · rw [e, k2 x z hx hz (by rw [roundT_cst, ← e]; exact hc), h1]
      · rw [k3 x y z e]; exact h2 y x z (by omega) hx hz hc
/-- What was heard so already, and looked at, changes nothing. -/
theorem same_hear {m : Md} (hl : Lkd m) {a z : Nat} (hz : z < 6) {s d : Int} (h : m.heard a z = (s, d)) : hearM m a z s d = m := by
  unfold hearM
  have e : ({ m with heard := updW m.heard a (updW (m.heard a) z (s, d)) } : Md) = m := by
    have : updW m.heard a (updW (m.heard a) z (s, d)) = m.heard := updW_id _ _ _ (updW_id _ _ _ h).symm
    rw [this]
  rw [e]
  by_cases q : z = m.me
  · unfold lookM; rw [if_pos q]
  · exact (hl z hz q).look
theorem same_tell {m : Md} (hl : Lkd m) {a : Nat} {w : Nat → Int × Int × Int} (h : ∀ z, z < 6 → m.heard a z = ((w z).1, (w z).2.1)) : ∀ j, j ≤ 6 → tellAll m a w j = m
  | 0, _ => rfl
  | j + 1, hj => by
    rw [show tellAll m a w (j + 1) = hearM (tellAll m a w j) a j (w j).1 (w j).2.1 from rfl, same_tell hl h j (by omega)]
    exact same_hear hl (by omega) (h j (by omega))
theorem same_round {t : Tn} {c : Nat → Nat → Nat} (H : TnA t c) (h : ∀ y x z, y < 6 → x < 6 → z < 6 → t.cst y x ≠ 0 → (t.nd x).heard y z = (((t.nd y).ways z).1, ((t.nd y).ways z).2.1)) : roundT t 6 = t := by
  have one : ∀ a b, a < 6 → b < 6 → tellTo t a b = t := fun a b ha hb => by
    unfold tellTo
    by_cases e : t.cst a b = 0
    · rw [if_pos e]
    · rw [if_neg e, same_tell (H.s.z b hb).l (fun z hz => h a b z ha hb hz e) 6 (Nat.le_refl _), updW_id _ _ _ rfl]
  have row : ∀ a, a < 6 → ∀ b, b ≤ 6 → rowT t a b = t := fun a ha b => by
    induction b with
    | zero => exact fun _ => rfl
    | succ b ih => exact fun hb => by rw [rowT, ih (by omega), one a b ha (by omega)]
  have rnd : ∀ a, a ≤ 6 → roundT t a = t := fun a => by
    induction a with
    | zero => exact fun _ => rfl
    | succ a ih => exact fun ha => by rw [roundT, ih (by omega), row a (by omega) 6 (Nat.le_refl _)]
  exact rnd 6 (Nat.le_refl _)
/-- A round that changed no way: another one changes nothing. -/
theorem still_round {t : Tn} {c : Nat → Nat → Nat} (H : TnA t c) (h : roundChg t 6 = false) : roundT (roundT t 6) 6 = roundT t 6 := by
  obtain ⟨h1, h2⟩ := round_quiet t 6 h
  refine same_round (H.round' 6 (Nat.le_refl _)) fun y x z hy hx hz hc => ?_
  rw [h1, h2 y x z hy hx hz (by rw [roundT_cst] at hc; exact hc)]
theorem still_rounds {t : Tn} {c : Nat → Nat → Nat} (H : TnA t c) {r : Nat} (h : roundChg (roundsT t r) 6 = false) : ∀ k, roundsT t (r + 1 + k) = roundsT t (r + 1)
  | 0 => rfl
  | k + 1 => by
    show roundT (roundsT t (r + 1 + k)) 6 = _
    rw [still_rounds H h k]
    exact still_round (H.rounds r).1 h

end Go.Proofs.Ythiojjkgodffnae
