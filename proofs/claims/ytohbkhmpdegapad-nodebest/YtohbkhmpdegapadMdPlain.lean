/- A NODE, AS NUMBERS: what it knows, which of what neighbours said may be gone, its ways and the best. No Go here. -/
namespace Go.Proofs.Ytohbkhmpdegapad

/-- Is a way of an age and a length better than another one? -/
def bet (s d s2 d2 : Int) : Bool := if s = s2 then decide (d < d2) else decide (s2 < s)
theorem bet_iff {s d s2 d2 : Int} : bet s d s2 d2 = true ↔ s2 < s ∨ (s = s2 ∧ d < d2) := by
  unfold bet
  split
  · next h => simp [h]
  · next h => simp [h]
theorem bet_not {s d s2 d2 : Int} : bet s d s2 d2 = false ↔ s < s2 ∨ (s = s2 ∧ d2 ≤ d) := by
  have := bet_iff (s := s) (d := d) (s2 := s2) (d2 := d2)
  constructor
  · intro h
    have hn : ¬ (s2 < s ∨ (s = s2 ∧ d < d2)) := fun e => by rw [this.2 e] at h; cases h
    omega
  · intro h
    cases e : bet s d s2 d2
    · rfl
    · have := this.1 e; omega

/-- What a node knows: costs, what was said (age, length), ways (age, length, hop), the best. -/
structure Md where
  me : Nat
  cost : Nat → Int
  heard : Nat → Nat → Int × Int
  ways : Nat → Int × Int × Int
  bests : Nat → Int × Int

/-- May what k said of 'to' be gone? -/
def mayB (m : Md) (to k : Nat) : Bool := decide (m.cost k ≠ 0) && decide ((m.heard k to).2 + m.cost k < 200) && bet (m.heard k to).1 (m.heard k to).2 (m.bests to).1 (m.bests to).2
def wayBy (m : Md) (to k : Nat) : Int × Int × Int := ((m.heard k to).1, (m.heard k to).2 + m.cost k, (k : Int))
theorem may_iff {m : Md} {to k : Nat} : mayB m to k = true ↔ m.cost k ≠ 0 ∧ (m.heard k to).2 + m.cost k < 200 ∧ bet (m.heard k to).1 (m.heard k to).2 (m.bests to).1 (m.bests to).2 = true := by
  unfold mayB
  simp only [Bool.and_eq_true, decide_eq_true_eq]
  constructor
  · rintro ⟨⟨h1, h2⟩, h3⟩; exact ⟨h1, h2, h3⟩
  · rintro ⟨h1, h2, h3⟩; exact ⟨⟨h1, h2⟩, h3⟩

/-- Which one is gone, as the document says it: the youngest, then the shortest, then the lowest neighbour's. -/
def IsPick (m : Md) (to : Nat) (w : Int × Int × Int) : Prop :=
  (∃ k, k < 6 ∧ mayB m to k = true ∧ w = wayBy m to k ∧ ∀ j, j < 6 → mayB m to j = true → bet (wayBy m to j).1 (wayBy m to j).2.1 w.1 w.2.1 = false ∧ (bet w.1 w.2.1 (wayBy m to j).1 (wayBy m to j).2.1 = false → k ≤ j)) ∨
  ((∀ j, j < 6 → mayB m to j = false) ∧ w = ((m.bests to).1, 200, -1))
theorem IsPick.unique {m : Md} {to : Nat} {w v : Int × Int × Int} (h : IsPick m to w) (h' : IsPick m to v) : w = v := by
  rcases h with ⟨k, hk, mk, rfl, hw⟩ | ⟨hn, rfl⟩
  · rcases h' with ⟨j, hj, mj, rfl, hv⟩ | ⟨hn, _⟩
    · obtain ⟨a1, a2⟩ := hw j hj mj
      obtain ⟨b1, b2⟩ := hv k hk mk
      have c1 := a2 b1
      have c2 := b2 a1
      have : k = j := by omega
      rw [this]
    · rw [hn k hk] at mk; cases mk
  · rcases h' with ⟨j, hj, mj, rfl, hv⟩ | ⟨_, rfl⟩
    · rw [hn j hj] at mj; cases mj
    · rfl

/-- The reference's search, down from the greatest number: the first s of them. -/
def pkD (m : Md) (to : Nat) : Nat → Int × Int × Int
  | 0 => ((m.bests to).1, 200, -1)
  | s + 1 =>
    if mayB m to (5 - s) = true then
      (if (pkD m to s).2.2 = -1 ∨ bet (pkD m to s).1 (pkD m to s).2.1 (wayBy m to (5 - s)).1 (wayBy m to (5 - s)).2.1 = false then wayBy m to (5 - s) else pkD m to s)
    else pkD m to s
theorem pkD_part (m : Md) (to : Nat) : ∀ s, s ≤ 6 →
    (∃ k, 6 - s ≤ k ∧ k < 6 ∧ mayB m to k = true ∧ pkD m to s = wayBy m to k ∧ ∀ j, 6 - s ≤ j → j < 6 → mayB m to j = true → bet (wayBy m to j).1 (wayBy m to j).2.1 (wayBy m to k).1 (wayBy m to k).2.1 = false ∧ (bet (wayBy m to k).1 (wayBy m to k).2.1 (wayBy m to j).1 (wayBy m to j).2.1 = false → k ≤ j)) ∨
    ((∀ j, 6 - s ≤ j → j < 6 → mayB m to j = false) ∧ pkD m to s = ((m.bests to).1, 200, -1))
  | 0, _ => .inr ⟨fun j h1 h2 => by omega, rfl⟩
  | s + 1, hs => by
    have e : 6 - (s + 1) = 5 - s := by omega
    rcases pkD_part m to s (by omega) with ⟨k, k1, k2, mk, hp, hall⟩ | ⟨hn, hp⟩
    · rw [pkD, hp]
      by_cases hm : mayB m to (5 - s) = true
      · rw [if_pos hm]
        by_cases hb : (wayBy m to k).2.2 = -1 ∨ bet (wayBy m to k).1 (wayBy m to k).2.1 (wayBy m to (5 - s)).1 (wayBy m to (5 - s)).2.1 = false
        · rw [if_pos hb]
          have hb2 : bet (wayBy m to k).1 (wayBy m to k).2.1 (wayBy m to (5 - s)).1 (wayBy m to (5 - s)).2.1 = false := by
            rcases hb with h | h
            · exfalso
              have : (k : Int) = -1 := h
              omega
            · exact h
          refine .inl ⟨5 - s, by omega, by omega, hm, rfl, fun j j1 j2 mj => ?_⟩
          by_cases ej : j = 5 - s
          · subst ej
            refine ⟨?_, fun _ => Nat.le_refl _⟩
            rw [bet_not]; omega
          · obtain ⟨a1, a2⟩ := hall j (by omega) j2 mj
            refine ⟨?_, fun _ => by omega⟩
            rw [bet_not] at a1 hb2 ⊢
            omega
        · rw [if_neg hb]
          have hb2 : bet (wayBy m to k).1 (wayBy m to k).2.1 (wayBy m to (5 - s)).1 (wayBy m to (5 - s)).2.1 = true := by
            cases h : bet (wayBy m to k).1 (wayBy m to k).2.1 (wayBy m to (5 - s)).1 (wayBy m to (5 - s)).2.1
            · exact absurd (.inr h) hb
            · rfl
          refine .inl ⟨k, by omega, k2, mk, rfl, fun j j1 j2 mj => ?_⟩
          by_cases ej : j = 5 - s
          · subst ej
            rw [hb2]
            refine ⟨?_, fun h => by cases h⟩
            rw [bet_iff] at hb2
            rw [bet_not]
            omega
          · exact hall j (by omega) j2 mj
      · rw [if_neg hm]
        refine .inl ⟨k, by omega, k2, mk, rfl, fun j j1 j2 mj => ?_⟩
        by_cases ej : j = 5 - s
        · subst ej; exact absurd mj hm
        · exact hall j (by omega) j2 mj
    · rw [pkD, hp]
      by_cases hm : mayB m to (5 - s) = true
      · rw [if_pos hm, if_pos (.inl rfl)]
        refine .inl ⟨5 - s, by omega, by omega, hm, rfl, fun j j1 j2 mj => ?_⟩
        by_cases ej : j = 5 - s
        · subst ej
          refine ⟨?_, fun _ => Nat.le_refl _⟩
          rw [bet_not]; omega
        · rw [hn j (by omega) j2] at mj; cases mj
      · rw [if_neg hm]
        refine .inr ⟨fun j j1 j2 => ?_, rfl⟩
        by_cases ej : j = 5 - s
        · subst ej
          cases h : mayB m to (5 - s)
          · rfl
          · exact absurd h hm
        · exact hn j (by omega) j2
/-- The reference's search finds what the document says. -/
theorem pkD_is (m : Md) (to : Nat) : IsPick m to (pkD m to 6) := by
  rcases pkD_part m to 6 (Nat.le_refl _) with ⟨k, _, k2, mk, hp, hall⟩ | ⟨hn, hp⟩
  · rw [hp]
    exact .inl ⟨k, k2, mk, rfl, fun j hj mj => hall j (by omega) hj mj⟩
  · rw [hp]
    exact .inr ⟨fun j hj => hn j (by omega) hj, rfl⟩

def updW {α : Type} (f : Nat → α) (i : Nat) (v : α) : Nat → α := fun j => if j = i then v else f j
theorem updW_same {α : Type} (f : Nat → α) (i : Nat) (v : α) : updW f i v i = v := by unfold updW; rw [if_pos rfl]
theorem updW_ne {α : Type} (f : Nat → α) {i j : Nat} (v : α) (h : j ≠ i) : updW f i v j = f j := by unfold updW; rw [if_neg h]
/-- The way to another node anew. -/
def lookM (m : Md) (to : Nat) : Md :=
  if to = m.me then m else
    { m with
      ways := updW m.ways to (pkD m to 6)
      bests := if (pkD m to 6).2.2 ≠ -1 ∧ bet (pkD m to 6).1 (pkD m to 6).2.1 (m.bests to).1 (m.bests to).2 = true then updW m.bests to ((pkD m to 6).1, (pkD m to 6).2.1) else m.bests }
def lookTo (m : Md) : Nat → Md
  | 0 => m
  | k + 1 => lookM (lookTo m k) k
def newM (me : Nat) : Md := { me := me, cost := fun _ => 0, heard := fun _ _ => (0, 200), ways := updW (fun _ => (0, 200, -1)) me (0, 0, (me : Int)), bests := updW (fun _ => (0, 200)) me (0, 0) }
def linkM (m : Md) (who : Nat) (c : Int) : Md :=
  lookTo { m with cost := updW m.cost who c, heard := if c = 0 then updW m.heard who (fun _ => (0, 200)) else m.heard } 6
def hearM (m : Md) (f to : Nat) (s d : Int) : Md := lookM { m with heard := updW m.heard f (updW (m.heard f) to (s, d)) } to
def tickM (m : Md) : Md :=
  { m with ways := updW m.ways m.me ((m.ways m.me).1 + 1, (m.ways m.me).2.1, (m.ways m.me).2.2), bests := updW m.bests m.me ((m.ways m.me).1 + 1, 0) }

theorem look_me (m : Md) (to : Nat) : (lookM m to).me = m.me := by unfold lookM; split <;> rfl
theorem look_cost (m : Md) (to : Nat) : (lookM m to).cost = m.cost := by unfold lookM; split <;> rfl
theorem look_heard (m : Md) (to : Nat) : (lookM m to).heard = m.heard := by unfold lookM; split <;> rfl
theorem look_other (m : Md) {to k : Nat} (h : k ≠ to) : (lookM m to).ways k = m.ways k ∧ (lookM m to).bests k = m.bests k := by
  unfold lookM
  split
  · exact ⟨rfl, rfl⟩
  · refine ⟨updW_ne _ _ h, ?_⟩
    dsimp only
    split
    · exact updW_ne _ _ h
    · rfl
/-- What is known of a way. -/
structure WayOk (m : Md) (k : Nat) : Prop where
  drop : (m.ways k).2.2 = -1 → (m.ways k).2.1 = 200
  notBetter : (m.ways k).2.2 ≠ -1 → bet (m.ways k).1 (m.ways k).2.1 (m.bests k).1 (m.bests k).2 = false
  by_ : (m.ways k).2.2 ≠ -1 → k ≠ m.me → ∃ j, j < 6 ∧ m.ways k = wayBy m k j ∧ m.cost j ≠ 0 ∧ (m.heard j k).2 + m.cost j < 200 ∧ bet (m.heard j k).1 (m.heard j k).2 (m.bests k).1 (m.bests k).2 = true
theorem look_ok (m : Md) {to : Nat} (h : to ≠ m.me) (hc : ∀ j, j < 6 → 0 ≤ m.cost j) : WayOk (lookM m to) to ∧ bet (m.bests to).1 (m.bests to).2 ((lookM m to).bests to).1 ((lookM m to).bests to).2 = false := by
  have hp := pkD_is m to
  have ew : (lookM m to).ways to = pkD m to 6 := by unfold lookM; rw [if_neg h]; exact updW_same _ _ _
  have eb : (lookM m to).bests to = if (pkD m to 6).2.2 ≠ -1 ∧ bet (pkD m to 6).1 (pkD m to 6).2.1 (m.bests to).1 (m.bests to).2 = true then ((pkD m to 6).1, (pkD m to 6).2.1) else m.bests to := by
    unfold lookM
    rw [if_neg h]
    dsimp only
    split
    · exact updW_same _ _ _
    · rfl
  rcases hp with ⟨k, hk, mk, hw, _⟩ | ⟨_, hw⟩
  · obtain ⟨c0, c1, c2⟩ := may_iff.1 mk
    have hck := hc k hk
    have hne : (pkD m to 6).2.2 ≠ -1 := by rw [hw]; show (k : Int) ≠ -1; omega
    have e1 : (pkD m to 6).1 = (m.heard k to).1 := by rw [hw]; rfl
    have e2 : (pkD m to 6).2.1 = (m.heard k to).2 + m.cost k := by rw [hw]; rfl
    by_cases hb : bet (pkD m to 6).1 (pkD m to 6).2.1 (m.bests to).1 (m.bests to).2 = true
    · rw [if_pos ⟨hne, hb⟩] at eb
      refine ⟨⟨fun e => ?_, fun _ => ?_, fun _ _ => ⟨k, hk, ?_, ?_, ?_, ?_⟩⟩, ?_⟩
      · rw [ew] at e; exact absurd e hne
      · rw [ew, eb, bet_not]; simp
      · rw [ew, hw]; unfold wayBy; rw [look_heard, look_cost]
      · rw [look_cost]; exact c0
      · rw [look_heard, look_cost]; exact c1
      · rw [look_heard, eb, bet_iff]; simp only; omega
      · rw [eb, bet_not]
        rw [bet_iff] at hb
        simp only; omega
    · rw [if_neg (fun q => hb q.2)] at eb
      have hb' : bet (pkD m to 6).1 (pkD m to 6).2.1 (m.bests to).1 (m.bests to).2 = false := by
        cases q : bet (pkD m to 6).1 (pkD m to 6).2.1 (m.bests to).1 (m.bests to).2
        · rfl
        · exact absurd q hb
      refine ⟨⟨fun e => ?_, fun _ => ?_, fun _ _ => ⟨k, hk, ?_, ?_, ?_, ?_⟩⟩, ?_⟩
      · rw [ew] at e; exact absurd e hne
      · rw [ew, eb]; exact hb'
      · rw [ew, hw]; unfold wayBy; rw [look_heard, look_cost]
      · rw [look_cost]; exact c0
      · rw [look_heard, look_cost]; exact c1
      · rw [look_heard, eb]; exact c2
      · rw [eb, bet_not]; omega
  · have hd : (pkD m to 6).2.2 = -1 := by rw [hw]
    rw [if_neg (fun q => q.1 hd)] at eb
    refine ⟨⟨fun _ => by rw [ew, hw], fun e => ?_, fun e => ?_⟩, ?_⟩
    · rw [ew] at e; exact absurd hd e
    · rw [ew] at e; exact absurd hd e
    · rw [eb, bet_not]; omega

end Go.Proofs.Ytohbkhmpdegapad
