/- A NODE, AS NUMBERS: what it knows, which of what neighbours said may be gone, its ways and the best. No Go here. -/
namespace Go.Proofs.YtfcknkanbcndjagGreatDoor

/-- Is a way of an age and a length better than another one? -/
def bet (s d s2 d2 : Int) : Bool := if s = s2 then decide (d < d2) else decide (s2 < s)
theorem bet_iff {s d s2 d2 : Int} : bet s d s2 d2 = true ↔ s2 < s ∨ (s = s2 ∧ d < d2) := by
  unfold bet
  split
  · next h => simp [h]
  · next h => simp [h]
theorem bet_not {s d s2 d2 : Int} : bet s d s2 d2 = false ↔ s < s2 ∨ (s = s2 ∧ d2 ≤ d) := by
  have := bet_iff (s := s) (d := d) (s2 := s2) (d2 := d2)
  constructor
  · intro h
    have hn : ¬ (s2 < s ∨ (s = s2 ∧ d < d2)) := fun e => by rw [this.2 e] at h; cases h
    omega
  · intro h
    cases e : bet s d s2 d2
    · rfl
    · have := this.1 e; omega

/-- What a node knows: costs, what was said (age, length), ways (age, length, hop), the best. -/
structure Md where
  me : Nat
  cost : Nat → Int
  heard : Nat → Nat → Int × Int
  ways : Nat → Int × Int × Int
  bests : Nat → Int × Int

/-- May what k said of 'to' be gone? -/
def mayB (m : Md) (to k : Nat) : Bool := decide (m.cost k ≠ 0) && decide ((m.heard k to).2 + m.cost k < 200) && bet (m.heard k to).1 (m.heard k to).2 (m.bests to).1 (m.bests to).2
def wayBy (m : Md) (to k : Nat) : Int × Int × Int := ((m.heard k to).1, (m.heard k to).2 + m.cost k, (k : Int))
theorem may_iff {m : Md} {to k : Nat} : mayB m to k = true ↔ m.cost k ≠ 0 ∧ (m.heard k to).2 + m.cost k < 200 ∧ bet (m.heard k to).1 (m.heard k to).2 (m.bests to).1 (m.bests to).2 = true := by
  unfold mayB
  simp only [Bool.and_eq_true, decide_eq_true_eq]
  constructor
  · rintro ⟨⟨h1, h2⟩, h3⟩; exact ⟨h1, h2, h3⟩
  · rintro ⟨h1, h2, h3⟩; exact ⟨⟨h1, h2⟩, h3⟩

/-- Which one is gone, as the document says it: the youngest, then the shortest, then the lowest neighbour's. -/
def IsPick (m : Md) (to : Nat) (w : Int × Int × Int) : Prop :=
  (∃ k, k < 6 ∧ mayB m to k = true ∧ w = wayBy m to k ∧ ∀ j, j < 6 → mayB m to j = true → bet (wayBy m to j).1 (wayBy m to j).2.1 w.1 w.2.1 = false ∧ (bet w.1 w.2.1 (wayBy m to j).1 (wayBy m to j).2.1 = false → k ≤ j)) ∨
  ((∀ j, j < 6 → mayB m to j = false) ∧ w = ((m.bests to).1, 200, -1))
theorem IsPick.unique {m : Md} {to : Nat} {w v : Int × Int × Int} (h : IsPick m to w) (h' : IsPick m to v) : w = v := by
  rcases h with ⟨k, hk, mk, rfl, hw⟩ | ⟨hn, rfl⟩
  · rcases h' with ⟨j, hj, mj, rfl, hv⟩ | ⟨hn, _⟩
    · obtain ⟨a1, a2⟩ := hw j hj mj
      obtain ⟨b1, b2⟩ := hv k hk mk
      have c1 := a2 b1
      have c2 := b2 a1
      have : k = j := by omega
      rw [this]
    · rw [hn k hk] at mk; cases mk
  · rcases h' with ⟨j, hj, mj, rfl, hv⟩ | ⟨_, rfl⟩
    · rw [hn j hj] at mj; cases mj
    · rfl

/-- The reference's search, down from the greatest number: the first s of them. -/
def pkD (m : Md) (to : Nat) : Nat → Int × Int × Int
  | 0 => ((m.bests to).1, 200, -1)
  | s + 1 =>
    if mayB m to (5 - s) = true then
      (if (pkD m to s).2.2 = -1 ∨ bet (pkD m to s).1 (pkD m to s).2.1 (wayBy m to (5 - s)).1 (wayBy m to (5 - s)).2.1 = false then wayBy m to (5 - s) else pkD m to s)
    else pkD m to s
theorem pkD_part (m : Md) (to : Nat) : ∀ s, s ≤ 6 →
    (∃ k, 6 - s ≤ k ∧ k < 6 ∧ mayB m to k = true ∧ pkD m to s = wayBy m to k ∧ ∀ j, 6 - s ≤ j → j < 6 → mayB m to j = true → bet (wayBy m to j).1 (wayBy m to j).2.1 (wayBy m to k).1 (wayBy m to k).2.1 = false ∧ (bet (wayBy m to k).1 (wayBy m to k).2.1 (wayBy m to j).1 (wayBy m to j).2.1 = false → k ≤ j)) ∨
    ((∀ j, 6 - s ≤ j → j < 6 → mayB m to j = false) ∧ pkD m to s = ((m.bests to).1, 200, -1))
  | 0, _ => .inr ⟨fun j h1 h2 => by omega, rfl⟩
  | s + 1, hs => by
    have e : 6 - (s + 1) = 5 - s := by omega
    rcases pkD_part m to s (by omega) with ⟨k, k1, k2, mk, hp, hall⟩ | ⟨hn, hp⟩
    · rw [pkD, hp]
      by_cases hm : mayB m to (5 - s) = true
      · rw [if_pos hm]
        by_cases hb : (wayBy m to k).2.2 = -1 ∨ bet (wayBy m to k).1 (wayBy m to k).2.1 (wayBy m to (5 - s)).1 (wayBy m to (5 - s)).2.1 = false
        · rw [if_pos hb]
          have hb2 : bet (wayBy m to k).1 (wayBy m to k).2.1 (wayBy m to (5 - s)).1 (wayBy m to (5 - s)).2.1 = false := by
            rcases hb with h | h
            · exfalso
              have : (k : Int) = -1 := h
              omega
            · exact h
          refine .inl ⟨5 - s, by omega, by omega, hm, rfl, fun j j1 j2 mj => ?_⟩
          by_cases ej : j = 5 - s
          · subst ej
            refine ⟨?_, fun _ => Nat.le_refl _⟩
            rw [bet_not]; omega
          · obtain ⟨a1, a2⟩ := hall j (by omega) j2 mj
            refine ⟨?_, fun _ => by omega⟩
            rw [bet_not] at a1 hb2 ⊢
            omega
        · rw [if_neg hb]
          have hb2 : bet (wayBy m to k).1 (wayBy m to k).2.1 (wayBy m to (5 - s)).1 (wayBy m to (5 - s)).2.1 = true := by
            cases h : bet (wayBy m to k).1 (wayBy m to k).2.1 (wayBy m to (5 - s)).1 (wayBy m to (5 - s)).2.1
            · exact absurd (.inr h) hb
            · rfl
          refine .inl ⟨k, by omega, k2, mk, rfl, fun j j1 j2 mj => ?_⟩
          by_cases ej : j = 5 - s
          · subst ej
            rw [hb2]
            refine ⟨?_, fun h => by cases h⟩
            rw [bet_iff] at hb2
            rw [bet_not]
            omega
          · exact hall j (by omega) j2 mj
      · rw [if_neg hm]
        refine .inl ⟨k, by omega, k2, mk, rfl, fun j j1 j2 mj => ?_⟩
        by_cases ej : j = 5 - s
        · subst ej; exact absurd mj hm
        · exact hall j (by omega) j2 mj
    · rw [pkD, hp]
      by_cases hm : mayB m to (5 - s) = true
      · rw [if_pos hm, if_pos (.inl rfl)]
        refine .inl ⟨5 - s, by omega, by omega, hm, rfl, fun j j1 j2 mj => ?_⟩
        by_cases ej : j = 5 - s
        · subst ej
          refine ⟨?_, fun _ => Nat.le_refl _⟩
          rw [bet_not]; omega
        · rw [hn j (by omega) j2] at mj; cases mj
      · rw [if_neg hm]
        refine .inr ⟨fun j j1 j2 => ?_, rfl⟩
        by_cases ej : j = 5 - s
        · subst ej
          cases h : mayB m to (5 - s)
          · rfl
          · exact absurd h hm
        · exact hn j (by omega) j2
/-- The reference's search finds what the document says. -/
theorem pkD_is (m : Md) (to : Nat) : IsPick m to (pkD m to 6) := by
  rcases pkD_part m to 6 (Nat.le_refl _) with ⟨k, _, k2, mk, hp, hall⟩ | ⟨hn, hp⟩
  · rw [hp]
    exact .inl ⟨k, k2, mk, rfl, fun j hj mj => hall j (by omega) hj mj⟩
  · rw [hp]
    exact .inr ⟨fun j hj => hn j (by omega) hj, rfl⟩

def updW {α : Type} (f : Nat → α) (i : Nat) (v : α) : Nat → α := fun j => if j = i then v else f j
theorem updW_same {α : Type} (f : Nat → α) (i : Nat) (v : α) : updW f i v i = v := by unfold updW; rw [if_pos rfl]
theorem updW_ne {α : Type} (f : Nat → α) {i j : Nat} (v : α) (h : j ≠ i) : updW f i v j = f j := by unfold updW; rw [if_neg h]
/-- The way to another node anew. -/
def lookM (m : Md) (to : Nat) : Md :=
  if to = m.me then m else
    { m with
      ways := updW m.ways to (pkD m to 6)
      bests := if (pkD m to 6).2.2 ≠ -1 ∧ bet (pkD m to 6).1 (pkD m to 6).2.1 (m.bests to).1 (m.bests to).2 = true then updW m.bests to ((pkD m to 6).1, (pkD m to 6).2.1) else m.bests }
def lookTo (m : Md) : Nat → Md
  | 0 => m
  | k + 1 => lookM (lookTo m k) k
def newM (me : Nat) : Md := { me := me, cost := fun _ => 0, heard := fun _ _ => (0, 200), ways := updW (fun _ => (0, 200, -1)) me (0, 0, (me : Int)), bests := updW (fun _ => (0, 200)) me (0, 0) }
def linkM (m : Md) (who : Nat) (c : Int) : Md :=
  lookTo { m with cost := updW m.cost who c, heard := if c = 0 then updW m.heard who (fun _ => (0, 200)) else m.heard } 6
def hearM (m : Md) (f to : Nat) (s d : Int) : Md := lookM { m with heard := updW m.heard f (updW (m.heard f) to (s, d)) } to
def tickM (m : Md) : Md :=
  { m with ways := updW m.ways m.me ((m.ways m.me).1 + 1, (m.ways m.me).2.1, (m.ways m.me).2.2), bests := updW m.bests m.me ((m.ways m.me).1 + 1, 0) }

theorem look_me (m : Md) (to : Nat) : (lookM m to).me = m.me := by unfold lookM; split <;> rfl
theorem look_cost (m : Md) (to : Nat) : (lookM m to).cost = m.cost := by unfold lookM; split <;> rfl
theorem look_heard (m : Md) (to : Nat) : (lookM m to).heard = m.heard := by unfold lookM; split <;> rfl
theorem look_other (m : Md) {to k : Nat} (h : k ≠ to) : (lookM m to).ways k = m.ways k ∧ (lookM m to).bests k = m.bests k := by
  unfold lookM
  split
  · exact ⟨rfl, rfl⟩
  · refine ⟨updW_ne _ _ h, ?_⟩
    dsimp only
    split
    · exact updW_ne _ _ h
    · rfl
/-- What is known of a way. -/
structure WayOk (m : Md) (k : Nat) : Prop where
  drop : (m.ways k).2.2 = -1 → (m.ways k).2.1 = 200
  notBetter : (m.ways k).2.2 ≠ -1 → bet (m.ways k).1 (m.ways k).2.1 (m.bests k).1 (m.bests k).2 = false
  by_ : (m.ways k).2.2 ≠ -1 → k ≠ m.me → ∃ j, j < 6 ∧ m.ways k = wayBy m k j ∧ m.cost j ≠ 0 ∧ (m.heard j k).2 + m.cost j < 200 ∧ bet (m.heard j k).1 (m.heard j k).2 (m.bests k).1 (m.bests k).2 = true
theorem look_ok (m : Md) {to : Nat} (h : to ≠ m.me) (hc : ∀ j, j < 6 → 0 ≤ m.cost j) : WayOk (lookM m to) to ∧ bet (m.bests to).1 (m.bests to).2 ((lookM m to).bests to).1 ((lookM m to).bests to).2 = false := by
  have hp := pkD_is m to
  have ew : (lookM m to).ways to = pkD m to 6 := by unfold lookM; rw [if_neg h]; exact updW_same _ _ _
  have eb : (lookM m to).bests to = if (pkD m to 6).2.2 ≠ -1 ∧ bet (pkD m to 6).1 (pkD m to 6).2.1 (m.bests to).1 (m.bests to).2 = true then ((pkD m to 6).1, (pkD m to 6).2.1) else m.bests to := by
    unfold lookM
    rw [if_neg h]
    dsimp only
    split
    · exact updW_same _ _ _
    · rfl
  rcases hp with ⟨k, hk, mk, hw, _⟩ | ⟨_, hw⟩
  · obtain ⟨c0, c1, c2⟩ := may_iff.1 mk
    have hck := hc k hk
    have hne : (pkD m to 6).2.2 ≠ -1 := by rw [hw]; show (k : Int) ≠ -1; omega
    have e1 : (pkD m to 6).1 = (m.heard k to).1 := by rw [hw]; rfl
    have e2 : (pkD m to 6).2.1 = (m.heard k to).2 + m.cost k := by rw [hw]; rfl
    by_cases hb : bet (pkD m to 6).1 (pkD m to 6).2.1 (m.bests to).1 (m.bests to).2 = true
    · rw [if_pos ⟨hne, hb⟩] at eb
      refine ⟨⟨fun e => ?_, fun _ => ?_, fun _ _ => ⟨k, hk, ?_, ?_, ?_, ?_⟩⟩, ?_⟩
      · rw [ew] at e; exact absurd e hne
      · rw [ew, eb, bet_not]; simp
      · rw [ew, hw]; unfold wayBy; rw [look_heard, look_cost]
      · rw [look_cost]; exact c0
      · rw [look_heard, look_cost]; exact c1
      · rw [look_heard, eb, bet_iff]; simp only; omega
      · rw [eb, bet_not]
        rw [bet_iff] at hb
        simp only; omega
    · rw [if_neg (fun q => hb q.2)] at eb
      have hb' : bet (pkD m to 6).1 (pkD m to 6).2.1 (m.bests to).1 (m.bests to).2 = false := by
        cases q : bet (pkD m to 6).1 (pkD m to 6).2.1 (m.bests to).1 (m.bests to).2
        · rfl
        · exact absurd q hb
      refine ⟨⟨fun e => ?_, fun _ => ?_, fun _ _ => ⟨k, hk, ?_, ?_, ?_, ?_⟩⟩, ?_⟩
      · rw [ew] at e; exact absurd e hne
      · rw [ew, eb]; exact hb'
      · rw [ew, hw]; unfold wayBy; rw [look_heard, look_cost]
      · rw [look_cost]; exact c0
      · rw [look_heard, look_cost]; exact c1
      · rw [look_heard, eb]; exact c2
      · rw [eb, bet_not]; omega
  · have hd : (pkD m to 6).2.2 = -1 := by rw [hw]
    rw [if_neg (fun q => q.1 hd)] at eb
    refine ⟨⟨fun _ => by rw [ew, hw], fun e => ?_, fun e => ?_⟩, ?_⟩
    · rw [ew] at e; exact absurd hd e
    · rw [ew] at e; exact absurd hd e
    · rw [eb, bet_not]; omega

end Go.Proofs.YtfcknkanbcndjagGreatDoor

/- A NODE, AS NUMBERS: whatever it hears, the best is never worse, and each way is as its neighbour said. No Go here. -/
namespace Go.Proofs.YtfcknkanbcndjagGreatDoor

structure MdOk (m : Md) : Prop where
  me : m.me < 6
  cost : ∀ j, 0 ≤ m.cost j ∧ m.cost j ≤ 15
  said : ∀ j k, 0 ≤ (m.heard j k).1 ∧ 0 ≤ (m.heard j k).2 ∧ (m.heard j k).2 ≤ 200
  best : ∀ k, 0 ≤ (m.bests k).1
  self : ∃ s, 0 ≤ s ∧ m.ways m.me = (s, 0, (m.me : Int)) ∧ m.bests m.me = (s, 0)
  way : ∀ k, k < 6 → k ≠ m.me → WayOk m k
theorem WayOk.keep {m m' : Md} {k : Nat} (h : WayOk m k) (e1 : m'.ways k = m.ways k) (e2 : m'.bests k = m.bests k) (e3 : m'.cost = m.cost) (e4 : ∀ j, m'.heard j k = m.heard j k) (e5 : m'.me = m.me) : WayOk m' k := by
  refine ⟨fun e => ?_, fun e => ?_, fun e hk => ?_⟩
  · rw [e1] at e ⊢; exact h.drop e
  · rw [e1] at e; rw [e1, e2]; exact h.notBetter e
  · rw [e1] at e
    rw [e5] at hk
    obtain ⟨j, hj, hw, hc, hd, hb⟩ := h.by_ e hk
    refine ⟨j, hj, ?_, ?_, ?_, ?_⟩
    · rw [e1, hw]; unfold wayBy; rw [e3, e4]
    · rw [e3]; exact hc
    · rw [e3, e4]; exact hd
    · rw [e4, e2]; exact hb
theorem look_best0 (m : Md) (to : Nat) (hb : ∀ k, 0 ≤ (m.bests k).1) (hs : ∀ j k, 0 ≤ (m.heard j k).1) : ∀ k, 0 ≤ ((lookM m to).bests k).1 := by
  intro k
  by_cases e : k = to
  · subst e
    unfold lookM
    split
    · exact hb k
    · dsimp only
      split
      · rw [updW_same]
        rcases pkD_is m k with ⟨j, _, _, hw, _⟩ | ⟨_, hw⟩
        · rw [hw]; exact hs j k
        · rw [hw]; exact hb k
      · exact hb k
  · rw [(look_other m e).2]; exact hb k
theorem look_self (m : Md) (to : Nat) : (lookM m to).ways m.me = m.ways m.me ∧ (lookM m to).bests m.me = m.bests m.me := by
  by_cases e : m.me = to
  · unfold lookM; rw [if_pos e.symm]; exact ⟨rfl, rfl⟩
  · exact look_other m e
theorem lookTo_all (m : Md) : ∀ n, (lookTo m n).me = m.me ∧ (lookTo m n).cost = m.cost ∧ (lookTo m n).heard = m.heard ∧ (lookTo m n).ways m.me = m.ways m.me ∧ (lookTo m n).bests m.me = m.bests m.me
  | 0 => ⟨rfl, rfl, rfl, rfl, rfl⟩
  | n + 1 => by
    obtain ⟨h1, h2, h3, h4, h5⟩ := lookTo_all m n
    have hs := look_self (lookTo m n) n
    rw [h1] at hs
    refine ⟨?_, ?_, ?_, ?_, ?_⟩
    · rw [lookTo, look_me, h1]
    · rw [lookTo, look_cost, h2]
    · rw [lookTo, look_heard, h3]
    · rw [lookTo, hs.1, h4]
    · rw [lookTo, hs.2, h5]
theorem bet_refl (s d : Int) : bet s d s d = false := by rw [bet_not]; omega
theorem bet_trans {a b c d e f : Int} (h : bet a b c d = false) (k : bet c d e f = false) : bet a b e f = false := by
  rw [bet_not] at *; omega
theorem lookTo_ok (m : Md) (hc : ∀ j, 0 ≤ m.cost j) : ∀ n k, (k < n → k ≠ m.me → WayOk (lookTo m n) k) ∧ bet (m.bests k).1 (m.bests k).2 ((lookTo m n).bests k).1 ((lookTo m n).bests k).2 = false
  | 0, k => ⟨fun h => by omega, bet_refl _ _⟩
  | n + 1, k => by
    obtain ⟨h1, h2⟩ := lookTo_ok m hc n k
    obtain ⟨e1, e2, e3, e4, e5⟩ := lookTo_all m n
    by_cases e : k = n
    · subst e
      by_cases hk : k = m.me
      · refine ⟨fun _ hne => absurd hk hne, ?_⟩
        have hs := (look_self (lookTo m k) k).2
        rw [e1, ← hk] at hs
        rw [lookTo, hs]; exact h2
      · have := look_ok (lookTo m k) (to := k) (by rw [e1]; exact hk) (fun j _ => by rw [e2]; exact hc j)
        exact ⟨fun _ _ => this.1, bet_trans h2 this.2⟩
    · obtain ⟨o1, o2⟩ := look_other (lookTo m n) e
      refine ⟨fun hlt hne => ?_, ?_⟩
      · exact (h1 (by omega) hne).keep o1 o2 (look_cost _ _) (fun j => by rw [lookTo, look_heard]) (look_me _ _)
      · rw [lookTo, o2]; exact h2
theorem lookTo_best0 (m : Md) (hb : ∀ k, 0 ≤ (m.bests k).1) (hs : ∀ j k, 0 ≤ (m.heard j k).1) : ∀ n k, 0 ≤ ((lookTo m n).bests k).1
  | 0, k => hb k
  | n + 1, k => look_best0 (lookTo m n) n (lookTo_best0 m hb hs n) (fun j k => by rw [(lookTo_all m n).2.2.1]; exact hs j k) k

theorem new_ok {me : Nat} (h : me < 6) : MdOk (newM me) := by
  have ew : (newM me).ways me = (0, 0, (me : Int)) := by unfold newM; dsimp only; exact updW_same _ _ _
  have eb : (newM me).bests me = (0, 0) := by unfold newM; dsimp only; exact updW_same _ _ _
  refine ⟨h, fun j => ⟨by simp [newM], by simp [newM]⟩, fun j k => by simp [newM], fun k => ?_, ⟨0, by omega, ew, eb⟩, fun k _ hk => ?_⟩
  · unfold newM updW; dsimp only; split <;> simp
  · have e : (newM me).ways k = (0, 200, -1) := by
      unfold newM
      dsimp only
      exact updW_ne _ _ hk
    exact ⟨fun _ => by rw [e], fun q => absurd (by rw [e]) q, fun q => absurd (by rw [e]) q⟩
theorem link_ok {m : Md} (h : MdOk m) {who : Nat} {c : Int} (hc0 : 0 ≤ c) (hc : c ≤ 15) : MdOk (linkM m who c) ∧ ∀ k, bet (m.bests k).1 (m.bests k).2 ((linkM m who c).bests k).1 ((linkM m who c).bests k).2 = false := by
  obtain ⟨m1, hm1⟩ : ∃ m1 : Md, m1 = { m with cost := updW m.cost who c, heard := if c = 0 then updW m.heard who (fun _ => (0, 200)) else m.heard } := ⟨_, rfl⟩
  have el : linkM m who c = lookTo m1 6 := by rw [hm1]; rfl
  have b1 : m1.bests = m.bests := by rw [hm1]
  have w1 : m1.ways = m.ways := by rw [hm1]
  have me1 : m1.me = m.me := by rw [hm1]
  have cs : ∀ j, 0 ≤ m1.cost j ∧ m1.cost j ≤ 15 := fun j => by
    rw [hm1]
    show 0 ≤ updW m.cost who c j ∧ updW m.cost who c j ≤ 15
    unfold updW
    split
    · exact ⟨hc0, hc⟩
    · exact h.cost j
  have hs : ∀ j k, 0 ≤ (m1.heard j k).1 ∧ 0 ≤ (m1.heard j k).2 ∧ (m1.heard j k).2 ≤ 200 := fun j k => by
    rw [hm1]
    dsimp only
    split
    · unfold updW
      split
      · simp
      · exact h.said j k
    · exact h.said j k
  obtain ⟨e1, e2, e3, e4, e5⟩ := lookTo_all m1 6
  rw [el]
  refine ⟨⟨by rw [e1, me1]; exact h.me, fun j => by rw [e2]; exact cs j, fun j k => by rw [e3]; exact hs j k, lookTo_best0 m1 (fun k => by rw [b1]; exact h.best k) (fun j k => (hs j k).1) 6, ?_, fun k hk hne => ?_⟩, fun k => ?_⟩
  · obtain ⟨s, h0, hw, hb⟩ := h.self
    refine ⟨s, h0, ?_, ?_⟩
    · rw [e1, e4, w1, me1]; exact hw
    · rw [e1, e5, b1, me1]; exact hb
  · exact (lookTo_ok m1 (fun j => (cs j).1) 6 k).1 hk (by rw [e1] at hne; exact hne)
  · have := (lookTo_ok m1 (fun j => (cs j).1) 6 k).2
    rw [b1] at this; exact this
theorem hear_ok {m : Md} (h : MdOk m) {f to : Nat} {s d : Int} (hs : 0 ≤ s) (hd0 : 0 ≤ d) (hd : d ≤ 200) : MdOk (hearM m f to s d) ∧ ∀ k, bet (m.bests k).1 (m.bests k).2 ((hearM m f to s d).bests k).1 ((hearM m f to s d).bests k).2 = false := by
  obtain ⟨m1, hm1⟩ : ∃ m1 : Md, m1 = { m with heard := updW m.heard f (updW (m.heard f) to (s, d)) } := ⟨_, rfl⟩
  have el : hearM m f to s d = lookM m1 to := by rw [hm1]; rfl
  have b1 : m1.bests = m.bests := by rw [hm1]
  have w1 : m1.ways = m.ways := by rw [hm1]
  have me1 : m1.me = m.me := by rw [hm1]
  have c1 : m1.cost = m.cost := by rw [hm1]
  have hh : ∀ j k, m1.heard j k = if j = f ∧ k = to then (s, d) else m.heard j k := fun j k => by
    rw [hm1]
    show updW m.heard f (updW (m.heard f) to (s, d)) j k = _
    unfold updW
    by_cases e : j = f
    · rw [if_pos e]
      by_cases e2 : k = to
      · rw [if_pos e2, if_pos ⟨e, e2⟩]
      · rw [if_neg e2, if_neg (fun q => e2 q.2), e]
    · rw [if_neg e, if_neg (fun q => e q.1)]
  have hsd : ∀ j k, 0 ≤ (m1.heard j k).1 ∧ 0 ≤ (m1.heard j k).2 ∧ (m1.heard j k).2 ≤ 200 := fun j k => by
    rw [hh]
    split
    · exact ⟨hs, hd0, hd⟩
    · exact h.said j k
  rw [el]
  have hsf := look_self m1 to
  refine ⟨⟨by rw [look_me, me1]; exact h.me, fun j => by rw [look_cost, c1]; exact h.cost j, fun j k => by rw [look_heard]; exact hsd j k, look_best0 m1 to (fun k => by rw [b1]; exact h.best k) (fun j k => (hsd j k).1), ?_, fun k hk hne => ?_⟩, fun k => ?_⟩
  · obtain ⟨s', h0, hw, hb⟩ := h.self
    rw [look_me]
    refine ⟨s', h0, ?_, ?_⟩
    · rw [hsf.1, w1, me1]; exact hw
    · rw [hsf.2, b1, me1]; exact hb
  · rw [look_me, me1] at hne
    by_cases e : k = to
    · subst e
      exact (look_ok m1 (by rw [me1]; exact hne) (fun j _ => by rw [c1]; exact (h.cost j).1)).1
    · obtain ⟨o1, o2⟩ := look_other m1 e
      exact (h.way k hk hne).keep (by rw [o1, w1]) (by rw [o2, b1]) (by rw [look_cost, c1]) (fun j => by rw [look_heard, hh, if_neg (fun q => e q.2)]) (by rw [look_me, me1])
  · by_cases e : k = to
    · subst e
      by_cases hk : k = m1.me
      · have := hsf.2
        rw [← hk] at this
        rw [this, b1]; exact bet_refl _ _
      · have := (look_ok m1 hk (fun j _ => by rw [c1]; exact (h.cost j).1)).2
        rw [b1] at this; exact this
    · rw [(look_other m1 e).2, b1]; exact bet_refl _ _
theorem tick_ok {m : Md} (h : MdOk m) : MdOk (tickM m) ∧ ∀ k, bet (m.bests k).1 (m.bests k).2 ((tickM m).bests k).1 ((tickM m).bests k).2 = false := by
  obtain ⟨s, h0, hw, hb⟩ := h.self
  have ew : (tickM m).ways m.me = (s + 1, 0, (m.me : Int)) := by
    show updW m.ways m.me _ m.me = _
    rw [updW_same, hw]
  have eb : (tickM m).bests m.me = (s + 1, 0) := by
    show updW m.bests m.me _ m.me = _
    rw [updW_same, hw]
  refine ⟨⟨h.me, h.cost, h.said, fun k => ?_, ⟨s + 1, by omega, ew, eb⟩, fun k hk hne => ?_⟩, fun k => ?_⟩
  · by_cases e : k = m.me
    · rw [e, eb]; simp only; omega
    · show 0 ≤ (updW m.bests m.me _ k).1
      rw [updW_ne _ _ e]; exact h.best k
  · exact (h.way k hk hne).keep (updW_ne _ _ hne) (updW_ne _ _ hne) rfl (fun _ => rfl) rfl
  · by_cases e : k = m.me
    · rw [e, eb, hb, bet_not]; simp only; omega
    · show bet (m.bests k).1 (m.bests k).2 (updW m.bests m.me _ k).1 (updW m.bests m.me _ k).2 = false
      rw [updW_ne _ _ e]; exact bet_refl _ _

end Go.Proofs.YtfcknkanbcndjagGreatDoor

/- A NODE, AS NUMBERS: a new one that is told all learns all. No Go here. -/
namespace Go.Proofs.YtfcknkanbcndjagGreatDoor

theorem pick_none {m : Md} {to : Nat} (h : ∀ j, j < 6 → mayB m to j = false) : pkD m to 6 = ((m.bests to).1, 200, -1) := (pkD_is m to).unique (.inr ⟨h, rfl⟩)
theorem way_seq {m : Md} (h : MdOk m) {k : Nat} (hk : k < 6) (hd : (m.ways k).2.2 ≠ -1) : 0 ≤ (m.ways k).1 ∧ 0 ≤ (m.ways k).2.1 ∧ (m.ways k).2.1 < 200 := by
  by_cases e : k = m.me
  · obtain ⟨s, h0, hw, _⟩ := h.self
    rw [e, hw]; simp only; omega
  · obtain ⟨j, hj, hw, hc, hlt, _⟩ := (h.way k hk e).by_ hd e
    have h1 := h.said j k
    have h2 := h.cost j
    rw [hw]
    unfold wayBy
    simp only
    omega
end Go.Proofs.YtfcknkanbcndjagGreatDoor

/- NODES THAT TELL EACH OTHER, AS NUMBERS: along each way the best becomes better, whatever is lost, late or doubled. No Go here. -/
namespace Go.Proofs.YtfcknkanbcndjagGreatDoor

/-- Besides: what a way that is none says, and how long the best is. -/
structure MdX (m : Md) : Prop where
  ok : MdOk m
  none_ : ∀ k, (m.ways k).2.2 = -1 → m.ways k = ((m.bests k).1, 200, -1)
  b200 : ∀ k, 0 ≤ (m.bests k).2 ∧ (m.bests k).2 ≤ 200
/-- What a look leaves of one node, told together. -/
theorem look_x (m : Md) {to : Nat} (hne : to ≠ m.me) (hc : ∀ j, 0 ≤ m.cost j) (hs : ∀ j k, 0 ≤ (m.heard j k).2) (hb : 0 ≤ (m.bests to).2 ∧ (m.bests to).2 ≤ 200) :
    (((lookM m to).ways to).2.2 = -1 → (lookM m to).ways to = (((lookM m to).bests to).1, 200, -1)) ∧ 0 ≤ ((lookM m to).bests to).2 ∧ ((lookM m to).bests to).2 ≤ 200 := by
  have ew : (lookM m to).ways to = pkD m to 6 := by unfold lookM; rw [if_neg hne]; exact updW_same _ _ _
  have eb : (lookM m to).bests to = if (pkD m to 6).2.2 ≠ -1 ∧ bet (pkD m to 6).1 (pkD m to 6).2.1 (m.bests to).1 (m.bests to).2 = true then ((pkD m to 6).1, (pkD m to 6).2.1) else m.bests to := by
    unfold lookM
    rw [if_neg hne]
    dsimp only
    split
    · exact updW_same _ _ _
    · rfl
  rcases pkD_is m to with ⟨k, hk, mk, hw, _⟩ | ⟨_, hw⟩
  · obtain ⟨_, c1, _⟩ := may_iff.1 mk
    have hne' : (pkD m to 6).2.2 ≠ -1 := by rw [hw]; show (k : Int) ≠ -1; omega
    have e2 : (pkD m to 6).2.1 = (m.heard k to).2 + m.cost k := by rw [hw]; rfl
    have h1 := hc k
    have h2 := hs k to
    refine ⟨fun e => absurd (by rw [← ew]; exact e) hne', ?_⟩
    rw [eb]
    split
    · simp only; omega
    · exact hb
  · have hd : (pkD m to 6).2.2 = -1 := by rw [hw]
    rw [if_neg (fun q => q.1 hd)] at eb
    rw [ew, eb, hw]
    exact ⟨fun _ => rfl, hb⟩
theorem lookTo_x (m : Md) (hc : ∀ j, 0 ≤ m.cost j) (hs : ∀ j k, 0 ≤ (m.heard j k).2) (hb : ∀ k, 0 ≤ (m.bests k).2 ∧ (m.bests k).2 ≤ 200) (hself : (m.ways m.me).2.2 ≠ -1) (hn : ∀ k, 6 ≤ k → (m.ways k).2.2 = -1 → m.ways k = ((m.bests k).1, 200, -1)) : ∀ n, n ≤ 6 → ∀ k,
    (k < n ∨ 6 ≤ k → ((lookTo m n).ways k).2.2 = -1 → (lookTo m n).ways k = (((lookTo m n).bests k).1, 200, -1)) ∧ 0 ≤ ((lookTo m n).bests k).2 ∧ ((lookTo m n).bests k).2 ≤ 200
  | 0, _, k => ⟨fun h => hn k (by omega), hb k⟩
  | n + 1, hn6, k => by
    obtain ⟨i1, i2⟩ := lookTo_x m hc hs hb hself hn n (by omega) k
    obtain ⟨e1, e2, e3, e4, e5⟩ := lookTo_all m n
    by_cases e : k = n
    · subst e
      by_cases hk : k = m.me
      · have hs' := look_self (lookTo m k) k
        rw [e1, ← hk] at hs'
        rw [lookTo, hs'.1, hs'.2]
        rw [← hk] at e4
        exact ⟨fun _ q => absurd q (by rw [e4, hk]; exact hself), i2⟩
      · have := look_x (lookTo m k) (to := k) (by rw [e1]; exact hk) (fun j => by rw [e2]; exact hc j) (fun j k => by rw [e3]; exact hs j k) i2
        exact ⟨fun _ => this.1, this.2⟩
    · obtain ⟨o1, o2⟩ := look_other (lookTo m n) e
      rw [lookTo, o1, o2]
      exact ⟨fun h => i1 (by omega), i2⟩
theorem new_x {me : Nat} (h : me < 6) : MdX (newM me) := by
  refine ⟨new_ok h, fun k hk => ?_, fun k => ?_⟩
  · by_cases e : k = me
    · subst e
      have ew : (newM k).ways k = (0, 0, (k : Int)) := by unfold newM; dsimp only; exact updW_same _ _ _
      rw [ew] at hk
      have : (k : Int) = -1 := hk
      omega
    · have ew : (newM me).ways k = (0, 200, -1) := by unfold newM; dsimp only; exact updW_ne _ _ e
      have eb : (newM me).bests k = (0, 200) := by unfold newM; dsimp only; exact updW_ne _ _ e
      rw [ew, eb]
  · unfold newM updW; dsimp only; split <;> simp
theorem MdX.selfNe {m : Md} (h : MdX m) : (m.ways m.me).2.2 ≠ -1 := by
  obtain ⟨s, _, hw, _⟩ := h.ok.self
  rw [hw]; show ((m.me : Nat) : Int) ≠ -1; omega
theorem link_x {m : Md} (h : MdX m) {who : Nat} {c : Int} (hc0 : 0 ≤ c) (hc : c ≤ 15) : MdX (linkM m who c) := by
  obtain ⟨m1, hm1⟩ : ∃ m1 : Md, m1 = { m with cost := updW m.cost who c, heard := if c = 0 then updW m.heard who (fun _ => (0, 200)) else m.heard } := ⟨_, rfl⟩
  have el : linkM m who c = lookTo m1 6 := by rw [hm1]; rfl
  have b1 : m1.bests = m.bests := by rw [hm1]
  have w1 : m1.ways = m.ways := by rw [hm1]
  have me1 : m1.me = m.me := by rw [hm1]
  have cs : ∀ j, 0 ≤ m1.cost j := fun j => by
    rw [hm1]
    show 0 ≤ updW m.cost who c j
    unfold updW
    split
    · exact hc0
    · exact (h.ok.cost j).1
  have hs : ∀ j k, 0 ≤ (m1.heard j k).2 := fun j k => by
    rw [hm1]
    dsimp only
    split
    · unfold updW
      split
      · simp
      · exact (h.ok.said j k).2.1
    · exact (h.ok.said j k).2.1
  have key := lookTo_x m1 cs hs (fun k => by rw [b1]; exact h.b200 k) (by rw [w1, me1]; exact h.selfNe) (fun k _ => by rw [w1, b1]; exact h.none_ k) 6 (Nat.le_refl _)
  refine ⟨(link_ok h.ok hc0 hc).1, fun k => ?_, fun k => ?_⟩
  · rw [el]; exact (key k).1 (by omega)
  · rw [el]; exact (key k).2
theorem hear_x {m : Md} (h : MdX m) {f to : Nat} {s d : Int} (hs : 0 ≤ s) (hd0 : 0 ≤ d) (hd : d ≤ 200) : MdX (hearM m f to s d) := by
  have hk := (hear_ok h.ok (f := f) (to := to) hs hd0 hd).1
  obtain ⟨m1, hm1⟩ : ∃ m1 : Md, m1 = { m with heard := updW m.heard f (updW (m.heard f) to (s, d)) } := ⟨_, rfl⟩
  have el : hearM m f to s d = lookM m1 to := by rw [hm1]; rfl
  have b1 : m1.bests = m.bests := by rw [hm1]
  have w1 : m1.ways = m.ways := by rw [hm1]
  have me1 : m1.me = m.me := by rw [hm1]
  have c1 : m1.cost = m.cost := by rw [hm1]
  have hsd : ∀ j k, 0 ≤ (m1.heard j k).2 := fun j k => by
    have := (hk.said j k).2.1
    rw [el, look_heard] at this
    exact this
  have one : ∀ k, ((lookM m1 to).ways k).2.2 = -1 → (lookM m1 to).ways k = (((lookM m1 to).bests k).1, 200, -1) := fun k => by
    by_cases e : k = to
    · subst e
      by_cases hme : k = m1.me
      · have hs' := look_self m1 k
        rw [← hme] at hs'
        rw [hs'.1, hs'.2, w1, b1]
        exact h.none_ k
      · exact (look_x m1 hme (fun j => by rw [c1]; exact (h.ok.cost j).1) hsd (by rw [b1]; exact h.b200 k)).1
    · rw [(look_other m1 e).1, (look_other m1 e).2, w1, b1]
      exact h.none_ k
  have two : ∀ k, 0 ≤ ((lookM m1 to).bests k).2 ∧ ((lookM m1 to).bests k).2 ≤ 200 := fun k => by
    by_cases e : k = to
    · subst e
      by_cases hme : k = m1.me
      · have hs' := look_self m1 k
        rw [← hme] at hs'
        rw [hs'.2, b1]
        exact h.b200 k
      · exact (look_x m1 hme (fun j => by rw [c1]; exact (h.ok.cost j).1) hsd (by rw [b1]; exact h.b200 k)).2
    · rw [(look_other m1 e).2, b1]
      exact h.b200 k
  exact ⟨hk, by rw [el]; exact one, by rw [el]; exact two⟩
theorem tick_x {m : Md} (h : MdX m) : MdX (tickM m) := by
  obtain ⟨s, h0, hw, hb⟩ := h.ok.self
  refine ⟨(tick_ok h.ok).1, fun k hk => ?_, fun k => ?_⟩
  · by_cases e : k = m.me
    · subst e
      exfalso
      have : (updW m.ways m.me ((m.ways m.me).1 + 1, (m.ways m.me).2.1, (m.ways m.me).2.2) m.me).2.2 = -1 := hk
      rw [updW_same, hw] at this
      have : ((m.me : Nat) : Int) = -1 := this
      omega
    · have e1 : (tickM m).ways k = m.ways k := updW_ne _ _ e
      have e2 : (tickM m).bests k = m.bests k := updW_ne _ _ e
      rw [e1] at hk
      rw [e1, e2]
      exact h.none_ k hk
  · by_cases e : k = m.me
    · subst e
      have e2 : (tickM m).bests m.me = ((m.ways m.me).1 + 1, 0) := updW_same _ _ _
      rw [e2]; simp
    · have e2 : (tickM m).bests k = m.bests k := updW_ne _ _ e
      rw [e2]; exact h.b200 k
/-- What a node tells is no better than its best. -/
theorem MdX.tells {m : Md} (h : MdX m) {k : Nat} (hk : k < 6) : bet (m.ways k).1 (m.ways k).2.1 (m.bests k).1 (m.bests k).2 = false ∧ 0 ≤ (m.ways k).1 ∧ 0 ≤ (m.ways k).2.1 ∧ (m.ways k).2.1 ≤ 200 := by
  by_cases hd : (m.ways k).2.2 = -1
  · have e := h.none_ k hd
    have hb := h.b200 k
    rw [e, bet_not]
    refine ⟨?_, h.ok.best k, ?_, ?_⟩
    · right; simp only; exact ⟨trivial, hb.2⟩
    · simp
    · simp
  · have hs := way_seq h.ok hk hd
    refine ⟨?_, hs.1, hs.2.1, by omega⟩
    by_cases e : k = m.me
    · obtain ⟨s, _, hw, hb⟩ := h.ok.self
      rw [e, hw, hb]; exact bet_refl _ _
    · exact (h.ok.way k hk e).notBetter hd

/-- News: from whom, for whom, of whom, the age and the length. -/
structure Nw where
  f : Nat
  g : Nat
  to : Nat
  s : Int
  d : Int
/-- A net: what each node knows, and the news on their way. -/
structure Tn where
  cst : Nat → Nat → Int
  nd : Nat → Md
  news : List Nw
structure TnOk (t : Tn) : Prop where
  node : ∀ a, a < 6 → MdX (t.nd a) ∧ (t.nd a).me = a
  heard : ∀ a f k, a < 6 → f < 6 → k < 6 → bet ((t.nd a).heard f k).1 ((t.nd a).heard f k).2 ((t.nd f).bests k).1 ((t.nd f).bests k).2 = false
  news : ∀ x ∈ t.news, x.f < 6 ∧ x.g < 6 ∧ x.f ≠ x.g ∧ x.to < 6 ∧ 0 ≤ x.s ∧ 0 ≤ x.d ∧ x.d ≤ 200 ∧ bet x.s x.d ((t.nd x.f).bests x.to).1 ((t.nd x.f).bests x.to).2 = false
  cost : ∀ a b, a < 6 → b < 6 → (t.nd a).cost b = t.cst a b
/-- ALONG EACH WAY THE BEST BECOMES BETTER, and each way is by a link. -/
theorem TnOk.straight {t : Tn} (h : TnOk t) {a to : Nat} (ha : a < 6) (ht : to < 6) (hne : to ≠ a) (hd : ((t.nd a).ways to).2.2 ≠ -1) :
    ∃ j : Nat, j < 6 ∧ ((t.nd a).ways to).2.2 = (j : Int) ∧ t.cst a j ≠ 0 ∧ bet ((t.nd j).bests to).1 ((t.nd j).bests to).2 ((t.nd a).bests to).1 ((t.nd a).bests to).2 = true := by
  obtain ⟨hx, hme⟩ := h.node a ha
  obtain ⟨j, hj, hw, hc, _, hb⟩ := (hx.ok.way to ht (by rw [hme]; exact hne)).by_ hd (by rw [hme]; exact hne)
  refine ⟨j, hj, by rw [hw]; rfl, by rw [← h.cost a j ha hj]; exact hc, ?_⟩
  have h1 := h.heard a j to ha hj ht
  rw [bet_not] at h1
  rw [bet_iff] at hb ⊢
  omega
/-- One node has changed, its best not to the worse, and what it heard is no better than what those know who said it. -/
theorem TnOk.one {t : Tn} (h : TnOk t) {a : Nat} (ha : a < 6) {m : Md} {cst' : Nat → Nat → Int} {nw : List Nw} (hx : MdX m) (hme : m.me = a) (hb : ∀ k, bet ((t.nd a).bests k).1 ((t.nd a).bests k).2 (m.bests k).1 (m.bests k).2 = false)
    (hh : ∀ f k, f < 6 → k < 6 → bet (m.heard f k).1 (m.heard f k).2 ((t.nd f).bests k).1 ((t.nd f).bests k).2 = false)
    (hn : ∀ x ∈ nw, x.f < 6 ∧ x.g < 6 ∧ x.f ≠ x.g ∧ x.to < 6 ∧ 0 ≤ x.s ∧ 0 ≤ x.d ∧ x.d ≤ 200 ∧ bet x.s x.d ((updW t.nd a m x.f).bests x.to).1 ((updW t.nd a m x.f).bests x.to).2 = false)
    (hc : ∀ b c, b < 6 → c < 6 → (updW t.nd a m b).cost c = cst' b c) : TnOk { cst := cst', nd := updW t.nd a m, news := nw } := by
  have up : ∀ f k s d, bet s d ((t.nd f).bests k).1 ((t.nd f).bests k).2 = false → bet s d ((updW t.nd a m f).bests k).1 ((updW t.nd a m f).bests k).2 = false := fun f k s d q => by
    by_cases e : f = a
    · subst e
      rw [updW_same]; exact bet_trans q (hb k)
    · rw [updW_ne _ _ e]; exact q
  refine ⟨fun b hb' => ?_, fun b f k hb' hf hk => ?_, hn, hc⟩
  · show MdX (updW t.nd a m b) ∧ (updW t.nd a m b).me = b
    by_cases e : b = a
    · subst e
      rw [updW_same]; exact ⟨hx, hme⟩
    · rw [updW_ne _ _ e]; exact h.node b hb'
  · show bet ((updW t.nd a m b).heard f k).1 ((updW t.nd a m b).heard f k).2 ((updW t.nd a m f).bests k).1 ((updW t.nd a m f).bests k).2 = false
    refine up f k _ _ ?_
    by_cases e : b = a
    · subst e
      rw [updW_same]; exact hh f k hf hk
    · rw [updW_ne _ _ e]; exact h.heard b f k hb' hf hk

end Go.Proofs.YtfcknkanbcndjagGreatDoor

/- THE PROGRAM'S NODE, AS NUMBERS: its search upwards finds what the reference's finds; looked at twice it is looked at once; the best of itself is not kept. No Go here. -/
namespace Go.Proofs.YtfcknkanbcndjagGreatDoor

/-- The program's search, up from the least number: the first s of them. -/
def pkU (m : Md) (z : Nat) : Nat → Int × Int × Int
  | 0 => ((m.bests z).1, 200, -1)
  | s + 1 => if mayB m z s = true ∧ bet (wayBy m z s).1 (wayBy m z s).2.1 (pkU m z s).1 (pkU m z s).2.1 = true then wayBy m z s else pkU m z s
theorem pkU_part (m : Md) (z : Nat) : ∀ s,
    (∃ k, k < s ∧ mayB m z k = true ∧ pkU m z s = wayBy m z k ∧ ∀ j, j < s → mayB m z j = true → bet (wayBy m z j).1 (wayBy m z j).2.1 (wayBy m z k).1 (wayBy m z k).2.1 = false ∧ (bet (wayBy m z k).1 (wayBy m z k).2.1 (wayBy m z j).1 (wayBy m z j).2.1 = false → k ≤ j)) ∨
    ((∀ j, j < s → mayB m z j = false) ∧ pkU m z s = ((m.bests z).1, 200, -1))
  | 0 => .inr ⟨fun j h => by omega, rfl⟩
  | s + 1 => by
    rcases pkU_part m z s with ⟨k, k1, mk, hp, hall⟩ | ⟨hn, hp⟩
    · rw [pkU, hp]
      by_cases hm : mayB m z s = true ∧ bet (wayBy m z s).1 (wayBy m z s).2.1 (wayBy m z k).1 (wayBy m z k).2.1 = true
      · rw [if_pos hm]
        obtain ⟨hm1, hb⟩ := hm
        refine .inl ⟨s, by omega, hm1, rfl, fun j j1 mj => ?_⟩
        by_cases ej : j = s
        · subst ej
          exact ⟨by rw [bet_not]; omega, fun _ => Nat.le_refl _⟩
        · obtain ⟨a1, _⟩ := hall j (by omega) mj
          rw [bet_not] at a1
          rw [bet_iff] at hb
          refine ⟨by rw [bet_not]; omega, fun q => ?_⟩
          rw [bet_not] at q
          omega
      · rw [if_neg hm]
        refine .inl ⟨k, by omega, mk, rfl, fun j j1 mj => ?_⟩
        by_cases ej : j = s
        · subst ej
          refine ⟨?_, fun _ => by omega⟩
          cases q : bet (wayBy m z j).1 (wayBy m z j).2.1 (wayBy m z k).1 (wayBy m z k).2.1
          · rfl
          · exact absurd ⟨mj, q⟩ hm
        · exact hall j (by omega) mj
    · rw [pkU, hp]
      by_cases hm : mayB m z s = true
      · obtain ⟨_, c1, c2⟩ := may_iff.1 hm
        have hb : bet (wayBy m z s).1 (wayBy m z s).2.1 (m.bests z).1 200 = true := by
          rw [bet_iff] at c2 ⊢
          unfold wayBy
          simp only
          omega
        rw [if_pos ⟨hm, hb⟩]
        refine .inl ⟨s, by omega, hm, rfl, fun j j1 mj => ?_⟩
        by_cases ej : j = s
        · subst ej
          exact ⟨by rw [bet_not]; omega, fun _ => Nat.le_refl _⟩
        · rw [hn j (by omega)] at mj; cases mj
      · rw [if_neg (fun q => hm q.1)]
        refine .inr ⟨fun j j1 => ?_, rfl⟩
        by_cases ej : j = s
        · subst ej
          cases h : mayB m z j
          · rfl
          · exact absurd h hm
        · exact hn j (by omega)
theorem pkU_is (m : Md) (z : Nat) : pkU m z 6 = pkD m z 6 := by
  refine IsPick.unique (m := m) (to := z) ?_ (pkD_is m z)
  rcases pkU_part m z 6 with ⟨k, k2, mk, hp, hall⟩ | ⟨hn, hp⟩
  · rw [hp]
    exact .inl ⟨k, k2, mk, rfl, hall⟩
  · rw [hp]
    exact .inr ⟨hn, rfl⟩
theorem pkU_bet (m : Md) (z : Nat) (hb : (m.bests z).2 ≤ 200) : bet (pkU m z 6).1 (pkU m z 6).2.1 (m.bests z).1 (m.bests z).2 = true ↔ (pkD m z 6).2.2 ≠ -1 ∧ bet (pkD m z 6).1 (pkD m z 6).2.1 (m.bests z).1 (m.bests z).2 = true := by
  rw [pkU_is]
  constructor
  · intro h
    refine ⟨fun e => ?_, h⟩
    rcases pkD_is m z with ⟨k, _, _, hw, _⟩ | ⟨_, hw⟩
    · rw [hw] at e
      have : (k : Int) = -1 := e
      omega
    · rw [hw, bet_iff] at h
      simp only at h
      omega
  · exact fun h => h.2
/-- The program's choose. -/
theorem look_u (m : Md) {z : Nat} (hz : z ≠ m.me) (hb : (m.bests z).2 ≤ 200) :
    lookM m z = { m with ways := updW m.ways z (pkU m z 6), bests := if bet (pkU m z 6).1 (pkU m z 6).2.1 (m.bests z).1 (m.bests z).2 = true then updW m.bests z ((pkU m z 6).1, (pkU m z 6).2.1) else m.bests } := by
  have h := pkU_bet m z hb
  unfold lookM
  rw [if_neg hz]
  by_cases c : bet (pkU m z 6).1 (pkU m z 6).2.1 (m.bests z).1 (m.bests z).2 = true
  · rw [if_pos c, if_pos (h.1 c), pkU_is]
  · rw [if_neg c, if_neg (fun q => c (h.2 q)), pkU_is]

theorem mayB_congr {m m' : Md} {z : Nat} (e1 : m'.cost = m.cost) (e2 : ∀ j, m'.heard j z = m.heard j z) (e3 : m'.bests z = m.bests z) (j : Nat) : mayB m' z j = mayB m z j ∧ wayBy m' z j = wayBy m z j := by
  unfold mayB wayBy
  rw [e1, e2, e3]
  exact ⟨rfl, rfl⟩
theorem pkD_congr {m m' : Md} {z : Nat} (e1 : m'.cost = m.cost) (e2 : ∀ j, m'.heard j z = m.heard j z) (e3 : m'.bests z = m.bests z) : ∀ s, pkD m' z s = pkD m z s
  | 0 => by rw [pkD, pkD, e3]
  | s + 1 => by
    obtain ⟨a, b⟩ := mayB_congr e1 e2 e3 (5 - s)
    rw [pkD, pkD, pkD_congr e1 e2 e3 s, a, b]

/-- The way to z has been looked at. -/
def LkZ (m : Md) (z : Nat) : Prop := m.ways z = pkD m z 6 ∧ ((pkD m z 6).2.2 ≠ -1 → bet (pkD m z 6).1 (pkD m z 6).2.1 (m.bests z).1 (m.bests z).2 = false)
theorem LkZ.keep {m m' : Md} {z : Nat} (h : LkZ m z) (e1 : m'.cost = m.cost) (e2 : ∀ j, m'.heard j z = m.heard j z) (e3 : m'.bests z = m.bests z) (e4 : m'.ways z = m.ways z) : LkZ m' z := by
  unfold LkZ
  rw [pkD_congr e1 e2 e3, e3, e4]
  exact h
theorem updW_id {α : Type} (f : Nat → α) (i : Nat) (v : α) (h : f i = v) : updW f i v = f := by
  funext j
  unfold updW
  split
  · next e => rw [e, h]
  · rfl
theorem LkZ.look {m : Md} {z : Nat} (h : LkZ m z) : lookM m z = m := by
  unfold lookM
  split
  · rfl
  · rw [updW_id _ _ _ h.1, if_neg (fun q => by rw [h.2 q.1] at q; exact absurd q.2 (by simp))]
theorem look_lkz (m : Md) {z : Nat} (hz : z ≠ m.me) (hc : ∀ j, j < 6 → 0 ≤ m.cost j) : LkZ (lookM m z) z := by
  obtain ⟨hok, hbb⟩ := look_ok m hz hc
  have ew : (lookM m z).ways z = pkD m z 6 := by unfold lookM; rw [if_neg hz]; exact updW_same _ _ _
  have hp : pkD (lookM m z) z 6 = pkD m z 6 := by
    refine (pkD_is (lookM m z) z).unique ?_
    have hwb : ∀ j, wayBy (lookM m z) z j = wayBy m z j := fun j => by unfold wayBy; rw [look_heard, look_cost]
    have hmay : ∀ j, mayB (lookM m z) z j = true → mayB m z j = true := fun j hj => by
      obtain ⟨a, b, c⟩ := may_iff.1 hj
      rw [look_cost] at a b
      rw [look_heard] at b c
      refine may_iff.2 ⟨a, b, ?_⟩
      rw [bet_not] at hbb
      rw [bet_iff] at c ⊢
      omega
    rcases pkD_is m z with ⟨k, hk, mk, hw, hall⟩ | ⟨hn, hw⟩
    · refine .inl ⟨k, hk, ?_, by rw [hwb]; exact hw, fun j hj mj => by rw [hwb]; exact hall j hj (hmay j mj)⟩
      have hne : ((lookM m z).ways z).2.2 ≠ -1 := by rw [ew, hw]; show (k : Int) ≠ -1; omega
      obtain ⟨j, _, hj2, hj3, hj4, hj5⟩ := hok.by_ hne (by rw [look_me]; exact hz)
      have ejk : j = k := by
        rw [ew, hw] at hj2
        have : (k : Int) = (j : Int) := congrArg (fun x => x.2.2) hj2
        omega
      subst ejk
      exact may_iff.2 ⟨hj3, hj4, hj5⟩
    · refine .inr ⟨fun j hj => ?_, ?_⟩
      · cases q : mayB (lookM m z) z j
        · rfl
        · have := hn j hj
          rw [hmay j q] at this; cases this
      · have eb : (lookM m z).bests z = m.bests z := by
          unfold lookM
          rw [if_neg hz]
          dsimp only
          rw [if_neg (fun q => q.1 (by rw [hw]))]
        rw [eb]; exact hw
  unfold LkZ
  rw [hp, ew]
  refine ⟨rfl, fun q => ?_⟩
  have := hok.notBetter (by rw [ew]; exact q)
  rw [ew] at this
  exact this
theorem look_keep (m : Md) {z k : Nat} (h : k ≠ z) (hk : LkZ m k) : LkZ (lookM m z) k :=
  hk.keep (look_cost _ _) (fun j => by rw [look_heard]) (look_other m h).2 (look_other m h).1
theorem lookTo_lkz (m : Md) (hc : ∀ j, j < 6 → 0 ≤ m.cost j) : ∀ n k, k < n → k ≠ m.me → LkZ (lookTo m n) k
  | 0, k, h, _ => by omega
  | n + 1, k, h, hk => by
    obtain ⟨e1, e2, _⟩ := lookTo_all m n
    by_cases e : k = n
    · subst e
      exact look_lkz _ (by rw [e1]; exact hk) (fun j hj => by rw [e2]; exact hc j hj)
    · exact look_keep _ e (lookTo_lkz m hc n k (by omega) hk)
/-- All ways have been looked at. -/
def Lkd (m : Md) : Prop := ∀ k, k < 6 → k ≠ m.me → LkZ m k
theorem new_lkd (me : Nat) : Lkd (newM me) := fun k _ hk => by
  have hk' : k ≠ me := hk
  have hn : ∀ j, j < 6 → mayB (newM me) k j = false := fun j _ => by unfold mayB newM; simp
  have hp := pick_none hn
  have ew : (newM me).ways k = (0, 200, -1) := by unfold newM; dsimp only; exact updW_ne _ _ hk'
  have eb : (newM me).bests k = (0, 200) := by unfold newM; dsimp only; exact updW_ne _ _ hk'
  unfold LkZ
  rw [hp, ew, eb]
  exact ⟨rfl, fun q => absurd rfl q⟩
theorem link_lkd {m : Md} (h : MdOk m) {who : Nat} {c : Int} (hc0 : 0 ≤ c) : Lkd (linkM m who c) := fun k hk hne => by
  unfold linkM at hne ⊢
  refine lookTo_lkz _ (fun j _ => ?_) 6 k hk (by rw [(lookTo_all _ 6).1] at hne; exact hne)
  show 0 ≤ updW m.cost who c j
  unfold updW
  split
  · exact hc0
  · exact (h.cost j).1
theorem heard_other (m : Md) {f z k : Nat} (h : k ≠ z) (v : Int × Int) (j : Nat) : updW m.heard f (updW (m.heard f) z v) j k = m.heard j k := by
  by_cases e : j = f
  · rw [e, updW_same, updW_ne _ _ h]
  · rw [updW_ne _ _ e]
theorem hear_lkd {m : Md} (h : MdOk m) (hl : Lkd m) {f z : Nat} {s d : Int} : Lkd (hearM m f z s d) := fun k hk hne => by
  have hme : (hearM m f z s d).me = m.me := look_me _ _
  rw [hme] at hne
  unfold hearM
  by_cases e : k = z
  · subst e
    exact look_lkz _ hne (fun j _ => (h.cost j).1)
  · exact look_keep _ e ((hl k hk hne).keep rfl (heard_other m e (s, d)) rfl rfl)
theorem tick_lkd {m : Md} (hl : Lkd m) : Lkd (tickM m) := fun k hk hne =>
  (hl k hk hne).keep rfl (fun _ => rfl) (updW_ne _ _ hne) (updW_ne _ _ hne)
/-- The program's Hear looks at all ways. -/
def hearD (m : Md) (f z : Nat) (s d : Int) : Md := lookTo { m with heard := updW m.heard f (updW (m.heard f) z (s, d)) } 6
def tickD (m : Md) : Md := { m with ways := updW m.ways m.me ((m.ways m.me).1 + 1, (m.ways m.me).2.1, (m.ways m.me).2.2) }
theorem lookTo_one (m : Md) {z : Nat} (hl : ∀ k, k < 6 → k ≠ z → k ≠ m.me → LkZ m k) : ∀ n, n ≤ 6 → lookTo m n = if z < n then lookM m z else m
  | 0, _ => by rw [if_neg (by omega)]; rfl
  | n + 1, hn => by
    rw [lookTo, lookTo_one m hl n (by omega)]
    by_cases e : z = n
    · subst e
      rw [if_neg (by omega), if_pos (by omega)]
    · have hk : ∀ m' : Md, m'.me = m.me → (n ≠ m.me → LkZ m' n) → lookM m' n = m' := fun m' e' h' => by
        by_cases q : n = m.me
        · unfold lookM; rw [if_pos (by rw [e']; exact q)]
        · exact (h' q).look
      by_cases hz : z < n
      · rw [if_pos hz, if_pos (by omega)]
        exact hk _ (look_me _ _) (fun q => look_keep m (fun x => e x.symm) (hl n (by omega) (fun x => e x.symm) q))
      · rw [if_neg hz, if_neg (by omega)]
        exact hk _ rfl (fun q => hl n (by omega) (fun x => e x.symm) q)
theorem hearD_is {m : Md} (hl : Lkd m) {f z : Nat} (hz : z < 6) (s d : Int) : hearD m f z s d = hearM m f z s d := by
  unfold hearD hearM
  have := lookTo_one { m with heard := updW m.heard f (updW (m.heard f) z (s, d)) } (z := z) (fun k hk hkz hne => (hl k hk hne).keep (m' := { m with heard := updW m.heard f (updW (m.heard f) z (s, d)) }) rfl (heard_other m hkz (s, d)) rfl rfl) 6 (Nat.le_refl _)
  rw [this, if_pos hz]

/-- The program does not keep the best of the node itself. -/
def sel (m : Md) : Md := { m with bests := updW m.bests m.me (0, 200) }
theorem sel_look (m : Md) (z : Nat) : lookM (sel m) z = sel (lookM m z) := by
  by_cases e : z = m.me
  · unfold lookM
    rw [if_pos e, if_pos (show z = (sel m).me from e)]
  · have hb : (sel m).bests z = m.bests z := updW_ne _ _ e
    have hp : pkD (sel m) z 6 = pkD m z 6 := pkD_congr (m := m) (m' := sel m) rfl (fun _ => rfl) hb 6
    have e' : ¬ z = (sel m).me := e
    unfold lookM
    rw [if_neg e, if_neg e', hp, hb]
    unfold sel
    dsimp only
    congr 1
    split
    · funext j
      unfold updW
      by_cases j1 : j = z
      · rw [if_pos j1, if_neg (fun q => e (by rw [← j1]; exact q)), if_pos j1]
      · rw [if_neg j1]
        by_cases j2 : j = m.me
        · rw [if_pos j2, if_pos j2]
        · rw [if_neg j2, if_neg j2, if_neg j1]
    · rfl
theorem sel_lookTo (m : Md) : ∀ n, lookTo (sel m) n = sel (lookTo m n)
  | 0 => rfl
  | n + 1 => by rw [lookTo, sel_lookTo m n, sel_look, lookTo]
theorem sel_link (m : Md) (f : Nat) (c : Int) : linkM (sel m) f c = sel (linkM m f c) := by
  unfold linkM
  rw [← sel_lookTo]
  rfl
theorem sel_hear {m : Md} (hl : Lkd m) {f z : Nat} (hz : z < 6) (s d : Int) : hearD (sel m) f z s d = sel (hearM m f z s d) := by
  rw [← hearD_is hl hz]
  unfold hearD
  rw [← sel_lookTo]
  rfl
theorem sel_tick (m : Md) : tickD (sel m) = sel (tickM m) := by
  unfold tickD sel tickM
  dsimp only
  congr 1
  funext j
  unfold updW
  split <;> rfl
/-- All that is known of a node behind steps. -/
structure MdZ (m : Md) : Prop where
  x : MdX m
  l : Lkd m
theorem MdZ.ok {m : Md} (h : MdZ m) : MdOk m := h.x.ok
theorem new_z {me : Nat} (h : me < 6) : MdZ (newM me) := ⟨new_x h, new_lkd me⟩
theorem link_z {m : Md} (h : MdZ m) {who : Nat} {c : Int} (hc0 : 0 ≤ c) (hc : c ≤ 15) : MdZ (linkM m who c) := ⟨link_x h.x hc0 hc, link_lkd h.ok hc0⟩
theorem hear_z {m : Md} (h : MdZ m) {f z : Nat} {s d : Int} (hs : 0 ≤ s) (hd0 : 0 ≤ d) (hd : d ≤ 200) : MdZ (hearM m f z s d) := ⟨hear_x h.x hs hd0 hd, hear_lkd h.ok h.l⟩
theorem tick_z {m : Md} (h : MdZ m) : MdZ (tickM m) := ⟨tick_x h.x, tick_lkd h.l⟩

end Go.Proofs.YtfcknkanbcndjagGreatDoor
