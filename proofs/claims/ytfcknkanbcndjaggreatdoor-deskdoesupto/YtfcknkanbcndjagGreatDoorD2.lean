import Derived.Test.YtfcknkanbcndjagGreatDoorMdPlain3
import Derived.Test.YtfcknkanbcndjagGreatDoorRows
import Derived.OneCell
import Derived.Deep.RegionHeld3
import Derived.Deep.DeepCutAuto
import Derived.StillTailTactics
import Derived.Lib.SmallJoins
import Derived.Carry
import Derived.BigRegion
/- NODES THAT TELL EACH OTHER, AS NUMBERS: along each way the best becomes better, whatever is lost, late or doubled. No Go here. -/
namespace Go.Proofs.YtfcknkanbcndjagGreatDoor

/-- Besides: what a way that is none says, and how long the best is. -/
structure MdX (m : Md) : Prop where
  ok : MdOk m
  none_ : ∀ k, (m.ways k).2.2 = -1 → m.ways k = ((m.bests k).1, 200, -1)
  b200 : ∀ k, 0 ≤ (m.bests k).2 ∧ (m.bests k).2 ≤ 200
/-- What a look leaves of one node, told together. -/
theorem look_x (m : Md) {to : Nat} (hne : to ≠ m.me) (hc : ∀ j, 0 ≤ m.cost j) (hs : ∀ j k, 0 ≤ (m.heard j k).2) (hb : 0 ≤ (m.bests to).2 ∧ (m.bests to).2 ≤ 200) :
    (((lookM m to).ways to).2.2 = -1 → (lookM m to).ways to = (((lookM m to).bests to).1, 200, -1)) ∧ 0 ≤ ((lookM m to).bests to).2 ∧ ((lookM m to).bests to).2 ≤ 200 := by
  have ew : (lookM m to).ways to = pkD m to 6 := by unfold lookM; rw [if_neg hne]; exact updW_same _ _ _
  have eb : (lookM m to).bests to = if (pkD m to 6).2.2 ≠ -1 ∧ bet (pkD m to 6).1 (pkD m to 6).2.1 (m.bests to).1 (m.bests to).2 = true then ((pkD m to 6).1, (pkD m to 6).2.1) else m.bests to := by
    unfold lookM
    rw [if_neg hne]
    dsimp only
    split
    · exact updW_same _ _ _
    · rfl
  rcases pkD_is m to with ⟨k, hk, mk, hw, _⟩ | ⟨_, hw⟩
  · obtain ⟨_, c1, _⟩ := may_iff.1 mk
    have hne' : (pkD m to 6).2.2 ≠ -1 := by rw [hw]; show (k : Int) ≠ -1; omega
    have e2 : (pkD m to 6).2.1 = (m.heard k to).2 + m.cost k := by rw [hw]; rfl
    have h1 := hc k
    have h2 := hs k to
    refine ⟨fun e => absurd (by rw [← ew]; exact e) hne', ?_⟩
    rw [eb]
    split
    · simp only; omega
    · exact hb
  · have hd : (pkD m to 6).2.2 = -1 := by rw [hw]
    rw [if_neg (fun q => q.1 hd)] at eb
    rw [ew, eb, hw]
    exact ⟨fun _ => rfl, hb⟩
theorem lookTo_x (m : Md) (hc : ∀ j, 0 ≤ m.cost j) (hs : ∀ j k, 0 ≤ (m.heard j k).2) (hb : ∀ k, 0 ≤ (m.bests k).2 ∧ (m.bests k).2 ≤ 200) (hself : (m.ways m.me).2.2 ≠ -1) (hn : ∀ k, 6 ≤ k → (m.ways k).2.2 = -1 → m.ways k = ((m.bests k).1, 200, -1)) : ∀ n, n ≤ 6 → ∀ k,
    (k < n ∨ 6 ≤ k → ((lookTo m n).ways k).2.2 = -1 → (lookTo m n).ways k = (((lookTo m n).bests k).1, 200, -1)) ∧ 0 ≤ ((lookTo m n).bests k).2 ∧ ((lookTo m n).bests k).2 ≤ 200
  | 0, _, k => ⟨fun h => hn k (by omega), hb k⟩
  | n + 1, hn6, k => by
    obtain ⟨i1, i2⟩ := lookTo_x m hc hs hb hself hn n (by omega) k
    obtain ⟨e1, e2, e3, e4, e5⟩ := lookTo_all m n
    by_cases e : k = n
    · subst e
      by_cases hk : k = m.me
      · have hs' := look_self (lookTo m k) k
        rw [e1, ← hk] at hs'
        rw [lookTo, hs'.1, hs'.2]
        rw [← hk] at e4
        exact ⟨fun _ q => absurd q (by rw [e4, hk]; exact hself), i2⟩
      · have := look_x (lookTo m k) (to := k) (by rw [e1]; exact hk) (fun j => by rw [e2]; exact hc j) (fun j k => by rw [e3]; exact hs j k) i2
        exact ⟨fun _ => this.1, this.2⟩
    · obtain ⟨o1, o2⟩ := look_other (lookTo m n) e
      rw [lookTo, o1, o2]
      exact ⟨fun h => i1 (by omega), i2⟩
theorem new_x {me : Nat} (h : me < 6) : MdX (newM me) := by
  refine ⟨new_ok h, fun k hk => ?_, fun k => ?_⟩
  · by_cases e : k = me
    · subst e
      have ew : (newM k).ways k = (0, 0, (k : Int)) := by unfold newM; dsimp only; exact updW_same _ _ _
      rw [ew] at hk
      have : (k : Int) = -1 := hk
      omega
    · have ew : (newM me).ways k = (0, 200, -1) := by unfold newM; dsimp only; exact updW_ne _ _ e
      have eb : (newM me).bests k = (0, 200) := by unfold newM; dsimp only; exact updW_ne _ _ e
      rw [ew, eb]
  · unfold newM updW; dsimp only; split <;> simp
theorem MdX.selfNe {m : Md} (h : MdX m) : (m.ways m.me).2.2 ≠ -1 := by
  obtain ⟨s, _, hw, _⟩ := h.ok.self
  rw [hw]; show ((m.me : Nat) : Int) ≠ -1; omega
theorem link_x {m : Md} (h : MdX m) {who : Nat} {c : Int} (hc0 : 0 ≤ c) (hc : c ≤ 15) : MdX (linkM m who c) := by
  obtain ⟨m1, hm1⟩ : ∃ m1 : Md, m1 = { m with cost := updW m.cost who c, heard := if c = 0 then updW m.heard who (fun _ => (0, 200)) else m.heard } := ⟨_, rfl⟩
  have el : linkM m who c = lookTo m1 6 := by rw [hm1]; rfl
  have b1 : m1.bests = m.bests := by rw [hm1]
  have w1 : m1.ways = m.ways := by rw [hm1]
  have me1 : m1.me = m.me := by rw [hm1]
  have cs : ∀ j, 0 ≤ m1.cost j := fun j => by
    rw [hm1]
    show 0 ≤ updW m.cost who c j
    unfold updW
    split
    · exact hc0
    · exact (h.ok.cost j).1
  have hs : ∀ j k, 0 ≤ (m1.heard j k).2 := fun j k => by
    rw [hm1]
    dsimp only
    split
    · unfold updW
      split
      · simp
      · exact (h.ok.said j k).2.1
    · exact (h.ok.said j k).2.1
  have key := lookTo_x m1 cs hs (fun k => by rw [b1]; exact h.b200 k) (by rw [w1, me1]; exact h.selfNe) (fun k _ => by rw [w1, b1]; exact h.none_ k) 6 (Nat.le_refl _)
  refine ⟨(link_ok h.ok hc0 hc).1, fun k => ?_, fun k => ?_⟩
  · rw [el]; exact (key k).1 (by omega)
  · rw [el]; exact (key k).2
theorem hear_x {m : Md} (h : MdX m) {f to : Nat} {s d : Int} (hs : 0 ≤ s) (hd0 : 0 ≤ d) (hd : d ≤ 200) : MdX (hearM m f to s d) := by
  have hk := (hear_ok h.ok (f := f) (to := to) hs hd0 hd).1
  obtain ⟨m1, hm1⟩ : ∃ m1 : Md, m1 = { m with heard := updW m.heard f (updW (m.heard f) to (s, d)) } := ⟨_, rfl⟩
  have el : hearM m f to s d = lookM m1 to := by rw [hm1]; rfl
  have b1 : m1.bests = m.bests := by rw [hm1]
  have w1 : m1.ways = m.ways := by rw [hm1]
  have me1 : m1.me = m.me := by rw [hm1]
  have c1 : m1.cost = m.cost := by rw [hm1]
  have hsd : ∀ j k, 0 ≤ (m1.heard j k).2 := fun j k => by
    have := (hk.said j k).2.1
    rw [el, look_heard] at this
    exact this
  have one : ∀ k, ((lookM m1 to).ways k).2.2 = -1 → (lookM m1 to).ways k = (((lookM m1 to).bests k).1, 200, -1) := fun k => by
    by_cases e : k = to
    · subst e
      by_cases hme : k = m1.me
      · have hs' := look_self m1 k
        rw [← hme] at hs'
        rw [hs'.1, hs'.2, w1, b1]
        exact h.none_ k
      · exact (look_x m1 hme (fun j => by rw [c1]; exact (h.ok.cost j).1) hsd (by rw [b1]; exact h.b200 k)).1
    · rw [(look_other m1 e).1, (look_other m1 e).2, w1, b1]
      exact h.none_ k
  have two : ∀ k, 0 ≤ ((lookM m1 to).bests k).2 ∧ ((lookM m1 to).bests k).2 ≤ 200 := fun k => by
    by_cases e : k = to
    · subst e
      by_cases hme : k = m1.me
      · have hs' := look_self m1 k
        rw [← hme] at hs'
        rw [hs'.2, b1]
        exact h.b200 k
      · exact (look_x m1 hme (fun j => by rw [c1]; exact (h.ok.cost j).1) hsd (by rw [b1]; exact h.b200 k)).2
    · rw [(look_other m1 e).2, b1]
      exact h.b200 k
  exact ⟨hk, by rw [el]; exact one, by rw [el]; exact two⟩
theorem tick_x {m : Md} (h : MdX m) : MdX (tickM m) := by
  obtain ⟨s, h0, hw, hb⟩ := h.ok.self
  refine ⟨(tick_ok h.ok).1, fun k hk => ?_, fun k => ?_⟩
  · by_cases e : k = m.me
    · subst e
      exfalso
      have : (updW m.ways m.me ((m.ways m.me).1 + 1, (m.ways m.me).2.1, (m.ways m.me).2.2) m.me).2.2 = -1 := hk
      rw [updW_same, hw] at this
      have : ((m.me : Nat) : Int) = -1 := this
      omega
    · have e1 : (tickM m).ways k = m.ways k := updW_ne _ _ e
      have e2 : (tickM m).bests k = m.bests k := updW_ne _ _ e
      rw [e1] at hk
      rw [e1, e2]
      exact h.none_ k hk
  · by_cases e : k = m.me
    · subst e
      have e2 : (tickM m).bests m.me = ((m.ways m.me).1 + 1, 0) := updW_same _ _ _
      rw [e2]; simp
    · have e2 : (tickM m).bests k = m.bests k := updW_ne _ _ e
      rw [e2]; exact h.b200 k
/-- What a node tells is no better than its best. -/
theorem MdX.tells {m : Md} (h : MdX m) {k : Nat} (hk : k < 6) : bet (m.ways k).1 (m.ways k).2.1 (m.bests k).1 (m.bests k).2 = false ∧ 0 ≤ (m.ways k).1 ∧ 0 ≤ (m.ways k).2.1 ∧ (m.ways k).2.1 ≤ 200 := by
  by_cases hd : (m.ways k).2.2 = -1
  · have e := h.none_ k hd
    have hb := h.b200 k
    rw [e, bet_not]
    refine ⟨?_, h.ok.best k, ?_, ?_⟩
    · right; simp only; exact ⟨trivial, hb.2⟩
    · simp
    · simp
  · have hs := way_seq h.ok hk hd
    refine ⟨?_, hs.1, hs.2.1, by omega⟩
    by_cases e : k = m.me
    · obtain ⟨s, _, hw, hb⟩ := h.ok.self
      rw [e, hw, hb]; exact bet_refl _ _
    · exact (h.ok.way k hk e).notBetter hd

/-- News: from whom, for whom, of whom, the age and the length. -/
structure Nw where
  f : Nat
  g : Nat
  to : Nat
  s : Int
  d : Int
/-- A net: what each node knows, and the news on their way. -/
structure Tn where
  cst : Nat → Nat → Int
  nd : Nat → Md
  news : List Nw
structure TnOk (t : Tn) : Prop where
  node : ∀ a, a < 6 → MdX (t.nd a) ∧ (t.nd a).me = a
  heard : ∀ a f k, a < 6 → f < 6 → k < 6 → bet ((t.nd a).heard f k).1 ((t.nd a).heard f k).2 ((t.nd f).bests k).1 ((t.nd f).bests k).2 = false
  news : ∀ x ∈ t.news, x.f < 6 ∧ x.g < 6 ∧ x.f ≠ x.g ∧ x.to < 6 ∧ 0 ≤ x.s ∧ 0 ≤ x.d ∧ x.d ≤ 200 ∧ bet x.s x.d ((t.nd x.f).bests x.to).1 ((t.nd x.f).bests x.to).2 = false
  cost : ∀ a b, a < 6 → b < 6 → (t.nd a).cost b = t.cst a b
/-- ALONG EACH WAY THE BEST BECOMES BETTER, and each way is by a link. -/
theorem TnOk.straight {t : Tn} (h : TnOk t) {a to : Nat} (ha : a < 6) (ht : to < 6) (hne : to ≠ a) (hd : ((t.nd a).ways to).2.2 ≠ -1) :
    ∃ j : Nat, j < 6 ∧ ((t.nd a).ways to).2.2 = (j : Int) ∧ t.cst a j ≠ 0 ∧ bet ((t.nd j).bests to).1 ((t.nd j).bests to).2 ((t.nd a).bests to).1 ((t.nd a).bests to).2 = true := by
  obtain ⟨hx, hme⟩ := h.node a ha
  obtain ⟨j, hj, hw, hc, _, hb⟩ := (hx.ok.way to ht (by rw [hme]; exact hne)).by_ hd (by rw [hme]; exact hne)
  refine ⟨j, hj, by rw [hw]; rfl, by rw [← h.cost a j ha hj]; exact hc, ?_⟩
  have h1 := h.heard a j to ha hj ht
  rw [bet_not] at h1
  rw [bet_iff] at hb ⊢
  omega
/-- One node has changed, its best not to the worse, and what it heard is no better than what those know who said it. -/
theorem TnOk.one {t : Tn} (h : TnOk t) {a : Nat} (ha : a < 6) {m : Md} {cst' : Nat → Nat → Int} {nw : List Nw} (hx : MdX m) (hme : m.me = a) (hb : ∀ k, bet ((t.nd a).bests k).1 ((t.nd a).bests k).2 (m.bests k).1 (m.bests k).2 = false)
    (hh : ∀ f k, f < 6 → k < 6 → bet (m.heard f k).1 (m.heard f k).2 ((t.nd f).bests k).1 ((t.nd f).bests k).2 = false)
    (hn : ∀ x ∈ nw, x.f < 6 ∧ x.g < 6 ∧ x.f ≠ x.g ∧ x.to < 6 ∧ 0 ≤ x.s ∧ 0 ≤ x.d ∧ x.d ≤ 200 ∧ bet x.s x.d ((updW t.nd a m x.f).bests x.to).1 ((updW t.nd a m x.f).bests x.to).2 = false)
    (hc : ∀ b c, b < 6 → c < 6 → (updW t.nd a m b).cost c = cst' b c) : TnOk { cst := cst', nd := updW t.nd a m, news := nw } := by
  have up : ∀ f k s d, bet s d ((t.nd f).bests k).1 ((t.nd f).bests k).2 = false → bet s d ((updW t.nd a m f).bests k).1 ((updW t.nd a m f).bests k).2 = false := fun f k s d q => by
    by_cases e : f = a
    · subst e
      rw [updW_same]; exact bet_trans q (hb k)
    · rw [updW_ne _ _ e]; exact q
  refine ⟨fun b hb' => ?_, fun b f k hb' hf hk => ?_, hn, hc⟩
  · show MdX (updW t.nd a m b) ∧ (updW t.nd a m b).me = b
    by_cases e : b = a
    · subst e
      rw [updW_same]; exact ⟨hx, hme⟩
    · rw [updW_ne _ _ e]; exact h.node b hb'
  · show bet ((updW t.nd a m b).heard f k).1 ((updW t.nd a m b).heard f k).2 ((updW t.nd a m f).bests k).1 ((updW t.nd a m f).bests k).2 = false
    refine up f k _ _ ?_
    by_cases e : b = a
    · subst e
      rw [updW_same]; exact hh f k hf hk
    · rw [updW_ne _ _ e]; exact h.heard b f k hb' hf hk

end Go.Proofs.YtfcknkanbcndjagGreatDoor

/- THE PROGRAM'S NODE, AS NUMBERS: its search upwards finds what the reference's finds; looked at twice it is looked at once; the best of itself is not kept. No Go here. -/
namespace Go.Proofs.YtfcknkanbcndjagGreatDoor

/-- The program's search, up from the least number: the first s of them. -/
def pkU (m : Md) (z : Nat) : Nat → Int × Int × Int
  | 0 => ((m.bests z).1, 200, -1)
  | s + 1 => if mayB m z s = true ∧ bet (wayBy m z s).1 (wayBy m z s).2.1 (pkU m z s).1 (pkU m z s).2.1 = true then wayBy m z s else pkU m z s
theorem pkU_part (m : Md) (z : Nat) : ∀ s,
    (∃ k, k < s ∧ mayB m z k = true ∧ pkU m z s = wayBy m z k ∧ ∀ j, j < s → mayB m z j = true → bet (wayBy m z j).1 (wayBy m z j).2.1 (wayBy m z k).1 (wayBy m z k).2.1 = false ∧ (bet (wayBy m z k).1 (wayBy m z k).2.1 (wayBy m z j).1 (wayBy m z j).2.1 = false → k ≤ j)) ∨
    ((∀ j, j < s → mayB m z j = false) ∧ pkU m z s = ((m.bests z).1, 200, -1))
  | 0 => .inr ⟨fun j h => by omega, rfl⟩
  | s + 1 => by
    rcases pkU_part m z s with ⟨k, k1, mk, hp, hall⟩ | ⟨hn, hp⟩
    · rw [pkU, hp]
      by_cases hm : mayB m z s = true ∧ bet (wayBy m z s).1 (wayBy m z s).2.1 (wayBy m z k).1 (wayBy m z k).2.1 = true
      · rw [if_pos hm]
        obtain ⟨hm1, hb⟩ := hm
        refine .inl ⟨s, by omega, hm1, rfl, fun j j1 mj => ?_⟩
        by_cases ej : j = s
        · subst ej
          exact ⟨by rw [bet_not]; omega, fun _ => Nat.le_refl _⟩
        · obtain ⟨a1, _⟩ := hall j (by omega) mj
          rw [bet_not] at a1
          rw [bet_iff] at hb
          refine ⟨by rw [bet_not]; omega, fun q => ?_⟩
          rw [bet_not] at q
          omega
      · rw [if_neg hm]
        refine .inl ⟨k, by omega, mk, rfl, fun j j1 mj => ?_⟩
        by_cases ej : j = s
        · subst ej
          refine ⟨?_, fun _ => by omega⟩
          cases q : bet (wayBy m z j).1 (wayBy m z j).2.1 (wayBy m z k).1 (wayBy m z k).2.1
          · rfl
          · exact absurd ⟨mj, q⟩ hm
        · exact hall j (by omega) mj
    · rw [pkU, hp]
      by_cases hm : mayB m z s = true
      · obtain ⟨_, c1, c2⟩ := may_iff.1 hm
        have hb : bet (wayBy m z s).1 (wayBy m z s).2.1 (m.bests z).1 200 = true := by
          rw [bet_iff] at c2 ⊢
          unfold wayBy
          simp only
          omega
        rw [if_pos ⟨hm, hb⟩]
        refine .inl ⟨s, by omega, hm, rfl, fun j j1 mj => ?_⟩
        by_cases ej : j = s
        · subst ej
          exact ⟨by rw [bet_not]; omega, fun _ => Nat.le_refl _⟩
        · rw [hn j (by omega)] at mj; cases mj
      · rw [if_neg (fun q => hm q.1)]
        refine .inr ⟨fun j j1 => ?_, rfl⟩
        by_cases ej : j = s
        · subst ej
          cases h : mayB m z j
          · rfl
          · exact absurd h hm
        · exact hn j (by omega)
theorem pkU_is (m : Md) (z : Nat) : pkU m z 6 = pkD m z 6 := by
  refine IsPick.unique (m := m) (to := z) ?_ (pkD_is m z)
  rcases pkU_part m z 6 with ⟨k, k2, mk, hp, hall⟩ | ⟨hn, hp⟩
  · rw [hp]
    exact .inl ⟨k, k2, mk, rfl, hall⟩
  · rw [hp]
    exact .inr ⟨hn, rfl⟩
theorem pkU_bet (m : Md) (z : Nat) (hb : (m.bests z).2 ≤ 200) : bet (pkU m z 6).1 (pkU m z 6).2.1 (m.bests z).1 (m.bests z).2 = true ↔ (pkD m z 6).2.2 ≠ -1 ∧ bet (pkD m z 6).1 (pkD m z 6).2.1 (m.bests z).1 (m.bests z).2 = true := by
  rw [pkU_is]
  constructor
  · intro h
    refine ⟨fun e => ?_, h⟩
    rcases pkD_is m z with ⟨k, _, _, hw, _⟩ | ⟨_, hw⟩
    · rw [hw] at e
      have : (k : Int) = -1 := e
      omega
    · rw [hw, bet_iff] at h
      simp only at h
      omega
  · exact fun h => h.2
/-- The program's choose. -/
theorem look_u (m : Md) {z : Nat} (hz : z ≠ m.me) (hb : (m.bests z).2 ≤ 200) :
    lookM m z = { m with ways := updW m.ways z (pkU m z 6), bests := if bet (pkU m z 6).1 (pkU m z 6).2.1 (m.bests z).1 (m.bests z).2 = true then updW m.bests z ((pkU m z 6).1, (pkU m z 6).2.1) else m.bests } := by
  have h := pkU_bet m z hb
  unfold lookM
  rw [if_neg hz]
  by_cases c : bet (pkU m z 6).1 (pkU m z 6).2.1 (m.bests z).1 (m.bests z).2 = true
  · rw [if_pos c, if_pos (h.1 c), pkU_is]
  · rw [if_neg c, if_neg (fun q => c (h.2 q)), pkU_is]

theorem mayB_congr {m m' : Md} {z : Nat} (e1 : m'.cost = m.cost) (e2 : ∀ j, m'.heard j z = m.heard j z) (e3 : m'.bests z = m.bests z) (j : Nat) : mayB m' z j = mayB m z j ∧ wayBy m' z j = wayBy m z j := by
  unfold mayB wayBy
  rw [e1, e2, e3]
  exact ⟨rfl, rfl⟩
theorem pkD_congr {m m' : Md} {z : Nat} (e1 : m'.cost = m.cost) (e2 : ∀ j, m'.heard j z = m.heard j z) (e3 : m'.bests z = m.bests z) : ∀ s, pkD m' z s = pkD m z s
  | 0 => by rw [pkD, pkD, e3]
  | s + 1 => by
    obtain ⟨a, b⟩ := mayB_congr e1 e2 e3 (5 - s)
    rw [pkD, pkD, pkD_congr e1 e2 e3 s, a, b]

/-- The way to z has been looked at. -/
def LkZ (m : Md) (z : Nat) : Prop := m.ways z = pkD m z 6 ∧ ((pkD m z 6).2.2 ≠ -1 → bet (pkD m z 6).1 (pkD m z 6).2.1 (m.bests z).1 (m.bests z).2 = false)
theorem LkZ.keep {m m' : Md} {z : Nat} (h : LkZ m z) (e1 : m'.cost = m.cost) (e2 : ∀ j, m'.heard j z = m.heard j z) (e3 : m'.bests z = m.bests z) (e4 : m'.ways z = m.ways z) : LkZ m' z := by
  unfold LkZ
  rw [pkD_congr e1 e2 e3, e3, e4]
  exact h
theorem updW_id {α : Type} (f : Nat → α) (i : Nat) (v : α) (h : f i = v) : updW f i v = f := by
  funext j
  unfold updW
  split
  · next e => rw [e, h]
  · rfl
theorem LkZ.look {m : Md} {z : Nat} (h : LkZ m z) : lookM m z = m := by
  unfold lookM
  split
  · rfl
  · rw [updW_id _ _ _ h.1, if_neg (fun q => by rw [h.2 q.1] at q; exact absurd q.2 (by simp))]
theorem look_lkz (m : Md) {z : Nat} (hz : z ≠ m.me) (hc : ∀ j, j < 6 → 0 ≤ m.cost j) : LkZ (lookM m z) z := by
  obtain ⟨hok, hbb⟩ := look_ok m hz hc
  have ew : (lookM m z).ways z = pkD m z 6 := by unfold lookM; rw [if_neg hz]; exact updW_same _ _ _
  have hp : pkD (lookM m z) z 6 = pkD m z 6 := by
    refine (pkD_is (lookM m z) z).unique ?_
    have hwb : ∀ j, wayBy (lookM m z) z j = wayBy m z j := fun j => by unfold wayBy; rw [look_heard, look_cost]
    have hmay : ∀ j, mayB (lookM m z) z j = true → mayB m z j = true := fun j hj => by
      obtain ⟨a, b, c⟩ := may_iff.1 hj
      rw [look_cost] at a b
      rw [look_heard] at b c
      refine may_iff.2 ⟨a, b, ?_⟩
      rw [bet_not] at hbb
      rw [bet_iff] at c ⊢
      omega
    rcases pkD_is m z with ⟨k, hk, mk, hw, hall⟩ | ⟨hn, hw⟩
    · refine .inl ⟨k, hk, ?_, by rw [hwb]; exact hw, fun j hj mj => by rw [hwb]; exact hall j hj (hmay j mj)⟩
      have hne : ((lookM m z).ways z).2.2 ≠ -1 := by rw [ew, hw]; show (k : Int) ≠ -1; omega
      obtain ⟨j, _, hj2, hj3, hj4, hj5⟩ := hok.by_ hne (by rw [look_me]; exact hz)
      have ejk : j = k := by
        rw [ew, hw] at hj2
        have : (k : Int) = (j : Int) := congrArg (fun x => x.2.2) hj2
        omega
      subst ejk
      exact may_iff.2 ⟨hj3, hj4, hj5⟩
    · refine .inr ⟨fun j hj => ?_, ?_⟩
      · cases q : mayB (lookM m z) z j
        · rfl
        · have := hn j hj
          rw [hmay j q] at this; cases this
      · have eb : (lookM m z).bests z = m.bests z := by
          unfold lookM
          rw [if_neg hz]
          dsimp only
          rw [if_neg (fun q => q.1 (by rw [hw]))]
        rw [eb]; exact hw
  unfold LkZ
  rw [hp, ew]
  refine ⟨rfl, fun q => ?_⟩
  have := hok.notBetter (by rw [ew]; exact q)
  rw [ew] at this
  exact this
theorem look_keep (m : Md) {z k : Nat} (h : k ≠ z) (hk : LkZ m k) : LkZ (lookM m z) k :=
  hk.keep (look_cost _ _) (fun j => by rw [look_heard]) (look_other m h).2 (look_other m h).1
theorem lookTo_lkz (m : Md) (hc : ∀ j, j < 6 → 0 ≤ m.cost j) : ∀ n k, k < n → k ≠ m.me → LkZ (lookTo m n) k
  | 0, k, h, _ => by omega
  | n + 1, k, h, hk => by
    obtain ⟨e1, e2, _⟩ := lookTo_all m n
    by_cases e : k = n
    · subst e
      exact look_lkz _ (by rw [e1]; exact hk) (fun j hj => by rw [e2]; exact hc j hj)
    · exact look_keep _ e (lookTo_lkz m hc n k (by omega) hk)
/-- All ways have been looked at. -/
def Lkd (m : Md) : Prop := ∀ k, k < 6 → k ≠ m.me → LkZ m k
theorem new_lkd (me : Nat) : Lkd (newM me) := fun k _ hk => by
  have hk' : k ≠ me := hk
  have hn : ∀ j, j < 6 → mayB (newM me) k j = false := fun j _ => by unfold mayB newM; simp
  have hp := pick_none hn
  have ew : (newM me).ways k = (0, 200, -1) := by unfold newM; dsimp only; exact updW_ne _ _ hk'
  have eb : (newM me).bests k = (0, 200) := by unfold newM; dsimp only; exact updW_ne _ _ hk'
  unfold LkZ
  rw [hp, ew, eb]
  exact ⟨rfl, fun q => absurd rfl q⟩
theorem link_lkd {m : Md} (h : MdOk m) {who : Nat} {c : Int} (hc0 : 0 ≤ c) : Lkd (linkM m who c) := fun k hk hne => by
  unfold linkM at hne ⊢
  refine lookTo_lkz _ (fun j _ => ?_) 6 k hk (by rw [(lookTo_all _ 6).1] at hne; exact hne)
  show 0 ≤ updW m.cost who c j
  unfold updW
  split
  · exact hc0
  · exact (h.cost j).1
theorem heard_other (m : Md) {f z k : Nat} (h : k ≠ z) (v : Int × Int) (j : Nat) : updW m.heard f (updW (m.heard f) z v) j k = m.heard j k := by
  by_cases e : j = f
  · rw [e, updW_same, updW_ne _ _ h]
  · rw [updW_ne _ _ e]
theorem hear_lkd {m : Md} (h : MdOk m) (hl : Lkd m) {f z : Nat} {s d : Int} : Lkd (hearM m f z s d) := fun k hk hne => by
  have hme : (hearM m f z s d).me = m.me := look_me _ _
  rw [hme] at hne
  unfold hearM
  by_cases e : k = z
  · subst e
    exact look_lkz _ hne (fun j _ => (h.cost j).1)
  · exact look_keep _ e ((hl k hk hne).keep rfl (heard_other m e (s, d)) rfl rfl)
theorem tick_lkd {m : Md} (hl : Lkd m) : Lkd (tickM m) := fun k hk hne =>
  (hl k hk hne).keep rfl (fun _ => rfl) (updW_ne _ _ hne) (updW_ne _ _ hne)
/-- The program's Hear looks at all ways. -/
def hearD (m : Md) (f z : Nat) (s d : Int) : Md := lookTo { m with heard := updW m.heard f (updW (m.heard f) z (s, d)) } 6
def tickD (m : Md) : Md := { m with ways := updW m.ways m.me ((m.ways m.me).1 + 1, (m.ways m.me).2.1, (m.ways m.me).2.2) }
theorem lookTo_one (m : Md) {z : Nat} (hl : ∀ k, k < 6 → k ≠ z → k ≠ m.me → LkZ m k) : ∀ n, n ≤ 6 → lookTo m n = if z < n then lookM m z else m
  | 0, _ => by rw [if_neg (by omega)]; rfl
  | n + 1, hn => by
    rw [lookTo, lookTo_one m hl n (by omega)]
    by_cases e : z = n
    · subst e
      rw [if_neg (by omega), if_pos (by omega)]
    · have hk : ∀ m' : Md, m'.me = m.me → (n ≠ m.me → LkZ m' n) → lookM m' n = m' := fun m' e' h' => by
        by_cases q : n = m.me
        · unfold lookM; rw [if_pos (by rw [e']; exact q)]
        · exact (h' q).look
      by_cases hz : z < n
      · rw [if_pos hz, if_pos (by omega)]
        exact hk _ (look_me _ _) (fun q => look_keep m (fun x => e x.symm) (hl n (by omega) (fun x => e x.symm) q))
      · rw [if_neg hz, if_neg (by omega)]
        exact hk _ rfl (fun q => hl n (by omega) (fun x => e x.symm) q)
theorem hearD_is {m : Md} (hl : Lkd m) {f z : Nat} (hz : z < 6) (s d : Int) : hearD m f z s d = hearM m f z s d := by
  unfold hearD hearM
  have := lookTo_one { m with heard := updW m.heard f (updW (m.heard f) z (s, d)) } (z := z) (fun k hk hkz hne => (hl k hk hne).keep (m' := { m with heard := updW m.heard f (updW (m.heard f) z (s, d)) }) rfl (heard_other m hkz (s, d)) rfl rfl) 6 (Nat.le_refl _)
  rw [this, if_pos hz]

/-- The program does not keep the best of the node itself. -/
def sel (m : Md) : Md := { m with bests := updW m.bests m.me (0, 200) }
theorem sel_look (m : Md) (z : Nat) : lookM (sel m) z = sel (lookM m z) := by
  by_cases e : z = m.me
  · unfold lookM
    rw [if_pos e, if_pos (show z = (sel m).me from e)]
  · have hb : (sel m).bests z = m.bests z := updW_ne _ _ e
    have hp : pkD (sel m) z 6 = pkD m z 6 := pkD_congr (m := m) (m' := sel m) rfl (fun _ => rfl) hb 6
    have e' : ¬ z = (sel m).me := e
    unfold lookM
    rw [if_neg e, if_neg e', hp, hb]
    unfold sel
    dsimp only
    congr 1
    split
    · funext j
      unfold updW
      by_cases j1 : j = z
      · rw [if_pos j1, if_neg (fun q => e (by rw [← j1]; exact q)), if_pos j1]
      · rw [if_neg j1]
        by_cases j2 : j = m.me
        · rw [if_pos j2, if_pos j2]
        · rw [if_neg j2, if_neg j2, if_neg j1]
    · rfl
theorem sel_lookTo (m : Md) : ∀ n, lookTo (sel m) n = sel (lookTo m n)
  | 0 => rfl
  | n + 1 => by rw [lookTo, sel_lookTo m n, sel_look, lookTo]
theorem sel_link (m : Md) (f : Nat) (c : Int) : linkM (sel m) f c = sel (linkM m f c) := by
  unfold linkM
  rw [← sel_lookTo]
  rfl
theorem sel_hear {m : Md} (hl : Lkd m) {f z : Nat} (hz : z < 6) (s d : Int) : hearD (sel m) f z s d = sel (hearM m f z s d) := by
  rw [← hearD_is hl hz]
  unfold hearD
  rw [← sel_lookTo]
  rfl
theorem sel_tick (m : Md) : tickD (sel m) = sel (tickM m) := by
  unfold tickD sel tickM
  dsimp only
  congr 1
  funext j
  unfold updW
  split <;> rfl
/-- All that is known of a node behind steps. -/
structure MdZ (m : Md) : Prop where
  x : MdX m
  l : Lkd m
theorem MdZ.ok {m : Md} (h : MdZ m) : MdOk m := h.x.ok
theorem new_z {me : Nat} (h : me < 6) : MdZ (newM me) := ⟨new_x h, new_lkd me⟩
theorem link_z {m : Md} (h : MdZ m) {who : Nat} {c : Int} (hc0 : 0 ≤ c) (hc : c ≤ 15) : MdZ (linkM m who c) := ⟨link_x h.x hc0 hc, link_lkd h.ok hc0⟩
theorem hear_z {m : Md} (h : MdZ m) {f z : Nat} {s d : Int} (hs : 0 ≤ s) (hd0 : 0 ≤ d) (hd : d ≤ 200) : MdZ (hearM m f z s d) := ⟨hear_x h.x hs hd0 hd, hear_lkd h.ok h.l⟩
theorem tick_z {m : Md} (h : MdZ m) : MdZ (tickM m) := ⟨tick_x h.x, tick_lkd h.l⟩

end Go.Proofs.YtfcknkanbcndjagGreatDoor

/- A NODE IN MEMORY (handpostref.Mind): a block of 109 numbers. -/
namespace Go.Proofs.YtfcknkanbcndjagGreatDoor
open Go.RowKit


/-- n numbers, as cells. -/
def zcells (n : Nat) (g : Nat → Int) : Array Value := ((List.range n).map fun i => iv (g i)).toArray
/-- At block p there are n numbers. -/
def ZArr (w : World) (t : TypeId) (n p : Nat) (g : Nat → Int) : Prop := w.heap[p]? = some (.cells (zcells n g) t (0, 0))
theorem ZArr.lt {w : World} {t n p : Nat} {g : Nat → Int} (h : ZArr w t n p g) : p < w.heap.size := lt_of_block h
theorem ZArr.cell {w : World} {t n p : Nat} {g : Nat → Int} (h : ZArr w t n p g) {j : Nat} (hj : j < n) : w.cell? ⟨p, j, none⟩ = some (iv (g j)) := by
  unfold ZArr at h
  simp [World.cell?, h, zcells, hj]
theorem ZArr.free {w : World} {t n p : Nat} {g : Nat → Int} (h : ZArr w t n p g) (j : Nat) : w.frozen? ⟨p, j, none⟩ = false := by
  unfold ZArr at h
  simp [World.frozen?, h]
theorem ZArr.gr {w w' : World} {t n p : Nat} {g : Nat → Int} (h : ZArr w t n p g) (k : Gr w w') : ZArr w' t n p g := (Below.block k p (lt_of_block h)).trans h
theorem zcells_congr {n : Nat} {g g' : Nat → Int} (e : ∀ j, j < n → g j = g' j) : zcells n g = zcells n g' := by
  unfold zcells
  congr 1
  apply List.map_congr_left
  intro j hj
  rw [e j (List.mem_range.1 hj)]
theorem ZArr.congr {w : World} {t n p : Nat} {g g' : Nat → Int} (h : ZArr w t n p g) (e : ∀ j, j < n → g j = g' j) : ZArr w t n p g' := by
  unfold ZArr at h ⊢
  rw [← zcells_congr e]; exact h
theorem ZArr.set {w : World} {t n p : Nat} {g g' : Nat → Int} (h : ZArr w t n p g) {j : Nat} {v : Int} (e : ∀ i, i < n → g' i = if i = j then v else g i) : ZArr (w.setCell ⟨p, j, none⟩ (iv v)) t n p g' := by
  unfold ZArr at h ⊢
  have : (w.setCell ⟨p, j, none⟩ (iv v)).heap[p]? = some (.cells ((zcells n g).setIfInBounds j (iv v)) t (0, 0)) := by
    simp [World.setCell, Array.getElem?_modify, h]
  rw [this]
  congr 2
  apply Array.ext
  · simp [zcells]
  · intro i h1 h2
    have hi : i < n := by simpa [zcells] using h1
    rw [Array.getElem_setIfInBounds (by simpa [zcells] using hi)]
    simp only [zcells, List.getElem_toArray, List.getElem_map, List.getElem_range, e i hi]
    by_cases q : j = i
    · subst q; simp
    · rw [if_neg q, if_neg (fun x => q x.symm)]
theorem ZArr.other {w : World} {t n p q : Nat} {g : Nat → Int} (h : ZArr w t n p g) (hn : p ≠ q) (j : Nat) (v : Value) : ZArr (w.setCell ⟨q, j, none⟩ v) t n p g := by
  unfold ZArr
  rw [Below.heap_setCell w ⟨q, j, none⟩ v p hn]; exact h
theorem ZArr.new (w : World) (t n : Nat) (g : Nat → Int) : ZArr (w.alloc (.cells (zcells n g) t)) t n w.heap.size g := heap_alloc_new w _

/-- A node's numbers, one behind the other: itself, its costs, what was said, its ways, the bests. -/
def mdF (m : Md) (i : Nat) : Int :=
  if i = 0 then (m.me : Int)
  else if i < 7 then m.cost (i - 1)
  else if i < 79 then (if (i - 7) % 2 = 0 then (m.heard ((i - 7) / 12) ((i - 7) % 12 / 2)).1 else (m.heard ((i - 7) / 12) ((i - 7) % 12 / 2)).2)
  else if i < 97 then (if (i - 79) % 3 = 0 then (m.ways ((i - 79) / 3)).1 else if (i - 79) % 3 = 1 then (m.ways ((i - 79) / 3)).2.1 else (m.ways ((i - 79) / 3)).2.2)
  else (if (i - 97) % 2 = 0 then (m.bests ((i - 97) / 2)).1 else (m.bests ((i - 97) / 2)).2)
def NdAt (t : TypeId) (w : World) (p : Nat) (m : Md) : Prop := ZArr w t 109 p (mdF m)
/-- The program's Node (the reference's Mind lies alike). -/
abbrev DAt (w : World) (p : Nat) (m : Md) : Prop := NdAt 126 w p m
theorem NdAt.gr {t : TypeId} {w w' : World} {p : Nat} {m : Md} (h : NdAt t w p m) (k : Gr w w') : NdAt t w' p m := ZArr.gr h k
theorem NdAt.lt {t : TypeId} {w : World} {p : Nat} {m : Md} (h : NdAt t w p m) : p < w.heap.size := ZArr.lt h
theorem mdF_me (m : Md) : mdF m 0 = (m.me : Int) := by unfold mdF; rw [if_pos rfl]
theorem mdF_cost (m : Md) {j : Nat} (hj : j < 6) : mdF m (1 + j) = m.cost j := by
  unfold mdF
  rw [if_neg (by omega), if_pos (by omega), show 1 + j - 1 = j by omega]
theorem mdF_heard (m : Md) {f k : Nat} (hf : f < 6) (hk : k < 6) : mdF m (7 + f * 12 + k * 2) = (m.heard f k).1 ∧ mdF m (7 + f * 12 + k * 2 + 1) = (m.heard f k).2 := by
  constructor
  · unfold mdF
    rw [if_neg (by omega), if_neg (by omega), if_pos (by omega), if_pos (by omega), show (7 + f * 12 + k * 2 - 7) / 12 = f by omega, show (7 + f * 12 + k * 2 - 7) % 12 / 2 = k by omega]
  · unfold mdF
    rw [if_neg (by omega), if_neg (by omega), if_pos (by omega), if_neg (by omega), show (7 + f * 12 + k * 2 + 1 - 7) / 12 = f by omega, show (7 + f * 12 + k * 2 + 1 - 7) % 12 / 2 = k by omega]
theorem mdF_ways (m : Md) {k : Nat} (hk : k < 6) : mdF m (79 + k * 3) = (m.ways k).1 ∧ mdF m (79 + k * 3 + 1) = (m.ways k).2.1 ∧ mdF m (79 + k * 3 + 2) = (m.ways k).2.2 := by
  refine ⟨?_, ?_, ?_⟩
  · unfold mdF
    rw [if_neg (by omega), if_neg (by omega), if_neg (by omega), if_pos (by omega), if_pos (by omega), show (79 + k * 3 - 79) / 3 = k by omega]
  · unfold mdF
    rw [if_neg (by omega), if_neg (by omega), if_neg (by omega), if_pos (by omega), if_neg (by omega), if_pos (by omega), show (79 + k * 3 + 1 - 79) / 3 = k by omega]
  · unfold mdF
    rw [if_neg (by omega), if_neg (by omega), if_neg (by omega), if_pos (by omega), if_neg (by omega), if_neg (by omega), show (79 + k * 3 + 2 - 79) / 3 = k by omega]
theorem mdF_bests (m : Md) {k : Nat} (hk : k < 6) : mdF m (97 + k * 2) = (m.bests k).1 ∧ mdF m (97 + k * 2 + 1) = (m.bests k).2 := by
  constructor
  · unfold mdF
    rw [if_neg (by omega), if_neg (by omega), if_neg (by omega), if_neg (by omega), if_pos (by omega), show (97 + k * 2 - 97) / 2 = k by omega]
  · unfold mdF
    rw [if_neg (by omega), if_neg (by omega), if_neg (by omega), if_neg (by omega), if_neg (by omega), show (97 + k * 2 + 1 - 97) / 2 = k by omega]
theorem NdAt.me {t : TypeId} {w : World} {p : Nat} {m : Md} (h : NdAt t w p m) : w.cell? ⟨p, 0, none⟩ = some (iv m.me) := by
  have := ZArr.cell h (j := 0) (by omega)
  rw [mdF_me] at this; exact this
theorem NdAt.cost {t : TypeId} {w : World} {p : Nat} {m : Md} (h : NdAt t w p m) {j : Nat} (hj : j < 6) : w.cell? ⟨p, 1 + j, none⟩ = some (iv (m.cost j)) := by
  have := ZArr.cell h (j := 1 + j) (by omega)
  rw [mdF_cost m hj] at this; exact this
theorem NdAt.heard {t : TypeId} {w : World} {p : Nat} {m : Md} (h : NdAt t w p m) {f k : Nat} (hf : f < 6) (hk : k < 6) : w.cell? ⟨p, 7 + f * 12 + k * 2, none⟩ = some (iv (m.heard f k).1) ∧ w.cell? ⟨p, 7 + f * 12 + k * 2 + 1, none⟩ = some (iv (m.heard f k).2) := by
  have h1 := ZArr.cell h (j := 7 + f * 12 + k * 2) (by omega)
  have h2 := ZArr.cell h (j := 7 + f * 12 + k * 2 + 1) (by omega)
  rw [(mdF_heard m hf hk).1] at h1
  rw [(mdF_heard m hf hk).2] at h2
  exact ⟨h1, h2⟩
theorem NdAt.ways {t : TypeId} {w : World} {p : Nat} {m : Md} (h : NdAt t w p m) {k : Nat} (hk : k < 6) : w.cell? ⟨p, 79 + k * 3, none⟩ = some (iv (m.ways k).1) ∧ w.cell? ⟨p, 79 + k * 3 + 1, none⟩ = some (iv (m.ways k).2.1) ∧ w.cell? ⟨p, 79 + k * 3 + 2, none⟩ = some (iv (m.ways k).2.2) := by
  have h1 := ZArr.cell h (j := 79 + k * 3) (by omega)
  have h2 := ZArr.cell h (j := 79 + k * 3 + 1) (by omega)
  have h3 := ZArr.cell h (j := 79 + k * 3 + 2) (by omega)
  rw [(mdF_ways m hk).1] at h1
  rw [(mdF_ways m hk).2.1] at h2
  rw [(mdF_ways m hk).2.2] at h3
  exact ⟨h1, h2, h3⟩
theorem NdAt.bests {t : TypeId} {w : World} {p : Nat} {m : Md} (h : NdAt t w p m) {k : Nat} (hk : k < 6) : w.cell? ⟨p, 97 + k * 2, none⟩ = some (iv (m.bests k).1) ∧ w.cell? ⟨p, 97 + k * 2 + 1, none⟩ = some (iv (m.bests k).2) := by
  have h1 := ZArr.cell h (j := 97 + k * 2) (by omega)
  have h2 := ZArr.cell h (j := 97 + k * 2 + 1) (by omega)
  rw [(mdF_bests m hk).1] at h1
  rw [(mdF_bests m hk).2] at h2
  exact ⟨h1, h2⟩
/-- A store into the block, as a change of one field. -/
theorem NdAt.setCost {t : TypeId} {w : World} {p : Nat} {m : Md} (h : NdAt t w p m) {j : Nat} (hj : j < 6) (v : Int) : NdAt t (w.setCell ⟨p, 1 + j, none⟩ (iv v)) p { m with cost := updW m.cost j v } := by
  refine ZArr.set h fun i hi => ?_
  unfold mdF updW
  dsimp only
  by_cases e : i = 1 + j
  · subst e
    rw [if_neg (by omega), if_pos (by omega), if_pos rfl, if_pos (by omega)]
  · rw [if_neg e]
    by_cases e0 : i = 0
    · rw [if_pos e0, if_pos e0]
    · rw [if_neg e0, if_neg e0]
      by_cases e7 : i < 7
      · rw [if_pos e7, if_pos e7, if_neg (by omega)]
      · rw [if_neg e7, if_neg e7]
theorem NdAt.setHeard {t : TypeId} {w : World} {p : Nat} {m : Md} (h : NdAt t w p m) {f k : Nat} (hf : f < 6) (hk : k < 6) (s d : Int) : NdAt t ((w.setCell ⟨p, 7 + f * 12 + k * 2, none⟩ (iv s)).setCell ⟨p, 7 + f * 12 + k * 2 + 1, none⟩ (iv d)) p { m with heard := updW m.heard f (updW (m.heard f) k (s, d)) } := by
  refine ZArr.set (ZArr.set h (g' := fun i => if i = 7 + f * 12 + k * 2 then s else mdF m i) (fun _ _ => rfl)) fun i hi => ?_
  unfold mdF updW
  dsimp only
  by_cases e1 : i = 7 + f * 12 + k * 2 + 1
  · subst e1
    rw [if_pos rfl, if_neg (by omega), if_neg (by omega), if_pos (by omega), if_neg (by omega), if_pos (by omega), if_pos (by omega)]
  · rw [if_neg e1]
    by_cases e2 : i = 7 + f * 12 + k * 2
    · subst e2
      rw [if_pos rfl, if_neg (by omega), if_neg (by omega), if_pos (by omega), if_pos (by omega), if_pos (by omega), if_pos (by omega)]
    · rw [if_neg e2]
      by_cases e0 : i = 0
      · rw [if_pos e0, if_pos e0]
      · rw [if_neg e0, if_neg e0]
        by_cases e7 : i < 7
        · rw [if_pos e7, if_pos e7]
        · rw [if_neg e7, if_neg e7]
          by_cases e79 : i < 79
          · rw [if_pos e79, if_pos e79]
            by_cases ef : (i - 7) / 12 = f
            · rw [if_pos ef, if_neg (show ¬ (i - 7) % 12 / 2 = k by omega), ef]
            · rw [if_neg ef]
          · rw [if_neg e79, if_neg e79]
theorem NdAt.setWays {t : TypeId} {w : World} {p : Nat} {m : Md} (h : NdAt t w p m) {k : Nat} (hk : k < 6) (s d o : Int) : NdAt t (((w.setCell ⟨p, 79 + k * 3, none⟩ (iv s)).setCell ⟨p, 79 + k * 3 + 1, none⟩ (iv d)).setCell ⟨p, 79 + k * 3 + 2, none⟩ (iv o)) p { m with ways := updW m.ways k (s, d, o) } := by
  refine ZArr.set (ZArr.set (ZArr.set h (g' := fun i => if i = 79 + k * 3 then s else mdF m i) (fun _ _ => rfl)) (g' := fun i => if i = 79 + k * 3 + 1 then d else if i = 79 + k * 3 then s else mdF m i) (fun _ _ => rfl)) fun i hi => ?_
  unfold mdF updW
  dsimp only
  by_cases e2 : i = 79 + k * 3 + 2
  · subst e2
    rw [if_pos rfl, if_neg (by omega), if_neg (by omega), if_neg (by omega), if_pos (by omega), if_neg (by omega), if_neg (by omega), if_pos (by omega)]
  · rw [if_neg e2]
    by_cases e1 : i = 79 + k * 3 + 1
    · subst e1
      rw [if_pos rfl, if_neg (by omega), if_neg (by omega), if_neg (by omega), if_pos (by omega), if_neg (by omega), if_pos (by omega), if_pos (by omega)]
    · rw [if_neg e1]
      by_cases e3 : i = 79 + k * 3
      · subst e3
        rw [if_pos rfl, if_neg (by omega), if_neg (by omega), if_neg (by omega), if_pos (by omega), if_pos (by omega), if_pos (by omega)]
      · rw [if_neg e3]
        by_cases e0 : i = 0
        · rw [if_pos e0, if_pos e0]
        · rw [if_neg e0, if_neg e0]
          by_cases e7 : i < 7
          · rw [if_pos e7, if_pos e7]
          · rw [if_neg e7, if_neg e7]
            by_cases e79 : i < 79
            · rw [if_pos e79, if_pos e79]
            · rw [if_neg e79, if_neg e79]
              by_cases e97 : i < 97
              · rw [if_pos e97, if_pos e97, if_neg (show ¬ (i - 79) / 3 = k by omega)]
              · rw [if_neg e97, if_neg e97]
theorem NdAt.setBests {t : TypeId} {w : World} {p : Nat} {m : Md} (h : NdAt t w p m) {k : Nat} (hk : k < 6) (s d : Int) : NdAt t ((w.setCell ⟨p, 97 + k * 2, none⟩ (iv s)).setCell ⟨p, 97 + k * 2 + 1, none⟩ (iv d)) p { m with bests := updW m.bests k (s, d) } := by
  refine ZArr.set (ZArr.set h (g' := fun i => if i = 97 + k * 2 then s else mdF m i) (fun _ _ => rfl)) fun i hi => ?_
  unfold mdF updW
  dsimp only
  by_cases e1 : i = 97 + k * 2 + 1
  · subst e1
    rw [if_pos rfl, if_neg (by omega), if_neg (by omega), if_neg (by omega), if_neg (by omega), if_neg (by omega), if_pos (by omega)]
  · rw [if_neg e1]
    by_cases e2 : i = 97 + k * 2
    · subst e2
      rw [if_pos rfl, if_neg (by omega), if_neg (by omega), if_neg (by omega), if_neg (by omega), if_pos (by omega), if_pos (by omega)]
    · rw [if_neg e2]
      by_cases e0 : i = 0
      · rw [if_pos e0, if_pos e0]
      · rw [if_neg e0, if_neg e0]
        by_cases e7 : i < 7
        · rw [if_pos e7, if_pos e7]
        · rw [if_neg e7, if_neg e7]
          by_cases e79 : i < 79
          · rw [if_pos e79, if_pos e79]
          · rw [if_neg e79, if_neg e79]
            by_cases e97 : i < 97
            · rw [if_pos e97, if_pos e97]
            · rw [if_neg e97, if_neg e97, if_neg (show ¬ (i - 97) / 2 = k by omega)]
theorem NdAt.setAge {t : TypeId} {w : World} {p : Nat} {m : Md} (h : NdAt t w p m) {k : Nat} (hk : k < 6) (s : Int) : NdAt t (w.setCell ⟨p, 79 + k * 3, none⟩ (iv s)) p { m with ways := updW m.ways k (s, (m.ways k).2.1, (m.ways k).2.2) } := by
  refine ZArr.set h fun i hi => ?_
  by_cases e : i = 79 + k * 3
  · subst e
    rw [if_pos rfl, (mdF_ways _ hk).1]
    simp [updW]
  · rw [if_neg e]
    unfold mdF updW
    dsimp only
    by_cases e3 : 79 ≤ i ∧ i < 97
    · have a0 : ¬ i = 0 := by omega
      have a1 : ¬ i < 7 := by omega
      have a2 : ¬ i < 79 := by omega
      rw [if_neg a0, if_neg a1, if_neg a2, if_pos e3.2, if_neg a0, if_neg a1, if_neg a2, if_pos e3.2]
      by_cases e4 : (i - 79) / 3 = k
      · have a3 : ¬ (i - 79) % 3 = 0 := by omega
        rw [if_neg a3, if_neg a3, if_pos e4, e4]
      · rw [if_neg e4]
    · by_cases a0 : i = 0
      · rw [if_pos a0, if_pos a0]
      · by_cases a1 : i < 7
        · rw [if_neg a0, if_pos a1, if_neg a0, if_pos a1]
        · by_cases a2 : i < 79
          · rw [if_neg a0, if_neg a1, if_pos a2, if_neg a0, if_neg a1, if_pos a2]
          · have a3 : ¬ i < 97 := by omega
            rw [if_neg a0, if_neg a1, if_neg a2, if_neg a3, if_neg a0, if_neg a1, if_neg a2, if_neg a3]

end Go.Proofs.YtfcknkanbcndjagGreatDoor

/- LISTS OF NEWS IN MEMORY. -/
namespace Go.Proofs.YtfcknkanbcndjagGreatDoor
open Go.RowKit

/-- News: From, For, To, Seq, Dist. -/
abbrev Nws := Int × Int × Int × Int × Int
def celn (l : List Nws) : List Value := l.flatMap fun x => [iv x.1, iv x.2.1, iv x.2.2.1, iv x.2.2.2.1, iv x.2.2.2.2]
theorem celn_cons (x : Nws) (l : List Nws) : celn (x :: l) = iv x.1 :: iv x.2.1 :: iv x.2.2.1 :: iv x.2.2.2.1 :: iv x.2.2.2.2 :: celn l := rfl
theorem celn_append (a b : List Nws) : celn (a ++ b) = celn a ++ celn b := by simp [celn]
theorem celn_at : ∀ (l : List Nws) (i : Nat) (h : i < l.length), (celn l)[i * 5]? = some (iv l[i].1) ∧ (celn l)[i * 5 + 1]? = some (iv l[i].2.1) ∧ (celn l)[i * 5 + 2]? = some (iv l[i].2.2.1) ∧ (celn l)[i * 5 + 3]? = some (iv l[i].2.2.2.1) ∧ (celn l)[i * 5 + 4]? = some (iv l[i].2.2.2.2)
  | x :: l, 0, _ => by simp [celn_cons]
  | x :: l, i + 1, h => by
    obtain ⟨h0, h1, h2, h3, h4⟩ := celn_at l i (by simpa using h)
    rw [celn_cons, show (i + 1) * 5 = i * 5 + 1 + 1 + 1 + 1 + 1 by omega]
    refine ⟨?_, ?_, ?_, ?_, ?_⟩
    · simpa using h0
    · rw [show i * 5 + 1 + 1 + 1 + 1 + 1 + 1 = (i * 5 + 1) + 1 + 1 + 1 + 1 + 1 by omega]; simpa using h1
    · rw [show i * 5 + 1 + 1 + 1 + 1 + 1 + 2 = (i * 5 + 2) + 1 + 1 + 1 + 1 + 1 by omega]; simpa using h2
    · rw [show i * 5 + 1 + 1 + 1 + 1 + 1 + 3 = (i * 5 + 3) + 1 + 1 + 1 + 1 + 1 by omega]; simpa using h3
    · rw [show i * 5 + 1 + 1 + 1 + 1 + 1 + 4 = (i * 5 + 4) + 1 + 1 + 1 + 1 + 1 by omega]; simpa using h4
/-- A list of news that is younger than B. -/
def OwnN (B w : World) (v : Value) (l : List Nws) : Prop := w.ownsRow B.heap.size 114 5 v l.length (celn l)
theorem OwnN.gr {B w w' : World} {v : Value} {l : List Nws} (h : OwnN B w v l) (g : Gr w w') : OwnN B w' v l := by
  refine ⟨h.1, ?_⟩
  rcases h.2 with hn | ⟨b, cap, cur, rfl, hb, hgg, rest⟩
  · exact .inl hn
  · exact .inr ⟨b, cap, cur, rfl, hb, by rw [g.block b (lt_of_block hgg)]; exact hgg, rest⟩
theorem OwnN.nil (B w : World) : OwnN B w (.slice none 0 0) [] := World.ownsRow_nil _ _ _ _
/-- A slice that reads as news. -/
def NewsAt (w : World) (ao : Option Addr) (l : List Nws) : Prop := l = [] ∨ ∃ b o, ao = some ⟨b, o, none⟩ ∧ b < w.heap.size ∧ ∀ i (h : i < l.length),
    w.cell? ⟨b, o + i * 5, none⟩ = some (iv l[i].1) ∧ w.cell? ⟨b, o + i * 5 + 1, none⟩ = some (iv l[i].2.1) ∧ w.cell? ⟨b, o + i * 5 + 2, none⟩ = some (iv l[i].2.2.1) ∧ w.cell? ⟨b, o + i * 5 + 3, none⟩ = some (iv l[i].2.2.2.1) ∧ w.cell? ⟨b, o + i * 5 + 4, none⟩ = some (iv l[i].2.2.2.2)
theorem NewsAt.keep {w w' : World} {ao : Option Addr} {l : List Nws} (h : NewsAt w ao l) (k : ∀ b o, ao = some ⟨b, o, none⟩ → b < w.heap.size → w'.heap[b]? = w.heap[b]?) : NewsAt w' ao l := by
  rcases h with h | ⟨b, o, ha, hb, hc⟩
  · exact .inl h
  · have hk := k b o ha hb
    refine .inr ⟨b, o, ha, ?_, fun i hi => ?_⟩
    · have : w.heap[b]? = some w.heap[b] := by simp [hb]
      rw [this] at hk
      exact lt_of_block hk
    · have e : ∀ q, w'.cell? ⟨b, q, none⟩ = w.cell? ⟨b, q, none⟩ := fun q => World.cell?_of_block (a := ⟨b, q, none⟩) hk
      rw [e, e, e, e, e]
      exact hc i hi
theorem NewsAt.gr {w w' : World} {ao : Option Addr} {l : List Nws} (h : NewsAt w ao l) (k : Gr w w') : NewsAt w' ao l := h.keep fun b _ _ hb => k.block b hb
theorem OwnN.shape {B w : World} {v : Value} {l : List Nws} (h : OwnN B w v l) : ∃ ao c, v = .slice ao l.length c ∧ NewsAt w ao l ∧ ∀ b o, ao = some ⟨b, o, none⟩ → B.heap.size ≤ b := by
  rcases h.2 with ⟨rfl, hn⟩ | ⟨g, cap, cur, rfl, hb, hg, hn, hc, hs, ht⟩
  · have : l = [] := List.eq_nil_of_length_eq_zero hn
    subst this
    exact ⟨none, 0, rfl, .inl rfl, fun _ _ e => by cases e⟩
  · refine ⟨_, _, rfl, .inr ⟨g, 0, rfl, (Array.getElem?_eq_some_iff.1 hg).1, fun i hi => ?_⟩, fun b o e => by cases e; exact hb⟩
    have e : ∀ j, j < l.length * 5 → w.cell? ⟨g, 0 + j, none⟩ = (celn l)[j]? := by
      intro j hj
      rw [← ht, List.getElem?_take_of_lt hj]
      simp [World.cell?, hg]
    have ha := celn_at l i hi
    rw [Nat.add_assoc, Nat.add_assoc, Nat.add_assoc, Nat.add_assoc, e _ (by omega), e _ (by omega), e _ (by omega), e _ (by omega), e _ (by omega)]
    exact ha
theorem Tryz.info114 : (Tryz.prog.info? 114).map (fun i => (i.zero, i.size, i.bytes)) = some (some (.agg #[iv 0, iv 0, iv 0, iv 0, iv 0]), 5, 40) := by kernel_rfl
/-- 'append(l, x)'. -/
theorem OwnN.app {B X : World} {v : Value} {l : List Nws} (ty : TypeId) (hO : OwnN B X v l) (g : Gr B X) (x : Nws) (hm : l.length ≤ 1000) :
    ∃ v' w', (Builtin.append_ #[46, 46] ty #[v, .slice (some ⟨X.heap.size, 0, none⟩) 1 1]).run Tryz.prog (X.alloc (.cells #[iv x.1, iv x.2.1, iv x.2.2.1, iv x.2.2.2.1, iv x.2.2.2.2] 114)) = .ok v' w' ∧ OwnN B w' v' (l ++ [x]) ∧ Gr B w' := by
  obtain ⟨i0, hi, hz0, hz1, hz2⟩ := info_parts Tryz.info114
  have hY := hO.gr ((Gr.refl X).alloc (.cells #[iv x.1, iv x.2.1, iv x.2.2.1, iv x.2.2.2.1, iv x.2.2.2.2] 114))
  obtain ⟨v', w', h1, h2, h3, _⟩ := run_append_own (P := Tryz.prog) _ B.heap.size 46 ty 114 i0 _ 5 40 Tryz.underlying46 hi hz0 hz1 hz2 (by rfl) (by decide) v l.length (celn l) hY
      ⟨X.heap.size, 0, none⟩ 1 1 [iv x.1, iv x.2.1, iv x.2.2.1, iv x.2.2.2.1, iv x.2.2.2.2] rfl
      (fun j u hj => by
        have hl : j < 5 := (List.getElem?_eq_some_iff.1 hj).1
        have : j = 0 ∨ j = 1 ∨ j = 2 ∨ j = 3 ∨ j = 4 := by omega
        rcases this with rfl | rfl | rfl | rfl | rfl <;> (simp at hj; subst hj; simp [Addr.add, go_sem]))
      (by simp [Value.oneCell']) (by unfold maxLen; omega) (by omega) (by have := Below.size g; simp; omega)
  refine ⟨v', w', h1, ?_, (g.alloc _).grown h3 (fun k hk => (hO.lt k hk).1)⟩
  unfold OwnN
  rw [celn_append, List.length_append]
  exact h2
/-- What a node tells, of the first k nodes. -/
def tellL (m : Md) (who : Int) : Nat → List Nws
  | 0 => []
  | k + 1 => tellL m who k ++ [((m.me : Int), who, (k : Int), (m.ways k).1, (m.ways k).2.1)]
theorem tell_len (m : Md) (who : Int) : ∀ k, (tellL m who k).length = k
  | 0 => rfl
  | k + 1 => by rw [tellL, List.length_append, tell_len m who k]; rfl
end Go.Proofs.YtfcknkanbcndjagGreatDoor

/- CONTRACTS OF package node: Better, nothing, noWay, other; of links.Node. -/
namespace Go.Proofs.YtfcknkanbcndjagGreatDoor
open Go.RowKit
attribute [local go_sem] Ext.all Ext.cell Ext.frozen Ext.lt Ext.lt1 Ext.lt2 Ext.ne Ext.ne'
theorem nbetter_is {s d s2 d2 : Int} {v : Bool} (h : bet s d s2 d2 = v) (w : World) : Calls Tryz.prog 179 #[iv s, iv d, iv s2, iv d2] w fun e w' => e = .returned (.bool v) ∧ w' = w := by
  subst h
  by_cases e : s2 < s
  · have hb : bet s d s2 d2 = true := bet_iff.2 (.inl e)
    have h1 : decide (s2 < s) = true := decide_eq_true e
    rw [hb]
    clear hb e
    go_enter Tryz.func179, Tryz.ntmps179
    go_wp2
    go_ret
    exact ⟨rfl, rfl⟩
  · have h1 : decide (s2 < s) = false := decide_eq_false e
    by_cases e2 : s = s2
    · have h2 : (s == s2) = true := by simpa using e2
      have hb : bet s d s2 d2 = decide (d < d2) := by unfold bet; rw [if_pos e2]
      rw [hb]
      clear hb e e2
      go_enter Tryz.func179, Tryz.ntmps179
      go_wp2
      go_ret
      exact ⟨rfl, rfl⟩
    · have h2 : (s == s2) = false := by simpa using e2
      have hb : bet s d s2 d2 = false := by unfold bet; rw [if_neg e2]; exact h1
      rw [hb]
      clear hb e e2
      go_enter Tryz.func179, Tryz.ntmps179
      go_wp2
      go_ret
      exact ⟨rfl, rfl⟩
theorem lnode_is {k : Int} {v : Bool} (h : decide (0 ≤ k ∧ k < 6) = v) (w : World) : Calls Tryz.prog 33 #[iv k] w fun e w' => e = .returned (.bool v) ∧ w' = w := by
  subst h
  by_cases e : 0 ≤ k
  · have e1 : decide (0 ≤ k ∧ k < 6) = decide (k < 6) := by simp [e]
    rw [e1]
    clear e1
    go_enter Tryz.func33, Tryz.ntmps33
    go_wp2
    go_ret
    exact ⟨rfl, rfl⟩
  · have e1 : decide (0 ≤ k ∧ k < 6) = false := by simp [e]
    have e2 : decide (0 ≤ k) = false := decide_eq_false e
    rw [e1]
    clear e1 e
    go_enter Tryz.func33, Tryz.ntmps33
    go_wp2
    go_ret
    exact ⟨rfl, rfl⟩
theorem nothing_any (w : World) : Calls Tryz.prog 143 #[] w fun e w' => e = .returned (.agg #[iv 0, iv 200]) ∧ ∃ d : Ext w, w' = d.out := by
  go_enter Tryz.func143, Tryz.ntmps143
  go_wp2
  refine bodyPost_ret (v := .agg #[iv 0, iv 200]) (by simp [results, Tryz.results143, go_sem]) rfl ⟨rfl, ext_mk ?_⟩
  first
    | exact (Gr.refl _).alloc _
    | exact ((((Gr.refl _).alloc _).setCell (by simp) _).setCell (by simp) _)
theorem noWay_any (s : Int) (w : World) : Calls Tryz.prog 144 #[iv s] w fun e w' => e = .returned (.agg #[iv s, iv 200, iv (-1)]) ∧ ∃ d : Ext w, w' = d.out := by
  go_enter Tryz.func144, Tryz.ntmps144
  go_wp2
  refine bodyPost_ret (v := .agg #[iv s, iv 200, iv (-1)]) (by simp [results, Tryz.results144, go_sem]) rfl ⟨rfl, ext_mk ?_⟩
  first
    | exact (Gr.refl _).alloc _
    | exact (((((Gr.refl _).alloc _).setCell (by simp) _).setCell (by simp) _).setCell (by simp) _)

/-- Is there such a node, and not the one itself? -/
theorem nother_is {w : World} {p : Nat} {m : Md} (H : DAt w p m) {k : Int} {v : Bool} (h : decide ((0 ≤ k ∧ k < 6) ∧ k ≠ m.me) = v) : Calls Tryz.prog 109 #[pv p, iv k] w fun e w' => e = .returned (.bool v) ∧ w' = w := by
  subst h
  have c0 := H.me
  have hp := H.lt
  clear H
  by_cases e : 0 ≤ k ∧ k < 6
  · have B1 : Hid (decide (0 ≤ k ∧ k < 6) = true) := decide_eq_true e
    have hb : decide ((0 ≤ k ∧ k < 6) ∧ k ≠ m.me) = (k != (m.me : Int)) := by
      by_cases q : k = m.me
      · simp [q]
      · simp [q, e]
    rw [hb]
    clear hb e
    go_enter Tryz.func109, Tryz.ntmps109
    go_wp2_with (go_at_call 33; with_reducible refine (lnode_is B1.out _).mono ?_; rintro e w1 ⟨rfl, hw1⟩; have hw2 := hw1.symm; clear hw1; subst hw2)
    go_ret
    exact ⟨rfl, rfl⟩
  · have B1 : Hid (decide (0 ≤ k ∧ k < 6) = false) := decide_eq_false e
    have hb : decide ((0 ≤ k ∧ k < 6) ∧ k ≠ m.me) = false := by simp only [decide_eq_false_iff_not]; exact fun q => e q.1
    rw [hb]
    clear hb e
    go_enter Tryz.func109, Tryz.ntmps109
    go_wp2_with (go_at_call 33; with_reducible refine (lnode_is B1.out _).mono ?_; rintro e w1 ⟨rfl, hw1⟩; have hw2 := hw1.symm; clear hw1; subst hw2)
    go_ret
    exact ⟨rfl, rfl⟩

end Go.Proofs.YtfcknkanbcndjagGreatDoor

/- WHAT A CALL LEAVES AS IT WAS; small blocks of numbers. -/
namespace Go.Proofs.YtfcknkanbcndjagGreatDoor
open Go.RowKit
attribute [local go_sem] Ext.all Ext.cell Ext.frozen Ext.lt Ext.lt1 Ext.lt2 Ext.ne Ext.ne'
/-- All blocks but p's, and younger ones, are as they were. -/
structure Wr (p : Nat) (w w' : World) : Prop where
  os : w'.os = w.os
  tape : w'.tape = w.tape
  output : w'.output = w.output
  size : w.heap.size ≤ w'.heap.size
  block : ∀ k, k < w.heap.size → k ≠ p → w'.heap[k]? = w.heap[k]?
theorem Wr.refl (p : Nat) (w : World) : Wr p w w := ⟨rfl, rfl, rfl, Nat.le_refl _, fun _ _ _ => rfl⟩
theorem Wr.trans {p : Nat} {a b c : World} (h : Wr p a b) (k : Wr p b c) : Wr p a c :=
  ⟨k.os.trans h.os, k.tape.trans h.tape, k.output.trans h.output, Nat.le_trans h.size k.size, fun i hi hp => (k.block i (Nat.lt_of_lt_of_le hi h.size) hp).trans (h.block i hi hp)⟩
theorem Gr.wr {a b : World} (h : Gr a b) (p : Nat) : Wr p a b := ⟨h.os, h.tape, h.output, h.size, fun k hk _ => h.block k hk⟩
theorem Wr.set {p : Nat} {a b : World} (h : Wr p a b) (j : Nat) (v : Value) : Wr p a (b.setCell ⟨p, j, none⟩ v) :=
  ⟨h.os, h.tape, h.output, by have := h.size; simpa using this, fun k hk hp => by rw [heap_setCell_other b ⟨p, j, none⟩ k v hp]; exact h.block k hk hp⟩
theorem Wr.gr {p : Nat} {B a b : World} (h : Wr p a b) (g : Gr B a) (hp : B.heap.size ≤ p) : Gr B b :=
  ⟨h.os.trans g.os, h.tape.trans g.tape, h.output.trans g.output, Nat.le_trans g.size h.size, fun k hk => (h.block k (Nat.lt_of_lt_of_le hk g.size) (by omega)).trans (g.block k hk)⟩
theorem Wr.arr {p t n q : Nat} {a b : World} {g : Nat → Int} (h : Wr p a b) (k : ZArr a t n q g) (hq : q ≠ p) : ZArr b t n q g := (h.block q k.lt hq).trans k

def sdF (s d : Int) : Nat → Int := fun j => if j = 0 then s else d
def wayF (v : Int × Int × Int) : Nat → Int := fun j => if j = 0 then v.1 else if j = 1 then v.2.1 else v.2.2

theorem ZArr.put3 {w : World} {t p : Nat} {g : Nat → Int} (h : ZArr w t 3 p g) (a b c : Int) : ZArr (((w.setCell ⟨p, 0, none⟩ (iv a)).setCell ⟨p, 1, none⟩ (iv b)).setCell ⟨p, 2, none⟩ (iv c)) t 3 p (wayF (a, b, c)) := by
  refine ZArr.set (ZArr.set (ZArr.set h (g' := fun i => if i = 0 then a else g i) (fun _ _ => rfl)) (g' := fun i => if i = 1 then b else if i = 0 then a else g i) (fun _ _ => rfl)) fun i hi => ?_
  unfold wayF
  rcases (show i = 0 ∨ i = 1 ∨ i = 2 by omega) with rfl | rfl | rfl <;> rfl
theorem gr_put3 {w X : World} {p : Nat} (g : Gr w X) (hp : w.heap.size ≤ p) (a b c : Value) : Gr w (((X.setCell ⟨p, 0, none⟩ a).setCell ⟨p, 1, none⟩ b).setCell ⟨p, 2, none⟩ c) := ((g.setCell hp _).setCell hp _).setCell hp _
def nwF (f o z s d : Int) : Nat → Int := fun j => if j = 0 then f else if j = 1 then o else if j = 2 then z else if j = 3 then s else d

end Go.Proofs.YtfcknkanbcndjagGreatDoor

/- CONTRACTS OF package node: mayBeGone. -/
namespace Go.Proofs.YtfcknkanbcndjagGreatDoor
open Go.RowKit
attribute [local go_sem] Ext.all Ext.cell Ext.frozen Ext.lt Ext.lt1 Ext.lt2 Ext.ne Ext.ne'
set_option maxRecDepth 20000 in
set_option maxHeartbeats 8000000 in
theorem nmay_any {w : World} {p : Nat} {m : Md} (H : DAt w p m) {f z : Nat} (hf : f < 6) (hz : z < 6) (hcs : 0 ≤ m.cost f ∧ m.cost f ≤ 15) (hsd : 0 ≤ (m.heard f z).2 ∧ (m.heard f z).2 ≤ 200) {v : Bool} (hv : mayB m z f = v) :
    Calls Tryz.prog 178 #[pv p, iv f, iv z] w fun e w' => e = .returned (.bool v) ∧ ∃ d : Ext w, w' = d.out := by
  subst hv
  have hp := H.lt
  obtain ⟨x1, x2⟩ := H.heard hf hz
  obtain ⟨b0, b1⟩ := H.bests hz
  have c1 := H.cost hf
  have hfi : (f : Int) < 6 := by omega
  have hzi : (z : Int) < 6 := by omega
  have HMB : Hid (mayB m z f = (decide (m.cost f ≠ 0) && decide ((m.heard f z).2 + m.cost f < 200) && bet (m.heard f z).1 (m.heard f z).2 (m.bests z).1 (m.bests z).2)) := rfl
  generalize mayB m z f = mv at *
  generalize m.heard f z = hv at *
  generalize m.bests z = bv at *
  generalize m.cost f = cc at *
  obtain ⟨hs1, hd1⟩ := hv
  obtain ⟨bs, bd⟩ := bv
  simp only at x1 x2 b0 b1 hsd HMB
  have wb : IntKind.i64.wrap (hd1 + cc) = hd1 + cc := by rw [IntKind.wrap_i64]; omega
  clear H
  go_enter Tryz.func178, Tryz.ntmps178
  go_upto_region 1 with (fail)
  go_big_region
  all_goals
    by_cases hc0 : cc = 0
    · have g1 : (cc != 0) = false := by simpa using hc0
      have HV : Hid (mv = false) := by unfold Hid; rw [HMB.out]; simp [hc0]
      clear HMB hc0
      go_wp2_with fail
      go_ret
      exact ⟨by rw [HV.out]; rfl, ext_mk (((Gr.refl _).alloc _).alloc _).drew⟩
    · have g1 : (cc != 0) = true := by simpa using hc0
      by_cases h2 : hd1 + cc < 200
      · have g2 : decide (hd1 + cc < 200) = true := decide_eq_true h2
        obtain ⟨bv, hbt⟩ : ∃ bv, bet hs1 hd1 bs bd = bv := ⟨_, rfl⟩
        have HB1 := hide hbt
        have HV : Hid (mv = bv) := by unfold Hid; rw [HMB.out, hbt]; simp [hc0, h2]
        clear HMB hc0 h2 hbt
        go_wp2_with (go_at_call 179; with_reducible refine (nbetter_is HB1.out _).mono ?_; rintro e _ ⟨rfl, rfl⟩)
        go_ret
        exact ⟨by rw [HV.out]; rfl, ext_mk (((Gr.refl _).alloc _).alloc _).drew⟩
      · have g2 : decide (hd1 + cc < 200) = false := decide_eq_false h2
        have HV : Hid (mv = false) := by unfold Hid; rw [HMB.out]; simp [h2]
        clear HMB hc0 h2
        go_wp2_with fail
        go_ret
        exact ⟨by rw [HV.out]; rfl, ext_mk (((Gr.refl _).alloc _).alloc _).drew⟩
end Go.Proofs.YtfcknkanbcndjagGreatDoor
