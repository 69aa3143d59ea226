/- NODES THAT TELL EACH OTHER, AS NUMBERS: along each way the best becomes better, whatever is lost, late or doubled. No Go here. -/
import Derived.Test.YtohbkhmpdegapadMdPlain3
namespace Go.Proofs.Ytohbkhmpdegapad

/-- Besides: what a way that is none says, and how long the best is. -/
structure MdX (m : Md) : Prop where
  ok : MdOk m
  none_ : ∀ k, (m.ways k).2.2 = -1 → m.ways k = ((m.bests k).1, 200, -1)
  b200 : ∀ k, 0 ≤ (m.bests k).2 ∧ (m.bests k).2 ≤ 200
/-- What a look leaves of one node, told together. -/
theorem look_x (m : Md) {to : Nat} (hne : to ≠ m.me) (hc : ∀ j, 0 ≤ m.cost j) (hs : ∀ j k, 0 ≤ (m.heard j k).2) (hb : 0 ≤ (m.bests to).2 ∧ (m.bests to).2 ≤ 200) :
    (((lookM m to).ways to).2.2 = -1 → (lookM m to).ways to = (((lookM m to).bests to).1, 200, -1)) ∧ 0 ≤ ((lookM m to).bests to).2 ∧ ((lookM m to).bests to).2 ≤ 200 := by
  have ew : (lookM m to).ways to = pkD m to 6 := by unfold lookM; rw [if_neg hne]; exact updW_same _ _ _
  have eb : (lookM m to).bests to = if (pkD m to 6).2.2 ≠ -1 ∧ bet (pkD m to 6).1 (pkD m to 6).2.1 (m.bests to).1 (m.bests to).2 = true then ((pkD m to 6).1, (pkD m to 6).2.1) else m.bests to := by
    unfold lookM
    rw [if_neg hne]
    dsimp only
    split
    · exact updW_same _ _ _
    · rfl
  rcases pkD_is m to with ⟨k, hk, mk, hw, _⟩ | ⟨_, hw⟩
  · obtain ⟨_, c1, _⟩ := may_iff.1 mk
    have hne' : (pkD m to 6).2.2 ≠ -1 := by rw [hw]; show (k : Int) ≠ -1; omega
    have e2 : (pkD m to 6).2.1 = (m.heard k to).2 + m.cost k := by rw [hw]; rfl
    have h1 := hc k
    have h2 := hs k to
    refine ⟨fun e => absurd (by rw [← ew]; exact e) hne', ?_⟩
    rw [eb]
    split
    · simp only; omega
    · exact hb
  · have hd : (pkD m to 6).2.2 = -1 := by rw [hw]
    rw [if_neg (fun q => q.1 hd)] at eb
    rw [ew, eb, hw]
    exact ⟨fun _ => rfl, hb⟩
theorem lookTo_x (m : Md) (hc : ∀ j, 0 ≤ m.cost j) (hs : ∀ j k, 0 ≤ (m.heard j k).2) (hb : ∀ k, 0 ≤ (m.bests k).2 ∧ (m.bests k).2 ≤ 200) (hself : (m.ways m.me).2.2 ≠ -1) (hn : ∀ k, 6 ≤ k → (m.ways k).2.2 = -1 → m.ways k = ((m.bests k).1, 200, -1)) : ∀ n, n ≤ 6 → ∀ k,
    (k < n ∨ 6 ≤ k → ((lookTo m n).ways k).2.2 = -1 → (lookTo m n).ways k = (((lookTo m n).bests k).1, 200, -1)) ∧ 0 ≤ ((lookTo m n).bests k).2 ∧ ((lookTo m n).bests k).2 ≤ 200
  | 0, _, k => ⟨fun h => hn k (by omega), hb k⟩
  | n + 1, hn6, k => by
    obtain ⟨i1, i2⟩ := lookTo_x m hc hs hb hself hn n (by omega) k
    obtain ⟨e1, e2, e3, e4, e5⟩ := lookTo_all m n
    by_cases e : k = n
    · subst e
      by_cases hk : k = m.me
      · have hs' := look_self (lookTo m k) k
        rw [e1, ← hk] at hs'
        rw [lookTo, hs'.1, hs'.2]
        rw [← hk] at e4
        exact ⟨fun _ q => absurd q (by rw [e4, hk]; exact hself), i2⟩
      · have := look_x (lookTo m k) (to := k) (by rw [e1]; exact hk) (fun j => by rw [e2]; exact hc j) (fun j k => by rw [e3]; exact hs j k) i2
        exact ⟨fun _ => this.1, this.2⟩
    · obtain ⟨o1, o2⟩ := look_other (lookTo m n) e
      rw [lookTo, o1, o2]
      exact ⟨fun h => i1 (by omega), i2⟩
theorem new_x {me : Nat} (h : me < 6) : MdX (newM me) := by
  refine ⟨new_ok h, fun k hk => ?_, fun k => ?_⟩
  · by_cases e : k = me
    · subst e
      have ew : (newM k).ways k = (0, 0, (k : Int)) := by unfold newM; dsimp only; exact updW_same _ _ _
      rw [ew] at hk
      have : (k : Int) = -1 := hk
      omega
    · have ew : (newM me).ways k = (0, 200, -1) := by unfold newM; dsimp only; exact updW_ne _ _ e
      have eb : (newM me).bests k = (0, 200) := by unfold newM; dsimp only; exact updW_ne _ _ e
      rw [ew, eb]
  · unfold newM updW; dsimp only; split <;> simp
theorem MdX.selfNe {m : Md} (h : MdX m) : (m.ways m.me).2.2 ≠ -1 := by
  obtain ⟨s, _, hw, _⟩ := h.ok.self
  rw [hw]; show ((m.me : Nat) : Int) ≠ -1; omega
theorem link_x {m : Md} (h : MdX m) {who : Nat} {c : Int} (hc0 : 0 ≤ c) (hc : c ≤ 15) : MdX (linkM m who c) := by
  obtain ⟨m1, hm1⟩ : ∃ m1 : Md, m1 = { m with cost := updW m.cost who c, heard := if c = 0 then updW m.heard who (fun _ => (0, 200)) else m.heard } := ⟨_, rfl⟩
  have el : linkM m who c = lookTo m1 6 := by rw [hm1]; rfl
  have b1 : m1.bests = m.bests := by rw [hm1]
  have w1 : m1.ways = m.ways := by rw [hm1]
  have me1 : m1.me = m.me := by rw [hm1]
  have cs : ∀ j, 0 ≤ m1.cost j := fun j => by
    rw [hm1]
    show 0 ≤ updW m.cost who c j
    unfold updW
    split
    · exact hc0
    · exact (h.ok.cost j).1
  have hs : ∀ j k, 0 ≤ (m1.heard j k).2 := fun j k => by
    rw [hm1]
    dsimp only
    split
    · unfold updW
      split
      · simp
      · exact (h.ok.said j k).2.1
    · exact (h.ok.said j k).2.1
  have key := lookTo_x m1 cs hs (fun k => by rw [b1]; exact h.b200 k) (by rw [w1, me1]; exact h.selfNe) (fun k _ => by rw [w1, b1]; exact h.none_ k) 6 (Nat.le_refl _)
  refine ⟨(link_ok h.ok hc0 hc).1, fun k => ?_, fun k => ?_⟩
  · rw [el]; exact (key k).1 (by omega)
  · rw [el]; exact (key k).2
theorem hear_x {m : Md} (h : MdX m) {f to : Nat} {s d : Int} (hs : 0 ≤ s) (hd0 : 0 ≤ d) (hd : d ≤ 200) : MdX (hearM m f to s d) := by
  have hk := (hear_ok h.ok (f := f) (to := to) hs hd0 hd).1
  obtain ⟨m1, hm1⟩ : ∃ m1 : Md, m1 = { m with heard := updW m.heard f (updW (m.heard f) to (s, d)) } := ⟨_, rfl⟩
  have el : hearM m f to s d = lookM m1 to := by rw [hm1]; rfl
  have b1 : m1.bests = m.bests := by rw [hm1]
  have w1 : m1.ways = m.ways := by rw [hm1]
  have me1 : m1.me = m.me := by rw [hm1]
  have c1 : m1.cost = m.cost := by rw [hm1]
  have hsd : ∀ j k, 0 ≤ (m1.heard j k).2 := fun j k => by
    have := (hk.said j k).2.1
    rw [el, look_heard] at this
    exact this
  have one : ∀ k, ((lookM m1 to).ways k).2.2 = -1 → (lookM m1 to).ways k = (((lookM m1 to).bests k).1, 200, -1) := fun k => by
    by_cases e : k = to
    · subst e
      by_cases hme : k = m1.me
      · have hs' := look_self m1 k
        rw [← hme] at hs'
        rw [hs'.1, hs'.2, w1, b1]
        exact h.none_ k
      · exact (look_x m1 hme (fun j => by rw [c1]; exact (h.ok.cost j).1) hsd (by rw [b1]; exact h.b200 k)).1
    · rw [(look_other m1 e).1, (look_other m1 e).2, w1, b1]
      exact h.none_ k
  have two : ∀ k, 0 ≤ ((lookM m1 to).bests k).2 ∧ ((lookM m1 to).bests k).2 ≤ 200 := fun k => by
    by_cases e : k = to
    · subst e
      by_cases hme : k = m1.me
      · have hs' := look_self m1 k
        rw [← hme] at hs'
        rw [hs'.2, b1]
        exact h.b200 k
      · exact (look_x m1 hme (fun j => by rw [c1]; exact (h.ok.cost j).1) hsd (by rw [b1]; exact h.b200 k)).2
    · rw [(look_other m1 e).2, b1]
      exact h.b200 k
  exact ⟨hk, by rw [el]; exact one, by rw [el]; exact two⟩
theorem tick_x {m : Md} (h : MdX m) : MdX (tickM m) := by
  obtain ⟨s, h0, hw, hb⟩ := h.ok.self
  refine ⟨(tick_ok h.ok).1, fun k hk => ?_, fun k => ?_⟩
  · by_cases e : k = m.me
    · subst e
      exfalso
      have : (updW m.ways m.me ((m.ways m.me).1 + 1, (m.ways m.me).2.1, (m.ways m.me).2.2) m.me).2.2 = -1 := hk
      rw [updW_same, hw] at this
      have : ((m.me : Nat) : Int) = -1 := this
      omega
    · have e1 : (tickM m).ways k = m.ways k := updW_ne _ _ e
      have e2 : (tickM m).bests k = m.bests k := updW_ne _ _ e
      rw [e1] at hk
      rw [e1, e2]
      exact h.none_ k hk
  · by_cases e : k = m.me
    · subst e
      have e2 : (tickM m).bests m.me = ((m.ways m.me).1 + 1, 0) := updW_same _ _ _
      rw [e2]; simp
    · have e2 : (tickM m).bests k = m.bests k := updW_ne _ _ e
      rw [e2]; exact h.b200 k
/-- What a node tells is no better than its best. -/
theorem MdX.tells {m : Md} (h : MdX m) {k : Nat} (hk : k < 6) : bet (m.ways k).1 (m.ways k).2.1 (m.bests k).1 (m.bests k).2 = false ∧ 0 ≤ (m.ways k).1 ∧ 0 ≤ (m.ways k).2.1 ∧ (m.ways k).2.1 ≤ 200 := by
  by_cases hd : (m.ways k).2.2 = -1
  · have e := h.none_ k hd
    have hb := h.b200 k
    rw [e, bet_not]
    refine ⟨?_, h.ok.best k, ?_, ?_⟩
    · right; simp only; exact ⟨trivial, hb.2⟩
    · simp
    · simp
  · have hs := way_seq h.ok hk hd
    refine ⟨?_, hs.1, hs.2.1, by omega⟩
    by_cases e : k = m.me
    · obtain ⟨s, _, hw, hb⟩ := h.ok.self
      rw [e, hw, hb]; exact bet_refl _ _
    · exact (h.ok.way k hk e).notBetter hd

/-- News: from whom, for whom, of whom, the age and the length. -/
structure Nw where
  f : Nat
  g : Nat
  to : Nat
  s : Int
  d : Int
/-- A net: what each node knows, and the news on their way. -/
structure Tn where
  cst : Nat → Nat → Int
  nd : Nat → Md
  news : List Nw
structure TnOk (t : Tn) : Prop where
  node : ∀ a, a < 6 → MdX (t.nd a) ∧ (t.nd a).me = a
  heard : ∀ a f k, a < 6 → f < 6 → k < 6 → bet ((t.nd a).heard f k).1 ((t.nd a).heard f k).2 ((t.nd f).bests k).1 ((t.nd f).bests k).2 = false
  news : ∀ x ∈ t.news, x.f < 6 ∧ x.g < 6 ∧ x.f ≠ x.g ∧ x.to < 6 ∧ 0 ≤ x.s ∧ 0 ≤ x.d ∧ x.d ≤ 200 ∧ bet x.s x.d ((t.nd x.f).bests x.to).1 ((t.nd x.f).bests x.to).2 = false
  cost : ∀ a b, a < 6 → b < 6 → (t.nd a).cost b = t.cst a b
/-- ALONG EACH WAY THE BEST BECOMES BETTER, and each way is by a link. -/
theorem TnOk.straight {t : Tn} (h : TnOk t) {a to : Nat} (ha : a < 6) (ht : to < 6) (hne : to ≠ a) (hd : ((t.nd a).ways to).2.2 ≠ -1) :
    ∃ j : Nat, j < 6 ∧ ((t.nd a).ways to).2.2 = (j : Int) ∧ t.cst a j ≠ 0 ∧ bet ((t.nd j).bests to).1 ((t.nd j).bests to).2 ((t.nd a).bests to).1 ((t.nd a).bests to).2 = true := by
  obtain ⟨hx, hme⟩ := h.node a ha
  obtain ⟨j, hj, hw, hc, _, hb⟩ := (hx.ok.way to ht (by rw [hme]; exact hne)).by_ hd (by rw [hme]; exact hne)
  refine ⟨j, hj, by rw [hw]; rfl, by rw [← h.cost a j ha hj]; exact hc, ?_⟩
  have h1 := h.heard a j to ha hj ht
  rw [bet_not] at h1
  rw [bet_iff] at hb ⊢
  omega
/-- One node has changed, its best not to the worse, and what it heard is no better than what those know who said it. -/
theorem TnOk.one {t : Tn} (h : TnOk t) {a : Nat} (ha : a < 6) {m : Md} {cst' : Nat → Nat → Int} {nw : List Nw} (hx : MdX m) (hme : m.me = a) (hb : ∀ k, bet ((t.nd a).bests k).1 ((t.nd a).bests k).2 (m.bests k).1 (m.bests k).2 = false)
    (hh : ∀ f k, f < 6 → k < 6 → bet (m.heard f k).1 (m.heard f k).2 ((t.nd f).bests k).1 ((t.nd f).bests k).2 = false)
    (hn : ∀ x ∈ nw, x.f < 6 ∧ x.g < 6 ∧ x.f ≠ x.g ∧ x.to < 6 ∧ 0 ≤ x.s ∧ 0 ≤ x.d ∧ x.d ≤ 200 ∧ bet x.s x.d ((updW t.nd a m x.f).bests x.to).1 ((updW t.nd a m x.f).bests x.to).2 = false)
    (hc : ∀ b c, b < 6 → c < 6 → (updW t.nd a m b).cost c = cst' b c) : TnOk { cst := cst', nd := updW t.nd a m, news := nw } := by
  have up : ∀ f k s d, bet s d ((t.nd f).bests k).1 ((t.nd f).bests k).2 = false → bet s d ((updW t.nd a m f).bests k).1 ((updW t.nd a m f).bests k).2 = false := fun f k s d q => by
    by_cases e : f = a
    · subst e
      rw [updW_same]; exact bet_trans q (hb k)
    · rw [updW_ne _ _ e]; exact q
  refine ⟨fun b hb' => ?_, fun b f k hb' hf hk => ?_, hn, hc⟩
  · show MdX (updW t.nd a m b) ∧ (updW t.nd a m b).me = b
    by_cases e : b = a
    · subst e
      rw [updW_same]; exact ⟨hx, hme⟩
    · rw [updW_ne _ _ e]; exact h.node b hb'
  · show bet ((updW t.nd a m b).heard f k).1 ((updW t.nd a m b).heard f k).2 ((updW t.nd a m f).bests k).1 ((updW t.nd a m f).bests k).2 = false
    refine up f k _ _ ?_
    by_cases e : b = a
    · subst e
      rw [updW_same]; exact hh f k hf hk
    · rw [updW_ne _ _ e]; exact h.heard b f k hb' hf hk

end Go.Proofs.Ytohbkhmpdegapad
