import Derived.Test.YtcgflhjgllpohafGreatDoorNdPlain
/- A NET, AS NUMBERS: each step keeps what makes ways straight. No Go here. -/
namespace Go.Proofs.YtcgflhjgllpohafGreatDoor

def newT : Tn := { cst := fun _ _ => 0, nd := newM, news := [] }
/-- Nothing was said: that is better than no best. -/
theorem MdX.nothing {m : Md} (h : MdX m) (k : Nat) : bet 0 200 (m.bests k).1 (m.bests k).2 = false := by
  have h1 := h.ok.best k
  have h2 := (h.b200 k).2
  rw [bet_not]; omega
theorem new_t : TnOk newT := by
  refine ⟨fun a ha => ⟨new_x ha, rfl⟩, fun a f k ha hf hk => ?_, fun x hx => (by cases hx), fun a b _ _ => rfl⟩
  exact (new_x hf).nothing k
/-- Fewer news, or some of them twice. -/
theorem TnOk.sub {t : Tn} (h : TnOk t) {nw : List Nw} (hn : ∀ x ∈ nw, x ∈ t.news) : TnOk { t with news := nw } :=
  ⟨h.node, h.heard, fun x hx => h.news x (hn x hx), h.cost⟩
/-- All that a tells b. -/
def tellT (t : Tn) (a b : Nat) : List Nw := (List.range 6).map fun k => ⟨a, b, k, ((t.nd a).ways k).1, ((t.nd a).ways k).2.1⟩
theorem tellT_mem {t : Tn} (h : TnOk t) {a b : Nat} (ha : a < 6) (hb : b < 6) (hne : a ≠ b) : ∀ x ∈ tellT t a b, x.f < 6 ∧ x.g < 6 ∧ x.f ≠ x.g ∧ x.to < 6 ∧ 0 ≤ x.s ∧ 0 ≤ x.d ∧ x.d ≤ 200 ∧ bet x.s x.d ((t.nd x.f).bests x.to).1 ((t.nd x.f).bests x.to).2 = false := by
  intro x hx
  obtain ⟨k, hk, rfl⟩ := List.mem_map.1 hx
  have hk6 := List.mem_range.1 hk
  obtain ⟨h1, h2, h3, h4⟩ := (h.node a ha).1.tells hk6
  exact ⟨ha, hb, hne, hk6, h2, h3, h4, h1⟩
theorem TnOk.tell {t : Tn} (h : TnOk t) {a b : Nat} (ha : a < 6) (hb : b < 6) (hne : a ≠ b) : TnOk { t with news := t.news ++ tellT t a b } := by
  refine ⟨h.node, h.heard, fun x hx => ?_, h.cost⟩
  rcases List.mem_append.1 hx with hx | hx
  · exact h.news x hx
  · exact tellT_mem h ha hb hne x hx
theorem TnOk.newsUp {t : Tn} (_ : TnOk t) {a : Nat} {m : Md} (hb : ∀ k, bet ((t.nd a).bests k).1 ((t.nd a).bests k).2 (m.bests k).1 (m.bests k).2 = false) {nw : List Nw} (hn : ∀ x ∈ nw, x.f < 6 ∧ x.g < 6 ∧ x.f ≠ x.g ∧ x.to < 6 ∧ 0 ≤ x.s ∧ 0 ≤ x.d ∧ x.d ≤ 200 ∧ bet x.s x.d ((t.nd x.f).bests x.to).1 ((t.nd x.f).bests x.to).2 = false) :
    ∀ x ∈ nw, x.f < 6 ∧ x.g < 6 ∧ x.f ≠ x.g ∧ x.to < 6 ∧ 0 ≤ x.s ∧ 0 ≤ x.d ∧ x.d ≤ 200 ∧ bet x.s x.d ((updW t.nd a m x.f).bests x.to).1 ((updW t.nd a m x.f).bests x.to).2 = false := by
  intro x hx
  obtain ⟨h1, h2, h3, h4, h5, h6, h7, h8⟩ := hn x hx
  refine ⟨h1, h2, h3, h4, h5, h6, h7, ?_⟩
  by_cases e : x.f = a
  · rw [e, updW_same]
    rw [e] at h8
    exact bet_trans h8 (hb x.to)
  · rw [updW_ne _ _ e]; exact h8
/-- A node hears what was said; whatever else is on its way stays. -/
theorem TnOk.hear {t : Tn} (h : TnOk t) {x : Nw} (hx : x.f < 6 ∧ x.g < 6 ∧ x.f ≠ x.g ∧ x.to < 6 ∧ 0 ≤ x.s ∧ 0 ≤ x.d ∧ x.d ≤ 200 ∧ bet x.s x.d ((t.nd x.f).bests x.to).1 ((t.nd x.f).bests x.to).2 = false) :
    TnOk { t with nd := updW t.nd x.g (hearM (t.nd x.g) x.f x.to x.s x.d) } := by
  obtain ⟨h1, h2, h3, h4, h5, h6, h7, h8⟩ := hx
  obtain ⟨hX, hme⟩ := h.node x.g h2
  have hk := hear_ok hX.ok (f := x.f) (to := x.to) h5 h6 h7
  refine h.one h2 (hear_x hX h5 h6 h7) ((look_me _ _).trans hme) hk.2 (fun f k hf hk6 => ?_) (h.newsUp hk.2 h.news) (fun b c hb hc => ?_)
  · have e : (hearM (t.nd x.g) x.f x.to x.s x.d).heard f k = if f = x.f ∧ k = x.to then (x.s, x.d) else (t.nd x.g).heard f k := by
      unfold hearM
      rw [look_heard]
      show updW (t.nd x.g).heard x.f (updW ((t.nd x.g).heard x.f) x.to (x.s, x.d)) f k = _
      unfold updW
      by_cases e : f = x.f
      · rw [if_pos e]
        by_cases e2 : k = x.to
        · rw [if_pos e2, if_pos ⟨e, e2⟩]
        · rw [if_neg e2, if_neg (fun q => e2 q.2), e]
      · rw [if_neg e, if_neg (fun q => e q.1)]
    rw [e]
    split
    · next q => rw [q.1, q.2]; exact h8
    · exact h.heard x.g f k h2 hf hk6
  · by_cases e : b = x.g
    · subst e
      rw [updW_same]
      show (lookM _ _).cost c = _
      rw [look_cost]
      exact h.cost x.g c hb hc
    · rw [updW_ne _ _ e]; exact h.cost b c hb hc
theorem TnOk.tick {t : Tn} (h : TnOk t) {a : Nat} (ha : a < 6) : TnOk { t with nd := updW t.nd a (tickM (t.nd a)) } := by
  obtain ⟨hX, hme⟩ := h.node a ha
  have hk := tick_ok hX.ok
  refine h.one ha (tick_x hX) hme hk.2 (fun f k hf hk6 => h.heard a f k ha hf hk6) (h.newsUp hk.2 h.news) (fun b c hb hc => ?_)
  by_cases e : b = a
  · subst e
    rw [updW_same]; exact h.cost b c hb hc
  · rw [updW_ne _ _ e]; exact h.cost b c hb hc
def cstUp (cst : Nat → Nat → Int) (a b : Nat) (c : Int) : Nat → Nat → Int := fun i j => if i = a ∧ j = b then c else cst i j
theorem linkT_heard (m : Md) (who : Nat) (c : Int) (f k : Nat) : (linkM m who c).heard f k = if c = 0 ∧ f = who then (0, 200) else m.heard f k := by
  unfold linkM
  rw [(lookTo_all _ 6).2.2.1]
  dsimp only
  by_cases e : c = 0
  · rw [if_pos e]
    unfold updW
    by_cases e2 : f = who
    · rw [if_pos e2, if_pos ⟨e, e2⟩]
    · rw [if_neg e2, if_neg (fun q => e2 q.2)]
  · rw [if_neg e, if_neg (fun q => e q.1)]
theorem linkT_cost (m : Md) (who : Nat) (c : Int) (k : Nat) : (linkM m who c).cost k = if k = who then c else m.cost k := by
  unfold linkM
  rw [(lookTo_all _ 6).2.1]
  rfl
/-- One of the two knows that they are linked, for so much. -/
theorem TnOk.link {t : Tn} (h : TnOk t) {a b : Nat} {c : Int} (ha : a < 6) (hc0 : 0 ≤ c) (hc : c ≤ 15) : TnOk { t with cst := cstUp t.cst a b c, nd := updW t.nd a (linkM (t.nd a) b c) } := by
  obtain ⟨hX, hme⟩ := h.node a ha
  have hk := link_ok hX.ok (who := b) hc0 hc
  refine h.one ha (link_x hX hc0 hc) ((lookTo_all _ 6).1.trans hme) hk.2 (fun f k hf hk6 => ?_) (h.newsUp hk.2 h.news) (fun i j hi hj => ?_)
  · rw [linkT_heard]
    split
    · exact (h.node f hf).1.nothing k
    · exact h.heard a f k ha hf hk6
  · unfold cstUp
    by_cases e : i = a
    · subst e
      rw [updW_same, linkT_cost]
      by_cases e2 : j = b
      · rw [if_pos e2, if_pos ⟨rfl, e2⟩]
      · rw [if_neg e2, if_neg (fun q => e2 q.2)]
        exact h.cost i j hi hj
    · rw [updW_ne _ _ e, if_neg (fun q => e q.1)]
      exact h.cost i j hi hj

end Go.Proofs.YtcgflhjgllpohafGreatDoor

/- IT SETTLES, AS NUMBERS: where no way leads, none is said: what is told comes from ever better bests, and there are but six. No Go here. -/
namespace Go.Proofs.YtcgflhjgllpohafGreatDoor

/-- Of one end: what was heard (by whom, from whom), the ways and the bests. -/
structure Pd where
  h : Nat → Nat → Int × Int
  w : Nat → Int × Int × Int
  b : Nat → Int × Int
/-- As many nodes of U have a best that is as good as v. -/
def asGood (U : Nat → Bool) (P : Pd) (v : Int × Int) : Nat := (List.range 6).countP fun x => U x && !bet v.1 v.2 (P.b x).1 (P.b x).2
theorem asGood_le (U : Nat → Bool) (P : Pd) (v : Int × Int) : asGood U P v ≤ 6 := by
  have := List.countP_le_length (p := fun x => U x && !bet v.1 v.2 (P.b x).1 (P.b x).2) (l := List.range 6)
  simpa [asGood] using this
/-- No best is worse than it was. -/
def Up (P Q : Pd) : Prop := ∀ x, bet (P.b x).1 (P.b x).2 (Q.b x).1 (Q.b x).2 = false
theorem Up.refl (P : Pd) : Up P P := fun _ => bet_refl _ _
theorem Up.good {P Q : Pd} (h : Up P Q) (U : Nat → Bool) (v : Int × Int) : asGood U P v ≤ asGood U Q v := by
  unfold asGood
  refine List.countP_mono_left fun x _ hx => ?_
  simp only [Bool.and_eq_true, Bool.not_eq_true'] at hx ⊢
  exact ⟨hx.1, bet_trans hx.2 (h x)⟩
/-- Each way of U is by one of U who said something that is better than the best; a way is no better than the best. -/
structure PdOk (U : Nat → Bool) (P : Pd) : Prop where
  by_ : ∀ x, x < 6 → U x = true → (P.w x).2.2 ≠ -1 → ∃ j, j < 6 ∧ U j = true ∧ (P.h x j).2 < 200 ∧ bet (P.h x j).1 (P.h x j).2 (P.b x).1 (P.b x).2 = true
  nb : ∀ x, x < 6 → U x = true → bet (P.w x).1 (P.w x).2.1 (P.b x).1 (P.b x).2 = false
  far : ∀ x, x < 6 → U x = true → (P.w x).2.2 = -1 → (P.w x).2.1 = 200
/-- What x heard of j, if it is of use, is of no better than r bests. -/
def Few (U : Nat → Bool) (P : Pd) (r : Nat) (x j : Nat) : Prop := (P.h x j).2 < 200 → r ≤ asGood U P (P.h x j)
theorem countP_more {α : Type} (p q : α → Bool) : ∀ l : List α, (∀ x ∈ l, p x = true → q x = true) → (∃ x ∈ l, q x = true ∧ p x = false) → l.countP p + 1 ≤ l.countP q
  | [], _, h => by obtain ⟨x, hx, _⟩ := h; cases hx
  | y :: l, hi, h => by
    have hm : l.countP p ≤ l.countP q := List.countP_mono_left (fun x hx => hi x (List.mem_cons_of_mem _ hx))
    obtain ⟨x, hx, h1, h2⟩ := h
    rw [List.countP_cons, List.countP_cons]
    rcases List.mem_cons.1 hx with rfl | hx
    · rw [if_neg (by simp [h2]), if_pos h1]; omega
    · have := countP_more p q l (fun x hx => hi x (List.mem_cons_of_mem _ hx)) ⟨x, hx, h1, h2⟩
      by_cases hp : p y = true
      · rw [if_pos hp, if_pos (hi y (by simp) hp)]; omega
      · rw [if_neg hp]; omega
/-- What a node tells that has a way comes of one best more than what it heard. -/
theorem tell_more {U : Nat → Bool} {P : Pd} (hP : PdOk U P) {r : Nat} {a : Nat} (ha : a < 6) (hU : U a = true) (hF : ∀ j, j < 6 → U j = true → Few U P r a j) (hw : (P.w a).2.1 < 200) : r + 1 ≤ asGood U P ((P.w a).1, (P.w a).2.1) := by
  have hd : (P.w a).2.2 ≠ -1 := fun e => by have := hP.far a ha hU e; omega
  obtain ⟨j, hj, hUj, h200, hb⟩ := hP.by_ a ha hU hd
  have h1 := hF j hj hUj h200
  have h2 := hP.nb a ha hU
  refine Nat.le_trans (Nat.add_le_add_right h1 1) ?_
  unfold asGood
  refine countP_more _ _ _ (fun x _ hx => ?_) ⟨a, List.mem_range.2 ha, ?_, ?_⟩
  · simp only [Bool.and_eq_true, Bool.not_eq_true'] at hx ⊢
    refine ⟨hx.1, ?_⟩
    have h3 := hx.2
    rw [bet_not] at h2 h3 ⊢
    rw [bet_iff] at hb
    omega
  · simp only [Bool.and_eq_true, Bool.not_eq_true']
    exact ⟨hU, h2⟩
  · rw [hb]; simp

/-- One tells another one: what is heard is the way of the teller; nobody else's changes; no best becomes worse. -/
structure Told (P Q : Pd) (a b : Nat) : Prop where
  new : Q.h b a = ((P.w a).1, (P.w a).2.1)
  old : ∀ x j, ¬ (x = b ∧ j = a) → Q.h x j = P.h x j
  up : Up P Q
/-- Who has been told in this round by whom: of those, what is heard comes of one best more. -/
def Half (U : Nat → Bool) (P : Pd) (r : Nat) (done : Nat → Nat → Bool) : Prop := ∀ x j, x < 6 → j < 6 → U x = true → U j = true → (Few U P r x j) ∧ (done x j = true → Few U P (r + 1) x j)
theorem told_half {U : Nat → Bool} {P Q : Pd} {a b r : Nat} {done : Nat → Nat → Bool} (hP : PdOk U P) (hH : Half U P r done) (hT : Told P Q a b) (ha : a < 6) (hU : U a = true) :
    Half U Q r (fun x j => done x j || (decide (x = b) && decide (j = a))) := by
  intro x j hx hj hUx hUj
  by_cases e : x = b ∧ j = a
  · obtain ⟨rfl, rfl⟩ := e
    have key : (Q.h x j).2 < 200 → r + 1 ≤ asGood U Q (Q.h x j) := fun h200 => by
      rw [hT.new] at h200 ⊢
      exact Nat.le_trans (tell_more hP ha hU (fun i hi hUi => (hH j i ha hi hU hUi).1) h200) (hT.up.good U _)
    exact ⟨fun h => by have := key h; omega, fun _ => key⟩
  · have eo := hT.old x j e
    obtain ⟨h1, h2⟩ := hH x j hx hj hUx hUj
    refine ⟨fun h => ?_, fun hd h => ?_⟩
    · rw [eo] at h ⊢
      exact Nat.le_trans (h1 h) (hT.up.good U _)
    · have hd' : done x j = true := by
        simp only [Bool.or_eq_true, Bool.and_eq_true, decide_eq_true_eq] at hd
        rcases hd with q | q
        · exact q
        · exact absurd q e
      rw [eo] at h ⊢
      exact Nat.le_trans (h2 hd' h) (hT.up.good U _)
/-- A round in which each of U has been told by each other one with which it may have a way: one best more. -/
theorem half_round {U : Nat → Bool} {P : Pd} {r : Nat} {done : Nat → Nat → Bool} (hH : Half U P r done) (hall : ∀ x j, x < 6 → j < 6 → U x = true → U j = true → done x j = false → (P.h x j).2 = 200) : Half U P (r + 1) (fun _ _ => false) := by
  intro x j hx hj hUx hUj
  refine ⟨fun h => ?_, fun q => by cases q⟩
  cases e : done x j
  · have := hall x j hx hj hUx hUj e; omega
  · exact (hH x j hx hj hUx hUj).2 e h
/-- Behind seven rounds nobody of U has a way. -/
theorem half_none {U : Nat → Bool} {P : Pd} {done : Nat → Nat → Bool} (hP : PdOk U P) (hH : Half U P 7 done) : ∀ x, x < 6 → U x = true → (P.w x).2.2 = -1 := by
  intro x hx hU
  refine Classical.byContradiction fun hne => ?_
  obtain ⟨j, hj, hUj, h200, _⟩ := hP.by_ x hx hU hne
  have h1 := (hH x j hx hj hU hUj).1 h200
  have h2 := asGood_le U P (P.h x j)
  omega
theorem half_zero (U : Nat → Bool) (P : Pd) : Half U P 0 (fun _ _ => false) := fun _ _ _ _ _ _ => ⟨fun _ => Nat.zero_le _, fun q => by cases q⟩

end Go.Proofs.YtcgflhjgllpohafGreatDoor

/- IT SETTLES, AS NUMBERS: a node that hears the least of the youngest has the least. No Go here. -/
namespace Go.Proofs.YtcgflhjgllpohafGreatDoor

/-- One neighbour said the least of the youngest age; nobody said less; the best is not less: then the way is the least, and so is the best. -/
theorem look_good {m : Md} {to f : Nat} {S D : Int} (hne : to ≠ m.me) (hf : f < 6) (hc : 0 < m.cost f) (hh : (m.heard f to).1 = S) (hd : (m.heard f to).2 + m.cost f = D) (h200 : D < 200)
    (lb : ∀ j, j < 6 → m.cost j ≠ 0 → (m.heard j to).1 ≤ S ∧ ((m.heard j to).1 = S → D ≤ (m.heard j to).2 + m.cost j))
    (hb : (m.bests to).1 ≤ S ∧ ((m.bests to).1 = S → D ≤ (m.bests to).2)) :
    (∃ k : Nat, k < 6 ∧ (lookM m to).ways to = (S, D, (k : Int)) ∧ m.cost k ≠ 0 ∧ (m.heard k to).1 = S ∧ (m.heard k to).2 + m.cost k = D) ∧ (lookM m to).bests to = (S, D) := by
  have hmay : mayB m to f = true := may_iff.2 ⟨by omega, by omega, by
    rw [bet_iff, hh]
    by_cases e : (m.bests to).1 = S
    · have := hb.2 e; omega
    · have := hb.1; omega⟩
  have ew : (lookM m to).ways to = pkD m to 6 := by unfold lookM; rw [if_neg hne]; exact updW_same _ _ _
  have eb : (lookM m to).bests to = if (pkD m to 6).2.2 ≠ -1 ∧ bet (pkD m to 6).1 (pkD m to 6).2.1 (m.bests to).1 (m.bests to).2 = true then ((pkD m to 6).1, (pkD m to 6).2.1) else m.bests to := by
    unfold lookM
    rw [if_neg hne]
    dsimp only
    split
    · exact updW_same _ _ _
    · rfl
  rcases pkD_is m to with ⟨k, hk, mk, hw, hall⟩ | ⟨hn, _⟩
  · obtain ⟨c0, c1, c2⟩ := may_iff.1 mk
    obtain ⟨l1, l2⟩ := lb k hk c0
    have h1 := (hall f hf hmay).1
    rw [hw] at h1
    have e1 : (wayBy m to f).1 = S := hh
    have e2 : (wayBy m to f).2.1 = D := hd
    have e3 : (wayBy m to k).1 = (m.heard k to).1 := rfl
    have e4 : (wayBy m to k).2.1 = (m.heard k to).2 + m.cost k := rfl
    rw [e1, e2, e3, e4, bet_not] at h1
    have s1 : (m.heard k to).1 = S := by omega
    have d1 : (m.heard k to).2 + m.cost k = D := by have := l2 s1; omega
    have epk : pkD m to 6 = (S, D, (k : Int)) := by rw [hw]; unfold wayBy; rw [s1, d1]
    refine ⟨⟨k, hk, by rw [ew, epk], c0, s1, d1⟩, ?_⟩
    rw [eb, epk]
    simp only
    by_cases hbt : bet S D (m.bests to).1 (m.bests to).2 = true
    · rw [if_pos ⟨by omega, hbt⟩]
    · rw [if_neg (fun q => hbt q.2)]
      have hbf : bet S D (m.bests to).1 (m.bests to).2 = false := by
        cases q : bet S D (m.bests to).1 (m.bests to).2
        · rfl
        · exact absurd q hbt
      rw [bet_not] at hbf
      have b1 : (m.bests to).1 = S := by have := hb.1; omega
      have b2 : (m.bests to).2 = D := by have := hb.2 b1; omega
      exact Prod.ext b1 b2
  · rw [hn f hf] at hmay; cases hmay
/-- What is found is never younger than the youngest, nor of that age shorter than the least. -/
theorem look_bound {m : Md} {to : Nat} {S D : Int} (hne : to ≠ m.me) (h200 : D ≤ 200)
    (lb : ∀ j, j < 6 → m.cost j ≠ 0 → (m.heard j to).1 ≤ S ∧ ((m.heard j to).1 = S → D ≤ (m.heard j to).2 + m.cost j))
    (hb : (m.bests to).1 ≤ S ∧ ((m.bests to).1 = S → D ≤ (m.bests to).2)) :
    (((lookM m to).ways to).1 ≤ S ∧ (((lookM m to).ways to).1 = S → D ≤ ((lookM m to).ways to).2.1)) ∧ (((lookM m to).bests to).1 ≤ S ∧ (((lookM m to).bests to).1 = S → D ≤ ((lookM m to).bests to).2)) := by
  have ew : (lookM m to).ways to = pkD m to 6 := by unfold lookM; rw [if_neg hne]; exact updW_same _ _ _
  have eb : (lookM m to).bests to = if (pkD m to 6).2.2 ≠ -1 ∧ bet (pkD m to 6).1 (pkD m to 6).2.1 (m.bests to).1 (m.bests to).2 = true then ((pkD m to 6).1, (pkD m to 6).2.1) else m.bests to := by
    unfold lookM
    rw [if_neg hne]
    dsimp only
    split
    · exact updW_same _ _ _
    · rfl
  have hw : (pkD m to 6).1 ≤ S ∧ ((pkD m to 6).1 = S → D ≤ (pkD m to 6).2.1) := by
    rcases pkD_is m to with ⟨k, hk, mk, hw, _⟩ | ⟨_, hw⟩
    · obtain ⟨c0, _, _⟩ := may_iff.1 mk
      rw [hw]; exact lb k hk c0
    · rw [hw]; exact ⟨hb.1, fun _ => h200⟩
  refine ⟨by rw [ew]; exact hw, ?_⟩
  rw [eb]
  split
  · exact hw
  · exact hb

end Go.Proofs.YtcgflhjgllpohafGreatDoor

/- LINKS AS NUMBERS: what they cost, and how far it is. No Go here. -/
namespace Go.Proofs.YtcgflhjgllpohafGreatDoor

/-- Costs of links: the same from both ends, none of a node with itself. -/
structure Lk (c : Nat → Nat → Nat) : Prop where
  sym : ∀ a b, c a b = c b a
  self : ∀ a, c a a = 0
  le : ∀ a b, c a b ≤ 15

/-- The least of d n and of what comes by the first j nodes. -/
def via (c : Nat → Nat → Nat) (d : Nat → Nat) (n : Nat) : Nat → Nat
  | 0 => d n
  | j + 1 => if 0 < c j n ∧ d j + c j n < via c d n j then d j + c j n else via c d n j
/-- The least cost of a way of at most k links. -/
def wk (c : Nat → Nat → Nat) (f : Int) : Nat → Nat → Nat
  | 0, n => if (n : Int) = f then 0 else 200
  | k + 1, n => via c (wk c f k) n 6

theorem via_le (c : Nat → Nat → Nat) (d : Nat → Nat) (n : Nat) : ∀ j, via c d n j ≤ d n
  | 0 => Nat.le_refl _
  | j + 1 => by
    have := via_le c d n j
    rw [via]; split <;> omega
theorem via_by (c : Nat → Nat → Nat) (d : Nat → Nat) (n : Nat) : ∀ j i, i < j → 0 < c i n → via c d n j ≤ d i + c i n
  | 0, i, h, _ => by omega
  | j + 1, i, h, hc => by
    rw [via]
    by_cases e : i = j
    · subst e
      split <;> omega
    · have := via_by c d n j i (by omega) hc
      split <;> omega
theorem via_is (c : Nat → Nat → Nat) (d : Nat → Nat) (n : Nat) : ∀ j, via c d n j = d n ∨ ∃ i, i < j ∧ 0 < c i n ∧ via c d n j = d i + c i n
  | 0 => .inl rfl
  | j + 1 => by
    rw [via]
    split
    · next h => exact .inr ⟨j, by omega, h.1, rfl⟩
    · rcases via_is c d n j with h | ⟨i, h1, h2, h3⟩
      · exact .inl h
      · exact .inr ⟨i, by omega, h2, h3⟩
theorem via_congr (c : Nat → Nat → Nat) (d e : Nat → Nat) (n : Nat) (hn : d n = e n) : ∀ j, (∀ i, i < j → d i = e i) → via c d n j = via c e n j
  | 0, _ => hn
  | j + 1, h => by
    rw [via, via, via_congr c d e n hn j (fun i hi => h i (by omega)), h j (by omega)]
theorem wk_anti (c : Nat → Nat → Nat) (f : Int) (k n : Nat) : wk c f (k + 1) n ≤ wk c f k n := via_le _ _ _ _
theorem wk_le (c : Nat → Nat → Nat) (f : Int) : ∀ k n, wk c f k n ≤ 200
  | 0, n => by rw [wk]; split <;> omega
  | k + 1, n => Nat.le_trans (wk_anti c f k n) (wk_le c f k n)
theorem wk_mono (c : Nat → Nat → Nat) (f : Int) (k n : Nat) : ∀ j, wk c f (k + j) n ≤ wk c f k n
  | 0 => Nat.le_refl _
  | j + 1 => Nat.le_trans (wk_anti c f (k + j) n) (wk_mono c f k n j)
theorem wk_le_of (c : Nat → Nat → Nat) (f : Int) {k j : Nat} (h : k ≤ j) (n : Nat) : wk c f j n ≤ wk c f k n := by
  have := wk_mono c f k n (j - k)
  rwa [show k + (j - k) = j by omega] at this

def sum6 (d : Nat → Nat) : Nat := d 0 + d 1 + d 2 + d 3 + d 4 + d 5
theorem six {n : Nat} (h : n < 6) : n = 0 ∨ n = 1 ∨ n = 2 ∨ n = 3 ∨ n = 4 ∨ n = 5 := by omega
theorem wk_stops (c : Nat → Nat → Nat) (f : Int) : ∀ s k, sum6 (wk c f k) ≤ s → ∃ K, ∀ n, n < 6 → wk c f (K + 1) n = wk c f K n := by
  intro s
  induction s with
  | zero =>
    intro k h
    refine ⟨k, fun n hn => ?_⟩
    have a := wk_anti c f k n
    unfold sum6 at h
    rcases six hn with rfl | rfl | rfl | rfl | rfl | rfl <;> omega
  | succ s ih =>
    intro k h
    have a0 := wk_anti c f k 0
    have a1 := wk_anti c f k 1
    have a2 := wk_anti c f k 2
    have a3 := wk_anti c f k 3
    have a4 := wk_anti c f k 4
    have a5 := wk_anti c f k 5
    by_cases e : sum6 (wk c f (k + 1)) = sum6 (wk c f k)
    · refine ⟨k, fun n hn => ?_⟩
      unfold sum6 at e
      rcases six hn with rfl | rfl | rfl | rfl | rfl | rfl <;> omega
    · refine ih (k + 1) ?_
      unfold sum6 at *
      omega

/-- What it comes to. -/
structure Lm (c : Nat → Nat → Nat) (f : Int) (L : Nat → Nat) : Prop where
  le : ∀ k n, n < 6 → L n ≤ wk c f k n
  at_ : ∃ K, ∀ n, n < 6 → L n = wk c f K n

theorem lm_is (c : Nat → Nat → Nat) (f : Int) : ∃ L, Lm c f L := by
  obtain ⟨K, hK⟩ := wk_stops c f (sum6 (wk c f 0)) 0 (Nat.le_refl _)
  have st : ∀ j n, n < 6 → wk c f (K + j) n = wk c f K n := by
    intro j
    induction j with
    | zero => intro n _; rfl
    | succ j ih =>
      intro n hn
      rw [← hK n hn]
      show via c (wk c f (K + j)) n 6 = via c (wk c f K) n 6
      exact via_congr c _ _ n (ih n hn) 6 ih
  refine ⟨wk c f K, fun k n hn => ?_, K, fun n _ => rfl⟩
  by_cases h : k ≤ K
  · exact wk_le_of c f h n
  · have := st (k - K) n hn
    rw [show K + (k - K) = k by omega] at this
    rw [this]; exact Nat.le_refl _
theorem Lm.edge {c : Nat → Nat → Nat} {f : Int} {L : Nat → Nat} (h : Lm c f L) {m n : Nat} (hm : m < 6) (hn : n < 6) (hc : 0 < c m n) : L n ≤ L m + c m n := by
  obtain ⟨K, hK⟩ := h.at_
  have h1 := h.le (K + 1) n hn
  have h2 : wk c f (K + 1) n ≤ wk c f K m + c m n := via_by c _ n 6 m hm hc
  rw [← hK m hm] at h2
  omega
theorem wk_last (c : Nat → Nat → Nat) (f : Int) : ∀ k n, wk c f k n = wk c f 0 n ∨ ∃ m j, m < 6 ∧ 0 < c m n ∧ wk c f k n = wk c f j m + c m n
  | 0, _ => .inl rfl
  | k + 1, n => by
    rcases via_is c (wk c f k) n 6 with h | ⟨i, h1, h2, h3⟩
    · rcases wk_last c f k n with e | ⟨m, j, h4, h5, h6⟩
      · exact .inl (h.trans e)
      · exact .inr ⟨m, j, h4, h5, h.trans h6⟩
    · exact .inr ⟨i, k, h1, h2, h3⟩
theorem Lm.last {c : Nat → Nat → Nat} {f : Int} {L : Nat → Nat} (h : Lm c f L) {n : Nat} (hn : n < 6) : L n = wk c f 0 n ∨ ∃ m, m < 6 ∧ 0 < c m n ∧ L n = L m + c m n := by
  obtain ⟨K, hK⟩ := h.at_
  rcases wk_last c f K n with e | ⟨m, j, h1, h2, h3⟩
  · exact .inl ((hK n hn).trans e)
  · have h4 := h.le j m h1
    have h5 := h.edge h1 hn h2
    have h6 := hK n hn
    exact .inr ⟨m, h1, h2, by omega⟩

theorem countP_lt {α : Type} (p q : α → Bool) : ∀ l : List α, (∀ x ∈ l, p x = true → q x = true) → (∃ x ∈ l, q x = true ∧ p x = false) → l.countP p < l.countP q
  | [], _, h => by obtain ⟨x, hx, _⟩ := h; cases hx
  | y :: l, hi, h => by
    have hm : l.countP p ≤ l.countP q := List.countP_mono_left (fun x hx => hi x (List.mem_cons_of_mem _ hx))
    obtain ⟨x, hx, h1, h2⟩ := h
    rw [List.countP_cons, List.countP_cons]
    rcases List.mem_cons.1 hx with rfl | hx
    · simp only [h1, h2, if_true]
      simp
      omega
    · have := countP_lt p q l (fun x hx => hi x (List.mem_cons_of_mem _ hx)) ⟨x, hx, h1, h2⟩
      by_cases hp : p y = true
      · simp only [hp, hi y (by simp) hp, if_true]; omega
      · rw [if_neg hp]; omega
theorem least_of (L : Nat → Nat) (p : Nat → Prop) : ∀ s n, L n ≤ s → n < 6 → p n → ∃ m, m < 6 ∧ p m ∧ ∀ i, i < 6 → p i → L m ≤ L i := by
  intro s
  induction s with
  | zero => intro n h hn hp; exact ⟨n, hn, hp, fun i _ _ => by omega⟩
  | succ s ih =>
    intro n h hn hp
    by_cases e : ∃ i, i < 6 ∧ p i ∧ L i < L n
    · obtain ⟨i, h1, h2, h3⟩ := e
      exact ih i (by omega) h1 h2
    · refine ⟨n, hn, hp, fun i hi hpi => ?_⟩
      exact Nat.le_of_not_lt (fun hlt => e ⟨i, hi, hpi, hlt⟩)

theorem wk_none (c : Nat → Nat → Nat) (f : Int) (hf : ¬ (0 ≤ f ∧ f < 6)) : ∀ k n, n < 6 → wk c f k n = 200
  | 0, n, hn => by rw [wk, if_neg (by omega)]
  | k + 1, n, hn => by
    rcases via_is c (wk c f k) n 6 with h | ⟨i, h1, h2, h3⟩
    · exact h.trans (wk_none c f hf k n hn)
    · have e := wk_none c f hf k i h1
      have l := wk_le c f (k + 1) n
      rw [wk] at l ⊢
      omega

/-- Five links are enough. -/
theorem wk_five {c : Nat → Nat → Nat} {f : Int} {L : Nat → Nat} (h : Lm c f L) : ∀ n, n < 6 → wk c f 5 n = L n := by
  by_cases hf : 0 ≤ f ∧ f < 6
  · have key : ∀ k, (∀ n, n < 6 → wk c f k n = L n) ∨ k + 1 ≤ (List.range 6).countP (fun n => decide (wk c f k n = L n)) := by
      intro k
      induction k with
      | zero =>
        right
        have e : wk c f 0 f.toNat = L f.toNat := by
          have := h.le 0 f.toNat (by omega)
          rw [wk, if_pos (by omega)] at this ⊢
          omega
        exact List.countP_pos_iff.2 ⟨f.toNat, List.mem_range.2 (by omega), by simp [e]⟩
      | succ k ih =>
        have up : ∀ n, n < 6 → wk c f k n = L n → wk c f (k + 1) n = L n := by
          intro n hn e
          have h1 := h.le (k + 1) n hn
          have h2 := wk_anti c f k n
          omega
        rcases ih with ih | ih
        · exact .inl fun n hn => up n hn (ih n hn)
        · by_cases hall : ∀ n, n < 6 → wk c f k n = L n
          · exact .inl fun n hn => up n hn (hall n hn)
          · right
            have : ∃ n, n < 6 ∧ wk c f k n ≠ L n := Classical.byContradiction fun hne => hall fun n hn => Classical.byContradiction fun e => hne ⟨n, hn, e⟩
            obtain ⟨n0, hn0, hp0⟩ := this
            obtain ⟨n, hn, hp, hmin⟩ := least_of L (fun n => wk c f k n ≠ L n) (L n0) n0 (Nat.le_refl _) hn0 hp0
            have hnew : wk c f (k + 1) n = L n := by
              rcases h.last hn with e | ⟨m, hm, hc, e⟩
              · exfalso
                have h1 := h.le k n hn
                have h2 := wk_le_of c f (Nat.zero_le k) n
                omega
              · have hk : wk c f k m = L m := by
                  refine Classical.byContradiction fun hne => ?_
                  have := hmin m hm hne
                  omega
                have h1 := h.le (k + 1) n hn
                have h2 : wk c f (k + 1) n ≤ wk c f k m + c m n := via_by c _ n 6 m hm hc
                omega
            have hlt := countP_lt (fun n => decide (wk c f k n = L n)) (fun n => decide (wk c f (k + 1) n = L n)) (List.range 6)
              (fun x hx hpx => by
                have := up x (List.mem_range.1 hx) (of_decide_eq_true hpx)
                exact decide_eq_true this)
              ⟨n, List.mem_range.2 hn, decide_eq_true hnew, decide_eq_false hp⟩
            omega
    rcases key 5 with hk | hk
    · exact hk
    · have hl : (List.range 6).countP (fun n => decide (wk c f 5 n = L n)) = (List.range 6).length := by
        have := List.countP_le_length (p := fun n => decide (wk c f 5 n = L n)) (l := List.range 6)
        simp only [List.length_range] at this ⊢
        omega
      intro n hn
      have := List.countP_eq_length.1 hl n (List.mem_range.2 hn)
      exact of_decide_eq_true this
  · intro n hn
    obtain ⟨K, hK⟩ := h.at_
    rw [hK n hn, wk_none c f hf 5 n hn, wk_none c f hf K n hn]

/-- How far it is. -/
def dst (c : Nat → Nat → Nat) (f : Int) (n : Nat) : Nat := wk c f 5 n
theorem dst_lm (c : Nat → Nat → Nat) (f : Int) : Lm c f (dst c f) := by
  obtain ⟨L, h⟩ := lm_is c f
  have e : ∀ n, n < 6 → dst c f n = L n := wk_five h
  refine ⟨fun k n hn => by rw [e n hn]; exact h.le k n hn, ?_⟩
  obtain ⟨K, hK⟩ := h.at_
  exact ⟨K, fun n hn => by rw [e n hn]; exact hK n hn⟩
theorem dst_le (c : Nat → Nat → Nat) (f : Int) (n : Nat) : dst c f n ≤ 200 := wk_le c f 5 n
theorem dst_self (c : Nat → Nat → Nat) {f : Nat} (h : f < 6) : dst c f f = 0 := by
  have := (dst_lm c f).le 0 f h
  rw [wk, if_pos rfl] at this
  omega
theorem dst_edge (c : Nat → Nat → Nat) (f : Int) {m n : Nat} (hm : m < 6) (hn : n < 6) (hc : 0 < c m n) : dst c f n ≤ dst c f m + c m n := (dst_lm c f).edge hm hn hc
theorem dst_last (c : Nat → Nat → Nat) (f : Int) {n : Nat} (hn : n < 6) (hf : (n : Int) ≠ f) (hl : dst c f n < 200) : ∃ m, m < 6 ∧ 0 < c m n ∧ dst c f n = dst c f m + c m n := by
  rcases (dst_lm c f).last hn with e | e
  · rw [wk, if_neg hf] at e; omega
  · exact e
/-- Nothing is greater that no link shortens. -/
theorem dst_most (c : Nat → Nat → Nat) (f : Int) (e : Nat → Nat) (h0 : ∀ n, n < 6 → e n ≤ wk c f 0 n) (h1 : ∀ m n, m < 6 → n < 6 → 0 < c m n → e n ≤ e m + c m n) : ∀ n, n < 6 → e n ≤ dst c f n := by
  have : ∀ k n, n < 6 → e n ≤ wk c f k n := by
    intro k
    induction k with
    | zero => exact h0
    | succ k ih =>
      intro n hn
      rcases via_is c (wk c f k) n 6 with h | ⟨i, h2, h3, h4⟩
      · rw [wk, h]; exact ih n hn
      · rw [wk, h4]
        have := ih i h2
        have := h1 i n h2 hn h3
        omega
  exact this 5
theorem dst_is (c : Nat → Nat → Nat) (f : Int) {d : Nat → Nat} {k : Nat} (h5 : 5 ≤ k) (h1 : ∀ n, n < 6 → dst c f n ≤ d n) (h2 : ∀ n, n < 6 → d n ≤ wk c f k n) : ∀ n, n < 6 → d n = dst c f n := by
  intro n hn
  have a := h1 n hn
  have b := h2 n hn
  have e := wk_le_of c f h5 n
  unfold dst at *
  omega

/-- Not farther than by any node between. -/
theorem dst_tri (c : Nat → Nat → Nat) {a b : Nat} (hb : b < 6) {n : Nat} (hn : n < 6) : dst c a n ≤ dst c a b + dst c b n := by
  have := dst_most c b (fun n => dst c a n - dst c a b) (fun n hn => by
    rw [wk]
    split
    · next e => have : n = b := by omega
                subst this; omega
    · have := dst_le c a n; omega) (fun m n hm hn hc => by
      have := dst_edge c a hm hn hc
      omega) n hn
  omega
theorem dst_link (c : Nat → Nat → Nat) {a b : Nat} (ha : a < 6) (hb : b < 6) (hc : 0 < c a b) : dst c a b ≤ c a b := by
  have h1 := dst_edge c a ha hb hc
  rw [dst_self c ha] at h1
  omega
/-- As far there as back. -/
theorem dst_back {c : Nat → Nat → Nat} (hc : Lk c) {a b : Nat} (ha : a < 6) (hb : b < 6) : dst c a b = dst c b a := by
  have half : ∀ {x y : Nat}, x < 6 → y < 6 → dst c y x ≤ dst c x y := by
    intro x y hx hy
    refine dst_most c x (fun n => dst c n x) (fun n hn => ?_) (fun m n hm hn hmn => ?_) y hy
    · rw [wk]
      split
      · next e => have : n = x := by omega
                  subst this; rw [dst_self c hn]; exact Nat.le_refl _
      · exact dst_le c _ _
    · show dst c n x ≤ dst c m x + c m n
      have h1 := dst_tri c (a := n) hm hx
      have h2 := dst_link c hn hm (by rw [hc.sym]; exact hmn)
      rw [hc.sym n m] at h2
      omega
  have h1 := half ha hb
  have h2 := half hb ha
  omega
/-- Some link leads on the least way. -/
theorem dst_first {c : Nat → Nat → Nat} (hc : Lk c) {a b : Nat} (ha : a < 6) (hb : b < 6) (hne : a ≠ b) (hl : dst c a b < 200) : ∃ m, m < 6 ∧ 0 < c a m ∧ c a m + dst c m b = dst c a b := by
  rw [dst_back hc ha hb] at hl ⊢
  obtain ⟨m, hm, h1, h2⟩ := dst_last c b ha (by omega) hl
  refine ⟨m, hm, by rw [hc.sym]; exact h1, ?_⟩
  rw [dst_back hc hm hb, h2, hc.sym a m]
  omega

/-- Another cost of one link. -/
def setC (c : Nat → Nat → Nat) (a b v : Nat) : Nat → Nat → Nat := fun i j => if (i = a ∧ j = b) ∨ (i = b ∧ j = a) then v else c i j
theorem Lk.set {c : Nat → Nat → Nat} (h : Lk c) {a b v : Nat} (hne : a ≠ b) (hv : v ≤ 15) : Lk (setC c a b v) := by
  refine ⟨fun i j => ?_, fun i => ?_, fun i j => ?_⟩
  · unfold setC
    rw [h.sym i j]
    by_cases e : (i = a ∧ j = b) ∨ (i = b ∧ j = a)
    · rw [if_pos e, if_pos (by omega)]
    · rw [if_neg e, if_neg (by omega)]
  · unfold setC
    rw [if_neg (by omega)]; exact h.self i
  · unfold setC
    split
    · exact hv
    · exact h.le i j
theorem lk_zero : Lk (fun _ _ => 0) := ⟨fun _ _ => rfl, fun _ => rfl, fun _ _ => by omega⟩
/-- More or cheaper links: no farther. -/
theorem dst_less {c e : Nat → Nat → Nat} (h : ∀ i j, 0 < c i j → 0 < e i j ∧ e i j ≤ c i j) (f : Int) : ∀ n, n < 6 → dst e f n ≤ dst c f n :=
  dst_most c f (dst e f) (fun n hn => (dst_lm e f).le 0 n hn) (fun m n hm hn hc => by
    obtain ⟨h1, h2⟩ := h m n hc
    have := dst_edge e f hm hn h1
    omega)
theorem setC_less {c : Nat → Nat → Nat} {a b v : Nat} (hc : Lk c) (h : 0 < v ∧ (c a b = 0 ∨ v ≤ c a b)) : ∀ i j, 0 < c i j → 0 < setC c a b v i j ∧ setC c a b v i j ≤ c i j := by
  intro i j hij
  unfold setC
  by_cases e : (i = a ∧ j = b) ∨ (i = b ∧ j = a)
  · rw [if_pos e]
    have : c i j = c a b := by
      rcases e with ⟨rfl, rfl⟩ | ⟨rfl, rfl⟩
      · rfl
      · exact hc.sym _ _
    omega
  · rw [if_neg e]; omega
theorem setC_more {c : Nat → Nat → Nat} {a b v : Nat} (hc : Lk c) (h : 0 < c a b ∧ (v = 0 ∨ c a b ≤ v)) : ∀ i j, 0 < setC c a b v i j → 0 < c i j ∧ c i j ≤ setC c a b v i j := by
  intro i j hij
  unfold setC at hij ⊢
  by_cases e : (i = a ∧ j = b) ∨ (i = b ∧ j = a)
  · rw [if_pos e] at hij ⊢
    have : c i j = c a b := by
      rcases e with ⟨rfl, rfl⟩ | ⟨rfl, rfl⟩
      · rfl
      · exact hc.sym _ _
    omega
  · rw [if_neg e] at hij ⊢; omega
theorem setC_same {c : Nat → Nat → Nat} {a b v : Nat} (hc : Lk c) (h : c a b = v) : setC c a b v = c := by
  funext i j
  unfold setC
  by_cases e : (i = a ∧ j = b) ∨ (i = b ∧ j = a)
  · rw [if_pos e]
    rcases e with ⟨rfl, rfl⟩ | ⟨rfl, rfl⟩
    · exact h.symm
    · rw [hc.sym]; exact h.symm
  · rw [if_neg e]
/-- By a link more, or a cheaper one: as it was, or by that link. -/
theorem dst_by {c : Nat → Nat → Nat} {a b v : Nat} (hc : Lk c) (ha : a < 6) (hb : b < 6) (hne : a ≠ b) (hv : v ≤ 15) (h : 0 < v ∧ (c a b = 0 ∨ v ≤ c a b)) {n m : Nat} (hn : n < 6) (hm : m < 6) :
    dst (setC c a b v) n m = min (dst c n m) (min (dst c n a + v + dst c b m) (dst c n b + v + dst c a m)) := by
  have hl := setC_less hc h
  have le : ∀ {x y : Nat}, x < 6 → y < 6 → dst (setC c a b v) x y ≤ dst c x y := fun {x y} _ hy => dst_less hl x y hy
  have eab : setC c a b v a b = v := by unfold setC; rw [if_pos (by omega)]
  have eba : setC c a b v b a = v := by unfold setC; rw [if_pos (by omega)]
  have lab := dst_link (setC c a b v) ha hb (by omega)
  have lba := dst_link (setC c a b v) hb ha (by omega)
  apply Nat.le_antisymm
  · have h1 := le hn hm
    have h2 := dst_tri (setC c a b v) (a := n) ha hm
    have h3 := dst_tri (setC c a b v) (a := a) hb hm
    have h4 := dst_tri (setC c a b v) (a := n) hb hm
    have h5 := dst_tri (setC c a b v) (a := b) ha hm
    have h6 := le hn ha
    have h7 := le hb hm
    have h8 := le hn hb
    have h9 := le ha hm
    omega
  · refine dst_most (setC c a b v) n (fun m => min (dst c n m) (min (dst c n a + v + dst c b m) (dst c n b + v + dst c a m))) (fun m hm => ?_) (fun i j hi hj hij => ?_) m hm
    · have := (dst_lm c n).le 0 m hm
      show min (dst c n m) _ ≤ wk (setC c a b v) n 0 m
      have e : wk (setC c a b v) (n : Int) 0 m = wk c n 0 m := rfl
      omega
    · show min (dst c n j) (min (dst c n a + v + dst c b j) (dst c n b + v + dst c a j)) ≤ min (dst c n i) (min (dst c n a + v + dst c b i) (dst c n b + v + dst c a i)) + setC c a b v i j
      by_cases e : (i = a ∧ j = b) ∨ (i = b ∧ j = a)
      · have sa := dst_self c ha
        have sb := dst_self c hb
        rcases e with ⟨rfl, rfl⟩ | ⟨rfl, rfl⟩
        · rw [eab, sb, sa]; omega
        · rw [eba, sb, sa]; omega
      · have es : setC c a b v i j = c i j := by unfold setC; rw [if_neg e]
        rw [es] at hij ⊢
        have h1 := dst_edge c n hi hj hij
        have h2 := dst_edge c a hi hj hij
        have h3 := dst_edge c b hi hj hij
        omega

end Go.Proofs.YtcgflhjgllpohafGreatDoor

/- LINKS AS LISTS, AND BOTH WAYS TO RECKON HOW FAR IT IS. No Go here. -/
namespace Go.Proofs.YtcgflhjgllpohafGreatDoor

def upd (d : Nat → Nat) (i v : Nat) : Nat → Nat := fun j => if j = i then v else d j
abbrev Tri := Nat × Nat × Nat

/-- The links of a, to the first j nodes above it. -/
def rowTo (c : Nat → Nat → Nat) (a : Nat) : Nat → List Tri
  | 0 => []
  | j + 1 => rowTo c a j ++ (if c a (a + 1 + j) = 0 then [] else [(a, a + 1 + j, c a (a + 1 + j))])
/-- The links of the first n nodes. -/
def allTo (c : Nat → Nat → Nat) : Nat → List Tri
  | 0 => []
  | a + 1 => allTo c a ++ rowTo c a (5 - a)
/-- Those with which a is linked, of the first j. -/
def ofTo (c : Nat → Nat → Nat) (a : Nat) : Nat → List Nat
  | 0 => []
  | j + 1 => ofTo c a j ++ (if c a j = 0 then [] else [j])

theorem row_mem (c : Nat → Nat → Nat) (a : Nat) : ∀ j x, x ∈ rowTo c a j ↔ x.1 = a ∧ a < x.2.1 ∧ x.2.1 ≤ a + j ∧ x.2.2 = c a x.2.1 ∧ 0 < c a x.2.1
  | 0, x => by simp only [rowTo, List.not_mem_nil, false_iff]; omega
  | j + 1, x => by
    rw [rowTo, List.mem_append, row_mem c a j x]
    constructor
    · rintro (h | h)
      · obtain ⟨h1, h2, h3, h4, h5⟩ := h
        exact ⟨h1, h2, by omega, h4, h5⟩
      · split at h
        · cases h
        · next e =>
          have := List.mem_singleton.1 h
          subst this
          exact ⟨rfl, by simp only; omega, by simp only; omega, rfl, by simp only; omega⟩
    · rintro ⟨h1, h2, h3, h4, h5⟩
      by_cases e : x.2.1 ≤ a + j
      · exact .inl ⟨h1, h2, e, h4, h5⟩
      · right
        have e2 : x.2.1 = a + 1 + j := by omega
        rw [e2] at h4 h5
        rw [if_neg (by omega)]
        obtain ⟨x1, x2, x3⟩ := x
        simp only at h1 e2 h4
        rw [h1, e2, h4]
        exact List.mem_singleton.2 rfl
theorem all_mem (c : Nat → Nat → Nat) : ∀ n, n ≤ 6 → ∀ x, x ∈ allTo c n ↔ x.1 < n ∧ x.1 < x.2.1 ∧ x.2.1 < 6 ∧ x.2.2 = c x.1 x.2.1 ∧ 0 < c x.1 x.2.1
  | 0, _, x => by simp [allTo]
  | n + 1, hn, x => by
    rw [allTo, List.mem_append, all_mem c n (by omega) x, row_mem]
    constructor
    · rintro (⟨h1, h2, h3, h4, h5⟩ | ⟨h1, h2, h3, h4, h5⟩)
      · exact ⟨by omega, h2, h3, h4, h5⟩
      · rw [← h1] at h4 h5; exact ⟨by omega, by omega, by omega, h4, h5⟩
    · rintro ⟨h1, h2, h3, h4, h5⟩
      by_cases e : x.1 < n
      · exact .inl ⟨e, h2, h3, h4, h5⟩
      · have e2 : x.1 = n := by omega
        rw [e2] at h2 h4 h5
        exact .inr ⟨e2, h2, by omega, h4, h5⟩
theorem of_mem (c : Nat → Nat → Nat) (a : Nat) : ∀ j x, x ∈ ofTo c a j ↔ x < j ∧ 0 < c a x
  | 0, x => by simp [ofTo]
  | j + 1, x => by
    rw [ofTo, List.mem_append, of_mem c a j x]
    constructor
    · rintro (⟨h1, h2⟩ | h)
      · exact ⟨by omega, h2⟩
      · split at h
        · cases h
        · have := List.mem_singleton.1 h
          subst this; exact ⟨by omega, by omega⟩
    · rintro ⟨h1, h2⟩
      by_cases e : x < j
      · exact .inl ⟨e, h2⟩
      · have e2 : x = j := by omega
        subst e2
        rw [if_neg (by omega)]
        exact .inr (List.mem_singleton.2 rfl)
theorem row_len (c : Nat → Nat → Nat) (a : Nat) : ∀ j, (rowTo c a j).length ≤ j
  | 0 => Nat.le_refl _
  | j + 1 => by
    have := row_len c a j
    rw [rowTo, List.length_append]
    split <;> simp <;> omega
theorem all_len (c : Nat → Nat → Nat) : ∀ n, (allTo c n).length ≤ 5 * n
  | 0 => Nat.le_refl _
  | n + 1 => by
    have h1 := all_len c n
    have h2 := row_len c n (5 - n)
    rw [allTo, List.length_append]; omega
theorem of_len (c : Nat → Nat → Nat) (a : Nat) : ∀ j, (ofTo c a j).length ≤ j
  | 0 => Nat.le_refl _
  | j + 1 => by
    have := of_len c a j
    rw [ofTo, List.length_append]
    split <;> simp <;> omega

/-- One link, both ways. -/
def rxa (d : Nat → Nat) (x : Tri) : Nat → Nat := upd d x.1 (min (d x.1) (d x.2.1 + x.2.2))
def rxb (d : Nat → Nat) (x : Tri) : Nat → Nat := upd d x.2.1 (min (d x.2.1) (d x.1 + x.2.2))
def rx (d : Nat → Nat) (x : Tri) : Nat → Nat := rxb (rxa d x) x
def rds (l : List Tri) (d : Nat → Nat) : Nat → Nat → Nat
  | 0 => d
  | k + 1 => l.foldl rx (rds l d k)
theorem rxa_le (d : Nat → Nat) (x : Tri) (n : Nat) : rxa d x n ≤ d n := by
  unfold rxa upd
  split
  · next e => subst e; omega
  · exact Nat.le_refl _
theorem rxb_le (d : Nat → Nat) (x : Tri) (n : Nat) : rxb d x n ≤ d n := by
  unfold rxb upd
  split
  · next e => subst e; omega
  · exact Nat.le_refl _
theorem rx_le (d : Nat → Nat) (x : Tri) (n : Nat) : rx d x n ≤ d n := Nat.le_trans (rxb_le _ _ _) (rxa_le _ _ _)
theorem rx_one (d : Nat → Nat) (x : Tri) : rx d x x.1 ≤ d x.2.1 + x.2.2 := by
  refine Nat.le_trans (rxb_le _ _ _) ?_
  unfold rxa upd
  rw [if_pos rfl]; omega
theorem rx_two (d : Nat → Nat) (x : Tri) : rx d x x.2.1 ≤ d x.1 + x.2.2 := by
  have := rxa_le d x x.1
  show rxb (rxa d x) x x.2.1 ≤ _
  unfold rxb
  show upd _ _ _ _ ≤ _
  rw [upd, if_pos rfl]; omega
theorem fold_le : ∀ (l : List Tri) (d : Nat → Nat) (n : Nat), l.foldl rx d n ≤ d n
  | [], _, _ => Nat.le_refl _
  | x :: l, d, n => Nat.le_trans (fold_le l (rx d x) n) (rx_le d x n)
theorem fold_by : ∀ (l : List Tri) (d : Nat → Nat) (x : Tri), x ∈ l → l.foldl rx d x.1 ≤ d x.2.1 + x.2.2 ∧ l.foldl rx d x.2.1 ≤ d x.1 + x.2.2
  | [], _, _, h => by cases h
  | y :: l, d, x, h => by
    rcases List.mem_cons.1 h with rfl | h
    · exact ⟨Nat.le_trans (fold_le l _ _) (rx_one d x), Nat.le_trans (fold_le l _ _) (rx_two d x)⟩
    · obtain ⟨h1, h2⟩ := fold_by l (rx d y) x h
      exact ⟨Nat.le_trans h1 (Nat.add_le_add_right (rx_le d y _) _), Nat.le_trans h2 (Nat.add_le_add_right (rx_le d y _) _)⟩
theorem rx_low {c : Nat → Nat → Nat} (hc : Lk c) (f : Int) {d : Nat → Nat} {x : Tri} (h1 : x.1 < 6) (h2 : x.2.1 < 6) (h3 : x.2.2 = c x.1 x.2.1) (h4 : 0 < c x.1 x.2.1) (h : ∀ n, n < 6 → dst c f n ≤ d n) : ∀ n, n < 6 → dst c f n ≤ rx d x n := by
  have e1 := dst_edge c f h1 h2 h4
  have e2 := dst_edge c f h2 h1 (by rw [hc.sym]; exact h4)
  rw [hc.sym x.2.1 x.1] at e2
  have a : ∀ n, n < 6 → dst c f n ≤ rxa d x n := by
    intro n hn
    unfold rxa upd
    split
    · next e => subst e; have := h _ h1; have := h _ h2; omega
    · exact h n hn
  intro n hn
  show dst c f n ≤ rxb (rxa d x) x n
  unfold rxb
  rw [upd]
  split
  · next e => subst e; have := a _ h1; have := a _ h2; omega
  · exact a n hn
theorem fold_low {c : Nat → Nat → Nat} (hc : Lk c) (f : Int) : ∀ (l : List Tri) (d : Nat → Nat), (∀ x ∈ l, x.1 < 6 ∧ x.2.1 < 6 ∧ x.2.2 = c x.1 x.2.1 ∧ 0 < c x.1 x.2.1) → (∀ n, n < 6 → dst c f n ≤ d n) → ∀ n, n < 6 → dst c f n ≤ l.foldl rx d n
  | [], _, _, h => h
  | x :: l, d, hl, h => by
    obtain ⟨h1, h2, h3, h4⟩ := hl x (by simp)
    exact fold_low hc f l (rx d x) (fun y hy => hl y (List.mem_cons_of_mem _ hy)) (rx_low hc f h1 h2 h3 h4 h)
/-- The program's reckoning. -/
theorem rds_is {c : Nat → Nat → Nat} (hc : Lk c) (f : Int) {d : Nat → Nat} (h0 : ∀ n, n < 6 → d n = wk c f 0 n) : ∀ n, n < 6 → rds (allTo c 6) d 5 n = dst c f n := by
  have hm : ∀ x ∈ allTo c 6, x.1 < 6 ∧ x.2.1 < 6 ∧ x.2.2 = c x.1 x.2.1 ∧ 0 < c x.1 x.2.1 := fun x hx => by
    obtain ⟨h1, h2, h3, h4, h5⟩ := (all_mem c 6 (by omega) x).1 hx
    exact ⟨h1, h3, h4, h5⟩
  have low : ∀ k, ∀ n, n < 6 → dst c f n ≤ rds (allTo c 6) d k n := by
    intro k
    induction k with
    | zero => intro n hn; rw [rds, h0 n hn]; exact (dst_lm c f).le 0 n hn
    | succ k ih => exact fold_low hc f _ _ hm ih
  have up : ∀ k, ∀ n, n < 6 → rds (allTo c 6) d k n ≤ wk c f k n := by
    intro k
    induction k with
    | zero => intro n hn; rw [rds, h0 n hn]; exact Nat.le_refl _
    | succ k ih =>
      intro n hn
      rw [rds, wk]
      rcases via_is c (wk c f k) n 6 with h | ⟨i, h1, h2, h3⟩
      · rw [h]; exact Nat.le_trans (fold_le _ _ _) (ih n hn)
      · rw [h3]
        have hi := ih i h1
        by_cases e : i < n
        · have := (fold_by (allTo c 6) (rds (allTo c 6) d k) (i, n, c i n) ((all_mem c 6 (by omega) _).2 ⟨h1, e, hn, rfl, h2⟩)).2
          simp only at this
          omega
        · have e2 : n < i := by
            rcases Nat.lt_or_eq_of_le (Nat.le_of_not_lt e) with h | h
            · exact h
            · subst h; rw [hc.self] at h2; omega
          have := (fold_by (allTo c 6) (rds (allTo c 6) d k) (n, i, c n i) ((all_mem c 6 (by omega) _).2 ⟨hn, e2, h1, rfl, by rw [hc.sym]; exact h2⟩)).1
          simp only at this
          rw [hc.sym n i] at this
          omega
  exact dst_is c f (Nat.le_refl 5) (low 5) (up 5)
theorem rds_le {l : List Tri} {d : Nat → Nat} : ∀ k n, rds l d k n ≤ d n
  | 0, _ => Nat.le_refl _
  | k + 1, n => Nat.le_trans (fold_le l _ n) (rds_le k n)

/-- The reference's. -/
def ry (c : Nat → Nat → Nat) (d : Nat → Nat) (a b : Nat) : Nat → Nat := if 0 < c a b ∧ d a < 200 ∧ d a + c a b < d b then upd d b (d a + c a b) else d
def ryr (c : Nat → Nat → Nat) (d : Nat → Nat) (a : Nat) : Nat → Nat → Nat
  | 0 => d
  | j + 1 => ry c (ryr c d a j) a j
def rys (c : Nat → Nat → Nat) (d : Nat → Nat) : Nat → Nat → Nat
  | 0 => d
  | i + 1 => ryr c (rys c d i) i 6
def rdy (c : Nat → Nat → Nat) (d : Nat → Nat) : Nat → Nat → Nat
  | 0 => d
  | k + 1 => rys c (rdy c d k) 6
theorem ry_le (c : Nat → Nat → Nat) (d : Nat → Nat) (a b n : Nat) : ry c d a b n ≤ d n := by
  unfold ry upd
  split
  · next h =>
    show (if n = b then _ else _) ≤ _
    split
    · next e => subst e; omega
    · exact Nat.le_refl _
  · exact Nat.le_refl _
theorem ry_by (c : Nat → Nat → Nat) (d : Nat → Nat) (a b : Nat) (hd : d b ≤ 200) (hc : 0 < c a b) : ry c d a b b ≤ d a + c a b := by
  unfold ry upd
  split
  · show (if b = b then _ else _) ≤ _
    rw [if_pos rfl]; exact Nat.le_refl _
  · next h => omega
theorem ry_low (c : Nat → Nat → Nat) (f : Int) {d : Nat → Nat} {a b : Nat} (ha : a < 6) (hb : b < 6) (h : ∀ n, n < 6 → dst c f n ≤ d n) : ∀ n, n < 6 → dst c f n ≤ ry c d a b n := by
  intro n hn
  unfold ry upd
  split
  · next e =>
    show _ ≤ (if n = b then _ else _)
    split
    · next q => subst q; have := dst_edge c f ha hb e.1; have := h a ha; omega
    · exact h n hn
  · exact h n hn
theorem ryr_le (c : Nat → Nat → Nat) (d : Nat → Nat) (a : Nat) : ∀ j n, ryr c d a j n ≤ d n
  | 0, _ => Nat.le_refl _
  | j + 1, n => Nat.le_trans (ry_le c _ a j n) (ryr_le c d a j n)
theorem ryr_low (c : Nat → Nat → Nat) (f : Int) {d : Nat → Nat} {a : Nat} (ha : a < 6) (h : ∀ n, n < 6 → dst c f n ≤ d n) : ∀ j, j ≤ 6 → ∀ n, n < 6 → dst c f n ≤ ryr c d a j n
  | 0, _ => h
  | j + 1, hj => ry_low c f ha (by omega) (ryr_low c f ha h j (by omega))
theorem ryr_by (c : Nat → Nat → Nat) (d : Nat → Nat) (a : Nat) : ∀ j b, b < j → d b ≤ 200 → 0 < c a b → ryr c d a j b ≤ d a + c a b
  | 0, b, h, _, _ => by omega
  | j + 1, b, h, hd, hc => by
    by_cases e : b = j
    · subst e
      have h1 := ryr_le c d a b b
      have h2 := ry_by c (ryr c d a b) a b (by omega) hc
      have h3 := ryr_le c d a b a
      rw [ryr]; omega
    · exact Nat.le_trans (ry_le c _ a j b) (ryr_by c d a j b (by omega) hd hc)
theorem rys_le (c : Nat → Nat → Nat) (d : Nat → Nat) : ∀ i n, rys c d i n ≤ d n
  | 0, _ => Nat.le_refl _
  | i + 1, n => Nat.le_trans (ryr_le c _ i 6 n) (rys_le c d i n)
theorem rys_low (c : Nat → Nat → Nat) (f : Int) {d : Nat → Nat} (h : ∀ n, n < 6 → dst c f n ≤ d n) : ∀ i, i ≤ 6 → ∀ n, n < 6 → dst c f n ≤ rys c d i n
  | 0, _ => h
  | i + 1, hi => ryr_low c f (by omega) (rys_low c f h i (by omega)) 6 (Nat.le_refl _)
theorem rys_by (c : Nat → Nat → Nat) (d : Nat → Nat) : ∀ i a b, a < i → b < 6 → d b ≤ 200 → 0 < c a b → rys c d i b ≤ d a + c a b
  | 0, a, b, h, _, _, _ => by omega
  | i + 1, a, b, h, hb, hd, hc => by
    by_cases e : a = i
    · subst e
      have h1 := rys_le c d a b
      have h2 := ryr_by c (rys c d a) a 6 b hb (by omega) hc
      have h3 := rys_le c d a a
      rw [rys]; omega
    · exact Nat.le_trans (ryr_le c _ i 6 b) (rys_by c d i a b (by omega) hb hd hc)
theorem rdy_le (c : Nat → Nat → Nat) (d : Nat → Nat) : ∀ k n, rdy c d k n ≤ d n
  | 0, _ => Nat.le_refl _
  | k + 1, n => Nat.le_trans (rys_le c _ 6 n) (rdy_le c d k n)
theorem rdy_is (c : Nat → Nat → Nat) (f : Int) {d : Nat → Nat} (h0 : ∀ n, n < 6 → d n = wk c f 0 n) : ∀ n, n < 6 → rdy c d 6 n = dst c f n := by
  have low : ∀ k, ∀ n, n < 6 → dst c f n ≤ rdy c d k n := by
    intro k
    induction k with
    | zero => intro n hn; rw [rdy, h0 n hn]; exact (dst_lm c f).le 0 n hn
    | succ k ih => exact rys_low c f ih 6 (Nat.le_refl _)
  have up : ∀ k, ∀ n, n < 6 → rdy c d k n ≤ wk c f k n := by
    intro k
    induction k with
    | zero => intro n hn; rw [rdy, h0 n hn]; exact Nat.le_refl _
    | succ k ih =>
      intro n hn
      rw [rdy, wk]
      rcases via_is c (wk c f k) n 6 with h | ⟨i, h1, h2, h3⟩
      · rw [h]; exact Nat.le_trans (rys_le c _ 6 n) (ih n hn)
      · rw [h3]
        have hi := ih i h1
        have hl := ih n hn
        have hw := wk_le c f k n
        have := rys_by c (rdy c d k) 6 i n h1 hn (by omega) h2
        omega
  exact dst_is c f (by omega) (low 6) (up 6)

end Go.Proofs.YtcgflhjgllpohafGreatDoor

/- A NET THAT SETTLES, AS NUMBERS: what one hears of one end when another one tells it all. No Go here. -/
namespace Go.Proofs.YtcgflhjgllpohafGreatDoor

/-- Of the end z two nodes know the same. -/
structure ZEq (m x : Md) (z : Nat) : Prop where
  cost : m.cost = x.cost
  me : m.me = x.me
  heard : ∀ j, m.heard j z = x.heard j z
  ways : m.ways z = x.ways z
  bests : m.bests z = x.bests z
theorem ZEq.refl (m : Md) (z : Nat) : ZEq m m z := ⟨rfl, rfl, fun _ => rfl, rfl, rfl⟩
theorem ZEq.trans {a b c : Md} {z : Nat} (h : ZEq a b z) (k : ZEq b c z) : ZEq a c z := ⟨h.cost.trans k.cost, h.me.trans k.me, fun j => (h.heard j).trans (k.heard j), h.ways.trans k.ways, h.bests.trans k.bests⟩
theorem look_zeq {m x : Md} {z : Nat} (h : ZEq m x z) : ZEq (lookM m z) (lookM x z) z := by
  have hp : pkD m z 6 = pkD x z 6 := pkD_congr h.cost h.heard h.bests 6
  refine ⟨by rw [look_cost, look_cost]; exact h.cost, by rw [look_me, look_me]; exact h.me, fun j => by rw [look_heard, look_heard]; exact h.heard j, ?_, ?_⟩
  · unfold lookM
    by_cases e : z = m.me
    · rw [if_pos e, if_pos (by rw [← h.me]; exact e)]; exact h.ways
    · have e' : ¬ z = x.me := by rw [← h.me]; exact e
      rw [if_neg e, if_neg e']
      dsimp only
      rw [updW_same, updW_same, hp]
  · unfold lookM
    by_cases e : z = m.me
    · rw [if_pos e, if_pos (by rw [← h.me]; exact e)]; exact h.bests
    · have e' : ¬ z = x.me := by rw [← h.me]; exact e
      rw [if_neg e, if_neg e']
      dsimp only
      rw [hp, h.bests]
      split
      · rw [updW_same, updW_same]
      · exact h.bests
theorem heard_z (m : Md) (f z : Nat) (v : Int × Int) (j : Nat) : updW m.heard f (updW (m.heard f) z v) j z = if j = f then v else m.heard j z := by
  by_cases e : j = f
  · rw [e, updW_same, updW_same, if_pos rfl]
  · rw [updW_ne _ _ e, if_neg e]
theorem hear_zeq {m x : Md} {z : Nat} (h : ZEq m x z) (f : Nat) (s d : Int) : ZEq (hearM m f z s d) (hearM x f z s d) z := by
  unfold hearM
  refine look_zeq ⟨h.cost, h.me, fun j => ?_, h.ways, h.bests⟩
  show updW m.heard f (updW (m.heard f) z (s, d)) j z = updW x.heard f (updW (x.heard f) z (s, d)) j z
  rw [heard_z, heard_z, h.heard]
/-- News of another end change nothing. -/
theorem hear_far (m : Md) {f z k : Nat} (hne : z ≠ k) (s d : Int) : ZEq (hearM m f k s d) m z := by
  unfold hearM
  obtain ⟨h1, h2⟩ := look_other { m with heard := updW m.heard f (updW (m.heard f) k (s, d)) } hne
  refine ⟨look_cost _ _, look_me _ _, fun j => ?_, h1, h2⟩
  rw [look_heard]
  exact heard_other m hne (s, d) j
/-- All that one tells another one, of one end. -/
theorem tellAll_z (m : Md) (a : Nat) (w : Nat → Int × Int × Int) (z : Nat) : ∀ j, ZEq (tellAll m a w j) (if z < j then hearM m a z (w z).1 (w z).2.1 else m) z
  | 0 => by rw [if_neg (by omega)]; exact ZEq.refl _ _
  | j + 1 => by
    have ih := tellAll_z m a w z j
    rw [tellAll]
    by_cases e : j = z
    · subst e
      rw [if_neg (by omega)] at ih
      rw [if_pos (by omega)]
      exact hear_zeq ih a _ _
    · refine (hear_far _ (fun q => e q.symm) _ _).trans ?_
      by_cases q : z < j
      · rw [if_pos q] at ih; rw [if_pos (by omega)]; exact ih
      · rw [if_neg q] at ih; rw [if_neg (by omega)]; exact ih

/-- a tells b all, which is heard at once, if they are linked. -/
def tellTo (t : Tn) (a b : Nat) : Tn := if t.cst a b = 0 then t else { t with nd := updW t.nd b (tellAll (t.nd b) a (t.nd a).ways 6) }
def rowT (t : Tn) (a : Nat) : Nat → Tn
  | 0 => t
  | b + 1 => tellTo (rowT t a b) a b
def roundT (t : Tn) : Nat → Tn
  | 0 => t
  | a + 1 => rowT (roundT t a) a 6
def roundsT (t : Tn) : Nat → Tn
  | 0 => t
  | r + 1 => roundT (roundsT t r) 6
def tickT (t : Tn) (a : Nat) : Tn := { t with nd := updW t.nd a (tickM (t.nd a)) }
def tickTo (t : Tn) : Nat → Tn
  | 0 => t
  | n + 1 => tickT (tickTo t n) n
def settleT (t : Tn) (r : Nat) : Tn := roundsT (tickTo { t with news := [] } 6) r
theorem tickTo_news (t : Tn) : ∀ n, (tickTo t n).news = t.news
  | 0 => rfl
  | n + 1 => tickTo_news t n
theorem tickTo_nd (t : Tn) : ∀ n x, (tickTo t n).nd x = if x < n then tickM (t.nd x) else t.nd x
  | 0, x => by rw [if_neg (by omega)]; rfl
  | n + 1, x => by
    show updW (tickTo t n).nd n (tickM ((tickTo t n).nd n)) x = _
    by_cases e : x = n
    · subst e
      rw [updW_same, tickTo_nd t x x, if_neg (by omega), if_pos (by omega)]
    · rw [updW_ne _ _ e, tickTo_nd t n x]
      by_cases q : x < n
      · rw [if_pos q, if_pos (by omega)]
      · rw [if_neg q, if_neg (by omega)]
theorem tellTo_cst (t : Tn) (a b : Nat) : (tellTo t a b).cst = t.cst := by unfold tellTo; split <;> rfl
theorem rowT_cst (t : Tn) (a : Nat) : ∀ b, (rowT t a b).cst = t.cst
  | 0 => rfl
  | b + 1 => by rw [rowT, tellTo_cst, rowT_cst t a b]
theorem roundT_cst (t : Tn) : ∀ a, (roundT t a).cst = t.cst
  | 0 => rfl
  | a + 1 => by rw [roundT, rowT_cst, roundT_cst t a]
theorem roundsT_cst (t : Tn) : ∀ r, (roundsT t r).cst = t.cst
  | 0 => rfl
  | r + 1 => by rw [roundsT, roundT_cst, roundsT_cst t r]
theorem tellTo_news (t : Tn) (a b : Nat) : (tellTo t a b).news = t.news := by unfold tellTo; split <;> rfl
theorem rowT_news (t : Tn) (a : Nat) : ∀ b, (rowT t a b).news = t.news
  | 0 => rfl
  | b + 1 => by rw [rowT, tellTo_news, rowT_news t a b]
theorem roundT_news (t : Tn) : ∀ a, (roundT t a).news = t.news
  | 0 => rfl
  | a + 1 => by rw [roundT, rowT_news, roundT_news t a]
theorem roundsT_news (t : Tn) : ∀ r, (roundsT t r).news = t.news
  | 0 => rfl
  | r + 1 => by rw [roundsT, roundT_news, roundsT_news t r]
theorem settleT_news (t : Tn) (r : Nat) : (settleT t r).news = [] := (roundsT_news _ r).trans (tickTo_news _ 6)
/-- What holds at the beginning, and is kept when linked ones tell each other, holds behind the rounds. -/
theorem rounds_keep {P : Tn → Prop} (h : ∀ t a b, a < 6 → b < 6 → P t → t.cst a b ≠ 0 → P (tellTo t a b)) {t : Tn} (h0 : P t) : ∀ r, P (roundsT t r) := by
  have one : ∀ t a b, a < 6 → b < 6 → P t → P (tellTo t a b) := fun t a b ha hb hp => by
    by_cases e : t.cst a b = 0
    · unfold tellTo; rw [if_pos e]; exact hp
    · exact h t a b ha hb hp e
  have row : ∀ a, a < 6 → ∀ t, P t → ∀ b, b ≤ 6 → P (rowT t a b) := by
    intro a ha t hp b
    induction b with
    | zero => exact fun _ => hp
    | succ b ih => exact fun hb => one _ a b ha (by omega) (ih (by omega))
  have rnd : ∀ t, P t → ∀ a, a ≤ 6 → P (roundT t a) := by
    intro t hp a
    induction a with
    | zero => exact fun _ => hp
    | succ a ih => exact fun ha => row a (by omega) _ (ih (by omega)) 6 (Nat.le_refl _)
  intro r
  induction r with
  | zero => exact h0
  | succ r ih => exact rnd _ ih 6 (Nat.le_refl _)

end Go.Proofs.YtcgflhjgllpohafGreatDoor
