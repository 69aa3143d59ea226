import Derived.Test.YtfcknkanbcndjagGreatDoorNdPlain
/- A NET, AS NUMBERS: each step keeps what makes ways straight. No Go here. -/
namespace Go.Proofs.YtfcknkanbcndjagGreatDoor

def newT : Tn := { cst := fun _ _ => 0, nd := newM, news := [] }
/-- Nothing was said: that is better than no best. -/
theorem MdX.nothing {m : Md} (h : MdX m) (k : Nat) : bet 0 200 (m.bests k).1 (m.bests k).2 = false := by
  have h1 := h.ok.best k
  have h2 := (h.b200 k).2
  rw [bet_not]; omega
theorem new_t : TnOk newT := by
  refine ⟨fun a ha => ⟨new_x ha, rfl⟩, fun a f k ha hf hk => ?_, fun x hx => (by cases hx), fun a b _ _ => rfl⟩
  exact (new_x hf).nothing k
/-- Fewer news, or some of them twice. -/
theorem TnOk.sub {t : Tn} (h : TnOk t) {nw : List Nw} (hn : ∀ x ∈ nw, x ∈ t.news) : TnOk { t with news := nw } :=
  ⟨h.node, h.heard, fun x hx => h.news x (hn x hx), h.cost⟩
/-- All that a tells b. -/
def tellT (t : Tn) (a b : Nat) : List Nw := (List.range 6).map fun k => ⟨a, b, k, ((t.nd a).ways k).1, ((t.nd a).ways k).2.1⟩
theorem tellT_mem {t : Tn} (h : TnOk t) {a b : Nat} (ha : a < 6) (hb : b < 6) (hne : a ≠ b) : ∀ x ∈ tellT t a b, x.f < 6 ∧ x.g < 6 ∧ x.f ≠ x.g ∧ x.to < 6 ∧ 0 ≤ x.s ∧ 0 ≤ x.d ∧ x.d ≤ 200 ∧ bet x.s x.d ((t.nd x.f).bests x.to).1 ((t.nd x.f).bests x.to).2 = false := by
  intro x hx
  obtain ⟨k, hk, rfl⟩ := List.mem_map.1 hx
  have hk6 := List.mem_range.1 hk
  obtain ⟨h1, h2, h3, h4⟩ := (h.node a ha).1.tells hk6
  exact ⟨ha, hb, hne, hk6, h2, h3, h4, h1⟩
theorem TnOk.tell {t : Tn} (h : TnOk t) {a b : Nat} (ha : a < 6) (hb : b < 6) (hne : a ≠ b) : TnOk { t with news := t.news ++ tellT t a b } := by
  refine ⟨h.node, h.heard, fun x hx => ?_, h.cost⟩
  rcases List.mem_append.1 hx with hx | hx
  · exact h.news x hx
  · exact tellT_mem h ha hb hne x hx
theorem TnOk.newsUp {t : Tn} (_ : TnOk t) {a : Nat} {m : Md} (hb : ∀ k, bet ((t.nd a).bests k).1 ((t.nd a).bests k).2 (m.bests k).1 (m.bests k).2 = false) {nw : List Nw} (hn : ∀ x ∈ nw, x.f < 6 ∧ x.g < 6 ∧ x.f ≠ x.g ∧ x.to < 6 ∧ 0 ≤ x.s ∧ 0 ≤ x.d ∧ x.d ≤ 200 ∧ bet x.s x.d ((t.nd x.f).bests x.to).1 ((t.nd x.f).bests x.to).2 = false) :
    ∀ x ∈ nw, x.f < 6 ∧ x.g < 6 ∧ x.f ≠ x.g ∧ x.to < 6 ∧ 0 ≤ x.s ∧ 0 ≤ x.d ∧ x.d ≤ 200 ∧ bet x.s x.d ((updW t.nd a m x.f).bests x.to).1 ((updW t.nd a m x.f).bests x.to).2 = false := by
  intro x hx
  obtain ⟨h1, h2, h3, h4, h5, h6, h7, h8⟩ := hn x hx
  refine ⟨h1, h2, h3, h4, h5, h6, h7, ?_⟩
  by_cases e : x.f = a
  · rw [e, updW_same]
    rw [e] at h8
    exact bet_trans h8 (hb x.to)
  · rw [updW_ne _ _ e]; exact h8
/-- A node hears what was said; whatever else is on its way stays. -/
theorem TnOk.hear {t : Tn} (h : TnOk t) {x : Nw} (hx : x.f < 6 ∧ x.g < 6 ∧ x.f ≠ x.g ∧ x.to < 6 ∧ 0 ≤ x.s ∧ 0 ≤ x.d ∧ x.d ≤ 200 ∧ bet x.s x.d ((t.nd x.f).bests x.to).1 ((t.nd x.f).bests x.to).2 = false) :
    TnOk { t with nd := updW t.nd x.g (hearM (t.nd x.g) x.f x.to x.s x.d) } := by
  obtain ⟨h1, h2, h3, h4, h5, h6, h7, h8⟩ := hx
  obtain ⟨hX, hme⟩ := h.node x.g h2
  have hk := hear_ok hX.ok (f := x.f) (to := x.to) h5 h6 h7
  refine h.one h2 (hear_x hX h5 h6 h7) ((look_me _ _).trans hme) hk.2 (fun f k hf hk6 => ?_) (h.newsUp hk.2 h.news) (fun b c hb hc => ?_)
  · have e : (hearM (t.nd x.g) x.f x.to x.s x.d).heard f k = if f = x.f ∧ k = x.to then (x.s, x.d) else (t.nd x.g).heard f k := by
      unfold hearM
      rw [look_heard]
      show updW (t.nd x.g).heard x.f (updW ((t.nd x.g).heard x.f) x.to (x.s, x.d)) f k = _
      unfold updW
      by_cases e : f = x.f
      · rw [if_pos e]
        by_cases e2 : k = x.to
        · rw [if_pos e2, if_pos ⟨e, e2⟩]
        · rw [if_neg e2, if_neg (fun q => e2 q.2), e]
      · rw [if_neg e, if_neg (fun q => e q.1)]
    rw [e]
    split
    · next q => rw [q.1, q.2]; exact h8
    · exact h.heard x.g f k h2 hf hk6
  · by_cases e : b = x.g
    · subst e
      rw [updW_same]
      show (lookM _ _).cost c = _
      rw [look_cost]
      exact h.cost x.g c hb hc
    · rw [updW_ne _ _ e]; exact h.cost b c hb hc
theorem TnOk.tick {t : Tn} (h : TnOk t) {a : Nat} (ha : a < 6) : TnOk { t with nd := updW t.nd a (tickM (t.nd a)) } := by
  obtain ⟨hX, hme⟩ := h.node a ha
  have hk := tick_ok hX.ok
  refine h.one ha (tick_x hX) hme hk.2 (fun f k hf hk6 => h.heard a f k ha hf hk6) (h.newsUp hk.2 h.news) (fun b c hb hc => ?_)
  by_cases e : b = a
  · subst e
    rw [updW_same]; exact h.cost b c hb hc
  · rw [updW_ne _ _ e]; exact h.cost b c hb hc
def cstUp (cst : Nat → Nat → Int) (a b : Nat) (c : Int) : Nat → Nat → Int := fun i j => if i = a ∧ j = b then c else cst i j
theorem linkT_heard (m : Md) (who : Nat) (c : Int) (f k : Nat) : (linkM m who c).heard f k = if c = 0 ∧ f = who then (0, 200) else m.heard f k := by
  unfold linkM
  rw [(lookTo_all _ 6).2.2.1]
  dsimp only
  by_cases e : c = 0
  · rw [if_pos e]
    unfold updW
    by_cases e2 : f = who
    · rw [if_pos e2, if_pos ⟨e, e2⟩]
    · rw [if_neg e2, if_neg (fun q => e2 q.2)]
  · rw [if_neg e, if_neg (fun q => e q.1)]
theorem linkT_cost (m : Md) (who : Nat) (c : Int) (k : Nat) : (linkM m who c).cost k = if k = who then c else m.cost k := by
  unfold linkM
  rw [(lookTo_all _ 6).2.1]
  rfl
/-- One of the two knows that they are linked, for so much. -/
theorem TnOk.link {t : Tn} (h : TnOk t) {a b : Nat} {c : Int} (ha : a < 6) (hc0 : 0 ≤ c) (hc : c ≤ 15) : TnOk { t with cst := cstUp t.cst a b c, nd := updW t.nd a (linkM (t.nd a) b c) } := by
  obtain ⟨hX, hme⟩ := h.node a ha
  have hk := link_ok hX.ok (who := b) hc0 hc
  refine h.one ha (link_x hX hc0 hc) ((lookTo_all _ 6).1.trans hme) hk.2 (fun f k hf hk6 => ?_) (h.newsUp hk.2 h.news) (fun i j hi hj => ?_)
  · rw [linkT_heard]
    split
    · exact (h.node f hf).1.nothing k
    · exact h.heard a f k ha hf hk6
  · unfold cstUp
    by_cases e : i = a
    · subst e
      rw [updW_same, linkT_cost]
      by_cases e2 : j = b
      · rw [if_pos e2, if_pos ⟨rfl, e2⟩]
      · rw [if_neg e2, if_neg (fun q => e2 q.2)]
        exact h.cost i j hi hj
    · rw [updW_ne _ _ e, if_neg (fun q => e q.1)]
      exact h.cost i j hi hj

end Go.Proofs.YtfcknkanbcndjagGreatDoor

/- IT SETTLES, AS NUMBERS: where no way leads, none is said: what is told comes from ever better bests, and there are but six. No Go here. -/
namespace Go.Proofs.YtfcknkanbcndjagGreatDoor

end Go.Proofs.YtfcknkanbcndjagGreatDoor

/- IT SETTLES, AS NUMBERS: a node that hears the least of the youngest has the least. No Go here. -/
namespace Go.Proofs.YtfcknkanbcndjagGreatDoor

end Go.Proofs.YtfcknkanbcndjagGreatDoor

/- LINKS AS NUMBERS: what they cost, and how far it is. No Go here. -/
namespace Go.Proofs.YtfcknkanbcndjagGreatDoor

/-- Costs of links: the same from both ends, none of a node with itself. -/
structure Lk (c : Nat → Nat → Nat) : Prop where
  sym : ∀ a b, c a b = c b a
  self : ∀ a, c a a = 0
  le : ∀ a b, c a b ≤ 15

/-- The least of d n and of what comes by the first j nodes. -/
def via (c : Nat → Nat → Nat) (d : Nat → Nat) (n : Nat) : Nat → Nat
  | 0 => d n
  | j + 1 => if 0 < c j n ∧ d j + c j n < via c d n j then d j + c j n else via c d n j
/-- The least cost of a way of at most k links. -/
def wk (c : Nat → Nat → Nat) (f : Int) : Nat → Nat → Nat
  | 0, n => if (n : Int) = f then 0 else 200
  | k + 1, n => via c (wk c f k) n 6

theorem six {n : Nat} (h : n < 6) : n = 0 ∨ n = 1 ∨ n = 2 ∨ n = 3 ∨ n = 4 ∨ n = 5 := by omega
/-- How far it is. -/
def dst (c : Nat → Nat → Nat) (f : Int) (n : Nat) : Nat := wk c f 5 n
/-- Another cost of one link. -/
def setC (c : Nat → Nat → Nat) (a b v : Nat) : Nat → Nat → Nat := fun i j => if (i = a ∧ j = b) ∨ (i = b ∧ j = a) then v else c i j
theorem Lk.set {c : Nat → Nat → Nat} (h : Lk c) {a b v : Nat} (hne : a ≠ b) (hv : v ≤ 15) : Lk (setC c a b v) := by
  refine ⟨fun i j => ?_, fun i => ?_, fun i j => ?_⟩
  · unfold setC
    rw [h.sym i j]
    by_cases e : (i = a ∧ j = b) ∨ (i = b ∧ j = a)
    · rw [if_pos e, if_pos (by omega)]
    · rw [if_neg e, if_neg (by omega)]
  · unfold setC
    rw [if_neg (by omega)]; exact h.self i
  · unfold setC
    split
    · exact hv
    · exact h.le i j
theorem lk_zero : Lk (fun _ _ => 0) := ⟨fun _ _ => rfl, fun _ => rfl, fun _ _ => by omega⟩
end Go.Proofs.YtfcknkanbcndjagGreatDoor

/- LINKS AS LISTS, AND BOTH WAYS TO RECKON HOW FAR IT IS. No Go here. -/
namespace Go.Proofs.YtfcknkanbcndjagGreatDoor

/-- Those with which a is linked, of the first j. -/
def ofTo (c : Nat → Nat → Nat) (a : Nat) : Nat → List Nat
  | 0 => []
  | j + 1 => ofTo c a j ++ (if c a j = 0 then [] else [j])

theorem of_len (c : Nat → Nat → Nat) (a : Nat) : ∀ j, (ofTo c a j).length ≤ j
  | 0 => Nat.le_refl _
  | j + 1 => by
    have := of_len c a j
    rw [ofTo, List.length_append]
    split <;> simp <;> omega

end Go.Proofs.YtfcknkanbcndjagGreatDoor

/- A NET THAT SETTLES, AS NUMBERS: what one hears of one end when another one tells it all. No Go here. -/
namespace Go.Proofs.YtfcknkanbcndjagGreatDoor

def tickT (t : Tn) (a : Nat) : Tn := { t with nd := updW t.nd a (tickM (t.nd a)) }
end Go.Proofs.YtfcknkanbcndjagGreatDoor
