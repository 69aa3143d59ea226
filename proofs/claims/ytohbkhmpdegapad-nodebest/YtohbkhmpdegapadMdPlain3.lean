/- A NODE, AS NUMBERS: a new one that is told all learns all. No Go here. -/
import Derived.Test.YtohbkhmpdegapadMdPlain2
namespace Go.Proofs.Ytohbkhmpdegapad

/-- What a new one, linked for c with 'me', has of the way w that is told it. -/
def tgt (me : Nat) (c : Int) (w : Int × Int × Int) : Int × Int × Int := if w.2.1 + c < 200 then (w.1, w.2.1 + c, (me : Int)) else (0, 200, -1)
/-- Behind the first j news. -/
structure Lrn (x : Md) (who me : Nat) (c : Int) (w : Nat → Int × Int × Int) (j : Nat) : Prop where
  mine : x.me = who
  cost : ∀ f, x.cost f = if f = me then c else 0
  heard : ∀ f k, x.heard f k = if f = me ∧ k < j then ((w k).1, (w k).2.1) else (0, 200)
  old : ∀ k, k ≠ who → k < j → x.ways k = tgt me c (w k)
  new : ∀ k, k ≠ who → j ≤ k → x.ways k = (0, 200, -1) ∧ x.bests k = (0, 200)
  self : x.ways who = (0, 0, (who : Int))
theorem pick_none {m : Md} {to : Nat} (h : ∀ j, j < 6 → mayB m to j = false) : pkD m to 6 = ((m.bests to).1, 200, -1) := (pkD_is m to).unique (.inr ⟨h, rfl⟩)
theorem look_none {m : Md} {to : Nat} (h : ∀ j, j < 6 → mayB m to j = false) (hne : to ≠ m.me) : (lookM m to).ways to = ((m.bests to).1, 200, -1) ∧ (lookM m to).bests to = m.bests to := by
  have hp := pick_none h
  unfold lookM
  rw [if_neg hne]
  dsimp only
  rw [updW_same, hp]
  refine ⟨rfl, ?_⟩
  rw [if_neg (by simp)]
theorem look_one {m : Md} {to f : Nat} (hf : f < 6) (hm : mayB m to f = true) (h : ∀ j, j < 6 → j ≠ f → mayB m to j = false) (hne : to ≠ m.me) : (lookM m to).ways to = wayBy m to f := by
  have hp : pkD m to 6 = wayBy m to f := (pkD_is m to).unique (.inl ⟨f, hf, hm, rfl, fun j hj mj => by
    have e : j = f := Classical.byContradiction fun e => by rw [h j hj e] at mj; cases mj
    subst e
    exact ⟨bet_refl _ _, fun _ => Nat.le_refl _⟩⟩)
  unfold lookM
  rw [if_neg hne]
  dsimp only
  rw [updW_same, hp]
theorem learn_start {who me : Nat} {c : Int} (_ : me ≠ who) (hc0 : 1 ≤ c) (w : Nat → Int × Int × Int) : Lrn (linkM (newM who) me c) who me c w 0 := by
  obtain ⟨m1, hm1⟩ : ∃ m1 : Md, m1 = { newM who with cost := updW (newM who).cost me c, heard := if c = 0 then updW (newM who).heard me (fun _ => (0, 200)) else (newM who).heard } := ⟨_, rfl⟩
  have el : linkM (newM who) me c = lookTo m1 6 := by rw [hm1]; rfl
  have me1 : m1.me = who := by rw [hm1]; rfl
  have c1 : ∀ f, m1.cost f = if f = me then c else 0 := fun f => by rw [hm1]; rfl
  have h1 : ∀ f k, m1.heard f k = (0, 200) := fun f k => by rw [hm1]; dsimp only; rw [if_neg (by omega)]; rfl
  have w1 : ∀ k, k ≠ who → m1.ways k = (0, 200, -1) ∧ m1.bests k = (0, 200) := fun k hk => by
    rw [hm1]
    unfold newM
    dsimp only
    exact ⟨updW_ne _ _ hk, updW_ne _ _ hk⟩
  have s1 : m1.ways who = (0, 0, (who : Int)) := by rw [hm1]; unfold newM; dsimp only; exact updW_same _ _ _
  have key : ∀ n k, k ≠ who → (lookTo m1 n).ways k = (0, 200, -1) ∧ (lookTo m1 n).bests k = (0, 200) := by
    intro n
    induction n with
    | zero => exact w1
    | succ n ih =>
      intro k hk
      obtain ⟨e1, e2, e3, _, _⟩ := lookTo_all m1 n
      by_cases e : k = n
      · subst e
        have hn : ∀ j, j < 6 → mayB (lookTo m1 k) k j = false := fun j _ => by
          cases q : mayB (lookTo m1 k) k j
          · rfl
          · obtain ⟨_, q2, _⟩ := may_iff.1 q
            rw [e3, e2, h1, c1] at q2
            simp only at q2
            split at q2 <;> omega
        obtain ⟨a, b⟩ := look_none hn (by rw [e1, me1]; exact hk)
        rw [lookTo, a, b, (ih k hk).2]
        exact ⟨rfl, rfl⟩
      · obtain ⟨o1, o2⟩ := look_other (lookTo m1 n) e
        rw [lookTo, o1, o2]
        exact ih k hk
  obtain ⟨e1, e2, e3, e4, _⟩ := lookTo_all m1 6
  rw [el]
  refine ⟨by rw [e1, me1], fun f => by rw [e2]; exact c1 f, fun f k => by rw [e3, h1, if_neg (by omega)], fun k _ h => by omega, fun k hk _ => key 6 k hk, ?_⟩
  rw [me1] at e4
  rw [e4]; exact s1
theorem learn_step {x : Md} {who me : Nat} {c : Int} {w : Nat → Int × Int × Int} {j : Nat} (h : Lrn x who me c w j) (hm : me < 6) (hc0 : 1 ≤ c) (hs : 0 ≤ (w j).1) (hd : (w j).2.1 + c < 200 → (w j).2.1 < 200) :
    Lrn (hearM x me j (w j).1 (w j).2.1) who me c w (j + 1) := by
  obtain ⟨m1, hm1⟩ : ∃ m1 : Md, m1 = { x with heard := updW x.heard me (updW (x.heard me) j ((w j).1, (w j).2.1)) } := ⟨_, rfl⟩
  have el : hearM x me j (w j).1 (w j).2.1 = lookM m1 j := by rw [hm1]; rfl
  have me1 : m1.me = who := by rw [hm1]; exact h.mine
  have c1 : ∀ f, m1.cost f = if f = me then c else 0 := fun f => by rw [hm1]; exact h.cost f
  have w1 : m1.ways = x.ways := by rw [hm1]
  have b1 : m1.bests = x.bests := by rw [hm1]
  have h1 : ∀ f k, m1.heard f k = if f = me ∧ k < j + 1 then ((w k).1, (w k).2.1) else (0, 200) := fun f k => by
    rw [hm1]
    show updW x.heard me (updW (x.heard me) j ((w j).1, (w j).2.1)) f k = _
    unfold updW
    by_cases e : f = me
    · rw [if_pos e]
      by_cases e2 : k = j
      · rw [if_pos e2, if_pos ⟨e, by omega⟩, e2]
      · rw [if_neg e2, h.heard]
        by_cases e3 : k < j
        · rw [if_pos ⟨rfl, e3⟩, if_pos ⟨e, by omega⟩]
        · rw [if_neg (fun q => e3 q.2), if_neg (fun q => by omega)]
    · rw [if_neg e, h.heard, if_neg (fun q => e q.1), if_neg (fun q => e q.1)]
  rw [el]
  refine ⟨by rw [look_me, me1], fun f => by rw [look_cost]; exact c1 f, fun f k => by rw [look_heard]; exact h1 f k, fun k hk hlt => ?_, fun k hk hle => ?_, ?_⟩
  · by_cases e : k = j
    · subst e
      have hb := (h.new k hk (Nat.le_refl _)).2
      have hno : ∀ f, f ≠ me → mayB m1 k f = false := fun f hf => by
        cases q : mayB m1 k f
        · rfl
        · obtain ⟨q1, _, _⟩ := may_iff.1 q
          rw [c1, if_neg hf] at q1
          exact absurd rfl q1
      have hh : m1.heard me k = ((w k).1, (w k).2.1) := by rw [h1, if_pos ⟨rfl, by omega⟩]
      have hcm : m1.cost me = c := by rw [c1, if_pos rfl]
      unfold tgt
      by_cases hlt2 : (w k).2.1 + c < 200
      · rw [if_pos hlt2]
        have hmay : mayB m1 k me = true := may_iff.2 ⟨by rw [hcm]; omega, by rw [hh, hcm]; exact hlt2, by
          rw [hh, b1, hb, bet_iff]
          have := hd hlt2
          simp only
          omega⟩
        rw [look_one hm hmay (fun f _ hf => hno f hf) (by rw [me1]; exact hk)]
        unfold wayBy
        rw [hh, hcm]
      · rw [if_neg hlt2]
        have hall : ∀ f, f < 6 → mayB m1 k f = false := fun f _ => by
          by_cases e : f = me
          · subst e
            cases q : mayB m1 k f
            · rfl
            · obtain ⟨_, q2, _⟩ := may_iff.1 q
              rw [hh, hcm] at q2
              exact absurd q2 hlt2
          · exact hno f e
        rw [(look_none hall (by rw [me1]; exact hk)).1, b1, hb]
    · rw [(look_other m1 e).1, w1]
      exact h.old k hk (by omega)
  · obtain ⟨o1, o2⟩ := look_other m1 (to := j) (k := k) (by omega)
    rw [o1, o2, w1, b1]
    exact h.new k hk (by omega)
  · have := (look_self m1 j).1
    rw [me1] at this
    rw [this, w1]; exact h.self
/-- All that a node tells, one behind the other. -/
def tellAll (x : Md) (me : Nat) (w : Nat → Int × Int × Int) : Nat → Md
  | 0 => x
  | j + 1 => hearM (tellAll x me w j) me j (w j).1 (w j).2.1
theorem way_seq {m : Md} (h : MdOk m) {k : Nat} (hk : k < 6) (hd : (m.ways k).2.2 ≠ -1) : 0 ≤ (m.ways k).1 ∧ 0 ≤ (m.ways k).2.1 ∧ (m.ways k).2.1 < 200 := by
  by_cases e : k = m.me
  · obtain ⟨s, h0, hw, _⟩ := h.self
    rw [e, hw]; simp only; omega
  · obtain ⟨j, hj, hw, hc, hlt, _⟩ := (h.way k hk e).by_ hd e
    have h1 := h.said j k
    have h2 := h.cost j
    rw [hw]
    unfold wayBy
    simp only
    omega
theorem learns {m : Md} (h : MdOk m) {who : Nat} {c : Int} (hw : ∀ k, k < 6 → 0 ≤ (m.ways k).1) (hne : m.me ≠ who) (hc0 : 1 ≤ c) : ∀ j, j ≤ 6 → Lrn (tellAll (linkM (newM who) m.me c) m.me m.ways j) who m.me c m.ways j
  | 0, _ => learn_start hne hc0 _
  | j + 1, hj => learn_step (learns h hw hne hc0 j (by omega)) h.me hc0 (hw j (by omega)) (fun q => by omega)

end Go.Proofs.Ytohbkhmpdegapad
