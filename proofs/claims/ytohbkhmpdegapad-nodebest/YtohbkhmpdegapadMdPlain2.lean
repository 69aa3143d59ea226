/- A NODE, AS NUMBERS: whatever it hears, the best is never worse, and each way is as its neighbour said. No Go here. -/
import Derived.Test.YtohbkhmpdegapadMdPlain
namespace Go.Proofs.Ytohbkhmpdegapad

structure MdOk (m : Md) : Prop where
  me : m.me < 6
  cost : ∀ j, 0 ≤ m.cost j ∧ m.cost j ≤ 15
  said : ∀ j k, 0 ≤ (m.heard j k).1 ∧ 0 ≤ (m.heard j k).2 ∧ (m.heard j k).2 ≤ 200
  best : ∀ k, 0 ≤ (m.bests k).1
  self : ∃ s, 0 ≤ s ∧ m.ways m.me = (s, 0, (m.me : Int)) ∧ m.bests m.me = (s, 0)
  way : ∀ k, k < 6 → k ≠ m.me → WayOk m k
theorem WayOk.keep {m m' : Md} {k : Nat} (h : WayOk m k) (e1 : m'.ways k = m.ways k) (e2 : m'.bests k = m.bests k) (e3 : m'.cost = m.cost) (e4 : ∀ j, m'.heard j k = m.heard j k) (e5 : m'.me = m.me) : WayOk m' k := by
  refine ⟨fun e => ?_, fun e => ?_, fun e hk => ?_⟩
  · rw [e1] at e ⊢; exact h.drop e
  · rw [e1] at e; rw [e1, e2]; exact h.notBetter e
  · rw [e1] at e
    rw [e5] at hk
    obtain ⟨j, hj, hw, hc, hd, hb⟩ := h.by_ e hk
    refine ⟨j, hj, ?_, ?_, ?_, ?_⟩
    · rw [e1, hw]; unfold wayBy; rw [e3, e4]
    · rw [e3]; exact hc
    · rw [e3, e4]; exact hd
    · rw [e4, e2]; exact hb
theorem look_best0 (m : Md) (to : Nat) (hb : ∀ k, 0 ≤ (m.bests k).1) (hs : ∀ j k, 0 ≤ (m.heard j k).1) : ∀ k, 0 ≤ ((lookM m to).bests k).1 := by
  intro k
  by_cases e : k = to
  · subst e
    unfold lookM
    split
    · exact hb k
    · dsimp only
      split
      · rw [updW_same]
        rcases pkD_is m k with ⟨j, _, _, hw, _⟩ | ⟨_, hw⟩
        · rw [hw]; exact hs j k
        · rw [hw]; exact hb k
      · exact hb k
  · rw [(look_other m e).2]; exact hb k
theorem look_self (m : Md) (to : Nat) : (lookM m to).ways m.me = m.ways m.me ∧ (lookM m to).bests m.me = m.bests m.me := by
  by_cases e : m.me = to
  · unfold lookM; rw [if_pos e.symm]; exact ⟨rfl, rfl⟩
  · exact look_other m e
theorem lookTo_all (m : Md) : ∀ n, (lookTo m n).me = m.me ∧ (lookTo m n).cost = m.cost ∧ (lookTo m n).heard = m.heard ∧ (lookTo m n).ways m.me = m.ways m.me ∧ (lookTo m n).bests m.me = m.bests m.me
  | 0 => ⟨rfl, rfl, rfl, rfl, rfl⟩
  | n + 1 => by
    obtain ⟨h1, h2, h3, h4, h5⟩ := lookTo_all m n
    have hs := look_self (lookTo m n) n
    rw [h1] at hs
    refine ⟨?_, ?_, ?_, ?_, ?_⟩
    · rw [lookTo, look_me, h1]
    · rw [lookTo, look_cost, h2]
    · rw [lookTo, look_heard, h3]
    · rw [lookTo, hs.1, h4]
    · rw [lookTo, hs.2, h5]
theorem bet_refl (s d : Int) : bet s d s d = false := by rw [bet_not]; omega
theorem bet_trans {a b c d e f : Int} (h : bet a b c d = false) (k : bet c d e f = false) : bet a b e f = false := by
  rw [bet_not] at *; omega
theorem lookTo_ok (m : Md) (hc : ∀ j, 0 ≤ m.cost j) : ∀ n k, (k < n → k ≠ m.me → WayOk (lookTo m n) k) ∧ bet (m.bests k).1 (m.bests k).2 ((lookTo m n).bests k).1 ((lookTo m n).bests k).2 = false
  | 0, k => ⟨fun h => by omega, bet_refl _ _⟩
  | n + 1, k => by
    obtain ⟨h1, h2⟩ := lookTo_ok m hc n k
    obtain ⟨e1, e2, e3, e4, e5⟩ := lookTo_all m n
    by_cases e : k = n
    · subst e
      by_cases hk : k = m.me
      · refine ⟨fun _ hne => absurd hk hne, ?_⟩
        have hs := (look_self (lookTo m k) k).2
        rw [e1, ← hk] at hs
        rw [lookTo, hs]; exact h2
      · have := look_ok (lookTo m k) (to := k) (by rw [e1]; exact hk) (fun j _ => by rw [e2]; exact hc j)
        exact ⟨fun _ _ => this.1, bet_trans h2 this.2⟩
    · obtain ⟨o1, o2⟩ := look_other (lookTo m n) e
      refine ⟨fun hlt hne => ?_, ?_⟩
      · exact (h1 (by omega) hne).keep o1 o2 (look_cost _ _) (fun j => by rw [lookTo, look_heard]) (look_me _ _)
      · rw [lookTo, o2]; exact h2
theorem lookTo_best0 (m : Md) (hb : ∀ k, 0 ≤ (m.bests k).1) (hs : ∀ j k, 0 ≤ (m.heard j k).1) : ∀ n k, 0 ≤ ((lookTo m n).bests k).1
  | 0, k => hb k
  | n + 1, k => look_best0 (lookTo m n) n (lookTo_best0 m hb hs n) (fun j k => by rw [(lookTo_all m n).2.2.1]; exact hs j k) k

theorem new_ok {me : Nat} (h : me < 6) : MdOk (newM me) := by
  have ew : (newM me).ways me = (0, 0, (me : Int)) := by unfold newM; dsimp only; exact updW_same _ _ _
  have eb : (newM me).bests me = (0, 0) := by unfold newM; dsimp only; exact updW_same _ _ _
  refine ⟨h, fun j => ⟨by simp [newM], by simp [newM]⟩, fun j k => by simp [newM], fun k => ?_, ⟨0, by omega, ew, eb⟩, fun k _ hk => ?_⟩
  · unfold newM updW; dsimp only; split <;> simp
  · have e : (newM me).ways k = (0, 200, -1) := by
      unfold newM
      dsimp only
      exact updW_ne _ _ hk
    exact ⟨fun _ => by rw [e], fun q => absurd (by rw [e]) q, fun q => absurd (by rw [e]) q⟩
theorem link_ok {m : Md} (h : MdOk m) {who : Nat} {c : Int} (hc0 : 0 ≤ c) (hc : c ≤ 15) : MdOk (linkM m who c) ∧ ∀ k, bet (m.bests k).1 (m.bests k).2 ((linkM m who c).bests k).1 ((linkM m who c).bests k).2 = false := by
  obtain ⟨m1, hm1⟩ : ∃ m1 : Md, m1 = { m with cost := updW m.cost who c, heard := if c = 0 then updW m.heard who (fun _ => (0, 200)) else m.heard } := ⟨_, rfl⟩
  have el : linkM m who c = lookTo m1 6 := by rw [hm1]; rfl
  have b1 : m1.bests = m.bests := by rw [hm1]
  have w1 : m1.ways = m.ways := by rw [hm1]
  have me1 : m1.me = m.me := by rw [hm1]
  have cs : ∀ j, 0 ≤ m1.cost j ∧ m1.cost j ≤ 15 := fun j => by
    rw [hm1]
    show 0 ≤ updW m.cost who c j ∧ updW m.cost who c j ≤ 15
    unfold updW
    split
    · exact ⟨hc0, hc⟩
    · exact h.cost j
  have hs : ∀ j k, 0 ≤ (m1.heard j k).1 ∧ 0 ≤ (m1.heard j k).2 ∧ (m1.heard j k).2 ≤ 200 := fun j k => by
    rw [hm1]
    dsimp only
    split
    · unfold updW
      split
      · simp
      · exact h.said j k
    · exact h.said j k
  obtain ⟨e1, e2, e3, e4, e5⟩ := lookTo_all m1 6
  rw [el]
  refine ⟨⟨by rw [e1, me1]; exact h.me, fun j => by rw [e2]; exact cs j, fun j k => by rw [e3]; exact hs j k, lookTo_best0 m1 (fun k => by rw [b1]; exact h.best k) (fun j k => (hs j k).1) 6, ?_, fun k hk hne => ?_⟩, fun k => ?_⟩
  · obtain ⟨s, h0, hw, hb⟩ := h.self
    refine ⟨s, h0, ?_, ?_⟩
    · rw [e1, e4, w1, me1]; exact hw
    · rw [e1, e5, b1, me1]; exact hb
  · exact (lookTo_ok m1 (fun j => (cs j).1) 6 k).1 hk (by rw [e1] at hne; exact hne)
  · have := (lookTo_ok m1 (fun j => (cs j).1) 6 k).2
    rw [b1] at this; exact this
theorem hear_ok {m : Md} (h : MdOk m) {f to : Nat} {s d : Int} (hs : 0 ≤ s) (hd0 : 0 ≤ d) (hd : d ≤ 200) : MdOk (hearM m f to s d) ∧ ∀ k, bet (m.bests k).1 (m.bests k).2 ((hearM m f to s d).bests k).1 ((hearM m f to s d).bests k).2 = false := by
  obtain ⟨m1, hm1⟩ : ∃ m1 : Md, m1 = { m with heard := updW m.heard f (updW (m.heard f) to (s, d)) } := ⟨_, rfl⟩
  have el : hearM m f to s d = lookM m1 to := by rw [hm1]; rfl
  have b1 : m1.bests = m.bests := by rw [hm1]
  have w1 : m1.ways = m.ways := by rw [hm1]
  have me1 : m1.me = m.me := by rw [hm1]
  have c1 : m1.cost = m.cost := by rw [hm1]
  have hh : ∀ j k, m1.heard j k = if j = f ∧ k = to then (s, d) else m.heard j k := fun j k => by
    rw [hm1]
    show updW m.heard f (updW (m.heard f) to (s, d)) j k = _
    unfold updW
    by_cases e : j = f
    · rw [if_pos e]
      by_cases e2 : k = to
      · rw [if_pos e2, if_pos ⟨e, e2⟩]
      · rw [if_neg e2, if_neg (fun q => e2 q.2), e]
    · rw [if_neg e, if_neg (fun q => e q.1)]
  have hsd : ∀ j k, 0 ≤ (m1.heard j k).1 ∧ 0 ≤ (m1.heard j k).2 ∧ (m1.heard j k).2 ≤ 200 := fun j k => by
    rw [hh]
    split
    · exact ⟨hs, hd0, hd⟩
    · exact h.said j k
  rw [el]
  have hsf := look_self m1 to
  refine ⟨⟨by rw [look_me, me1]; exact h.me, fun j => by rw [look_cost, c1]; exact h.cost j, fun j k => by rw [look_heard]; exact hsd j k, look_best0 m1 to (fun k => by rw [b1]; exact h.best k) (fun j k => (hsd j k).1), ?_, fun k hk hne => ?_⟩, fun k => ?_⟩
  · obtain ⟨s', h0, hw, hb⟩ := h.self
    rw [look_me]
    refine ⟨s', h0, ?_, ?_⟩
    · rw [hsf.1, w1, me1]; exact hw
    · rw [hsf.2, b1, me1]; exact hb
  · rw [look_me, me1] at hne
    by_cases e : k = to
    · subst e
      exact (look_ok m1 (by rw [me1]; exact hne) (fun j _ => by rw [c1]; exact (h.cost j).1)).1
    · obtain ⟨o1, o2⟩ := look_other m1 e
      exact (h.way k hk hne).keep (by rw [o1, w1]) (by rw [o2, b1]) (by rw [look_cost, c1]) (fun j => by rw [look_heard, hh, if_neg (fun q => e q.2)]) (by rw [look_me, me1])
  · by_cases e : k = to
    · subst e
      by_cases hk : k = m1.me
      · have := hsf.2
        rw [← hk] at this
        rw [this, b1]; exact bet_refl _ _
      · have := (look_ok m1 hk (fun j _ => by rw [c1]; exact (h.cost j).1)).2
        rw [b1] at this; exact this
    · rw [(look_other m1 e).2, b1]; exact bet_refl _ _
theorem tick_ok {m : Md} (h : MdOk m) : MdOk (tickM m) ∧ ∀ k, bet (m.bests k).1 (m.bests k).2 ((tickM m).bests k).1 ((tickM m).bests k).2 = false := by
  obtain ⟨s, h0, hw, hb⟩ := h.self
  have ew : (tickM m).ways m.me = (s + 1, 0, (m.me : Int)) := by
    show updW m.ways m.me _ m.me = _
    rw [updW_same, hw]
  have eb : (tickM m).bests m.me = (s + 1, 0) := by
    show updW m.bests m.me _ m.me = _
    rw [updW_same, hw]
  refine ⟨⟨h.me, h.cost, h.said, fun k => ?_, ⟨s + 1, by omega, ew, eb⟩, fun k hk hne => ?_⟩, fun k => ?_⟩
  · by_cases e : k = m.me
    · rw [e, eb]; simp only; omega
    · show 0 ≤ (updW m.bests m.me _ k).1
      rw [updW_ne _ _ e]; exact h.best k
  · exact (h.way k hk hne).keep (updW_ne _ _ hne) (updW_ne _ _ hne) rfl (fun _ => rfl) rfl
  · by_cases e : k = m.me
    · rw [e, eb, hb, bet_not]; simp only; omega
    · show bet (m.bests k).1 (m.bests k).2 (updW m.bests m.me _ k).1 (updW m.bests m.me _ k).2 = false
      rw [updW_ne _ _ e]; exact bet_refl _ _

/-- What is heard changes no way but the one that it is of; and where that is gone, what was heard is better than the best. -/
theorem hear_ways (m : Md) {f to : Nat} {s d : Int} {k : Nat} (h : k ≠ to) : (hearM m f to s d).ways k = m.ways k ∧ (hearM m f to s d).bests k = m.bests k := look_other _ h
theorem hear_gone {m : Md} (h : MdOk m) {f to : Nat} {s d : Int} (hs : 0 ≤ s) (hd0 : 0 ≤ d) (hd : d ≤ 200) (ht : to < 6) (hne : to ≠ m.me) (hg : ((hearM m f to s d).ways to).2.2 = (f : Int)) :
    bet s d ((hearM m f to s d).bests to).1 ((hearM m f to s d).bests to).2 = true := by
  have hk := (hear_ok h (f := f) (to := to) hs hd0 hd).1
  have eme : (hearM m f to s d).me = m.me := look_me _ _
  obtain ⟨j, _, hw, _, _, hb⟩ := (hk.way to ht (by rw [eme]; exact hne)).by_ (by rw [hg]; omega) (by rw [eme]; exact hne)
  have ej : j = f := by
    have : ((hearM m f to s d).ways to).2.2 = (j : Int) := by rw [hw]; rfl
    omega
  subst ej
  have eh : (hearM m j to s d).heard j to = (s, d) := by
    unfold hearM
    rw [look_heard]
    show updW m.heard j (updW (m.heard j) to (s, d)) j to = _
    rw [updW_same, updW_same]
  rw [eh] at hb
  exact hb

end Go.Proofs.Ytohbkhmpdegapad
