import Derived.Test.YtfcknkanbcndjagGreatDoorNtPlain
/- A NET THAT SETTLES, AS NUMBERS: behind five rounds each way is as short as the links allow. No Go here. -/
namespace Go.Proofs.YtfcknkanbcndjagGreatDoor

/-- The nodes know their links. -/
structure TnC (t : Tn) (c : Nat → Nat → Nat) : Prop where
  lk : Lk c
  me : ∀ a, a < 6 → (t.nd a).me = a
  cost : ∀ a b, a < 6 → b < 6 → (t.nd a).cost b = (c a b : Int)
  cst : ∀ a b, a < 6 → b < 6 → t.cst a b = (c a b : Int)
/-- Nothing that is known of z is younger than S, nor of that age shorter than the links allow. -/
structure Low (t : Tn) (c : Nat → Nat → Nat) (z : Nat) (S : Int) : Prop where
  heard : ∀ x j, x < 6 → j < 6 → ((t.nd x).heard j z).1 ≤ S ∧ (((t.nd x).heard j z).1 = S → (dst c z j : Int) ≤ ((t.nd x).heard j z).2)
  best : ∀ x, x < 6 → ((t.nd x).bests z).1 ≤ S ∧ (((t.nd x).bests z).1 = S → (dst c z x : Int) ≤ ((t.nd x).bests z).2)
  way : ∀ x, x < 6 → ((t.nd x).ways z).1 ≤ S ∧ (((t.nd x).ways z).1 = S → (dst c z x : Int) ≤ ((t.nd x).ways z).2.1)
  self : (t.nd z).ways z = (S, 0, (z : Int))
/-- Those of G have the least way to z, and heard it of one of G. -/
structure Gd (t : Tn) (c : Nat → Nat → Nat) (z : Nat) (S : Int) (G : Nat → Prop) : Prop where
  home : G z
  ok : ∀ x, x < 6 → G x → x ≠ z → dst c z x < 200 ∧ (∃ k : Nat, k < 6 ∧ (t.nd x).ways z = (S, (dst c z x : Int), (k : Int)) ∧ 0 < c k x ∧ dst c z k + c k x = dst c z x) ∧ (t.nd x).bests z = (S, (dst c z x : Int)) ∧
    ∃ j, j < 6 ∧ G j ∧ 0 < c j x ∧ (t.nd x).heard j z = (S, (dst c z j : Int)) ∧ dst c z j + c j x = dst c z x
end Go.Proofs.YtfcknkanbcndjagGreatDoor

/- A NET THAT SETTLES, AS NUMBERS: the rounds. No Go here. -/
namespace Go.Proofs.YtfcknkanbcndjagGreatDoor

structure Sd (t : Tn) (c : Nat → Nat → Nat) (z : Nat) (S : Int) (G : Nat → Prop) : Prop where
  tc : TnC t c
  low : Low t c z S
  gd : Gd t c z S G
/-- What holds of a net at all times, as far as settling needs it. -/
structure TnS (t : Tn) (c : Nat → Nat → Nat) : Prop where
  tc : TnC t c
  z : ∀ a, a < 6 → MdZ (t.nd a)
  nl : ∀ a j k, a < 6 → j < 6 → k < 6 → c a j = 0 → (t.nd a).heard j k = (0, 200)
end Go.Proofs.YtfcknkanbcndjagGreatDoor

/- A NET AT ALL TIMES, AS NUMBERS: ages are counted at home; it settles. No Go here. -/
namespace Go.Proofs.YtfcknkanbcndjagGreatDoor

def agT (t : Tn) (k : Nat) : Int := ((t.nd k).ways k).1
/-- What holds of a net behind each step. -/
structure TnA (t : Tn) (c : Nat → Nat → Nat) : Prop where
  s : TnS t c
  ok : TnOk t
  heardA : ∀ a f k, a < 6 → f < 6 → k < 6 → ((t.nd a).heard f k).1 ≤ agT t k
  bestA : ∀ a k, a < 6 → k < 6 → ((t.nd a).bests k).1 ≤ agT t k
  newsA : ∀ x ∈ t.news, x.s ≤ agT t x.to
theorem TnA.self {t : Tn} {c : Nat → Nat → Nat} (H : TnA t c) {a : Nat} (ha : a < 6) : 0 ≤ agT t a ∧ (t.nd a).ways a = (agT t a, 0, (a : Int)) ∧ (t.nd a).bests a = (agT t a, 0) := by
  obtain ⟨s, h0, hw, hb⟩ := (H.s.z a ha).ok.self
  rw [H.s.tc.me a ha] at hw hb
  have e : agT t a = s := by unfold agT; rw [hw]
  rw [e]; exact ⟨h0, hw, hb⟩
theorem TnA.wayA {t : Tn} {c : Nat → Nat → Nat} (H : TnA t c) {a k : Nat} (ha : a < 6) (hk : k < 6) : ((t.nd a).ways k).1 ≤ agT t k := by
  by_cases e : k = a
  · subst e; exact Int.le_refl _
  · by_cases hd : ((t.nd a).ways k).2.2 = -1
    · rw [(H.s.z a ha).x.none_ k hd]; exact H.bestA a k ha hk
    · have hme := H.s.tc.me a ha
      obtain ⟨j, hj, hw, _⟩ := ((H.s.z a ha).ok.way k hk (by rw [hme]; exact e)).by_ hd (by rw [hme]; exact e)
      rw [hw]; exact H.heardA a j k ha hj hk
/-- What a look finds is not younger than what was heard and the best. -/
theorem look_age {m : Md} {z : Nat} {A : Int} (hh : ∀ j, j < 6 → (m.heard j z).1 ≤ A) (hb : (m.bests z).1 ≤ A) : ((lookM m z).bests z).1 ≤ A := by
  unfold lookM
  split
  · exact hb
  · dsimp only
    split
    · rw [updW_same]
      rcases pkD_is m z with ⟨k, hk, _, hw, _⟩ | ⟨_, hw⟩
      · rw [hw]; exact hh k hk
      · rw [hw]; exact hb
    · exact hb
theorem look_age' {m : Md} {z k : Nat} {A : Int} (hh : ∀ j, j < 6 → (m.heard j k).1 ≤ A) (hb : (m.bests k).1 ≤ A) : ((lookM m z).bests k).1 ≤ A := by
  by_cases e : k = z
  · subst e; exact look_age hh hb
  · rw [(look_other m e).2]; exact hb
theorem lookTo_age {m : Md} {k : Nat} {A : Int} (hh : ∀ j, j < 6 → (m.heard j k).1 ≤ A) (hb : (m.bests k).1 ≤ A) : ∀ n, ((lookTo m n).bests k).1 ≤ A
  | 0 => hb
  | n + 1 => look_age' (fun j hj => by rw [(lookTo_all m n).2.2.1]; exact hh j hj) (lookTo_age hh hb n)

theorem hear_self' (m : Md) (f z : Nat) (s d : Int) : (hearM m f z s d).ways m.me = m.ways m.me := by
  unfold hearM
  exact (look_self _ z).1

/-- The steps. -/
def sayT (t : Tn) (a b : Nat) : Tn := { t with news := t.news ++ tellT t a b }
def hearT (t : Tn) (x : Nw) : Tn := { t with nd := updW t.nd x.g (hearM (t.nd x.g) x.f x.to x.s x.d) }
def linkT (t : Tn) (a b : Nat) (v : Int) : Tn := { t with cst := cstUp (cstUp t.cst a b v) b a v, nd := updW (updW t.nd a (linkM (t.nd a) b v)) b (linkM (t.nd b) a v) }

theorem TnA.sub {t : Tn} {c : Nat → Nat → Nat} (H : TnA t c) {nw : List Nw} (hn : ∀ x ∈ nw, x ∈ t.news) : TnA { t with news := nw } c :=
  ⟨⟨⟨H.s.tc.lk, H.s.tc.me, H.s.tc.cost, H.s.tc.cst⟩, H.s.z, H.s.nl⟩, H.ok.sub hn, H.heardA, H.bestA, fun x hx => H.newsA x (hn x hx)⟩
theorem TnA.say {t : Tn} {c : Nat → Nat → Nat} (H : TnA t c) {a b : Nat} (ha : a < 6) (hb : b < 6) (hne : a ≠ b) : TnA (sayT t a b) c := by
  refine ⟨⟨⟨H.s.tc.lk, H.s.tc.me, H.s.tc.cost, H.s.tc.cst⟩, H.s.z, H.s.nl⟩, H.ok.tell ha hb hne, H.heardA, H.bestA, fun x hx => ?_⟩
  rcases List.mem_append.1 hx with h | h
  · exact H.newsA x h
  · obtain ⟨k, hk, rfl⟩ := List.mem_map.1 h
    exact H.wayA ha (List.mem_range.1 hk)
theorem TnA.tick {t : Tn} {c : Nat → Nat → Nat} (H : TnA t c) {a : Nat} (ha : a < 6) : TnA (tickT t a) c ∧ (∀ k, agT (tickT t a) k = if k = a then agT t a + 1 else agT t k) := by
  have ew : ∀ x k, k ≠ a → ((tickT t a).nd x).ways k = (t.nd x).ways k ∧ ((tickT t a).nd x).bests k = (t.nd x).bests k := fun x k hk => by
    show (updW t.nd a (tickM (t.nd a)) x).ways k = _ ∧ (updW t.nd a (tickM (t.nd a)) x).bests k = _
    by_cases q : x = a
    · subst q
      rw [updW_same]
      have hm := H.s.tc.me x ha
      exact ⟨updW_ne _ _ (by rw [hm]; exact hk), updW_ne _ _ (by rw [hm]; exact hk)⟩
    · rw [updW_ne _ _ q]; exact ⟨rfl, rfl⟩
  have hag : ∀ k, agT (tickT t a) k = if k = a then agT t a + 1 else agT t k := fun k => by
    by_cases q : k = a
    · subst q
      rw [if_pos rfl]
      show ((updW t.nd k (tickM (t.nd k)) k).ways k).1 = _
      rw [updW_same]
      have hm := H.s.tc.me k ha
      show (updW (t.nd k).ways (t.nd k).me _ k).1 = _
      rw [hm, updW_same]; rfl
    · rw [if_neg q]; unfold agT; rw [(ew k k q).1]
  have hup : ∀ k, agT t k ≤ agT (tickT t a) k := fun k => by
    rw [hag]
    by_cases q : k = a
    · rw [if_pos q, q]; omega
    · rw [if_neg q]; exact Int.le_refl _
  have heq : ∀ x f k, ((tickT t a).nd x).heard f k = (t.nd x).heard f k := fun x f k => by
    show (updW t.nd a (tickM (t.nd a)) x).heard f k = _
    by_cases q : x = a
    · subst q; rw [updW_same]; rfl
    · rw [updW_ne _ _ q]
  have hce : ∀ x, ((tickT t a).nd x).cost = (t.nd x).cost ∧ ((tickT t a).nd x).me = (t.nd x).me := fun x => by
    show (updW t.nd a (tickM (t.nd a)) x).cost = _ ∧ (updW t.nd a (tickM (t.nd a)) x).me = _
    by_cases q : x = a
    · subst q; rw [updW_same]; exact ⟨rfl, rfl⟩
    · rw [updW_ne _ _ q]; exact ⟨rfl, rfl⟩
  refine ⟨⟨⟨⟨H.s.tc.lk, fun x hx => by rw [(hce x).2]; exact H.s.tc.me x hx, fun x y hx hy => by rw [(hce x).1]; exact H.s.tc.cost x y hx hy, H.s.tc.cst⟩, fun x hx => ?_, fun x j k hx hj hk h => by rw [heq]; exact H.s.nl x j k hx hj hk h⟩, H.ok.tick ha, fun x f k hx hf hk => by rw [heq]; exact Int.le_trans (H.heardA x f k hx hf hk) (hup k), fun x k hx hk => ?_, fun x hx => Int.le_trans (H.newsA x hx) (hup x.to)⟩, hag⟩
  · show MdZ (updW t.nd a (tickM (t.nd a)) x)
    by_cases q : x = a
    · subst q; rw [updW_same]; exact tick_z (H.s.z x hx)
    · rw [updW_ne _ _ q]; exact H.s.z x hx
  · by_cases q : k = a
    · subst q
      rw [hag, if_pos rfl]
      show ((updW t.nd k (tickM (t.nd k)) x).bests k).1 ≤ _
      by_cases q2 : x = k
      · subst q2
        rw [updW_same]
        have hm := H.s.tc.me x hx
        show (updW (t.nd x).bests (t.nd x).me _ x).1 ≤ _
        rw [hm, updW_same]; exact Int.le_refl _
      · rw [updW_ne _ _ q2]
        have := H.bestA x k hx hk
        omega
    · rw [(ew x k q).2, hag, if_neg q]; exact H.bestA x k hx hk
theorem TnA.hear {t : Tn} {c : Nat → Nat → Nat} (H : TnA t c) {x : Nw} (hx : x.f < 6 ∧ x.g < 6 ∧ x.f ≠ x.g ∧ x.to < 6 ∧ 0 ≤ x.s ∧ 0 ≤ x.d ∧ x.d ≤ 200 ∧ bet x.s x.d ((t.nd x.f).bests x.to).1 ((t.nd x.f).bests x.to).2 = false) (hs : x.s ≤ agT t x.to) (hc : c x.g x.f ≠ 0) :
    TnA (hearT t x) c ∧ ∀ k, k < 6 → agT (hearT t x) k = agT t k := by
  obtain ⟨h1, h2, h3, h4, h5, h6, h7, h8⟩ := hx
  have hnd : ∀ a, (hearT t x).nd a = if a = x.g then hearM (t.nd x.g) x.f x.to x.s x.d else t.nd a := fun a => by
    show updW t.nd x.g _ a = _
    unfold updW; rfl
  have hag : ∀ k, k < 6 → agT (hearT t x) k = agT t k := fun k hk => by
    unfold agT
    rw [hnd]
    by_cases q : k = x.g
    · rw [if_pos q, q]
      have := hear_self' (t.nd x.g) x.f x.to x.s x.d
      rw [H.s.tc.me x.g h2] at this
      rw [this]
    · rw [if_neg q]
  have hhd : ∀ a f k, ((hearT t x).nd a).heard f k = if a = x.g ∧ f = x.f ∧ k = x.to then (x.s, x.d) else (t.nd a).heard f k := fun a f k => by
    rw [hnd]
    by_cases q : a = x.g
    · rw [if_pos q, q]
      unfold hearM
      rw [look_heard]
      show updW (t.nd x.g).heard x.f (updW ((t.nd x.g).heard x.f) x.to (x.s, x.d)) f k = _
      by_cases q1 : f = x.f
      · rw [q1, updW_same]
        by_cases q2 : k = x.to
        · rw [q2, updW_same, if_pos ⟨rfl, rfl, rfl⟩]
        · rw [updW_ne _ _ q2, if_neg (fun e => q2 e.2.2)]
      · rw [updW_ne _ _ q1, if_neg (fun e => q1 e.2.1)]
    · rw [if_neg q, if_neg (fun e => q e.1)]
  refine ⟨⟨⟨⟨H.s.tc.lk, fun a ha => ?_, fun a b ha hb => ?_, H.s.tc.cst⟩, fun a ha => ?_, fun a j k ha hj hk h => ?_⟩, H.ok.hear ⟨h1, h2, h3, h4, h5, h6, h7, h8⟩, fun a f k ha hf hk => ?_, fun a k ha hk => ?_, fun y hy => ?_⟩, hag⟩
  · rw [hnd]
    split
    · next e => rw [e]; exact (look_me _ _).trans (H.s.tc.me x.g h2)
    · exact H.s.tc.me a ha
  · rw [hnd]
    split
    · next e =>
      rw [e]
      unfold hearM
      rw [look_cost]
      exact H.s.tc.cost x.g b h2 hb
    · exact H.s.tc.cost a b ha hb
  · rw [hnd]
    split
    · exact hear_z (H.s.z x.g h2) h5 h6 h7
    · exact H.s.z a ha
  · rw [hhd, if_neg (fun e => hc (by rw [← e.1, ← e.2.1]; exact h))]
    exact H.s.nl a j k ha hj hk h
  · rw [hag k hk, hhd]
    split
    · next e => rw [e.2.2]; exact hs
    · exact H.heardA a f k ha hf hk
  · rw [hag k hk, hnd]
    split
    · next e =>
      unfold hearM
      refine look_age' (fun j hj => ?_) (by rw [← e]; exact H.bestA a k ha hk)
      have := hhd x.g j k
      rw [hnd, if_pos rfl] at this
      unfold hearM at this
      rw [look_heard] at this
      have this' : updW (t.nd x.g).heard x.f (updW ((t.nd x.g).heard x.f) x.to (x.s, x.d)) j k = if x.g = x.g ∧ j = x.f ∧ k = x.to then (x.s, x.d) else (t.nd x.g).heard j k := this
      show (updW (t.nd x.g).heard x.f (updW ((t.nd x.g).heard x.f) x.to (x.s, x.d)) j k).1 ≤ _
      rw [this']
      split
      · next e2 => rw [e2.2.2]; exact hs
      · exact H.heardA x.g j k h2 hj hk
    · exact H.bestA a k ha hk
  · have := H.newsA y hy
    have h6 := (H.ok.news y hy).2.2.2.1
    rw [hag y.to h6]; exact this

/-- One node of two learns of a link. -/
theorem link_self' (m : Md) (f : Nat) (v : Int) : (linkM m f v).ways m.me = m.ways m.me := by
  unfold linkM
  exact (lookTo_all _ 6).2.2.2.1
theorem link_age {m : Md} {f k : Nat} {v A : Int} (hA : 0 ≤ A) (hh : ∀ j, j < 6 → (m.heard j k).1 ≤ A) (hb : (m.bests k).1 ≤ A) : ((linkM m f v).bests k).1 ≤ A := by
  obtain ⟨m1, hm1⟩ : ∃ m1 : Md, m1 = { m with cost := updW m.cost f v, heard := if v = 0 then updW m.heard f (fun _ => (0, 200)) else m.heard } := ⟨_, rfl⟩
  have el : linkM m f v = lookTo m1 6 := by rw [hm1]; rfl
  rw [el]
  refine lookTo_age (m := m1) (fun j hj => ?_) (by rw [hm1]; exact hb) 6
  rw [hm1]
  show ((if v = 0 then updW m.heard f (fun _ => (0, 200)) else m.heard) j k).1 ≤ A
  split
  · by_cases e : j = f
    · rw [e, updW_same]; exact hA
    · rw [updW_ne _ _ e]; exact hh j hj
  · exact hh j hj
theorem cst_set (c : Nat → Nat → Nat) (cs : Nat → Nat → Int) {a b : Nat} (v : Nat) (h : ∀ i j, i < 6 → j < 6 → cs i j = (c i j : Int)) : ∀ i j, i < 6 → j < 6 → cstUp (cstUp cs a b v) b a v i j = (setC c a b v i j : Int) := by
  intro i j hi hj
  unfold cstUp setC
  by_cases e : i = b ∧ j = a
  · rw [if_pos e, if_pos (.inr e)]
  · rw [if_neg e]
    by_cases e2 : i = a ∧ j = b
    · rw [if_pos e2, if_pos (.inl e2)]
    · rw [if_neg e2, if_neg (fun q => q.elim e2 e)]; exact h i j hi hj
theorem TnA.link {t : Tn} {c : Nat → Nat → Nat} (H : TnA t c) {a b v : Nat} (ha : a < 6) (hb : b < 6) (hne : a ≠ b) (hv : v ≤ 15) : TnA (linkT t a b v) (setC c a b v) ∧ ∀ k, k < 6 → agT (linkT t a b v) k = agT t k := by
  have hba : b ≠ a := fun e => hne e.symm
  have hnd : ∀ x, (linkT t a b v).nd x = if x = b then linkM (t.nd b) a v else if x = a then linkM (t.nd a) b v else t.nd x := fun x => by
    show updW (updW t.nd a _) b _ x = _
    unfold updW; rfl
  have na : (linkT t a b v).nd a = linkM (t.nd a) b v := by rw [hnd, if_neg hne, if_pos rfl]
  have nb : (linkT t a b v).nd b = linkM (t.nd b) a v := by rw [hnd, if_pos rfl]
  have nx : ∀ x, x ≠ a → x ≠ b → (linkT t a b v).nd x = t.nd x := fun x h1 h2 => by rw [hnd, if_neg h2, if_neg h1]
  have hag : ∀ k, k < 6 → agT (linkT t a b v) k = agT t k := fun k hk => by
    unfold agT
    by_cases e : k = a
    · subst e
      have := link_self' (t.nd k) b v
      rw [H.s.tc.me k hk] at this
      rw [na, this]
    · by_cases e2 : k = b
      · subst e2
        have := link_self' (t.nd k) a v
        rw [H.s.tc.me k hk] at this
        rw [nb, this]
      · rw [nx k e e2]
  have hhd : ∀ x f k, ((linkT t a b v).nd x).heard f k = if v = 0 ∧ ((x = a ∧ f = b) ∨ (x = b ∧ f = a)) then (0, 200) else (t.nd x).heard f k := fun x f k => by
    by_cases e : x = a
    · subst e
      rw [na, linkT_heard]
      by_cases q : v = 0 ∧ f = b
      · rw [if_pos ⟨by omega, q.2⟩, if_pos ⟨q.1, .inl ⟨rfl, q.2⟩⟩]
      · rw [if_neg (fun w => q ⟨by omega, w.2⟩), if_neg (fun w => q ⟨w.1, w.2.elim (fun u => u.2) (fun u => absurd u.1 hne)⟩)]
    · by_cases e2 : x = b
      · subst e2
        rw [nb, linkT_heard]
        by_cases q : v = 0 ∧ f = a
        · rw [if_pos ⟨by omega, q.2⟩, if_pos ⟨q.1, .inr ⟨rfl, q.2⟩⟩]
        · rw [if_neg (fun w => q ⟨by omega, w.2⟩), if_neg (fun w => q ⟨w.1, w.2.elim (fun u => absurd u.1 e) (fun u => u.2)⟩)]
      · rw [nx x e e2, if_neg (fun w => w.2.elim (fun u => e u.1) (fun u => e2 u.1))]
  have hok : TnOk (linkT t a b v) := by
    have h1 := H.ok.link (a := a) (b := b) (c := (v : Int)) ha (by omega) (by omega)
    have h2 := h1.link (a := b) (b := a) (c := (v : Int)) hb (by omega) (by omega)
    have e : updW t.nd a (linkM (t.nd a) b v) b = t.nd b := updW_ne _ _ hba
    have : linkT t a b v = { { t with cst := cstUp t.cst a b v, nd := updW t.nd a (linkM (t.nd a) b v) } with cst := cstUp (cstUp t.cst a b v) b a v, nd := updW (updW t.nd a (linkM (t.nd a) b v)) b (linkM (updW t.nd a (linkM (t.nd a) b v) b) a v) } := by
      unfold linkT
      rw [e]
    rw [this]; exact h2
  refine ⟨⟨⟨⟨H.s.tc.lk.set hne hv, fun x hx => (hok.node x hx).2, fun x y hx hy => ?_, cst_set c t.cst v H.s.tc.cst⟩, fun x hx => ?_, fun x j k hx hj hk h => ?_⟩, hok, fun x f k hx hf hk => ?_, fun x k hx hk => ?_, fun y hy => ?_⟩, hag⟩
  · have e1 := hok.cost x y hx hy
    rw [e1]
    exact cst_set c t.cst v H.s.tc.cst x y hx hy
  · by_cases e : x = a
    · subst e; rw [na]; exact link_z (H.s.z x hx) (by omega) (by omega)
    · by_cases e2 : x = b
      · subst e2; rw [nb]; exact link_z (H.s.z x hx) (by omega) (by omega)
      · rw [nx x e e2]; exact H.s.z x hx
  · rw [hhd]
    by_cases q : v = 0 ∧ ((x = a ∧ j = b) ∨ (x = b ∧ j = a))
    · rw [if_pos q]
    · rw [if_neg q]
      unfold setC at h
      by_cases q2 : (x = a ∧ j = b) ∨ (x = b ∧ j = a)
      · rw [if_pos q2] at h; exact absurd ⟨h, q2⟩ q
      · rw [if_neg q2] at h; exact H.s.nl x j k hx hj hk h
  · rw [hag k hk, hhd]
    split
    · exact (H.self hk).1
    · exact H.heardA x f k hx hf hk
  · rw [hag k hk]
    by_cases e : x = a
    · subst e; rw [na]; exact link_age (H.self hk).1 (fun j hj => H.heardA x j k hx hj hk) (H.bestA x k hx hk)
    · by_cases e2 : x = b
      · subst e2; rw [nb]; exact link_age (H.self hk).1 (fun j hj => H.heardA x j k hx hj hk) (H.bestA x k hx hk)
      · rw [nx x e e2]; exact H.bestA x k hx hk
  · have := H.newsA y hy
    have h6 := (H.ok.news y hy).2.2.2.1
    rw [hag y.to h6]; exact this
theorem new_a : TnA newT (fun _ _ => 0) := by
  refine ⟨⟨⟨lk_zero, fun a _ => rfl, fun a b _ _ => rfl, fun a b _ _ => rfl⟩, fun a ha => new_z ha, fun a j k _ _ _ _ => rfl⟩, new_t, fun a f k _ _ hk => ?_, fun a k _ hk => ?_, fun x hx => by cases hx⟩
  · show (0 : Int) ≤ ((newM k).ways k).1
    have : (newM k).ways k = (0, 0, (k : Int)) := by unfold newM; dsimp only; exact updW_same _ _ _
    rw [this]; exact Int.le_refl _
  · show ((newM a).bests k).1 ≤ ((newM k).ways k).1
    have : (newM k).ways k = (0, 0, (k : Int)) := by unfold newM; dsimp only; exact updW_same _ _ _
    rw [this]
    show (updW (fun _ => ((0, 200) : Int × Int)) a (0, 0) k).1 ≤ 0
    unfold updW
    split <;> exact Int.le_refl _

end Go.Proofs.YtfcknkanbcndjagGreatDoor

/- A NET THAT SETTLES, AS NUMBERS: whatever was ahead of it. No Go here. -/
namespace Go.Proofs.YtfcknkanbcndjagGreatDoor

end Go.Proofs.YtfcknkanbcndjagGreatDoor

/- PATHS THROUGH A NET, AS NUMBERS: none goes round; settled, each leads home at the least cost. No Go here. -/
namespace Go.Proofs.YtfcknkanbcndjagGreatDoor

/-- The reference's Path: hop of a node, the end, how many rounds are left, where it is, where it was. -/
def pathF (hop : Nat → Int) (z : Int) : Nat → Int → List Nat → List Nat × Bool
  | 0, _, out => (out, true)
  | f + 1, p, out => if 0 ≤ p ∧ p < 6 then (if p.toNat ∈ out then (out, decide (p = z)) else pathF hop z f (hop p.toNat) (out ++ [p.toNat])) else (out, true)
/-- A list in which each is related to the next; its first and its last. -/
inductive ChL (R : Nat → Nat → Prop) (a : Nat) : List Nat → Nat → Prop
  | one : ChL R a [a] a
  | snoc {l : List Nat} {x y : Nat} : ChL R a l x → R x y → ChL R a (l ++ [y]) y
theorem ChL.mem {R : Nat → Nat → Prop} {a : Nat} {l : List Nat} {x : Nat} (h : ChL R a l x) : x ∈ l := by
  cases h
  · simp
  · simp
theorem ChL.pos {R : Nat → Nat → Prop} {a : Nat} {l : List Nat} {x : Nat} (h : ChL R a l x) : 0 < l.length := by
  cases h
  · simp
  · simp
theorem ChL.last {R : Nat → Nat → Prop} {a : Nat} {l : List Nat} {x : Nat} (h : ChL R a l x) (hl : l.length - 1 < l.length) : l[l.length - 1] = x := by
  cases h
  · rfl
  · simp
theorem nodup_len : ∀ (n : Nat) (l : List Nat), l.Nodup → (∀ x ∈ l, x < n) → l.length ≤ n
  | 0, l, _, h => by
    cases l with
    | nil => simp
    | cons x l => have := h x (by simp); omega
  | n + 1, l, hn, h => by
    by_cases e : n ∈ l
    · have h1 := nodup_len n (l.erase n) (hn.erase n) (fun x hx => by
        have h2 := (List.Nodup.mem_erase_iff hn).1 hx
        have := h x h2.2
        omega)
      have := List.length_erase_of_mem e
      omega
    · have := nodup_len n l hn (fun x hx => by
        have h1 := h x hx
        have : x ≠ n := fun q => e (q ▸ hx)
        omega)
      omega
/-- The path as long as each next one is new. -/
theorem path_go {hop : Nat → Int} {z : Nat} {R : Nat → Nat → Prop} {a : Nat} (W : Nat → Nat → Prop)
    (hR : ∀ x, x < 6 → x ≠ z → hop x ≠ -1 → ∃ j : Nat, j < 6 ∧ hop x = (j : Int) ∧ R x j)
    (hz : hop z = (z : Int)) (hz6 : z < 6)
    (hW : ∀ x y, R x y → W y x) (htr : ∀ x y u, W x y → W y u → W x u) (hir : ∀ x, ¬ W x x) :
    ∀ f out x, ChL R a out x → (∀ y ∈ out, y < 6) → out.Nodup → (∀ y ∈ out, y = x ∨ W x y) → 7 ≤ f + out.length →
      ∃ l e, pathF hop (z : Int) f (hop x) out = (l, true) ∧ ChL R a l e ∧ (∀ y ∈ l, y < 6) ∧ l.Nodup ∧ (e = z ∨ hop e = -1)
  | 0, out, x, _, h6, hn, _, hf => by
    have := nodup_len 6 out hn h6
    omega
  | f + 1, out, x, hc, h6, hn, hw, hf => by
    have hx := h6 x hc.mem
    by_cases e : x = z
    · rw [pathF, e, hz, if_pos ⟨by omega, by omega⟩, Int.toNat_natCast, if_pos (by rw [← e]; exact hc.mem)]
      exact ⟨out, x, by simp, hc, h6, hn, .inl e⟩
    · by_cases e2 : hop x = -1
      · rw [pathF, e2, if_neg (by omega)]
        exact ⟨out, x, rfl, hc, h6, hn, .inr e2⟩
      · obtain ⟨j, hj, hh, hr⟩ := hR x hx e e2
        have hnew : j ∉ out := fun hm => by
          rcases hw j hm with q | q
          · rw [q] at hr; exact hir x (hW x x hr)
          · exact hir x (htr x j x q (hW x j hr))
        rw [pathF, hh, if_pos ⟨by omega, by omega⟩, Int.toNat_natCast, if_neg hnew]
        refine path_go W hR hz hz6 hW htr hir f (out ++ [j]) j (hc.snoc hr) (fun y hy => ?_) ?_ (fun y hy => ?_) (by rw [List.length_append, List.length_singleton]; omega)
        · rcases List.mem_append.1 hy with q | q
          · exact h6 y q
          · rw [List.mem_singleton.1 q]; exact hj
        · rw [List.nodup_append]
          refine ⟨hn, by simp, fun u hu v hv => ?_⟩
          rw [List.mem_singleton.1 hv]
          exact fun q => hnew (q ▸ hu)
        · rcases List.mem_append.1 hy with q | q
          · right
            rcases hw y q with r | r
            · rw [r]; exact hW x j hr
            · exact htr j x y (hW x j hr) r
          · exact .inl (List.mem_singleton.1 q)
/-- NO WAY GOES ROUND. -/
def hopT (t : Tn) (z x : Nat) : Int := ((t.nd x).ways z).2.2
def StepR (t : Tn) (z x y : Nat) : Prop := t.cst x y ≠ 0 ∧ bet ((t.nd y).bests z).1 ((t.nd y).bests z).2 ((t.nd x).bests z).1 ((t.nd x).bests z).2 = true ∧ hopT t z x = (y : Int)
theorem straight {t : Tn} {c : Nat → Nat → Nat} (H : TnA t c) {a z : Nat} (ha : a < 6) (hz : z < 6) :
    ∃ l e, pathF (hopT t z) (z : Int) 7 (a : Int) [] = (l, true) ∧ ChL (StepR t z) a l e ∧ (∀ y ∈ l, y < 6) ∧ l.Nodup ∧ l.length ≤ 6 ∧ (e = z ∨ hopT t z e = -1) := by
  have hs : hopT t z z = (z : Int) := by unfold hopT; rw [(H.self hz).2.1]
  obtain ⟨l, e, h1, h2, h3, h4, h5⟩ := path_go (hop := hopT t z) (z := z) (R := StepR t z) (a := a) (fun x y => bet ((t.nd x).bests z).1 ((t.nd x).bests z).2 ((t.nd y).bests z).1 ((t.nd y).bests z).2 = true)
    (fun x hx hne hd => by
      obtain ⟨j, hj, e1, e2, e3⟩ := H.ok.straight hx hz (fun q => hne q.symm) hd
      exact ⟨j, hj, e1, e2, e3, e1⟩)
    hs hz (fun x y r => r.2.1) (fun x y u p q => by rw [bet_iff] at p q ⊢; omega) (fun x p => by rw [bet_iff] at p; omega)
    6 [a] a .one (fun y hy => by rw [List.mem_singleton.1 hy]; exact ha) (by simp) (fun y hy => .inl (List.mem_singleton.1 hy)) (by simp)
  refine ⟨l, e, ?_, h2, h3, h4, nodup_len 6 l h4 h3, h5⟩
  rw [pathF, if_pos ⟨by omega, by omega⟩, Int.toNat_natCast, if_neg (by simp)]
  exact h1
/-- What the links of a path cost. -/
def sumC (c : Nat → Nat → Nat) (l : List Nat) : Nat → Nat
  | 0 => 0
  | k + 1 => sumC c l k + (if h : k + 1 < l.length then c (l[k]'(by omega)) (l[k + 1]'h) else 0)
theorem sumC_app (c : Nat → Nat → Nat) (l : List Nat) (y : Nat) : ∀ k, k < l.length → sumC c (l ++ [y]) k = sumC c l k
  | 0, _ => rfl
  | k + 1, hk => by
    rw [sumC, sumC, sumC_app c l y k (by omega)]
    have h1 : k + 1 < (l ++ [y]).length := by rw [List.length_append]; omega
    rw [dif_pos h1, dif_pos hk, List.getElem_append_left (by omega), List.getElem_append_left hk]
end Go.Proofs.YtfcknkanbcndjagGreatDoor
