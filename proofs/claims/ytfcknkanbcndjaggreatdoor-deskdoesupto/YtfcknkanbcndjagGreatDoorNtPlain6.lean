import Derived.Test.YtfcknkanbcndjagGreatDoorKPlain
/- A NET THAT SETTLES, AS NUMBERS: behind five rounds each way is as short as the links allow. No Go here. -/
namespace Go.Proofs.YtfcknkanbcndjagGreatDoor

/-- The nodes know their links. -/
structure TnC (t : Tn) (c : Nat → Nat → Nat) : Prop where
  lk : Lk c
  me : ∀ a, a < 6 → (t.nd a).me = a
  cost : ∀ a b, a < 6 → b < 6 → (t.nd a).cost b = (c a b : Int)
  cst : ∀ a b, a < 6 → b < 6 → t.cst a b = (c a b : Int)
theorem tellTo_nd (t : Tn) (a b : Nat) (h : t.cst a b ≠ 0) : (tellTo t a b).nd = updW t.nd b (tellAll (t.nd b) a (t.nd a).ways 6) := by unfold tellTo; rw [if_neg h]
theorem tellTo_other (t : Tn) (a : Nat) {b x : Nat} (hx : x ≠ b) : (tellTo t a b).nd x = t.nd x := by
  unfold tellTo
  split
  · rfl
  · exact updW_ne _ _ hx
theorem tellTo_new (t : Tn) (a b z : Nat) (hz : z < 6) (h : t.cst a b ≠ 0) : ZEq ((tellTo t a b).nd b) (hearM (t.nd b) a z ((t.nd a).ways z).1 ((t.nd a).ways z).2.1) z := by
  rw [tellTo_nd t a b h, updW_same]
  have := tellAll_z (t.nd b) a (t.nd a).ways z 6
  rw [if_pos hz] at this
  exact this
theorem TnC.tellTo {t : Tn} {c : Nat → Nat → Nat} (H : TnC t c) (a b : Nat) (h : t.cst a b ≠ 0) : TnC (tellTo t a b) c := by
  have e := tellTo_new t a b 0 (by omega) h
  refine ⟨H.lk, fun x hx => ?_, fun x y hx hy => ?_, fun x y hx hy => by rw [tellTo_cst]; exact H.cst x y hx hy⟩
  · by_cases q : x = b
    · subst q; rw [e.me]; exact (look_me _ _).trans (H.me x hx)
    · rw [tellTo_other t a q]; exact H.me x hx
  · by_cases q : x = b
    · subst q
      rw [e.cost]
      unfold hearM
      rw [look_cost]
      exact H.cost x y hx hy
    · rw [tellTo_other t a q]; exact H.cost x y hx hy
/-- What b knows of z behind hearing a. -/
theorem hear_heard (m : Md) (a z : Nat) (s d : Int) (j : Nat) : (hearM m a z s d).heard j z = if j = a then (s, d) else m.heard j z := by
  unfold hearM
  rw [look_heard]
  exact heard_z m a z (s, d) j
theorem hear_me (m : Md) (a z : Nat) (s d : Int) (h : z = m.me) : (hearM m a z s d).ways z = m.ways z ∧ (hearM m a z s d).bests z = m.bests z := by
  unfold hearM lookM
  rw [if_pos (show z = ({ m with heard := updW m.heard a (updW (m.heard a) z (s, d)) } : Md).me from h)]
  exact ⟨rfl, rfl⟩

/-- Nothing that is known of z is younger than S, nor of that age shorter than the links allow. -/
structure Low (t : Tn) (c : Nat → Nat → Nat) (z : Nat) (S : Int) : Prop where
  heard : ∀ x j, x < 6 → j < 6 → ((t.nd x).heard j z).1 ≤ S ∧ (((t.nd x).heard j z).1 = S → (dst c z j : Int) ≤ ((t.nd x).heard j z).2)
  best : ∀ x, x < 6 → ((t.nd x).bests z).1 ≤ S ∧ (((t.nd x).bests z).1 = S → (dst c z x : Int) ≤ ((t.nd x).bests z).2)
  way : ∀ x, x < 6 → ((t.nd x).ways z).1 ≤ S ∧ (((t.nd x).ways z).1 = S → (dst c z x : Int) ≤ ((t.nd x).ways z).2.1)
  self : (t.nd z).ways z = (S, 0, (z : Int))
/-- The bound of what b has heard, once a has told it. -/
theorem low_lb {t : Tn} {c : Nat → Nat → Nat} (C : TnC t c) {z : Nat} {S : Int} (L : Low t c z S) {a b : Nat} (ha : a < 6) (hb : b < 6) :
    ∀ j, j < 6 → (t.nd b).cost j ≠ 0 → (updW (t.nd b).heard a (updW ((t.nd b).heard a) z (((t.nd a).ways z).1, ((t.nd a).ways z).2.1)) j z).1 ≤ S ∧
      ((updW (t.nd b).heard a (updW ((t.nd b).heard a) z (((t.nd a).ways z).1, ((t.nd a).ways z).2.1)) j z).1 = S → (dst c z b : Int) ≤ (updW (t.nd b).heard a (updW ((t.nd b).heard a) z (((t.nd a).ways z).1, ((t.nd a).ways z).2.1)) j z).2 + (t.nd b).cost j) := by
  intro j hj hcj
  rw [heard_z]
  have hc := C.cost b j hb hj
  have hpos : 0 < c j b := by
    have := C.lk.sym j b
    have : c b j ≠ 0 := fun e => hcj (by rw [hc, e]; rfl)
    omega
  have he := dst_edge c (z : Int) hj hb hpos
  have hs : c b j = c j b := (C.lk.sym b j)
  by_cases e : j = a
  · rw [if_pos e]
    have := L.way a ha
    subst e
    refine ⟨this.1, fun q => ?_⟩
    have := this.2 q
    rw [hc, hs]
    simp only
    omega
  · rw [if_neg e]
    have := L.heard b j hb hj
    refine ⟨this.1, fun q => ?_⟩
    have := this.2 q
    rw [hc, hs]
    omega
theorem Low.tellTo {t : Tn} {c : Nat → Nat → Nat} (C : TnC t c) {z : Nat} (hz : z < 6) {S : Int} (L : Low t c z S) {a b : Nat} (ha : a < 6) (hb : b < 6) (h : t.cst a b ≠ 0) : Low (tellTo t a b) c z S := by
  have E := tellTo_new t a b z hz h
  have hme := C.me b hb
  have hbnd : ((((t.nd a).ways z).1 ≤ S) ∧ (((t.nd a).ways z).1 = S → (dst c z a : Int) ≤ ((t.nd a).ways z).2.1)) := L.way a ha
  have key : b ≠ z → (((hearM (t.nd b) a z ((t.nd a).ways z).1 ((t.nd a).ways z).2.1).ways z).1 ≤ S ∧ (((hearM (t.nd b) a z ((t.nd a).ways z).1 ((t.nd a).ways z).2.1).ways z).1 = S → (dst c z b : Int) ≤ ((hearM (t.nd b) a z ((t.nd a).ways z).1 ((t.nd a).ways z).2.1).ways z).2.1)) ∧ (((hearM (t.nd b) a z ((t.nd a).ways z).1 ((t.nd a).ways z).2.1).bests z).1 ≤ S ∧ (((hearM (t.nd b) a z ((t.nd a).ways z).1 ((t.nd a).ways z).2.1).bests z).1 = S → (dst c z b : Int) ≤ ((hearM (t.nd b) a z ((t.nd a).ways z).1 ((t.nd a).ways z).2.1).bests z).2)) := fun hbz => by
    have hd := dst_le c (z : Int) b
    exact look_bound (m := { t.nd b with heard := updW (t.nd b).heard a (updW ((t.nd b).heard a) z (((t.nd a).ways z).1, ((t.nd a).ways z).2.1)) }) (D := (dst c z b : Int)) (by show z ≠ (t.nd b).me; rw [hme]; exact fun q => hbz q.symm) (by omega) (low_lb C L ha hb) (L.best b hb)
  refine ⟨fun x j hx hj => ?_, fun x hx => ?_, fun x hx => ?_, ?_⟩
  · by_cases q : x = b
    · subst q
      rw [E.heard, hear_heard]
      by_cases e : j = a
      · rw [if_pos e, e]; exact hbnd
      · rw [if_neg e]; exact L.heard x j hx hj
    · rw [tellTo_other t a q]; exact L.heard x j hx hj
  · by_cases q : x = b
    · subst q
      rw [E.bests]
      by_cases e : x = z
      · rw [(hear_me _ a z _ _ (by rw [hme]; exact e.symm)).2]; exact L.best x hx
      · exact (key e).2
    · rw [tellTo_other t a q]; exact L.best x hx
  · by_cases q : x = b
    · subst q
      rw [E.ways]
      by_cases e : x = z
      · rw [(hear_me _ a z _ _ (by rw [hme]; exact e.symm)).1]; exact L.way x hx
      · exact (key e).1
    · rw [tellTo_other t a q]; exact L.way x hx
  · by_cases q : z = b
    · subst q
      rw [E.ways, (hear_me _ a z _ _ (by rw [hme])).1]; exact L.self
    · rw [tellTo_other t a q]; exact L.self

/-- Those of G have the least way to z, and heard it of one of G. -/
structure Gd (t : Tn) (c : Nat → Nat → Nat) (z : Nat) (S : Int) (G : Nat → Prop) : Prop where
  home : G z
  ok : ∀ x, x < 6 → G x → x ≠ z → dst c z x < 200 ∧ (∃ k : Nat, k < 6 ∧ (t.nd x).ways z = (S, (dst c z x : Int), (k : Int)) ∧ 0 < c k x ∧ dst c z k + c k x = dst c z x) ∧ (t.nd x).bests z = (S, (dst c z x : Int)) ∧
    ∃ j, j < 6 ∧ G j ∧ 0 < c j x ∧ (t.nd x).heard j z = (S, (dst c z j : Int)) ∧ dst c z j + c j x = dst c z x
theorem Gd.way {t : Tn} {c : Nat → Nat → Nat} {z : Nat} {S : Int} {G : Nat → Prop} (h : Gd t c z S G) (L : Low t c z S) (hz : z < 6) {a : Nat} (ha : a < 6) (hG : G a) : ((t.nd a).ways z).1 = S ∧ ((t.nd a).ways z).2.1 = (dst c z a : Int) := by
  by_cases e : a = z
  · rw [e, L.self, dst_self c hz]; exact ⟨rfl, rfl⟩
  · obtain ⟨_, ⟨k, _, hw, _, _⟩, _⟩ := h.ok a ha hG e
    rw [hw]; exact ⟨rfl, rfl⟩
theorem Gd.tellTo {t : Tn} {c : Nat → Nat → Nat} (C : TnC t c) {z : Nat} (hz : z < 6) {S : Int} (L : Low t c z S) {G : Nat → Prop} (h : Gd t c z S G) {a b : Nat} (ha : a < 6) (hb : b < 6) (hc : t.cst a b ≠ 0) :
    Gd (tellTo t a b) c z S (fun x => G x ∨ (x = b ∧ G a ∧ dst c z a + c a b = dst c z b ∧ dst c z b < 200)) := by
  have E := tellTo_new t a b z hz hc
  have hme := C.me b hb
  have hcab : 0 < c a b := by
    have : c a b ≠ 0 := fun e => hc (by rw [C.cst a b ha hb, e]; rfl)
    omega
  refine ⟨.inl h.home, fun x hx hG hxz => ?_⟩
  by_cases q : x = b
  · subst q
    obtain ⟨f, hf, hGf, hcf, hh, hdf, h200⟩ : ∃ f, f < 6 ∧ G f ∧ 0 < c f x ∧ (hearM (t.nd x) a z ((t.nd a).ways z).1 ((t.nd a).ways z).2.1).heard f z = (S, (dst c z f : Int)) ∧ dst c z f + c f x = dst c z x ∧ dst c z x < 200 := by
      have new : G a → (hearM (t.nd x) a z ((t.nd a).ways z).1 ((t.nd a).ways z).2.1).heard a z = (S, (dst c z a : Int)) := fun g => by
        obtain ⟨w1, w2⟩ := h.way L hz ha g
        rw [hear_heard, if_pos rfl, w1, w2]
      rcases hG with g | ⟨_, g, g1, g2⟩
      · obtain ⟨g1, _, _, j, hj, hGj, hcj, hhj, hdj⟩ := h.ok x hx g hxz
        refine ⟨j, hj, hGj, hcj, ?_, hdj, g1⟩
        by_cases e : j = a
        · rw [e]; exact new (by rw [← e]; exact hGj)
        · rw [hear_heard, if_neg e]; exact hhj
      · exact ⟨a, ha, g, hcab, new g, g1, g2⟩
    have hcost : (t.nd x).cost f = (c f x : Int) := by rw [C.cost x f hx hf, C.lk.sym x f]
    have hh' : (updW (t.nd x).heard a (updW ((t.nd x).heard a) z (((t.nd a).ways z).1, ((t.nd a).ways z).2.1)) f z) = (S, (dst c z f : Int)) := by
      have := hh
      rw [hear_heard] at this
      rw [heard_z]; exact this
    have lg := look_good (m := { t.nd x with heard := updW (t.nd x).heard a (updW ((t.nd x).heard a) z (((t.nd a).ways z).1, ((t.nd a).ways z).2.1)) }) (S := S) (D := (dst c z x : Int)) (show z ≠ (t.nd x).me by rw [hme]; exact fun e => hxz e.symm) hf (show 0 < (t.nd x).cost f by rw [hcost]; omega) (by dsimp only; rw [hh']) (by dsimp only; rw [hh', hcost]; simp only; omega) (by omega) (low_lb C L ha hx) (L.best x hx)
    obtain ⟨⟨k, hk, hw, hck, hk1, hk2⟩, hbst⟩ := lg
    have L' := Low.tellTo C hz L ha hx hc
    refine ⟨h200, ⟨k, hk, by rw [E.ways]; exact hw, ?_, ?_⟩, by rw [E.bests]; exact hbst, f, hf, .inl hGf, hcf, by rw [E.heard]; exact hh, hdf⟩
    · have h1 : (t.nd x).cost k = (c k x : Int) := by rw [C.cost x k hx hk, C.lk.sym x k]
      have : (t.nd x).cost k ≠ 0 := hck
      omega
    · have h1 : (t.nd x).cost k = (c k x : Int) := by rw [C.cost x k hx hk, C.lk.sym x k]
      have hck' : (t.nd x).cost k ≠ 0 := hck
      have hpos : 0 < c k x := by omega
      have he := dst_edge c (z : Int) hk hx hpos
      have hl := L'.heard x k hx hk
      rw [E.heard, hear_heard] at hl
      have hk1' : (updW (t.nd x).heard a (updW ((t.nd x).heard a) z (((t.nd a).ways z).1, ((t.nd a).ways z).2.1)) k z).1 = S := hk1
      have hk2' : (updW (t.nd x).heard a (updW ((t.nd x).heard a) z (((t.nd a).ways z).1, ((t.nd a).ways z).2.1)) k z).2 + (t.nd x).cost k = (dst c z x : Int) := hk2
      rw [heard_z] at hk1' hk2'
      have hl2 := hl.2 hk1'
      omega
  · rcases hG with g | ⟨e, _⟩
    · obtain ⟨g1, g2, g3, j, hj, hGj, r⟩ := h.ok x hx g hxz
      rw [tellTo_other t a q]
      exact ⟨g1, g2, g3, j, hj, .inl hGj, r⟩
    · exact absurd e q

end Go.Proofs.YtfcknkanbcndjagGreatDoor

/- A NET THAT SETTLES, AS NUMBERS: the rounds. No Go here. -/
namespace Go.Proofs.YtfcknkanbcndjagGreatDoor

structure Sd (t : Tn) (c : Nat → Nat → Nat) (z : Nat) (S : Int) (G : Nat → Prop) : Prop where
  tc : TnC t c
  low : Low t c z S
  gd : Gd t c z S G
/-- x is next on the least way behind i. -/
def Nxt (c : Nat → Nat → Nat) (z i x : Nat) : Prop := 0 < c i x ∧ dst c z i + c i x = dst c z x ∧ dst c z x < 200
theorem Sd.tell {t : Tn} {c : Nat → Nat → Nat} {z : Nat} (hz : z < 6) {S : Int} {G : Nat → Prop} (h : Sd t c z S G) {a b : Nat} (ha : a < 6) (hb : b < 6) :
    ∃ G', Sd (tellTo t a b) c z S G' ∧ (∀ x, G x → G' x) ∧ (G a → Nxt c z a b → G' b) := by
  by_cases e : t.cst a b = 0
  · refine ⟨G, ?_, fun _ g => g, fun _ n => ?_⟩
    · unfold tellTo; rw [if_pos e]; exact h
    · have := h.tc.cst a b ha hb
      have := n.1
      omega
  · exact ⟨fun x => G x ∨ (x = b ∧ G a ∧ dst c z a + c a b = dst c z b ∧ dst c z b < 200), ⟨h.tc.tellTo a b e, h.low.tellTo h.tc hz ha hb e, h.gd.tellTo h.tc hz h.low ha hb e⟩, fun _ g => .inl g, fun g n => .inr ⟨rfl, g, n.2.1, n.2.2⟩⟩
theorem Sd.row {c : Nat → Nat → Nat} {z : Nat} (hz : z < 6) {S : Int} {t : Tn} {G : Nat → Prop} (h : Sd t c z S G) {a : Nat} (ha : a < 6) : ∀ b, b ≤ 6 →
    ∃ G', Sd (rowT t a b) c z S G' ∧ (∀ x, G x → G' x) ∧ ∀ x, x < b → G a → Nxt c z a x → G' x
  | 0, _ => ⟨G, h, fun _ g => g, fun x hx => by omega⟩
  | b + 1, hb => by
    obtain ⟨G1, h1, s1, n1⟩ := Sd.row hz h ha b (by omega)
    obtain ⟨G2, h2, s2, n2⟩ := h1.tell hz ha (show b < 6 by omega)
    refine ⟨G2, h2, fun x g => s2 x (s1 x g), fun x hx g n => ?_⟩
    by_cases e : x = b
    · rw [e]; rw [e] at n; exact n2 (s1 a g) n
    · exact s2 x (n1 x (by omega) g n)
theorem Sd.round {c : Nat → Nat → Nat} {z : Nat} (hz : z < 6) {S : Int} {t : Tn} {G : Nat → Prop} (h : Sd t c z S G) : ∀ a, a ≤ 6 →
    ∃ G', Sd (roundT t a) c z S G' ∧ (∀ x, G x → G' x) ∧ ∀ i x, i < a → x < 6 → G i → Nxt c z i x → G' x
  | 0, _ => ⟨G, h, fun _ g => g, fun i x hi => by omega⟩
  | a + 1, ha => by
    obtain ⟨G1, h1, s1, n1⟩ := Sd.round hz h a (by omega)
    obtain ⟨G2, h2, s2, n2⟩ := h1.row hz (show a < 6 by omega) 6 (Nat.le_refl _)
    refine ⟨G2, h2, fun x g => s2 x (s1 x g), fun i x hi hx g n => ?_⟩
    by_cases e : i = a
    · rw [e] at n g; exact n2 x hx (s1 a g) n
    · exact s2 x (n1 i x (by omega) hx g n)
theorem Sd.rounds {c : Nat → Nat → Nat} {z : Nat} (hz : z < 6) {S : Int} {t : Tn} (h : Sd t c z S (fun x => x = z)) : ∀ r,
    ∃ G, Sd (roundsT t r) c z S G ∧ ∀ x, x < 6 → wk c z r x = dst c z x → dst c z x < 200 → G x
  | 0 => by
    refine ⟨fun x => x = z, h, fun x hx hw hd => ?_⟩
    rw [← hw, wk] at hd
    by_cases e : (x : Int) = (z : Int)
    · omega
    · rw [if_neg e] at hd; omega
  | r + 1 => by
    obtain ⟨G1, h1, n1⟩ := Sd.rounds hz h r
    obtain ⟨G2, h2, s2, n2⟩ := h1.round hz 6 (Nat.le_refl _)
    refine ⟨G2, h2, fun x hx hw hd => ?_⟩
    rw [wk] at hw
    rcases via_is c (wk c z r) x 6 with q | ⟨i, hi, hc, q⟩
    · exact s2 x (n1 x hx (by rw [← q]; exact hw) hd)
    · have l1 := (dst_lm c (z : Int)).le r i hi
      have l2 := dst_edge c (z : Int) hi hx hc
      have e1 : wk c z r i = dst c z i := by omega
      exact n2 i x hi hx (n1 i hi e1 (by omega)) ⟨hc, by omega, hd⟩
theorem wk_stay (c : Nat → Nat → Nat) (f : Int) {r : Nat} (hr : 5 ≤ r) {n : Nat} (hn : n < 6) : wk c f r n = dst c f n := by
  have h1 := (dst_lm c f).le r n hn
  have h2 := wk_le_of c f hr n
  have h3 : dst c f n = wk c f 5 n := rfl
  omega
/-- Behind five rounds all that can be reached have the least way. -/
theorem Sd.all {c : Nat → Nat → Nat} {z : Nat} (hz : z < 6) {S : Int} {t : Tn} (h : Sd t c z S (fun x => x = z)) {r : Nat} (hr : 5 ≤ r) :
    ∃ G, Sd (roundsT t r) c z S G ∧ ∀ x, x < 6 → dst c z x < 200 → G x := by
  obtain ⟨G, h1, h2⟩ := h.rounds hz r
  exact ⟨G, h1, fun x hx hd => h2 x hx (wk_stay c z hr hx) hd⟩

/-- What is not without end is at most five links of fifteen. -/
theorem wk_75 {c : Nat → Nat → Nat} (hc : Lk c) (f : Int) : ∀ k n, n < 6 → wk c f k n = 200 ∨ wk c f k n ≤ 15 * k
  | 0, n, _ => by
    rw [wk]
    split
    · exact .inr (by omega)
    · exact .inl rfl
  | k + 1, n, hn => by
    rw [wk]
    have hle := via_le c (wk c f k) n 6
    have h2 := wk_le c f k n
    rcases via_is c (wk c f k) n 6 with q | ⟨i, hi, _, q⟩
    · rcases wk_75 hc f k n hn with e | e
      · exact .inl (by rw [q, e])
      · exact .inr (by rw [q]; omega)
    · have := hc.le i n
      rcases wk_75 hc f k i hi with e | e
      · rw [q, e] at hle; rw [q, e]; exact .inl (by omega)
      · exact .inr (by rw [q]; omega)
theorem dst_75 {c : Nat → Nat → Nat} (hc : Lk c) (f : Int) {n : Nat} (hn : n < 6) (h : dst c f n < 200) : dst c f n ≤ 75 := by
  rcases wk_75 hc f 5 n hn with e | e
  · have : dst c f n = wk c f 5 n := rfl
    omega
  · exact e
/-- Who is linked with one that can't be reached can't be reached. -/
theorem dst_out {c : Nat → Nat → Nat} (hc : Lk c) (f : Int) {m n : Nat} (hm : m < 6) (hn : n < 6) (h : 0 < c m n) (hd : dst c f n = 200) : dst c f m = 200 := by
  refine Classical.byContradiction fun q => ?_
  have h1 := dst_le c f m
  have h2 := dst_75 hc f hm (by omega)
  have h3 := dst_edge c f hm hn h
  have h4 := hc.le m n
  omega

/-- What holds of a net at all times, as far as settling needs it. -/
structure TnS (t : Tn) (c : Nat → Nat → Nat) : Prop where
  tc : TnC t c
  z : ∀ a, a < 6 → MdZ (t.nd a)
  nl : ∀ a j k, a < 6 → j < 6 → k < 6 → c a j = 0 → (t.nd a).heard j k = (0, 200)
theorem tellAll_zz {x : Md} (h : MdZ x) {m : Md} (hm : MdX m) (me : Nat) : ∀ j, j ≤ 6 → MdZ (tellAll x me m.ways j)
  | 0, _ => h
  | j + 1, hj => by
    obtain ⟨_, t1, t2, t3⟩ := hm.tells (k := j) (by omega)
    exact hear_z (tellAll_zz h hm me j (by omega)) t1 t2 t3
theorem TnS.tellTo {t : Tn} {c : Nat → Nat → Nat} (H : TnS t c) {a b : Nat} (ha : a < 6) (hb : b < 6) (h : t.cst a b ≠ 0) : TnS (tellTo t a b) c := by
  refine ⟨H.tc.tellTo a b h, fun x hx => ?_, fun x j k hx hj hk hc => ?_⟩
  · by_cases q : x = b
    · subst q
      rw [tellTo_nd t a x h, updW_same]
      exact tellAll_zz (H.z x hx) (H.z a ha).x a 6 (Nat.le_refl _)
    · rw [tellTo_other t a q]; exact H.z x hx
  · by_cases q : x = b
    · subst q
      rw [(tellTo_new t a x k hk h).heard, hear_heard]
      by_cases e : j = a
      · exfalso
        have h1 := H.tc.cst a x ha hx
        have h2 := H.tc.lk.sym a x
        rw [e] at hc
        exact h (by rw [h1, h2, hc]; rfl)
      · rw [if_neg e]; exact H.nl x j k hx hj hk hc
    · rw [tellTo_other t a q]; exact H.nl x j k hx hj hk hc
/-- What is known of z, as MdPlain6 has it. -/
def pdOf (t : Tn) (z : Nat) : Pd := { h := fun x j => (t.nd x).heard j z, w := fun x => (t.nd x).ways z, b := fun x => (t.nd x).bests z }
def outB (c : Nat → Nat → Nat) (z : Nat) (x : Nat) : Bool := decide (dst c z x = 200)
theorem pd_ok {t : Tn} {c : Nat → Nat → Nat} (H : TnS t c) {z : Nat} (hz : z < 6) : PdOk (outB c z) (pdOf t z) := by
  refine ⟨fun x hx hU hne => ?_, fun x hx _ => ((H.z x hx).x.tells hz).1, fun x hx _ hd => ?_⟩
  · have hd : dst c z x = 200 := of_decide_eq_true hU
    have hxz : z ≠ x := fun e => by rw [← e, dst_self c hz] at hd; omega
    have hme := H.tc.me x hx
    obtain ⟨j, hj, _, hc, hl, hb⟩ := ((H.z x hx).ok.way z hz (by rw [hme]; exact hxz)).by_ hne (by rw [hme]; exact hxz)
    have hcb := (H.z x hx).ok.cost j
    have e1 := H.tc.cost x j hx hj
    have e2 := H.tc.lk.sym x j
    refine ⟨j, hj, decide_eq_true (dst_out H.tc.lk (z : Int) hj hx (by omega) hd), ?_, hb⟩
    show ((t.nd x).heard j z).2 < 200
    omega
  · show ((t.nd x).ways z).2.1 = 200
    rw [(H.z x hx).x.none_ z hd]
theorem pd_told {t : Tn} {c : Nat → Nat → Nat} (H : TnS t c) {z : Nat} (hz : z < 6) {a b : Nat} (ha : a < 6) (hb : b < 6) (h : t.cst a b ≠ 0) : Told (pdOf t z) (pdOf (tellTo t a b) z) a b := by
  have E := tellTo_new t a b z hz h
  obtain ⟨_, t1, t2, t3⟩ := (H.z a ha).x.tells hz
  refine ⟨?_, fun x j hn => ?_, fun x => ?_⟩
  · show ((tellTo t a b).nd b).heard a z = _
    rw [E.heard, hear_heard, if_pos rfl]; rfl
  · show ((tellTo t a b).nd x).heard j z = (t.nd x).heard j z
    by_cases q : x = b
    · subst q
      rw [E.heard, hear_heard, if_neg (fun e => hn ⟨rfl, e⟩)]
    · rw [tellTo_other t a q]
  · show bet ((t.nd x).bests z).1 ((t.nd x).bests z).2 (((tellTo t a b).nd x).bests z).1 (((tellTo t a b).nd x).bests z).2 = false
    by_cases q : x = b
    · subst q
      rw [E.bests]
      exact (hear_ok (H.z x hb).ok t1 t2 t3).2 z
    · rw [tellTo_other t a q]; exact bet_refl _ _
/-- What is told by one that can be reached, or to one, is of no use here. -/
theorem told_apart {U : Nat → Bool} {P Q : Pd} {a b r : Nat} {done : Nat → Nat → Bool} (hH : Half U P r done) (hT : Told P Q a b) (hU : U a = false) : Half U Q r done := by
  intro x j hx hj hUx hUj
  have eo := hT.old x j (fun e => by rw [e.2, hU] at hUj; cases hUj)
  obtain ⟨h1, h2⟩ := hH x j hx hj hUx hUj
  refine ⟨fun h => ?_, fun hd h => ?_⟩
  · rw [eo] at h ⊢
    exact Nat.le_trans (h1 h) (hT.up.good U _)
  · rw [eo] at h ⊢
    exact Nat.le_trans (h2 hd h) (hT.up.good U _)
structure Hf (t : Tn) (c : Nat → Nat → Nat) (z r : Nat) (done : Nat → Nat → Bool) : Prop where
  s : TnS t c
  half : Half (outB c z) (pdOf t z) r done
theorem Hf.tell {t : Tn} {c : Nat → Nat → Nat} {z : Nat} (hz : z < 6) {r : Nat} {done : Nat → Nat → Bool} (h : Hf t c z r done) {a b : Nat} (ha : a < 6) (hb : b < 6) :
    ∃ done', Hf (tellTo t a b) c z r done' ∧ (∀ x j, done x j = true → done' x j = true) ∧ (outB c z a = true → 0 < c a b → done' b a = true) := by
  by_cases e : t.cst a b = 0
  · refine ⟨done, ?_, fun _ _ g => g, fun _ n => ?_⟩
    · unfold tellTo; rw [if_pos e]; exact h
    · have := h.s.tc.cst a b ha hb
      omega
  · have hT := pd_told h.s hz ha hb e
    by_cases hU : outB c z a = true
    · refine ⟨_, ⟨h.s.tellTo ha hb e, told_half (pd_ok h.s hz) h.half hT ha hU⟩, fun x j g => by simp [g], fun _ _ => by simp⟩
    · refine ⟨done, ⟨h.s.tellTo ha hb e, told_apart h.half hT ?_⟩, fun _ _ g => g, fun q => absurd q hU⟩
      cases q : outB c z a
      · rfl
      · exact absurd q hU
theorem Hf.row {c : Nat → Nat → Nat} {z : Nat} (hz : z < 6) {r : Nat} {t : Tn} {done : Nat → Nat → Bool} (h : Hf t c z r done) {a : Nat} (ha : a < 6) : ∀ b, b ≤ 6 →
    ∃ done', Hf (rowT t a b) c z r done' ∧ (∀ x j, done x j = true → done' x j = true) ∧ ∀ x, x < b → outB c z a = true → 0 < c a x → done' x a = true
  | 0, _ => ⟨done, h, fun _ _ g => g, fun x hx => by omega⟩
  | b + 1, hb => by
    obtain ⟨d1, h1, s1, n1⟩ := Hf.row hz h ha b (by omega)
    obtain ⟨d2, h2, s2, n2⟩ := h1.tell hz ha (show b < 6 by omega)
    refine ⟨d2, h2, fun x j g => s2 x j (s1 x j g), fun x hx g n => ?_⟩
    by_cases e : x = b
    · rw [e]; rw [e] at n; exact n2 g n
    · exact s2 x a (n1 x (by omega) g n)
theorem Hf.round {c : Nat → Nat → Nat} {z : Nat} (hz : z < 6) {r : Nat} {t : Tn} {done : Nat → Nat → Bool} (h : Hf t c z r done) : ∀ a, a ≤ 6 →
    ∃ done', Hf (roundT t a) c z r done' ∧ ∀ i x, i < a → x < 6 → outB c z i = true → 0 < c i x → done' x i = true
  | 0, _ => ⟨done, h, fun i x hi => by omega⟩
  | a + 1, ha => by
    obtain ⟨d1, h1, n1⟩ := Hf.round hz h a (by omega)
    obtain ⟨d2, h2, s2, n2⟩ := h1.row hz (show a < 6 by omega) 6 (Nat.le_refl _)
    refine ⟨d2, h2, fun i x hi hx g n => ?_⟩
    by_cases e : i = a
    · rw [e] at n g; rw [e]; exact n2 x hx g n
    · exact s2 x i (n1 i x (by omega) hx g n)
theorem Hf.rounds {c : Nat → Nat → Nat} {z : Nat} (hz : z < 6) {t : Tn} (h : TnS t c) : ∀ r, Hf (roundsT t r) c z r (fun _ _ => false)
  | 0 => ⟨h, half_zero _ _⟩
  | r + 1 => by
    obtain ⟨d, h1, n1⟩ := (Hf.rounds hz h r).round hz 6 (Nat.le_refl _)
    refine ⟨h1.s, half_round h1.half fun x j hx hj _ hUj hd => ?_⟩
    have e : c j x = 0 := by
      refine Classical.byContradiction fun q => ?_
      have := n1 j x hj hx hUj (by omega)
      rw [this] at hd; cases hd
    have e2 : c x j = 0 := by rw [h1.s.tc.lk.sym x j]; exact e
    show (((roundT (roundsT t r) 6).nd x).heard j z).2 = 200
    rw [h1.s.nl x j z hx hj hz e2]
/-- Behind seven rounds those that can't be reached say so, and nothing else was heard of each other. -/
theorem none_said {c : Nat → Nat → Nat} {z : Nat} (hz : z < 6) {t : Tn} (h : TnS t c) {r : Nat} (hr : 7 ≤ r) {x : Nat} (hx : x < 6) (hd : dst c z x = 200) :
    (((roundsT t r).nd x).ways z).2.2 = -1 ∧ ∀ j, j < 6 → dst c z j = 200 → 200 ≤ (((roundsT t r).nd x).heard j z).2 := by
  have H := Hf.rounds hz h r
  have few : ∀ j, j < 6 → dst c z j = 200 → 200 ≤ (((roundsT t r).nd x).heard j z).2 := fun j hj hdj => by
    refine Classical.byContradiction fun q => ?_
    have h1 := (H.half x j hx hj (decide_eq_true hd) (decide_eq_true hdj)).1 (show (((roundsT t r).nd x).heard j z).2 < 200 by omega)
    have h2 := asGood_le (outB c z) (pdOf (roundsT t r) z) ((pdOf (roundsT t r) z).h x j)
    omega
  refine ⟨Classical.byContradiction fun hne => ?_, few⟩
  obtain ⟨j, hj, hUj, h200, _⟩ := (pd_ok H.s hz).by_ x hx (decide_eq_true hd) hne
  have h1 := few j hj (of_decide_eq_true hUj)
  have : (((roundsT t r).nd x).heard j z).2 < 200 := h200
  omega

end Go.Proofs.YtfcknkanbcndjagGreatDoor

/- A NET AT ALL TIMES, AS NUMBERS: ages are counted at home; it settles. No Go here. -/
namespace Go.Proofs.YtfcknkanbcndjagGreatDoor

def agT (t : Tn) (k : Nat) : Int := ((t.nd k).ways k).1
/-- What holds of a net behind each step. -/
structure TnA (t : Tn) (c : Nat → Nat → Nat) : Prop where
  s : TnS t c
  ok : TnOk t
  heardA : ∀ a f k, a < 6 → f < 6 → k < 6 → ((t.nd a).heard f k).1 ≤ agT t k
  bestA : ∀ a k, a < 6 → k < 6 → ((t.nd a).bests k).1 ≤ agT t k
  newsA : ∀ x ∈ t.news, x.s ≤ agT t x.to
theorem TnA.self {t : Tn} {c : Nat → Nat → Nat} (H : TnA t c) {a : Nat} (ha : a < 6) : 0 ≤ agT t a ∧ (t.nd a).ways a = (agT t a, 0, (a : Int)) ∧ (t.nd a).bests a = (agT t a, 0) := by
  obtain ⟨s, h0, hw, hb⟩ := (H.s.z a ha).ok.self
  rw [H.s.tc.me a ha] at hw hb
  have e : agT t a = s := by unfold agT; rw [hw]
  rw [e]; exact ⟨h0, hw, hb⟩
theorem TnA.wayA {t : Tn} {c : Nat → Nat → Nat} (H : TnA t c) {a k : Nat} (ha : a < 6) (hk : k < 6) : ((t.nd a).ways k).1 ≤ agT t k := by
  by_cases e : k = a
  · subst e; exact Int.le_refl _
  · by_cases hd : ((t.nd a).ways k).2.2 = -1
    · rw [(H.s.z a ha).x.none_ k hd]; exact H.bestA a k ha hk
    · have hme := H.s.tc.me a ha
      obtain ⟨j, hj, hw, _⟩ := ((H.s.z a ha).ok.way k hk (by rw [hme]; exact e)).by_ hd (by rw [hme]; exact e)
      rw [hw]; exact H.heardA a j k ha hj hk
/-- What a look finds is not younger than what was heard and the best. -/
theorem look_age {m : Md} {z : Nat} {A : Int} (hh : ∀ j, j < 6 → (m.heard j z).1 ≤ A) (hb : (m.bests z).1 ≤ A) : ((lookM m z).bests z).1 ≤ A := by
  unfold lookM
  split
  · exact hb
  · dsimp only
    split
    · rw [updW_same]
      rcases pkD_is m z with ⟨k, hk, _, hw, _⟩ | ⟨_, hw⟩
      · rw [hw]; exact hh k hk
      · rw [hw]; exact hb
    · exact hb
theorem look_age' {m : Md} {z k : Nat} {A : Int} (hh : ∀ j, j < 6 → (m.heard j k).1 ≤ A) (hb : (m.bests k).1 ≤ A) : ((lookM m z).bests k).1 ≤ A := by
  by_cases e : k = z
  · subst e; exact look_age hh hb
  · rw [(look_other m e).2]; exact hb
theorem lookTo_age {m : Md} {k : Nat} {A : Int} (hh : ∀ j, j < 6 → (m.heard j k).1 ≤ A) (hb : (m.bests k).1 ≤ A) : ∀ n, ((lookTo m n).bests k).1 ≤ A
  | 0 => hb
  | n + 1 => look_age' (fun j hj => by rw [(lookTo_all m n).2.2.1]; exact hh j hj) (lookTo_age hh hb n)

theorem hear_self' (m : Md) (f z : Nat) (s d : Int) : (hearM m f z s d).ways m.me = m.ways m.me := by
  unfold hearM
  exact (look_self _ z).1

/-- The steps. -/
def sayT (t : Tn) (a b : Nat) : Tn := { t with news := t.news ++ tellT t a b }
def hearT (t : Tn) (x : Nw) : Tn := { t with nd := updW t.nd x.g (hearM (t.nd x.g) x.f x.to x.s x.d) }
def linkT (t : Tn) (a b : Nat) (v : Int) : Tn := { t with cst := cstUp (cstUp t.cst a b v) b a v, nd := updW (updW t.nd a (linkM (t.nd a) b v)) b (linkM (t.nd b) a v) }

theorem TnA.sub {t : Tn} {c : Nat → Nat → Nat} (H : TnA t c) {nw : List Nw} (hn : ∀ x ∈ nw, x ∈ t.news) : TnA { t with news := nw } c :=
  ⟨⟨⟨H.s.tc.lk, H.s.tc.me, H.s.tc.cost, H.s.tc.cst⟩, H.s.z, H.s.nl⟩, H.ok.sub hn, H.heardA, H.bestA, fun x hx => H.newsA x (hn x hx)⟩
theorem TnA.say {t : Tn} {c : Nat → Nat → Nat} (H : TnA t c) {a b : Nat} (ha : a < 6) (hb : b < 6) (hne : a ≠ b) : TnA (sayT t a b) c := by
  refine ⟨⟨⟨H.s.tc.lk, H.s.tc.me, H.s.tc.cost, H.s.tc.cst⟩, H.s.z, H.s.nl⟩, H.ok.tell ha hb hne, H.heardA, H.bestA, fun x hx => ?_⟩
  rcases List.mem_append.1 hx with h | h
  · exact H.newsA x h
  · obtain ⟨k, hk, rfl⟩ := List.mem_map.1 h
    exact H.wayA ha (List.mem_range.1 hk)
theorem TnA.tick {t : Tn} {c : Nat → Nat → Nat} (H : TnA t c) {a : Nat} (ha : a < 6) : TnA (tickT t a) c ∧ (∀ k, agT (tickT t a) k = if k = a then agT t a + 1 else agT t k) := by
  have ew : ∀ x k, k ≠ a → ((tickT t a).nd x).ways k = (t.nd x).ways k ∧ ((tickT t a).nd x).bests k = (t.nd x).bests k := fun x k hk => by
    show (updW t.nd a (tickM (t.nd a)) x).ways k = _ ∧ (updW t.nd a (tickM (t.nd a)) x).bests k = _
    by_cases q : x = a
    · subst q
      rw [updW_same]
      have hm := H.s.tc.me x ha
      exact ⟨updW_ne _ _ (by rw [hm]; exact hk), updW_ne _ _ (by rw [hm]; exact hk)⟩
    · rw [updW_ne _ _ q]; exact ⟨rfl, rfl⟩
  have hag : ∀ k, agT (tickT t a) k = if k = a then agT t a + 1 else agT t k := fun k => by
    by_cases q : k = a
    · subst q
      rw [if_pos rfl]
      show ((updW t.nd k (tickM (t.nd k)) k).ways k).1 = _
      rw [updW_same]
      have hm := H.s.tc.me k ha
      show (updW (t.nd k).ways (t.nd k).me _ k).1 = _
      rw [hm, updW_same]; rfl
    · rw [if_neg q]; unfold agT; rw [(ew k k q).1]
  have hup : ∀ k, agT t k ≤ agT (tickT t a) k := fun k => by
    rw [hag]
    by_cases q : k = a
    · rw [if_pos q, q]; omega
    · rw [if_neg q]; exact Int.le_refl _
  have heq : ∀ x f k, ((tickT t a).nd x).heard f k = (t.nd x).heard f k := fun x f k => by
    show (updW t.nd a (tickM (t.nd a)) x).heard f k = _
    by_cases q : x = a
    · subst q; rw [updW_same]; rfl
    · rw [updW_ne _ _ q]
  have hce : ∀ x, ((tickT t a).nd x).cost = (t.nd x).cost ∧ ((tickT t a).nd x).me = (t.nd x).me := fun x => by
    show (updW t.nd a (tickM (t.nd a)) x).cost = _ ∧ (updW t.nd a (tickM (t.nd a)) x).me = _
    by_cases q : x = a
    · subst q; rw [updW_same]; exact ⟨rfl, rfl⟩
    · rw [updW_ne _ _ q]; exact ⟨rfl, rfl⟩
  refine ⟨⟨⟨⟨H.s.tc.lk, fun x hx => by rw [(hce x).2]; exact H.s.tc.me x hx, fun x y hx hy => by rw [(hce x).1]; exact H.s.tc.cost x y hx hy, H.s.tc.cst⟩, fun x hx => ?_, fun x j k hx hj hk h => by rw [heq]; exact H.s.nl x j k hx hj hk h⟩, H.ok.tick ha, fun x f k hx hf hk => by rw [heq]; exact Int.le_trans (H.heardA x f k hx hf hk) (hup k), fun x k hx hk => ?_, fun x hx => Int.le_trans (H.newsA x hx) (hup x.to)⟩, hag⟩
  · show MdZ (updW t.nd a (tickM (t.nd a)) x)
    by_cases q : x = a
    · subst q; rw [updW_same]; exact tick_z (H.s.z x hx)
    · rw [updW_ne _ _ q]; exact H.s.z x hx
  · by_cases q : k = a
    · subst q
      rw [hag, if_pos rfl]
      show ((updW t.nd k (tickM (t.nd k)) x).bests k).1 ≤ _
      by_cases q2 : x = k
      · subst q2
        rw [updW_same]
        have hm := H.s.tc.me x hx
        show (updW (t.nd x).bests (t.nd x).me _ x).1 ≤ _
        rw [hm, updW_same]; exact Int.le_refl _
      · rw [updW_ne _ _ q2]
        have := H.bestA x k hx hk
        omega
    · rw [(ew x k q).2, hag, if_neg q]; exact H.bestA x k hx hk
theorem TnA.hear {t : Tn} {c : Nat → Nat → Nat} (H : TnA t c) {x : Nw} (hx : x.f < 6 ∧ x.g < 6 ∧ x.f ≠ x.g ∧ x.to < 6 ∧ 0 ≤ x.s ∧ 0 ≤ x.d ∧ x.d ≤ 200 ∧ bet x.s x.d ((t.nd x.f).bests x.to).1 ((t.nd x.f).bests x.to).2 = false) (hs : x.s ≤ agT t x.to) (hc : c x.g x.f ≠ 0) :
    TnA (hearT t x) c ∧ ∀ k, k < 6 → agT (hearT t x) k = agT t k := by
  obtain ⟨h1, h2, h3, h4, h5, h6, h7, h8⟩ := hx
  have hnd : ∀ a, (hearT t x).nd a = if a = x.g then hearM (t.nd x.g) x.f x.to x.s x.d else t.nd a := fun a => by
    show updW t.nd x.g _ a = _
    unfold updW; rfl
  have hag : ∀ k, k < 6 → agT (hearT t x) k = agT t k := fun k hk => by
    unfold agT
    rw [hnd]
    by_cases q : k = x.g
    · rw [if_pos q, q]
      have := hear_self' (t.nd x.g) x.f x.to x.s x.d
      rw [H.s.tc.me x.g h2] at this
      rw [this]
    · rw [if_neg q]
  have hhd : ∀ a f k, ((hearT t x).nd a).heard f k = if a = x.g ∧ f = x.f ∧ k = x.to then (x.s, x.d) else (t.nd a).heard f k := fun a f k => by
    rw [hnd]
    by_cases q : a = x.g
    · rw [if_pos q, q]
      unfold hearM
      rw [look_heard]
      show updW (t.nd x.g).heard x.f (updW ((t.nd x.g).heard x.f) x.to (x.s, x.d)) f k = _
      by_cases q1 : f = x.f
      · rw [q1, updW_same]
        by_cases q2 : k = x.to
        · rw [q2, updW_same, if_pos ⟨rfl, rfl, rfl⟩]
        · rw [updW_ne _ _ q2, if_neg (fun e => q2 e.2.2)]
      · rw [updW_ne _ _ q1, if_neg (fun e => q1 e.2.1)]
    · rw [if_neg q, if_neg (fun e => q e.1)]
  refine ⟨⟨⟨⟨H.s.tc.lk, fun a ha => ?_, fun a b ha hb => ?_, H.s.tc.cst⟩, fun a ha => ?_, fun a j k ha hj hk h => ?_⟩, H.ok.hear ⟨h1, h2, h3, h4, h5, h6, h7, h8⟩, fun a f k ha hf hk => ?_, fun a k ha hk => ?_, fun y hy => ?_⟩, hag⟩
  · rw [hnd]
    split
    · next e => rw [e]; exact (look_me _ _).trans (H.s.tc.me x.g h2)
    · exact H.s.tc.me a ha
  · rw [hnd]
    split
    · next e =>
      rw [e]
      unfold hearM
      rw [look_cost]
      exact H.s.tc.cost x.g b h2 hb
    · exact H.s.tc.cost a b ha hb
  · rw [hnd]
    split
    · exact hear_z (H.s.z x.g h2) h5 h6 h7
    · exact H.s.z a ha
  · rw [hhd, if_neg (fun e => hc (by rw [← e.1, ← e.2.1]; exact h))]
    exact H.s.nl a j k ha hj hk h
  · rw [hag k hk, hhd]
    split
    · next e => rw [e.2.2]; exact hs
    · exact H.heardA a f k ha hf hk
  · rw [hag k hk, hnd]
    split
    · next e =>
      unfold hearM
      refine look_age' (fun j hj => ?_) (by rw [← e]; exact H.bestA a k ha hk)
      have := hhd x.g j k
      rw [hnd, if_pos rfl] at this
      unfold hearM at this
      rw [look_heard] at this
      have this' : updW (t.nd x.g).heard x.f (updW ((t.nd x.g).heard x.f) x.to (x.s, x.d)) j k = if x.g = x.g ∧ j = x.f ∧ k = x.to then (x.s, x.d) else (t.nd x.g).heard j k := this
      show (updW (t.nd x.g).heard x.f (updW ((t.nd x.g).heard x.f) x.to (x.s, x.d)) j k).1 ≤ _
      rw [this']
      split
      · next e2 => rw [e2.2.2]; exact hs
      · exact H.heardA x.g j k h2 hj hk
    · exact H.bestA a k ha hk
  · have := H.newsA y hy
    have h6 := (H.ok.news y hy).2.2.2.1
    rw [hag y.to h6]; exact this

/-- One node of two learns of a link. -/
theorem link_self' (m : Md) (f : Nat) (v : Int) : (linkM m f v).ways m.me = m.ways m.me := by
  unfold linkM
  exact (lookTo_all _ 6).2.2.2.1
theorem link_age {m : Md} {f k : Nat} {v A : Int} (hA : 0 ≤ A) (hh : ∀ j, j < 6 → (m.heard j k).1 ≤ A) (hb : (m.bests k).1 ≤ A) : ((linkM m f v).bests k).1 ≤ A := by
  obtain ⟨m1, hm1⟩ : ∃ m1 : Md, m1 = { m with cost := updW m.cost f v, heard := if v = 0 then updW m.heard f (fun _ => (0, 200)) else m.heard } := ⟨_, rfl⟩
  have el : linkM m f v = lookTo m1 6 := by rw [hm1]; rfl
  rw [el]
  refine lookTo_age (m := m1) (fun j hj => ?_) (by rw [hm1]; exact hb) 6
  rw [hm1]
  show ((if v = 0 then updW m.heard f (fun _ => (0, 200)) else m.heard) j k).1 ≤ A
  split
  · by_cases e : j = f
    · rw [e, updW_same]; exact hA
    · rw [updW_ne _ _ e]; exact hh j hj
  · exact hh j hj
theorem cst_set (c : Nat → Nat → Nat) (cs : Nat → Nat → Int) {a b : Nat} (v : Nat) (h : ∀ i j, i < 6 → j < 6 → cs i j = (c i j : Int)) : ∀ i j, i < 6 → j < 6 → cstUp (cstUp cs a b v) b a v i j = (setC c a b v i j : Int) := by
  intro i j hi hj
  unfold cstUp setC
  by_cases e : i = b ∧ j = a
  · rw [if_pos e, if_pos (.inr e)]
  · rw [if_neg e]
    by_cases e2 : i = a ∧ j = b
    · rw [if_pos e2, if_pos (.inl e2)]
    · rw [if_neg e2, if_neg (fun q => q.elim e2 e)]; exact h i j hi hj
theorem TnA.link {t : Tn} {c : Nat → Nat → Nat} (H : TnA t c) {a b v : Nat} (ha : a < 6) (hb : b < 6) (hne : a ≠ b) (hv : v ≤ 15) : TnA (linkT t a b v) (setC c a b v) ∧ ∀ k, k < 6 → agT (linkT t a b v) k = agT t k := by
  have hba : b ≠ a := fun e => hne e.symm
  have hnd : ∀ x, (linkT t a b v).nd x = if x = b then linkM (t.nd b) a v else if x = a then linkM (t.nd a) b v else t.nd x := fun x => by
    show updW (updW t.nd a _) b _ x = _
    unfold updW; rfl
  have na : (linkT t a b v).nd a = linkM (t.nd a) b v := by rw [hnd, if_neg hne, if_pos rfl]
  have nb : (linkT t a b v).nd b = linkM (t.nd b) a v := by rw [hnd, if_pos rfl]
  have nx : ∀ x, x ≠ a → x ≠ b → (linkT t a b v).nd x = t.nd x := fun x h1 h2 => by rw [hnd, if_neg h2, if_neg h1]
  have hag : ∀ k, k < 6 → agT (linkT t a b v) k = agT t k := fun k hk => by
    unfold agT
    by_cases e : k = a
    · subst e
      have := link_self' (t.nd k) b v
      rw [H.s.tc.me k hk] at this
      rw [na, this]
    · by_cases e2 : k = b
      · subst e2
        have := link_self' (t.nd k) a v
        rw [H.s.tc.me k hk] at this
        rw [nb, this]
      · rw [nx k e e2]
  have hhd : ∀ x f k, ((linkT t a b v).nd x).heard f k = if v = 0 ∧ ((x = a ∧ f = b) ∨ (x = b ∧ f = a)) then (0, 200) else (t.nd x).heard f k := fun x f k => by
    by_cases e : x = a
    · subst e
      rw [na, linkT_heard]
      by_cases q : v = 0 ∧ f = b
      · rw [if_pos ⟨by omega, q.2⟩, if_pos ⟨q.1, .inl ⟨rfl, q.2⟩⟩]
      · rw [if_neg (fun w => q ⟨by omega, w.2⟩), if_neg (fun w => q ⟨w.1, w.2.elim (fun u => u.2) (fun u => absurd u.1 hne)⟩)]
    · by_cases e2 : x = b
      · subst e2
        rw [nb, linkT_heard]
        by_cases q : v = 0 ∧ f = a
        · rw [if_pos ⟨by omega, q.2⟩, if_pos ⟨q.1, .inr ⟨rfl, q.2⟩⟩]
        · rw [if_neg (fun w => q ⟨by omega, w.2⟩), if_neg (fun w => q ⟨w.1, w.2.elim (fun u => absurd u.1 e) (fun u => u.2)⟩)]
      · rw [nx x e e2, if_neg (fun w => w.2.elim (fun u => e u.1) (fun u => e2 u.1))]
  have hok : TnOk (linkT t a b v) := by
    have h1 := H.ok.link (a := a) (b := b) (c := (v : Int)) ha (by omega) (by omega)
    have h2 := h1.link (a := b) (b := a) (c := (v : Int)) hb (by omega) (by omega)
    have e : updW t.nd a (linkM (t.nd a) b v) b = t.nd b := updW_ne _ _ hba
    have : linkT t a b v = { { t with cst := cstUp t.cst a b v, nd := updW t.nd a (linkM (t.nd a) b v) } with cst := cstUp (cstUp t.cst a b v) b a v, nd := updW (updW t.nd a (linkM (t.nd a) b v)) b (linkM (updW t.nd a (linkM (t.nd a) b v) b) a v) } := by
      unfold linkT
      rw [e]
    rw [this]; exact h2
  refine ⟨⟨⟨⟨H.s.tc.lk.set hne hv, fun x hx => (hok.node x hx).2, fun x y hx hy => ?_, cst_set c t.cst v H.s.tc.cst⟩, fun x hx => ?_, fun x j k hx hj hk h => ?_⟩, hok, fun x f k hx hf hk => ?_, fun x k hx hk => ?_, fun y hy => ?_⟩, hag⟩
  · have e1 := hok.cost x y hx hy
    rw [e1]
    exact cst_set c t.cst v H.s.tc.cst x y hx hy
  · by_cases e : x = a
    · subst e; rw [na]; exact link_z (H.s.z x hx) (by omega) (by omega)
    · by_cases e2 : x = b
      · subst e2; rw [nb]; exact link_z (H.s.z x hx) (by omega) (by omega)
      · rw [nx x e e2]; exact H.s.z x hx
  · rw [hhd]
    by_cases q : v = 0 ∧ ((x = a ∧ j = b) ∨ (x = b ∧ j = a))
    · rw [if_pos q]
    · rw [if_neg q]
      unfold setC at h
      by_cases q2 : (x = a ∧ j = b) ∨ (x = b ∧ j = a)
      · rw [if_pos q2] at h; exact absurd ⟨h, q2⟩ q
      · rw [if_neg q2] at h; exact H.s.nl x j k hx hj hk h
  · rw [hag k hk, hhd]
    split
    · exact (H.self hk).1
    · exact H.heardA x f k hx hf hk
  · rw [hag k hk]
    by_cases e : x = a
    · subst e; rw [na]; exact link_age (H.self hk).1 (fun j hj => H.heardA x j k hx hj hk) (H.bestA x k hx hk)
    · by_cases e2 : x = b
      · subst e2; rw [nb]; exact link_age (H.self hk).1 (fun j hj => H.heardA x j k hx hj hk) (H.bestA x k hx hk)
      · rw [nx x e e2]; exact H.bestA x k hx hk
  · have := H.newsA y hy
    have h6 := (H.ok.news y hy).2.2.2.1
    rw [hag y.to h6]; exact this
theorem new_a : TnA newT (fun _ _ => 0) := by
  refine ⟨⟨⟨lk_zero, fun a _ => rfl, fun a b _ _ => rfl, fun a b _ _ => rfl⟩, fun a ha => new_z ha, fun a j k _ _ _ _ => rfl⟩, new_t, fun a f k _ _ hk => ?_, fun a k _ hk => ?_, fun x hx => by cases hx⟩
  · show (0 : Int) ≤ ((newM k).ways k).1
    have : (newM k).ways k = (0, 0, (k : Int)) := by unfold newM; dsimp only; exact updW_same _ _ _
    rw [this]; exact Int.le_refl _
  · show ((newM a).bests k).1 ≤ ((newM k).ways k).1
    have : (newM k).ways k = (0, 0, (k : Int)) := by unfold newM; dsimp only; exact updW_same _ _ _
    rw [this]
    show (updW (fun _ => ((0, 200) : Int × Int)) a (0, 0) k).1 ≤ 0
    unfold updW
    split <;> exact Int.le_refl _

end Go.Proofs.YtfcknkanbcndjagGreatDoor

/- A NET THAT SETTLES, AS NUMBERS: whatever was ahead of it. No Go here. -/
namespace Go.Proofs.YtfcknkanbcndjagGreatDoor

/-- One tells another one all: the net is what it should be. -/
theorem TnA.partly {t : Tn} {c : Nat → Nat → Nat} (H : TnA t c) {a b : Nat} (ha : a < 6) (hb : b < 6) (hc : c a b ≠ 0) : ∀ j, j ≤ 6 →
    TnA { t with nd := updW t.nd b (tellAll (t.nd b) a (t.nd a).ways j) } c ∧ ∀ k, k < 6 → agT { t with nd := updW t.nd b (tellAll (t.nd b) a (t.nd a).ways j) } k = agT t k
  | 0, _ => by
    have e : updW t.nd b (tellAll (t.nd b) a (t.nd a).ways 0) = t.nd := updW_id _ _ _ rfl
    rw [e]; exact ⟨H, fun _ _ => rfl⟩
  | j + 1, hj => by
    have hne : a ≠ b := fun e => hc (by rw [e]; exact H.s.tc.lk.self b)
    obtain ⟨T1, A1⟩ := H.partly ha hb hc j (by omega)
    obtain ⟨_, t1, t2, t3⟩ := (H.s.z a ha).x.tells (show j < 6 by omega)
    have na : ∀ m : Md, updW t.nd b m a = t.nd a := fun m => updW_ne _ _ hne
    have tl := ((H.s.z a ha).x.tells (show j < 6 by omega)).1
    have h := T1.hear (x := ⟨a, b, j, ((t.nd a).ways j).1, ((t.nd a).ways j).2.1⟩)
      ⟨ha, hb, hne, by show j < 6; omega, t1, t2, t3, by
        show bet ((t.nd a).ways j).1 ((t.nd a).ways j).2.1 ((updW t.nd b _ a).bests j).1 ((updW t.nd b _ a).bests j).2 = false
        rw [na]; exact tl⟩
      (by rw [A1 j (by omega)]; exact H.wayA ha (by omega))
      (by show c b a ≠ 0; rw [H.s.tc.lk.sym b a]; exact hc)
    have e : hearT { t with nd := updW t.nd b (tellAll (t.nd b) a (t.nd a).ways j) } ⟨a, b, j, ((t.nd a).ways j).1, ((t.nd a).ways j).2.1⟩ = { t with nd := updW t.nd b (tellAll (t.nd b) a (t.nd a).ways (j + 1)) } := by
      unfold hearT
      dsimp only
      congr 1
      funext x
      by_cases q : x = b
      · rw [q, updW_same, updW_same, updW_same]; rfl
      · rw [updW_ne _ _ q, updW_ne _ _ q, updW_ne _ _ q]
    rw [e] at h
    exact ⟨h.1, fun k hk => (h.2 k hk).trans (A1 k hk)⟩
theorem TnA.tellTo {t : Tn} {c : Nat → Nat → Nat} (H : TnA t c) {a b : Nat} (ha : a < 6) (hb : b < 6) (h : t.cst a b ≠ 0) : TnA (tellTo t a b) c ∧ ∀ k, k < 6 → agT (tellTo t a b) k = agT t k := by
  have hc : c a b ≠ 0 := fun e => h (by rw [H.s.tc.cst a b ha hb, e]; rfl)
  have := H.partly ha hb hc 6 (Nat.le_refl _)
  have e : YtfcknkanbcndjagGreatDoor.tellTo t a b = { t with nd := updW t.nd b (tellAll (t.nd b) a (t.nd a).ways 6) } := if_neg h
  rw [e]
  exact this
theorem TnA.rounds {t : Tn} {c : Nat → Nat → Nat} (H : TnA t c) (r : Nat) : TnA (roundsT t r) c ∧ ∀ k, k < 6 → agT (roundsT t r) k = agT t k :=
  rounds_keep (P := fun T => TnA T c ∧ ∀ k, k < 6 → agT T k = agT t k) (fun T a b ha hb hp hc => by
    obtain ⟨h1, h2⟩ := hp.1.tellTo ha hb hc
    exact ⟨h1, fun k hk => (h2 k hk).trans (hp.2 k hk)⟩) ⟨H, fun _ _ => rfl⟩ r
theorem TnA.ticks {t : Tn} {c : Nat → Nat → Nat} (H : TnA t c) : ∀ n, n ≤ 6 → TnA (tickTo t n) c ∧ ∀ k, k < 6 → agT (tickTo t n) k = if k < n then agT t k + 1 else agT t k
  | 0, _ => ⟨H, fun k _ => by rw [if_neg (by omega)]; rfl⟩
  | n + 1, hn => by
    obtain ⟨h1, h2⟩ := H.ticks n (by omega)
    obtain ⟨h3, h4⟩ := h1.tick (a := n) (by omega)
    refine ⟨h3, fun k hk => ?_⟩
    show agT (tickT (tickTo t n) n) k = _
    rw [h4]
    by_cases e : k = n
    · subst e
      rw [if_pos rfl, h2 k hk, if_neg (by omega), if_pos (by omega)]
    · rw [if_neg e, h2 k hk]
      by_cases q : k < n
      · rw [if_pos q, if_pos (by omega)]
      · rw [if_neg q, if_neg (by omega)]
/-- Behind the ticks nobody else knows of z's new age. -/
theorem ticks_low {t : Tn} {c : Nat → Nat → Nat} (H : TnA t c) {z : Nat} (hz : z < 6) : Low (tickTo t 6) c z (agT t z + 1) := by
  have hnd : ∀ x, x < 6 → (tickTo t 6).nd x = tickM (t.nd x) := fun x hx => by rw [tickTo_nd, if_pos hx]
  have hme := fun x hx => H.s.tc.me x hx
  obtain ⟨h0, hw, hb⟩ := H.self hz
  have hold : ∀ x, x < 6 → x ≠ z → ((tickTo t 6).nd x).ways z = (t.nd x).ways z ∧ ((tickTo t 6).nd x).bests z = (t.nd x).bests z := fun x hx hxz => by
    rw [hnd x hx]
    have hm := hme x hx
    exact ⟨updW_ne _ _ (by rw [hm]; exact fun e => hxz e.symm), updW_ne _ _ (by rw [hm]; exact fun e => hxz e.symm)⟩
  have hsw : ((tickTo t 6).nd z).ways z = (agT t z + 1, 0, (z : Int)) := by
    rw [hnd z hz]
    show updW (t.nd z).ways (t.nd z).me _ z = _
    rw [hme z hz, updW_same, hw]
  have hsb : ((tickTo t 6).nd z).bests z = (agT t z + 1, 0) := by
    rw [hnd z hz]
    show updW (t.nd z).bests (t.nd z).me _ z = _
    rw [hme z hz, updW_same, hw]
  have d0 := dst_self c hz
  refine ⟨fun x j hx hj => ?_, fun x hx => ?_, fun x hx => ?_, hsw⟩
  · have e : ((tickTo t 6).nd x).heard j z = (t.nd x).heard j z := by rw [hnd x hx]; rfl
    rw [e]
    have := H.heardA x j z hx hj hz
    exact ⟨by omega, fun q => by omega⟩
  · by_cases e : x = z
    · rw [e, hsb]; exact ⟨Int.le_refl _, fun _ => by rw [d0]; exact Int.le_refl _⟩
    · rw [(hold x hx e).2]
      have := H.bestA x z hx hz
      exact ⟨by omega, fun q => by omega⟩
  · by_cases e : x = z
    · rw [e, hsw]; exact ⟨Int.le_refl _, fun _ => by rw [d0]; exact Int.le_refl _⟩
    · rw [(hold x hx e).1]
      have := H.wayA hx hz
      exact ⟨by omega, fun q => by omega⟩
/-- Of the end z all is settled. -/
structure Stl (T : Tn) (c : Nat → Nat → Nat) (z : Nat) (S : Int) : Prop where
  low : Low T c z S
  reach : ∃ G, Gd T c z S G ∧ ∀ x, x < 6 → dst c z x < 200 → G x
  out : ∀ x, x < 6 → dst c z x = 200 → ((T.nd x).ways z).2.2 = -1 ∧ ∀ j, j < 6 → dst c z j = 200 → 200 ≤ ((T.nd x).heard j z).2
theorem TnA.settle {t : Tn} {c : Nat → Nat → Nat} (H : TnA t c) {r : Nat} (hr : 7 ≤ r) : TnA (settleT t r) c ∧ ∀ z, z < 6 → Stl (settleT t r) c z (agT t z + 1) := by
  have H0 : TnA { t with news := [] } c := H.sub (fun x hx => by cases hx)
  obtain ⟨H1, _⟩ := H0.ticks 6 (Nat.le_refl _)
  obtain ⟨H2, _⟩ := H1.rounds r
  refine ⟨H2, fun z hz => ?_⟩
  have L := ticks_low H0 hz
  have s0 : Sd (tickTo { t with news := [] } 6) c z (agT t z + 1) (fun x => x = z) := ⟨H1.s.tc, L, ⟨rfl, fun x _ hG hne => absurd hG hne⟩⟩
  obtain ⟨G, hG, hall⟩ := s0.all hz (show 5 ≤ r by omega)
  exact ⟨hG.low, ⟨G, hG.gd, hall⟩, fun x hx hd => none_said hz H1.s hr hx hd⟩
/-- Settled, each way is just as long as the links allow; where none leads, none is said. -/
theorem Stl.way {T : Tn} {c : Nat → Nat → Nat} {z : Nat} {S : Int} (h : Stl T c z S) (H : TnA T c) (hz : z < 6) {x : Nat} (hx : x < 6) :
    ((T.nd x).ways z).2.1 = (dst c z x : Int) ∧ (((T.nd x).ways z).2.2 = -1 ↔ dst c z x = 200) ∧
    (dst c z x < 200 → x ≠ z → ∃ k : Nat, k < 6 ∧ ((T.nd x).ways z).2.2 = (k : Int) ∧ 0 < c k x ∧ dst c z k + c k x = dst c z x) := by
  by_cases hd : dst c z x = 200
  · have ho := (h.out x hx hd).1
    refine ⟨by rw [(H.s.z x hx).x.none_ z ho, hd]; rfl, ⟨fun _ => hd, fun _ => ho⟩, fun q => by omega⟩
  · have hl : dst c z x < 200 := by have := dst_le c (z : Int) x; omega
    by_cases e : x = z
    · subst e
      rw [h.low.self, dst_self c hz]
      refine ⟨rfl, ⟨fun q => ?_, fun q => by omega⟩, fun _ q => absurd rfl q⟩
      have q' : (x : Int) = -1 := q
      omega
    · obtain ⟨G, hG, hall⟩ := h.reach
      obtain ⟨_, ⟨k, hk, hw, hc, hdk⟩, _⟩ := hG.ok x hx (hall x hx hl) e
      rw [hw]
      refine ⟨rfl, ⟨fun q => ?_, fun q => absurd q hd⟩, fun _ _ => ⟨k, hk, rfl, hc, hdk⟩⟩
      have q' : (k : Int) = -1 := q
      omega

end Go.Proofs.YtfcknkanbcndjagGreatDoor

/- PATHS THROUGH A NET, AS NUMBERS: none goes round; settled, each leads home at the least cost. No Go here. -/
namespace Go.Proofs.YtfcknkanbcndjagGreatDoor

/-- The reference's Path: hop of a node, the end, how many rounds are left, where it is, where it was. -/
def pathF (hop : Nat → Int) (z : Int) : Nat → Int → List Nat → List Nat × Bool
  | 0, _, out => (out, true)
  | f + 1, p, out => if 0 ≤ p ∧ p < 6 then (if p.toNat ∈ out then (out, decide (p = z)) else pathF hop z f (hop p.toNat) (out ++ [p.toNat])) else (out, true)
/-- A list in which each is related to the next; its first and its last. -/
inductive ChL (R : Nat → Nat → Prop) (a : Nat) : List Nat → Nat → Prop
  | one : ChL R a [a] a
  | snoc {l : List Nat} {x y : Nat} : ChL R a l x → R x y → ChL R a (l ++ [y]) y
theorem ChL.mem {R : Nat → Nat → Prop} {a : Nat} {l : List Nat} {x : Nat} (h : ChL R a l x) : x ∈ l := by
  cases h
  · simp
  · simp
theorem ChL.pos {R : Nat → Nat → Prop} {a : Nat} {l : List Nat} {x : Nat} (h : ChL R a l x) : 0 < l.length := by
  cases h
  · simp
  · simp
theorem ChL.last {R : Nat → Nat → Prop} {a : Nat} {l : List Nat} {x : Nat} (h : ChL R a l x) (hl : l.length - 1 < l.length) : l[l.length - 1] = x := by
  cases h
  · rfl
  · simp
theorem ChL.step {R : Nat → Nat → Prop} {a : Nat} {l : List Nat} {x : Nat} (h : ChL R a l x) : ∀ k (hk : k + 1 < l.length), R l[k] l[k + 1] := by
  induction h with
  | one => intro k hk; simp at hk
  | @snoc l x y h1 h2 ih =>
    intro k hk
    have hp := h1.pos
    rw [List.length_append, List.length_singleton] at hk
    by_cases e : k + 1 = l.length
    · have e1 : (l ++ [y])[k + 1]'(by rw [List.length_append, List.length_singleton]; omega) = y := by
        rw [List.getElem_append_right (by omega)]; simp
      have e2 : (l ++ [y])[k]'(by rw [List.length_append, List.length_singleton]; omega) = l[l.length - 1] := by
        rw [List.getElem_append_left (by omega)]; congr 1; omega
      rw [e1, e2, h1.last (by omega)]; exact h2
    · have e1 : (l ++ [y])[k + 1]'(by rw [List.length_append, List.length_singleton]; omega) = l[k + 1]'(by omega) := List.getElem_append_left (by omega)
      have e2 : (l ++ [y])[k]'(by rw [List.length_append, List.length_singleton]; omega) = l[k]'(by omega) := List.getElem_append_left (by omega)
      rw [e1, e2]; exact ih k (by omega)
theorem nodup_len : ∀ (n : Nat) (l : List Nat), l.Nodup → (∀ x ∈ l, x < n) → l.length ≤ n
  | 0, l, _, h => by
    cases l with
    | nil => simp
    | cons x l => have := h x (by simp); omega
  | n + 1, l, hn, h => by
    by_cases e : n ∈ l
    · have h1 := nodup_len n (l.erase n) (hn.erase n) (fun x hx => by
        have h2 := (List.Nodup.mem_erase_iff hn).1 hx
        have := h x h2.2
        omega)
      have := List.length_erase_of_mem e
      omega
    · have := nodup_len n l hn (fun x hx => by
        have h1 := h x hx
        have : x ≠ n := fun q => e (q ▸ hx)
        omega)
      omega
/-- The path as long as each next one is new. -/
theorem path_go {hop : Nat → Int} {z : Nat} {R : Nat → Nat → Prop} {a : Nat} (W : Nat → Nat → Prop)
    (hR : ∀ x, x < 6 → x ≠ z → hop x ≠ -1 → ∃ j : Nat, j < 6 ∧ hop x = (j : Int) ∧ R x j)
    (hz : hop z = (z : Int)) (hz6 : z < 6)
    (hW : ∀ x y, R x y → W y x) (htr : ∀ x y u, W x y → W y u → W x u) (hir : ∀ x, ¬ W x x) :
    ∀ f out x, ChL R a out x → (∀ y ∈ out, y < 6) → out.Nodup → (∀ y ∈ out, y = x ∨ W x y) → 7 ≤ f + out.length →
      ∃ l e, pathF hop (z : Int) f (hop x) out = (l, true) ∧ ChL R a l e ∧ (∀ y ∈ l, y < 6) ∧ l.Nodup ∧ (e = z ∨ hop e = -1)
  | 0, out, x, _, h6, hn, _, hf => by
    have := nodup_len 6 out hn h6
    omega
  | f + 1, out, x, hc, h6, hn, hw, hf => by
    have hx := h6 x hc.mem
    by_cases e : x = z
    · rw [pathF, e, hz, if_pos ⟨by omega, by omega⟩, Int.toNat_natCast, if_pos (by rw [← e]; exact hc.mem)]
      exact ⟨out, x, by simp, hc, h6, hn, .inl e⟩
    · by_cases e2 : hop x = -1
      · rw [pathF, e2, if_neg (by omega)]
        exact ⟨out, x, rfl, hc, h6, hn, .inr e2⟩
      · obtain ⟨j, hj, hh, hr⟩ := hR x hx e e2
        have hnew : j ∉ out := fun hm => by
          rcases hw j hm with q | q
          · rw [q] at hr; exact hir x (hW x x hr)
          · exact hir x (htr x j x q (hW x j hr))
        rw [pathF, hh, if_pos ⟨by omega, by omega⟩, Int.toNat_natCast, if_neg hnew]
        refine path_go W hR hz hz6 hW htr hir f (out ++ [j]) j (hc.snoc hr) (fun y hy => ?_) ?_ (fun y hy => ?_) (by rw [List.length_append, List.length_singleton]; omega)
        · rcases List.mem_append.1 hy with q | q
          · exact h6 y q
          · rw [List.mem_singleton.1 q]; exact hj
        · rw [List.nodup_append]
          refine ⟨hn, by simp, fun u hu v hv => ?_⟩
          rw [List.mem_singleton.1 hv]
          exact fun q => hnew (q ▸ hu)
        · rcases List.mem_append.1 hy with q | q
          · right
            rcases hw y q with r | r
            · rw [r]; exact hW x j hr
            · exact htr j x y (hW x j hr) r
          · exact .inl (List.mem_singleton.1 q)
/-- NO WAY GOES ROUND. -/
def hopT (t : Tn) (z x : Nat) : Int := ((t.nd x).ways z).2.2
def StepR (t : Tn) (z x y : Nat) : Prop := t.cst x y ≠ 0 ∧ bet ((t.nd y).bests z).1 ((t.nd y).bests z).2 ((t.nd x).bests z).1 ((t.nd x).bests z).2 = true ∧ hopT t z x = (y : Int)
theorem straight {t : Tn} {c : Nat → Nat → Nat} (H : TnA t c) {a z : Nat} (ha : a < 6) (hz : z < 6) :
    ∃ l e, pathF (hopT t z) (z : Int) 7 (a : Int) [] = (l, true) ∧ ChL (StepR t z) a l e ∧ (∀ y ∈ l, y < 6) ∧ l.Nodup ∧ l.length ≤ 6 ∧ (e = z ∨ hopT t z e = -1) := by
  have hs : hopT t z z = (z : Int) := by unfold hopT; rw [(H.self hz).2.1]
  obtain ⟨l, e, h1, h2, h3, h4, h5⟩ := path_go (hop := hopT t z) (z := z) (R := StepR t z) (a := a) (fun x y => bet ((t.nd x).bests z).1 ((t.nd x).bests z).2 ((t.nd y).bests z).1 ((t.nd y).bests z).2 = true)
    (fun x hx hne hd => by
      obtain ⟨j, hj, e1, e2, e3⟩ := H.ok.straight hx hz (fun q => hne q.symm) hd
      exact ⟨j, hj, e1, e2, e3, e1⟩)
    hs hz (fun x y r => r.2.1) (fun x y u p q => by rw [bet_iff] at p q ⊢; omega) (fun x p => by rw [bet_iff] at p; omega)
    6 [a] a .one (fun y hy => by rw [List.mem_singleton.1 hy]; exact ha) (by simp) (fun y hy => .inl (List.mem_singleton.1 hy)) (by simp)
  refine ⟨l, e, ?_, h2, h3, h4, nodup_len 6 l h4 h3, h5⟩
  rw [pathF, if_pos ⟨by omega, by omega⟩, Int.toNat_natCast, if_neg (by simp)]
  exact h1
/-- What the links of a path cost. -/
def sumC (c : Nat → Nat → Nat) (l : List Nat) : Nat → Nat
  | 0 => 0
  | k + 1 => sumC c l k + (if h : k + 1 < l.length then c (l[k]'(by omega)) (l[k + 1]'h) else 0)
theorem sumC_app (c : Nat → Nat → Nat) (l : List Nat) (y : Nat) : ∀ k, k < l.length → sumC c (l ++ [y]) k = sumC c l k
  | 0, _ => rfl
  | k + 1, hk => by
    rw [sumC, sumC, sumC_app c l y k (by omega)]
    have h1 : k + 1 < (l ++ [y]).length := by rw [List.length_append]; omega
    rw [dif_pos h1, dif_pos hk, List.getElem_append_left (by omega), List.getElem_append_left hk]
theorem ChL.sum {R : Nat → Nat → Prop} {a : Nat} {l : List Nat} {x : Nat} {c : Nat → Nat → Nat} {D : Nat → Nat} (hD : ∀ u v, R u v → D v + c u v = D u) (h : ChL R a l x) : sumC c l (l.length - 1) + D x = D a := by
  induction h with
  | one => simp [sumC]
  | @snoc l x y h1 h2 ih =>
    have hp := h1.pos
    obtain ⟨n, hn⟩ : ∃ n, l.length = n + 1 := ⟨l.length - 1, by omega⟩
    have e1 : (l ++ [y]).length - 1 = n + 1 := by rw [List.length_append, List.length_singleton]; omega
    rw [e1, sumC, sumC_app c l y n (by omega), dif_pos (by rw [List.length_append, List.length_singleton]; omega)]
    have e2 : (l ++ [y])[n]'(by rw [List.length_append]; omega) = x := by
      rw [List.getElem_append_left (by omega)]
      have := h1.last (by omega)
      rw [← this]; congr 1; omega
    have e3 : (l ++ [y])[n + 1]'(by rw [List.length_append, List.length_singleton]; omega) = y := by
      rw [List.getElem_append_right (by omega)]; simp
    rw [e2, e3]
    have := hD x y h2
    rw [show l.length - 1 = n by omega] at ih
    omega
end Go.Proofs.YtfcknkanbcndjagGreatDoor
