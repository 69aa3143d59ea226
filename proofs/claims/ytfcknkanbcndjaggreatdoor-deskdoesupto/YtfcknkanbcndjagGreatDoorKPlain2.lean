import Derived.Test.YtfcknkanbcndjagGreatDoorNtPlain6
import Derived.Test.YtfcknkanbcndjagGreatDoorKPlain
import Derived.Test.YtfcknkanbcndjagGreatDoorD2
/- THE STEPS OF A NET, AS NUMBERS, with their codes: as the document says them. No Go here. -/
namespace Go.Proofs.YtfcknkanbcndjagGreatDoor

/-- A step: its kind, A, B, N. -/
structure Sp where
  k : Int
  a : Int
  b : Int
  n : Int
abbrev isN (a : Int) : Prop := 0 ≤ a ∧ a < 6
/-- A tells B. -/
def sayC (t : Tn) (a b : Int) : Tn × Int :=
  if ¬ isN a ∨ ¬ isN b then (t, 1)
  else if t.cst a.toNat b.toNat = 0 then (t, 6)
  else if 40 < t.news.length + 6 then (t, 9)
  else (sayT t a.toNat b.toNat, 0)
/-- It tells the first b of all, to the first code. -/
def sayAll (t : Tn) (a : Nat) : Nat → Tn × Int
  | 0 => (t, 0)
  | b + 1 => if (sayAll t a b).2 ≠ 0 then sayAll t a b else if 0 < (sayAll t a b).1.cst a b then sayC (sayAll t a b).1 (a : Int) (b : Int) else sayAll t a b
/-- A list without the element in the place n. -/
def dropAt (l : List Nw) (n : Nat) : List Nw := l.take n ++ l.drop (n + 1)
/-- The news are heard by whom they are for. -/
def hearC (t : Tn) (y : Nw) : Tn × Int := if (t.nd y.g).cost y.f = 0 then (t, 6) else (hearT t y, 0)
def linkC (t : Tn) (a b n : Int) : Tn × Int := if isN a ∧ isN b ∧ a ≠ b ∧ 0 ≤ n ∧ n ≤ 15 then (linkT t a.toNat b.toNat n, 0) else (t, 1)
def newsC (t : Tn) (k n : Int) : Tn × Int :=
  if h : 0 ≤ n ∧ n.toNat < t.news.length then
    (if k = 6 then (if 40 ≤ t.news.length then (t, 9) else ({ t with news := t.news ++ [t.news[n.toNat]'h.2] }, 0))
     else if k = 4 then hearC { t with news := dropAt t.news n.toNat } (t.news[n.toNat]'h.2)
     else ({ t with news := dropAt t.news n.toNat }, 0))
  else (t, 6)
def doT (t : Tn) (x : Sp) : Tn × Int :=
  if x.k = 1 then linkC t x.a x.b x.n
  else if x.k = 2 then (if isN x.a then sayAll (tickT t x.a.toNat) x.a.toNat 6 else (t, 1))
  else if x.k = 3 then sayC t x.a x.b
  else if x.k = 4 ∨ x.k = 5 ∨ x.k = 6 then newsC t x.k x.n
  else (t, 8)
theorem mem_dropAt {l : List Nw} {n : Nat} {x : Nw} (h : x ∈ dropAt l n) : x ∈ l := by
  unfold dropAt at h
  rcases List.mem_append.1 h with q | q
  · exact List.mem_of_mem_take q
  · exact List.mem_of_mem_drop q
/-- Behind a step: the links, the ages, the bests. -/
structure Nx (t t' : Tn) (c c' : Nat → Nat → Nat) (up : Nat → Int) : Prop where
  a : TnA t' c'
  age : ∀ k, k < 6 → agT t' k = agT t k + up k
  best : ∀ x k, x < 6 → k < 6 → bet ((t.nd x).bests k).1 ((t.nd x).bests k).2 ((t'.nd x).bests k).1 ((t'.nd x).bests k).2 = false
theorem Nx.refl {t : Tn} {c : Nat → Nat → Nat} (H : TnA t c) : Nx t t c c (fun _ => 0) := ⟨H, fun k _ => by omega, fun x k _ _ => bet_refl _ _⟩
theorem Nx.sub {t : Tn} {c : Nat → Nat → Nat} (H : TnA t c) {nw : List Nw} (hn : ∀ x ∈ nw, x ∈ t.news) : Nx t { t with news := nw } c c (fun _ => 0) := ⟨H.sub hn, fun k _ => by show agT t k = _; omega, fun x k _ _ => bet_refl _ _⟩
theorem say_nx {t : Tn} {c : Nat → Nat → Nat} (H : TnA t c) (a b : Int) : Nx t (sayC t a b).1 c c (fun _ => 0) := by
  unfold sayC
  by_cases e : ¬ isN a ∨ ¬ isN b
  · rw [if_pos e]; exact Nx.refl H
  · rw [if_neg e]
    by_cases e2 : t.cst a.toNat b.toNat = 0
    · rw [if_pos e2]; exact Nx.refl H
    · rw [if_neg e2]
      by_cases e3 : 40 < t.news.length + 6
      · rw [if_pos e3]; exact Nx.refl H
      · rw [if_neg e3]
        have ha : a.toNat < 6 := by omega
        have hb : b.toNat < 6 := by omega
        have hne : a.toNat ≠ b.toNat := fun q => e2 (by rw [q, H.s.tc.cst _ _ hb hb, H.s.tc.lk.self]; rfl)
        exact ⟨H.say ha hb hne, fun k _ => by show agT t k = _; omega, fun x k _ _ => bet_refl _ _⟩
theorem Nx.trans {t u v : Tn} {c d e : Nat → Nat → Nat} {f g : Nat → Int} (h : Nx t u c d f) (k : Nx u v d e g) : Nx t v c e (fun i => f i + g i) :=
  ⟨k.a, fun i hi => by rw [k.age i hi, h.age i hi]; omega, fun x i hx hi => bet_trans (h.best x i hx hi) (k.best x i hx hi)⟩
theorem Nx.congr {t u : Tn} {c d : Nat → Nat → Nat} {f g : Nat → Int} (h : Nx t u c d f) (e : ∀ k, k < 6 → f k = g k) : Nx t u c d g := ⟨h.a, fun k hk => by rw [h.age k hk, e k hk], h.best⟩
theorem sayAll_nx {t : Tn} {c : Nat → Nat → Nat} (H : TnA t c) (a : Nat) : ∀ b, Nx t (sayAll t a b).1 c c (fun _ => 0)
  | 0 => Nx.refl H
  | b + 1 => by
    have ih := sayAll_nx H a b
    rw [sayAll]
    split
    · exact ih
    · split
      · exact (ih.trans (say_nx ih.a (a : Int) (b : Int))).congr (fun _ _ => rfl)
      · exact ih
theorem hear_nx {t : Tn} {c : Nat → Nat → Nat} (H : TnA t c) {y : Nw} (hy : y.f < 6 ∧ y.g < 6 ∧ y.f ≠ y.g ∧ y.to < 6 ∧ 0 ≤ y.s ∧ 0 ≤ y.d ∧ y.d ≤ 200 ∧ bet y.s y.d ((t.nd y.f).bests y.to).1 ((t.nd y.f).bests y.to).2 = false) (hs : y.s ≤ agT t y.to) : Nx t (hearC t y).1 c c (fun _ => 0) := by
  unfold hearC
  by_cases e : (t.nd y.g).cost y.f = 0
  · rw [if_pos e]; exact Nx.refl H
  · rw [if_neg e]
    have hc : c y.g y.f ≠ 0 := fun q => e (by rw [H.s.tc.cost _ _ hy.2.1 hy.1, q]; rfl)
    obtain ⟨h1, h2⟩ := H.hear hy hs hc
    refine ⟨h1, fun k hk => by rw [h2 k hk]; omega, fun x k hx _ => ?_⟩
    show bet ((t.nd x).bests k).1 ((t.nd x).bests k).2 ((updW t.nd y.g _ x).bests k).1 ((updW t.nd y.g _ x).bests k).2 = false
    by_cases q : x = y.g
    · subst q
      rw [updW_same]
      exact (hear_ok (H.s.z _ hx).ok hy.2.2.2.2.1 hy.2.2.2.2.2.1 hy.2.2.2.2.2.2.1).2 k
    · rw [updW_ne _ _ q]; exact bet_refl _ _
theorem news_nx {t : Tn} {c : Nat → Nat → Nat} (H : TnA t c) (k n : Int) : Nx t (newsC t k n).1 c c (fun _ => 0) := by
  unfold newsC
  by_cases h : 0 ≤ n ∧ n.toNat < t.news.length
  · rw [dif_pos h]
    have hm : t.news[n.toNat]'h.2 ∈ t.news := List.getElem_mem h.2
    have hs := Nx.sub H (nw := dropAt t.news n.toNat) (fun x hx => mem_dropAt hx)
    by_cases e : k = 6
    · rw [if_pos e]
      by_cases e2 : 40 ≤ t.news.length
      · rw [if_pos e2]; exact Nx.refl H
      · rw [if_neg e2]
        exact Nx.sub H (fun x hx => by
          rcases List.mem_append.1 hx with q | q
          · exact q
          · rw [List.mem_singleton.1 q]; exact hm)
    · rw [if_neg e]
      by_cases e2 : k = 4
      · rw [if_pos e2]
        exact (hs.trans (hear_nx hs.a (H.ok.news _ hm) (H.newsA _ hm))).congr (fun _ _ => rfl)
      · rw [if_neg e2]; exact hs
  · rw [dif_neg h]; exact Nx.refl H
/-- The links behind a step. -/
def nextC (c : Nat → Nat → Nat) (x : Sp) : Nat → Nat → Nat := if x.k = 1 ∧ isN x.a ∧ isN x.b ∧ x.a ≠ x.b ∧ 0 ≤ x.n ∧ x.n ≤ 15 then setC c x.a.toNat x.b.toNat x.n.toNat else c
/-- How far an age rises by a step. -/
def upA (x : Sp) (k : Nat) : Int := if x.k = 2 ∧ x.a = (k : Int) then 1 else 0
theorem link_nx {t : Tn} {c : Nat → Nat → Nat} (H : TnA t c) {a b v : Nat} (ha : a < 6) (hb : b < 6) (hne : a ≠ b) (hv : v ≤ 15) : Nx t (linkT t a b v) c (setC c a b v) (fun _ => 0) := by
  obtain ⟨h1, h2⟩ := H.link ha hb hne hv
  refine ⟨h1, fun k hk => by rw [h2 k hk]; omega, fun x k hx _ => ?_⟩
  show bet ((t.nd x).bests k).1 ((t.nd x).bests k).2 ((updW (updW t.nd a (linkM (t.nd a) b v)) b (linkM (t.nd b) a v) x).bests k).1 ((updW (updW t.nd a (linkM (t.nd a) b v)) b (linkM (t.nd b) a v) x).bests k).2 = false
  by_cases q : x = b
  · subst q
    rw [updW_same]
    exact (link_ok (H.s.z _ hx).ok (by omega) (by omega)).2 k
  · rw [updW_ne _ _ q]
    by_cases q2 : x = a
    · subst q2
      rw [updW_same]
      exact (link_ok (H.s.z _ hx).ok (by omega) (by omega)).2 k
    · rw [updW_ne _ _ q2]; exact bet_refl _ _
theorem tick_nx {t : Tn} {c : Nat → Nat → Nat} (H : TnA t c) {a : Nat} (ha : a < 6) : Nx t (tickT t a) c c (fun k => if k = a then 1 else 0) := by
  obtain ⟨h1, h2⟩ := H.tick ha
  refine ⟨h1, fun k hk => ?_, fun x k hx _ => ?_⟩
  · rw [h2]
    by_cases q : k = a
    · rw [if_pos q, if_pos q, q]
    · rw [if_neg q, if_neg q]; omega
  · show bet ((t.nd x).bests k).1 ((t.nd x).bests k).2 ((updW t.nd a (tickM (t.nd a)) x).bests k).1 ((updW t.nd a (tickM (t.nd a)) x).bests k).2 = false
    by_cases q : x = a
    · subst q
      rw [updW_same]
      exact (tick_ok (H.s.z _ hx).ok).2 k
    · rw [updW_ne _ _ q]; exact bet_refl _ _
/-- EACH STEP KEEPS WHAT HOLDS AT ALL TIMES; ages rise at home alone; no best becomes worse. -/
theorem do_nx {t : Tn} {c : Nat → Nat → Nat} (H : TnA t c) (x : Sp) : Nx t (doT t x).1 c (nextC c x) (upA x) := by
  unfold doT nextC
  by_cases e1 : x.k = 1
  · rw [if_pos e1]
    have hu : ∀ k, k < 6 → (0 : Int) = upA x k := fun k _ => by unfold upA; rw [if_neg (fun q => by omega)]
    unfold linkC
    by_cases h : isN x.a ∧ isN x.b ∧ x.a ≠ x.b ∧ 0 ≤ x.n ∧ x.n ≤ 15
    · rw [if_pos h, if_pos ⟨e1, h⟩]
      have e := link_nx H (a := x.a.toNat) (b := x.b.toNat) (v := x.n.toNat) (by omega) (by omega) (by omega) (by omega)
      rw [show ((x.n.toNat : Nat) : Int) = x.n by omega] at e
      exact e.congr hu
    · rw [if_neg h, if_neg (fun q => h q.2)]; exact (Nx.refl H).congr hu
  · have en : ¬ (x.k = 1 ∧ isN x.a ∧ isN x.b ∧ x.a ≠ x.b ∧ 0 ≤ x.n ∧ x.n ≤ 15) := fun q => e1 q.1
    rw [if_neg e1, if_neg en]
    by_cases e2 : x.k = 2
    · rw [if_pos e2]
      by_cases ha : isN x.a
      · rw [if_pos ha]
        have h1 := tick_nx H (a := x.a.toNat) (by omega)
        exact (h1.trans (sayAll_nx h1.a x.a.toNat 6)).congr (fun k hk => by
          unfold upA
          by_cases q : k = x.a.toNat
          · rw [if_pos q, if_pos ⟨e2, by omega⟩]; rfl
          · rw [if_neg q, if_neg (fun w => q (by omega))]; rfl)
      · rw [if_neg ha]
        exact (Nx.refl H).congr (fun k hk => by unfold upA; rw [if_neg (fun w => ha (by omega))])
    · rw [if_neg e2]
      have hu : ∀ k, k < 6 → (0 : Int) = upA x k := fun k _ => by unfold upA; rw [if_neg (fun q => e2 q.1)]
      by_cases e3 : x.k = 3
      · rw [if_pos e3]; exact (say_nx H x.a x.b).congr hu
      · rw [if_neg e3]
        by_cases e4 : x.k = 4 ∨ x.k = 5 ∨ x.k = 6
        · rw [if_pos e4]; exact (news_nx H x.k x.n).congr hu
        · rw [if_neg e4]; exact (Nx.refl H).congr hu
end Go.Proofs.YtfcknkanbcndjagGreatDoor

/- SETTLED, IT STAYS SETTLED, AS NUMBERS: what is told, heard, lost or doubled leaves all lengths. No Go here. -/
namespace Go.Proofs.YtfcknkanbcndjagGreatDoor

theorem Low.congr {T U : Tn} {c : Nat → Nat → Nat} {z : Nat} (hz : z < 6) {S : Int} (e : ∀ x, x < 6 → ZEq (U.nd x) (T.nd x) z) (h : Low T c z S) : Low U c z S :=
  ⟨fun x j hx hj => by rw [(e x hx).heard]; exact h.heard x j hx hj, fun x hx => by rw [(e x hx).bests]; exact h.best x hx, fun x hx => by rw [(e x hx).ways]; exact h.way x hx, by rw [(e z hz).ways]; exact h.self⟩
theorem Stl.congr {T U : Tn} {c : Nat → Nat → Nat} {z : Nat} (hz : z < 6) {S : Int} (e : ∀ x, x < 6 → ZEq (U.nd x) (T.nd x) z) (h : Stl T c z S) : Stl U c z S := by
  obtain ⟨G, hG, hall⟩ := h.reach
  refine ⟨h.low.congr hz e, ⟨G, ⟨hG.home, fun x hx g hne => ?_⟩, hall⟩, fun x hx hd => ?_⟩
  · rw [(e x hx).ways, (e x hx).bests]
    obtain ⟨g1, g2, g3, j, hj, hGj, hc, hh, hd⟩ := hG.ok x hx g hne
    exact ⟨g1, g2, g3, j, hj, hGj, hc, by rw [(e x hx).heard]; exact hh, hd⟩
  · rw [(e x hx).ways]
    exact ⟨(h.out x hx hd).1, fun j hj hdj => by rw [(e x hx).heard]; exact (h.out x hx hd).2 j hj hdj⟩
/-- News as a settled net tells them. -/
structure NwS (c : Nat → Nat → Nat) (S : Int) (z f : Nat) (s d : Int) : Prop where
  low : s ≤ S ∧ (s = S → (dst c z f : Int) ≤ d)
  reach : dst c z f < 200 → s = S ∧ d = (dst c z f : Int)
  out : dst c z f = 200 → 200 ≤ d
theorem new_lb {t : Tn} {c : Nat → Nat → Nat} (C : TnC t c) {z : Nat} {S : Int} (L : Low t c z S) {a b : Nat} (hb : b < 6) {s d : Int} (N : s ≤ S ∧ (s = S → (dst c z a : Int) ≤ d)) :
    ∀ j, j < 6 → (t.nd b).cost j ≠ 0 → (updW (t.nd b).heard a (updW ((t.nd b).heard a) z (s, d)) j z).1 ≤ S ∧ ((updW (t.nd b).heard a (updW ((t.nd b).heard a) z (s, d)) j z).1 = S → (dst c z b : Int) ≤ (updW (t.nd b).heard a (updW ((t.nd b).heard a) z (s, d)) j z).2 + (t.nd b).cost j) := by
  intro j hj hcj
  rw [heard_z]
  have hc := C.cost b j hb hj
  have hs : c b j = c j b := C.lk.sym b j
  have hpos : 0 < c j b := by
    have : c b j ≠ 0 := fun e => hcj (by rw [hc, e]; rfl)
    omega
  have he := dst_edge c (z : Int) hj hb hpos
  by_cases e : j = a
  · rw [if_pos e]
    subst e
    refine ⟨N.1, fun q => ?_⟩
    have := N.2 q
    rw [hc, hs]
    simp only
    omega
  · rw [if_neg e]
    have := L.heard b j hb hj
    refine ⟨this.1, fun q => ?_⟩
    have := this.2 q
    rw [hc, hs]
    omega
/-- Of the end itself of which is heard. -/
theorem Stl.hear {t : Tn} {c : Nat → Nat → Nat} (H : TnA t c) {z : Nat} (hz : z < 6) {S : Int} (h : Stl t c z S) {a b : Nat} (ha : a < 6) (hb : b < 6) (hc : c a b ≠ 0) {s d : Int} (N : NwS c S z a s d) :
    Stl { t with nd := updW t.nd b (hearM (t.nd b) a z s d) } c z S := by
  have C := H.s.tc
  have L := h.low
  have hme := C.me b hb
  obtain ⟨U, hU⟩ : ∃ U : Tn, U = { t with nd := updW t.nd b (hearM (t.nd b) a z s d) } := ⟨_, rfl⟩
  have nb : U.nd b = hearM (t.nd b) a z s d := by rw [hU]; exact updW_same _ _ _
  have nx : ∀ x, x ≠ b → U.nd x = t.nd x := fun x hx => by rw [hU]; exact updW_ne _ _ hx
  rw [← hU]
  have key : b ≠ z → (((hearM (t.nd b) a z s d).ways z).1 ≤ S ∧ (((hearM (t.nd b) a z s d).ways z).1 = S → (dst c z b : Int) ≤ ((hearM (t.nd b) a z s d).ways z).2.1)) ∧ (((hearM (t.nd b) a z s d).bests z).1 ≤ S ∧ (((hearM (t.nd b) a z s d).bests z).1 = S → (dst c z b : Int) ≤ ((hearM (t.nd b) a z s d).bests z).2)) := fun hbz => by
    have hd := dst_le c (z : Int) b
    exact look_bound (m := { t.nd b with heard := updW (t.nd b).heard a (updW ((t.nd b).heard a) z (s, d)) }) (D := (dst c z b : Int)) (by show z ≠ (t.nd b).me; rw [hme]; exact fun q => hbz q.symm) (by omega) (new_lb C L hb N.low) (L.best b hb)
  have hL : Low U c z S := by
    refine ⟨fun x j hx hj => ?_, fun x hx => ?_, fun x hx => ?_, ?_⟩
    · by_cases q : x = b
      · subst q
        rw [nb, hear_heard]
        by_cases e : j = a
        · rw [if_pos e, e]; exact N.low
        · rw [if_neg e]; exact L.heard x j hx hj
      · rw [nx x q]; exact L.heard x j hx hj
    · by_cases q : x = b
      · subst q
        rw [nb]
        by_cases e : x = z
        · rw [(hear_me _ a z _ _ (by rw [hme]; exact e.symm)).2]; exact L.best x hx
        · exact (key e).2
      · rw [nx x q]; exact L.best x hx
    · by_cases q : x = b
      · subst q
        rw [nb]
        by_cases e : x = z
        · rw [(hear_me _ a z _ _ (by rw [hme]; exact e.symm)).1]; exact L.way x hx
        · exact (key e).1
      · rw [nx x q]; exact L.way x hx
    · by_cases q : z = b
      · subst q
        rw [nb, (hear_me _ a z _ _ (by rw [hme])).1]; exact L.self
      · rw [nx z q]; exact L.self
  have hpos : 0 < c a b := by omega
  refine ⟨hL, ?_, fun x hx hd => ?_⟩
  · obtain ⟨G, hG, hall⟩ := h.reach
    refine ⟨G, ⟨hG.home, fun x hx g hne => ?_⟩, hall⟩
    obtain ⟨g1, g2, g3, j, hj, hGj, hcj, hhj, hdj⟩ := hG.ok x hx g hne
    by_cases q : x = b
    · subst q
      rw [nb]
      have hh : (hearM (t.nd x) a z s d).heard j z = (S, (dst c z j : Int)) := by
        rw [hear_heard]
        by_cases e : j = a
        · rw [if_pos e]
          have hda : dst c z a < 200 := by rw [← e]; omega
          obtain ⟨r1, r2⟩ := N.reach hda
          rw [r1, r2, e]
        · rw [if_neg e]; exact hhj
      have hcost : (t.nd x).cost j = (c j x : Int) := by rw [C.cost x j hx hj, C.lk.sym x j]
      have hh' : updW (t.nd x).heard a (updW ((t.nd x).heard a) z (s, d)) j z = (S, (dst c z j : Int)) := by
        have := hh
        rw [hear_heard] at this
        rw [heard_z]; exact this
      have lg := look_good (m := { t.nd x with heard := updW (t.nd x).heard a (updW ((t.nd x).heard a) z (s, d)) }) (S := S) (D := (dst c z x : Int)) (show z ≠ (t.nd x).me by rw [hme]; exact fun e => hne e.symm) hj (show 0 < (t.nd x).cost j by rw [hcost]; omega) (by dsimp only; rw [hh']) (by dsimp only; rw [hh', hcost]; simp only; omega) (by omega) (new_lb C L hx N.low) (L.best x hx)
      obtain ⟨⟨k, hk, hw, hck, hk1, hk2⟩, hbst⟩ := lg
      have h1 : (t.nd x).cost k = (c k x : Int) := by rw [C.cost x k hx hk, C.lk.sym x k]
      have hck' : (t.nd x).cost k ≠ 0 := hck
      refine ⟨g1, ⟨k, hk, hw, by omega, ?_⟩, hbst, j, hj, hGj, hcj, hh, hdj⟩
      have he := dst_edge c (z : Int) hk hx (show 0 < c k x by omega)
      have hl := hL.heard x k hx hk
      rw [nb, hear_heard] at hl
      have hk1' : (updW (t.nd x).heard a (updW ((t.nd x).heard a) z (s, d)) k z).1 = S := hk1
      have hk2' : (updW (t.nd x).heard a (updW ((t.nd x).heard a) z (s, d)) k z).2 + (t.nd x).cost k = (dst c z x : Int) := hk2
      rw [heard_z] at hk1' hk2'
      have hl2 := hl.2 hk1'
      omega
    · rw [nx x q]
      exact ⟨g1, g2, g3, j, hj, hGj, hcj, hhj, hdj⟩
  · have hxz : z ≠ x := fun e => by rw [← e, dst_self c hz] at hd; omega
    by_cases q : x = b
    · subst q
      have hda : dst c z a = 200 := dst_out C.lk (z : Int) ha hx hpos hd
      have heard' : ∀ j, j < 6 → dst c z j = 200 → 200 ≤ ((hearM (t.nd x) a z s d).heard j z).2 := fun j hj hdj => by
        rw [hear_heard]
        by_cases e : j = a
        · rw [if_pos e]; exact N.out hda
        · rw [if_neg e]; exact (h.out x hx hd).2 j hj hdj
      rw [nb]
      refine ⟨?_, heard'⟩
      have hn : ∀ j, j < 6 → mayB { t.nd x with heard := updW (t.nd x).heard a (updW ((t.nd x).heard a) z (s, d)) } z j = false := fun j hj => by
        cases qm : mayB { t.nd x with heard := updW (t.nd x).heard a (updW ((t.nd x).heard a) z (s, d)) } z j
        · rfl
        · exfalso
          obtain ⟨c0, c1, _⟩ := may_iff.1 qm
          have c0' : (t.nd x).cost j ≠ 0 := c0
          have h1 : (t.nd x).cost j = (c j x : Int) := by rw [C.cost x j hx hj, C.lk.sym x j]
          have hdj := dst_out C.lk (z : Int) hj hx (show 0 < c j x by omega) hd
          have h2 := heard' j hj hdj
          rw [hear_heard] at h2
          have c1' : (updW (t.nd x).heard a (updW ((t.nd x).heard a) z (s, d)) j z).2 + (t.nd x).cost j < 200 := c1
          rw [heard_z] at c1'
          omega
      have := (look_none hn (show z ≠ (t.nd x).me by rw [hme]; exact hxz)).1
      show ((lookM _ z).ways z).2.2 = -1
      rw [this]
    · rw [nx x q]; exact h.out x hx hd

/-- A settled net, and what is on its way in it. -/
structure Ag (T : Tn) (c : Nat → Nat → Nat) (S : Nat → Int) : Prop where
  a : TnA T c
  st : ∀ z, z < 6 → Stl T c z (S z)
  nw : ∀ x ∈ T.news, NwS c (S x.to) x.to x.f x.s x.d
theorem Ag.sub {T : Tn} {c : Nat → Nat → Nat} {S : Nat → Int} (h : Ag T c S) {nw : List Nw} (hn : ∀ x ∈ nw, x ∈ T.news) : Ag { T with news := nw } c S :=
  ⟨h.a.sub hn, fun z hz => Stl.congr (T := T) hz (fun x _ => ZEq.refl (T.nd x) z) (h.st z hz), fun x hx => h.nw x (hn x hx)⟩
theorem Stl.tells {T : Tn} {c : Nat → Nat → Nat} {z : Nat} {S : Int} (h : Stl T c z S) (H : TnA T c) (hz : z < 6) {a : Nat} (ha : a < 6) : NwS c S z a ((T.nd a).ways z).1 ((T.nd a).ways z).2.1 := by
  refine ⟨h.low.way a ha, fun hd => ?_, fun hd => ?_⟩
  · obtain ⟨G, hG, hall⟩ := h.reach
    exact hG.way h.low hz ha (hall a ha hd)
  · rw [(h.way H hz ha).1, hd]; exact Int.le_refl _
theorem Ag.say {T : Tn} {c : Nat → Nat → Nat} {S : Nat → Int} (h : Ag T c S) (a b : Int) : Ag (sayC T a b).1 c S := by
  have hn := say_nx h.a a b
  unfold sayC at hn ⊢
  by_cases e : ¬ isN a ∨ ¬ isN b
  · rw [if_pos e]; exact h
  · rw [if_neg e] at hn ⊢
    by_cases e2 : T.cst a.toNat b.toNat = 0
    · rw [if_pos e2]; exact h
    · rw [if_neg e2] at hn ⊢
      by_cases e3 : 40 < T.news.length + 6
      · rw [if_pos e3]; exact h
      · rw [if_neg e3] at hn ⊢
        refine ⟨hn.a, fun z hz => Stl.congr (T := T) hz (fun x _ => ZEq.refl (T.nd x) z) (h.st z hz), fun x hx => ?_⟩
        rcases List.mem_append.1 hx with q | q
        · exact h.nw x q
        · obtain ⟨k, hk, rfl⟩ := List.mem_map.1 q
          have hk6 := List.mem_range.1 hk
          exact (h.st k hk6).tells h.a hk6 (show a.toNat < 6 by omega)
theorem Ag.hear {T : Tn} {c : Nat → Nat → Nat} {S : Nat → Int} (h : Ag T c S) {y : Nw} (hy : y.f < 6 ∧ y.g < 6 ∧ y.f ≠ y.g ∧ y.to < 6 ∧ 0 ≤ y.s ∧ 0 ≤ y.d ∧ y.d ≤ 200 ∧ bet y.s y.d ((T.nd y.f).bests y.to).1 ((T.nd y.f).bests y.to).2 = false) (hs : y.s ≤ agT T y.to) (N : NwS c (S y.to) y.to y.f y.s y.d) : Ag (hearC T y).1 c S := by
  have hn := hear_nx h.a hy hs
  unfold hearC at hn ⊢
  by_cases e : (T.nd y.g).cost y.f = 0
  · rw [if_pos e]; exact h
  · rw [if_neg e] at hn ⊢
    have hc : c y.g y.f ≠ 0 := fun q => e (by rw [h.a.s.tc.cost _ _ hy.2.1 hy.1, q]; rfl)
    have hc' : c y.f y.g ≠ 0 := by rw [h.a.s.tc.lk.sym]; exact hc
    refine ⟨hn.a, fun z hz => ?_, h.nw⟩
    by_cases q : z = y.to
    · subst q
      exact (h.st y.to hz).hear h.a hz hy.1 hy.2.1 hc' N
    · refine (h.st z hz).congr hz (fun x _ => ?_)
      show ZEq (updW T.nd y.g (hearM (T.nd y.g) y.f y.to y.s y.d) x) (T.nd x) z
      by_cases w : x = y.g
      · subst w; rw [updW_same]; exact hear_far _ q _ _
      · rw [updW_ne _ _ w]; exact ZEq.refl _ _
/-- SETTLED, IT STAYS SETTLED: but for a link that is set or an age that rises. -/
theorem Ag.step {T : Tn} {c : Nat → Nat → Nat} {S : Nat → Int} (h : Ag T c S) (x : Sp) (h1 : x.k ≠ 1) (h2 : x.k ≠ 2) : Ag (doT T x).1 c S := by
  unfold doT
  rw [if_neg h1, if_neg h2]
  by_cases e3 : x.k = 3
  · rw [if_pos e3]; exact h.say x.a x.b
  · rw [if_neg e3]
    by_cases e4 : x.k = 4 ∨ x.k = 5 ∨ x.k = 6
    · rw [if_pos e4]
      unfold newsC
      by_cases hl : 0 ≤ x.n ∧ x.n.toNat < T.news.length
      · rw [dif_pos hl]
        have hm : T.news[x.n.toNat]'hl.2 ∈ T.news := List.getElem_mem hl.2
        have hs := h.sub (nw := dropAt T.news x.n.toNat) (fun x hx => mem_dropAt hx)
        by_cases e : x.k = 6
        · rw [if_pos e]
          by_cases e2 : 40 ≤ T.news.length
          · rw [if_pos e2]; exact h
          · rw [if_neg e2]
            exact h.sub (fun x hx => by
              rcases List.mem_append.1 hx with q | q
              · exact q
              · rw [List.mem_singleton.1 q]; exact hm)
        · rw [if_neg e]
          by_cases e2 : x.k = 4
          · rw [if_pos e2]
            exact hs.hear (h.a.ok.news _ hm) (h.a.newsA _ hm) (h.nw _ hm)
          · rw [if_neg e2]; exact hs
      · rw [dif_neg hl]; exact h
    · rw [if_neg e4]; exact h
theorem Ag.start {t : Tn} {c : Nat → Nat → Nat} (H : TnA t c) {r : Nat} (hr : 7 ≤ r) : Ag (settleT t r) c (fun z => agT t z + 1) := by
  obtain ⟨h1, h2⟩ := H.settle hr
  exact ⟨h1, h2, fun x hx => by rw [settleT_news] at hx; cases hx⟩

end Go.Proofs.YtfcknkanbcndjagGreatDoor

/- WHAT BOTH THE PROGRAM'S Net AND THE REFERENCE'S Town NAME: news as numbers in memory, frames. -/
namespace Go.Proofs.YtfcknkanbcndjagGreatDoor
open Go.RowKit

def newsL (l : List Nw) : List Nws := l.map fun x => ((x.f : Int), (x.g : Int), (x.to : Int), x.s, x.d)
theorem newsL_len (l : List Nw) : (newsL l).length = l.length := List.length_map _
theorem newsL_app (a b : List Nw) : newsL (a ++ b) = newsL a ++ newsL b := List.map_append
theorem NwO.own_lt {lo : Nat} {w : World} {v : Value} {l : List Nws} (h : NwO lo w v l) {b : Nat} (e : v.ownBlock = some b) : b < w.heap.size := by
  rcases h.2 with ⟨rfl, _⟩ | ⟨g, cap, cur, rfl, hb, hgg, _⟩
  · cases e
  · cases e; exact lt_of_block hgg
theorem NwO.apart {lo : Nat} {w : World} {v : Value} {l : List Nws} (h : NwO lo w v l) {b : Nat} (e : v.ownBlock = some b) {t : TypeId} {cs : Array Value} {fr : Nat × Nat} {k : Nat} (hk : w.heap[k]? = some (.cells cs t fr)) (ht : t ≠ 114) : b ≠ k := by
  rcases h.2 with ⟨rfl, _⟩ | ⟨g, cap, cur, rfl, hb, hgg, _⟩
  · cases e
  · cases e
    exact blk_ne hgg hk (fun q => ht q.symm)
theorem tell_news {t : Tn} {a b : Nat} (hme : (t.nd a).me = a) : newsL (tellT t a b) = tellL (t.nd a) (b : Int) 6 := by
  unfold newsL tellT
  simp [List.range, List.range.loop, tellL, hme]
theorem Wr.kp {M : Nat → Prop} {p : Nat} {w w' : World} (h : Wr p w w') (hp : ¬ M p) : Kp M w w' := ⟨h.os, h.tape, h.output, h.size, fun k hk hm => h.block k hk (fun e => hp (e ▸ hm))⟩
theorem Kp.wr {M : Nat → Prop} {B w w' : World} {p : Nat} (h : Kp M B w) (k : Wr p w w') (hp : ¬ M p) : Kp M B w' := h.trans (k.kp hp)
/-- A call of a Go function whose contract is known, as one step of a region that draws. -/
theorem step_call2 {P : Program} {ops : Array Oper} {oo : Oper} {a : Act} {w : World} {K : Act → World → Prop} {Q : Exit → Act → World → Prop} {E : Prop}
    (hg : oo.guard = none) (f : FuncId) (args : Array Value) (he : (execOp a.eval oo).run P w = .ok (.enter f args) w)
    {R : Value → World → Prop} (hC : Calls P f args w fun e w' => ∃ r, e = .returned r ∧ R r w') (hK : ∀ r w', R r w' → K (a.put oo.dst r) w') :
    if Region.wanted oo (yielded ops a.tmps) = true then Oper.wp P oo a w K Q else E := by
  have hw : Region.wanted oo (yielded ops a.tmps) = true := by simp [Region.wanted, hg]
  rw [if_pos hw]
  unfold Oper.wp
  rw [he, Oper.upon_enter]
  refine hC.mono fun e w' ⟨r, he, hr⟩ => ?_
  subst he
  exact hK r w' hr

end Go.Proofs.YtfcknkanbcndjagGreatDoor

/- CONTRACTS OF package node: Link, Hear, Tick. -/
namespace Go.Proofs.YtfcknkanbcndjagGreatDoor
open Go.RowKit
attribute [local go_sem] Ext.all Ext.cell Ext.frozen Ext.lt Ext.lt1 Ext.lt2 Ext.ne Ext.ne'
theorem cost_bd {m : Md} (h : Bd m) (f : Nat) {c : Int} (h0 : 0 ≤ c) (h1 : c ≤ 15) : Bd { m with cost := updW m.cost f c } := by
  refine ⟨fun r => ?_, h.said, h.best⟩
  show 0 ≤ updW m.cost f c r ∧ updW m.cost f c r ≤ 15
  unfold updW
  split
  · exact ⟨h0, h1⟩
  · exact h.cost r
theorem forget_bd {m : Md} (h : Bd m) (f : Nat) : Bd { m with heard := updW m.heard f (fun _ => (0, 200)) } := by
  refine ⟨h.cost, fun r k => ?_, h.best⟩
  show 0 ≤ (updW m.heard f (fun _ => (0, 200)) r k).2 ∧ (updW m.heard f (fun _ => (0, 200)) r k).2 ≤ 200
  by_cases e : r = f
  · rw [e, updW_same]; exact ⟨by decide, by decide⟩
  · rw [updW_ne _ _ e]; exact h.said r k
theorem heard_bd {m : Md} (h : Bd m) (f z : Nat) {s d : Int} (h0 : 0 ≤ d) (h1 : d ≤ 200) : Bd { m with heard := updW m.heard f (updW (m.heard f) z (s, d)) } := by
  refine ⟨h.cost, fun r k => ?_, h.best⟩
  show 0 ≤ (updW m.heard f (updW (m.heard f) z (s, d)) r k).2 ∧ (updW m.heard f (updW (m.heard f) z (s, d)) r k).2 ≤ 200
  by_cases e : r = f
  · rw [e, updW_same]
    by_cases e2 : k = z
    · rw [e2, updW_same]; exact ⟨h0, h1⟩
    · rw [updW_ne _ _ e2]; exact h.said f k
  · rw [updW_ne _ _ e]; exact h.said r k
set_option maxRecDepth 20000 in
set_option maxHeartbeats 8000000 in
theorem nlink_ok {w : World} {p : Nat} {m : Md} (H : DAt w p m) (hB : Bd m) {f : Nat} {c : Int} (hf : f < 6) (hfm : f ≠ m.me) (h0 : 0 ≤ c) (h1 : c ≤ 15) :
    Calls Tryz.prog 121 #[pv p, iv f, iv c] w fun e w' => e = .returned (iv 0) ∧ DAt w' p (linkM m f c) ∧ Wr p w w' := by
  have hp := H.lt
  have hfi : (f : Int) < 6 := by omega
  have HO : Hid (decide ((0 ≤ (f : Int) ∧ (f : Int) < 6) ∧ (f : Int) ≠ m.me) = true) := decide_eq_true ⟨by omega, by omega⟩
  have HN := hide (nother_is H HO.out)
  have g4 : decide (c < 0) = false := decide_eq_false (by omega)
  have g5 : decide (15 < c) = false := decide_eq_false (by omega)
  have k0 := H.cost hf
  have fz := NdAt.free H
  have SM := hide (H.setCost hf c)
  have SW := hide ((Wr.refl p w).set (1 + f) (iv c))
  have HB1 := hide (cost_bd hB f h0 h1)
  have HB2 := hide (forget_bd HB1.out f)
  by_cases hc : c = 0
  · have gc : (c == 0) = true := by simpa using hc
    have HL : Hid (linkM m f c = lookTo { { m with cost := updW m.cost f c } with heard := updW m.heard f (fun _ => (0, 200)) } 6) := by unfold Hid linkM; rw [if_pos hc]
    clear H hB hfm h0 h1 hc
    go_enter Tryz.func121, Tryz.ntmps121
    go_upto_region 7 with (go_at_call 109; with_reducible refine HN.out.mono ?_; rintro e w1 ⟨rfl, hw1⟩; have hw2 := hw1.symm; clear hw1; subst hw2)
    refine wp_gen (fun V => Hid (DAt V p { m with cost := updW m.cost f c }) ∧ Hid (Wr p w V)) ⟨SM, SW⟩ ?_
    clear SM SW k0 fz hp HN
    rintro V ⟨M1, W1⟩
    go_upto_region 8 with (go_at_call 142; with_reducible refine (nforget_any M1.out hf).mono ?_; rintro e V2 ⟨rfl, M2', W2'⟩; have M2 := hide M2'; have W2 := hide W2'; clear M2' W2')
    go_wp2_with (go_at_call 110; with_reducible refine (nchooseAll_any M2.out HB2.out).mono ?_; rintro e V3 ⟨rfl, M3', W3'⟩; have M3 := hide M3'; have W3 := hide W3'; clear M3' W3')
    go_ret
    exact ⟨rfl, by rw [HL.out]; exact M3.out, (W1.out.trans W2.out).trans W3.out⟩
  · have gc : (c == 0) = false := by simpa using hc
    have HL : Hid (linkM m f c = lookTo { m with cost := updW m.cost f c } 6) := by unfold Hid linkM; rw [if_neg hc]
    clear H hB hfm h0 h1 hc
    go_enter Tryz.func121, Tryz.ntmps121
    go_upto_region 8 with (go_at_call 109; with_reducible refine HN.out.mono ?_; rintro e w1 ⟨rfl, hw1⟩; have hw2 := hw1.symm; clear hw1; subst hw2)
    refine wp_gen (fun V => Hid (DAt V p { m with cost := updW m.cost f c }) ∧ Hid (Wr p w V)) ⟨SM, SW⟩ ?_
    clear SM SW k0 fz hp HN
    rintro V ⟨M1, W1⟩
    go_wp2_with (go_at_call 110; with_reducible refine (nchooseAll_any M1.out HB1.out).mono ?_; rintro e V3 ⟨rfl, M3', W3'⟩; have M3 := hide M3'; have W3 := hide W3'; clear M3' W3')
    go_ret
    exact ⟨rfl, by rw [HL.out]; exact M3.out, W1.out.trans W3.out⟩

set_option maxRecDepth 20000 in
set_option maxHeartbeats 8000000 in
theorem nlink_bad {w : World} {p : Nat} {m : Md} (H : DAt w p m) {f c : Int} (hb : ¬ (0 ≤ f ∧ f < 6) ∨ f = m.me ∨ c < 0 ∨ 15 < c) :
    Calls Tryz.prog 121 #[pv p, iv f, iv c] w fun e w' => e = .returned (iv 1) ∧ w' = w := by
  have hp := H.lt
  obtain ⟨b, B1⟩ : ∃ b, Hid (decide ((0 ≤ f ∧ f < 6) ∧ f ≠ m.me) = b) := ⟨_, rfl⟩
  have HN := hide (nother_is H B1.out)
  have HB : Hid (b = false ∨ decide (c < 0) = true ∨ decide (15 < c) = true) := by
    rcases hb with h | h | h | h
    · exact .inl (by rw [← B1.out]; exact decide_eq_false (fun q => h q.1))
    · exact .inl (by rw [← B1.out]; exact decide_eq_false (fun q => q.2 h))
    · exact .inr (.inl (decide_eq_true h))
    · exact .inr (.inr (decide_eq_true h))
  clear hb H
  cases b
  · clear HB
    go_enter Tryz.func121, Tryz.ntmps121
    go_wp2_with (go_at_call 109; with_reducible refine HN.out.mono ?_; rintro e w1 ⟨rfl, hw1⟩; have hw2 := hw1.symm; clear hw1; subst hw2)
    go_ret
    exact ⟨rfl, rfl⟩
  · cases g4 : decide (c < 0)
    · have g5 : decide (15 < c) = true := by have := HB.out; simpa [g4] using this
      clear HB
      go_enter Tryz.func121, Tryz.ntmps121
      go_wp2_with (go_at_call 109; with_reducible refine HN.out.mono ?_; rintro e w1 ⟨rfl, hw1⟩; have hw2 := hw1.symm; clear hw1; subst hw2)
      go_ret
      exact ⟨rfl, rfl⟩
    · clear HB
      go_enter Tryz.func121, Tryz.ntmps121
      go_wp2_with (go_at_call 109; with_reducible refine HN.out.mono ?_; rintro e w1 ⟨rfl, hw1⟩; have hw2 := hw1.symm; clear hw1; subst hw2)
      go_ret
      exact ⟨rfl, rfl⟩

set_option maxRecDepth 20000 in
set_option maxHeartbeats 8000000 in
theorem ntick_any {w : World} {p : Nat} {m : Md} (H : DAt w p m) (hme : m.me < 6) (hs : 0 ≤ (m.ways m.me).1) (hs2 : (m.ways m.me).1 < 4611686018427387904) :
    Calls Tryz.prog 29 #[pv p] w fun e w' => e = .returned (.tuple #[]) ∧ DAt w' p (tickD m) ∧ Wr p w w' := by
  have c0 := H.me
  have hp := H.lt
  have fz := NdAt.free H
  obtain ⟨q0, q1, q2⟩ := H.ways hme
  have hmi : (m.me : Int) < 6 := by omega
  have wb : IntKind.i64.wrap ((m.ways m.me).1 + 1) = (m.ways m.me).1 + 1 := by rw [IntKind.wrap_i64]; omega
  have SM := hide (H.setAge hme ((m.ways m.me).1 + 1))
  have SW := hide ((Wr.refl p w).set (79 + m.me * 3) (iv ((m.ways m.me).1 + 1)))
  have HT : Hid (tickD m = { m with ways := updW m.ways m.me ((m.ways m.me).1 + 1, (m.ways m.me).2.1, (m.ways m.me).2.2) }) := rfl
  clear H hs hs2
  go_enter Tryz.func29, Tryz.ntmps29
  go_upto_region 1 with (fail)
  go_still_tail 15, (by kernel_rfl)
  go_wp2_with fail
  refine bodyPost_end (results_none rfl _ _ _) rfl ?_
  exact ⟨rfl, by rw [HT.out]; exact SM.out.gr (Gr.refl _).drew, SW.out.trans ((Gr.refl _).drew.wr p)⟩

end Go.Proofs.YtfcknkanbcndjagGreatDoor

/- CONTRACTS OF package node: Hear. -/
namespace Go.Proofs.YtfcknkanbcndjagGreatDoor
open Go.RowKit
attribute [local go_sem] Ext.all Ext.cell Ext.frozen Ext.lt Ext.lt1 Ext.lt2 Ext.ne Ext.ne'
set_option maxRecDepth 20000 in
set_option maxHeartbeats 8000000 in
theorem nhear_ok {w : World} {p : Nat} {m : Md} (H : DAt w p m) (hB : Bd m) {f z : Nat} {o s d : Int} (hf : f < 6) (hz : z < 6) (hfm : f ≠ m.me) (hc : m.cost f ≠ 0) (hs : 0 ≤ s) (hd : 0 ≤ d) (hd2 : d ≤ 200) :
    Calls Tryz.prog 58 #[pv p, .agg #[iv f, iv o, iv z, iv s, iv d]] w fun e w' => e = .returned (iv 0) ∧ DAt w' p (hearD m f z s d) ∧ Wr p w w' := by
  have hp := H.lt
  have HPW := hide hp
  have hfi : (f : Int) < 6 := by omega
  have hzi : (z : Int) < 6 := by omega
  have HO : Hid (decide ((0 ≤ (f : Int) ∧ (f : Int) < 6) ∧ (f : Int) ≠ m.me) = true) := decide_eq_true ⟨by omega, by omega⟩
  have B2 : Hid (decide (0 ≤ (z : Int) ∧ (z : Int) < 6) = true) := decide_eq_true ⟨by omega, hzi⟩
  have g4 : decide (s < 0) = false := decide_eq_false (by omega)
  have g5 : decide (d < 0) = false := decide_eq_false (by omega)
  have g6 : decide (200 < d) = false := decide_eq_false (by omega)
  have g7 : (m.cost f == 0) = false := by simpa using hc
  have HM := hide (fun (X : World) (g : Gr w X) => H.gr g)
  have HL : Hid (hearD m f z s d = lookTo { m with heard := updW m.heard f (updW (m.heard f) z (s, d)) } 6) := rfl
  have HB1 := hide (heard_bd hB f z (s := s) hd hd2)
  clear H hs hd hd2 hfm hc
  go_enter Tryz.func58, Tryz.ntmps58
  go_upto_region 1 with (fail)
  refine wp_gen (fun V => Hid (ZArr V 114 5 w.heap.size (nwF f o z s d)) ∧ Hid (Gr w V)) ⟨ZArr.new w 114 5 (nwF f o z s d), (Gr.refl _).alloc _⟩ ?_
  clear hp
  rintro V ⟨A, gV⟩
  have k0 : V.cell? ⟨w.heap.size, 0, none⟩ = some (iv f) := A.out.cell (by omega)
  have k2 : V.cell? ⟨w.heap.size, 2, none⟩ = some (iv z) := A.out.cell (by omega)
  have k3 : V.cell? ⟨w.heap.size, 3, none⟩ = some (iv s) := A.out.cell (by omega)
  have k4 : V.cell? ⟨w.heap.size, 4, none⟩ = some (iv d) := A.out.cell (by omega)
  have c1 := (HM.out _ gV.out).cost hf
  have HN := hide (nother_is (HM.out _ gV.out) HO.out)
  have j0 := A.out.lt
  have j1 := (HM.out _ gV.out).lt
  go_upto_region 3 with (first | (go_at_call 109; with_reducible refine HN.out.mono ?_; rintro e w1 ⟨rfl, hw1⟩; have hw2 := hw1.symm; clear hw1; subst hw2) | (go_at_call 33; with_reducible refine (lnode_is B2.out _).mono ?_; rintro e w1 ⟨rfl, hw1⟩; have hw2 := hw1.symm; clear hw1; subst hw2))
  refine wp_region_ext (by kernel_rfl) (by kernel_rfl) ?_
  repeat (go_big_quiet_step (fail))
  refine wpQuiet_nil ?_
  rintro _ ⟨d2, rfl⟩
  go_upto_region 5 with (fail)
  refine wp_gen (fun V2 => Hid (ZArr V2 114 5 w.heap.size (nwF f o z s d)) ∧ Hid (Gr w V2)) ⟨A.out.gr d2.gr, gV.out.trans d2.gr⟩ ?_
  clear A gV k0 k2 k3 k4 c1 j0 j1 HN d2
  rintro V2 ⟨A, gV⟩
  have k0 : V2.cell? ⟨w.heap.size, 0, none⟩ = some (iv f) := A.out.cell (by omega)
  have k2 : V2.cell? ⟨w.heap.size, 2, none⟩ = some (iv z) := A.out.cell (by omega)
  have k3 : V2.cell? ⟨w.heap.size, 3, none⟩ = some (iv s) := A.out.cell (by omega)
  have k4 : V2.cell? ⟨w.heap.size, 4, none⟩ = some (iv d) := A.out.cell (by omega)
  obtain ⟨q0, q1⟩ := (HM.out _ gV.out).heard hf hz
  have fz := NdAt.free (HM.out _ gV.out)
  have j0 := A.out.lt
  have j1 := (HM.out _ gV.out).lt
  have SM := hide ((HM.out _ gV.out).setHeard hf hz s d)
  have SW := hide (((gV.out.wr p).set (7 + f * 12 + z * 2) (iv s)).set (7 + f * 12 + z * 2 + 1) (iv d))
  clear A gV
  go_still_tail 14, (by kernel_rfl)
  go_upto_region 6 with (fail)
  refine wp_gen (fun V3 => Hid (DAt V3 p { m with heard := updW m.heard f (updW (m.heard f) z (s, d)) }) ∧ Hid (Wr p w V3)) ⟨SM.out.gr (Gr.refl _).drew, SW.out.trans ((Gr.refl _).drew.wr p)⟩ ?_
  clear SM SW k0 k2 k3 k4 q0 q1 fz j0 j1
  rintro V3 ⟨M3, W3⟩
  go_wp2_with (go_at_call 110; with_reducible refine (nchooseAll_any M3.out HB1.out).mono ?_; rintro e V4 ⟨rfl, M4, W4⟩; have HM4 := hide M4; have HW4 := hide W4; clear M4 W4)
  go_ret
  exact ⟨rfl, by rw [HL.out]; exact HM4.out, W3.out.trans HW4.out⟩

set_option maxRecDepth 20000 in
set_option maxHeartbeats 8000000 in
theorem nhear_none {w : World} {p : Nat} {m : Md} (H : DAt w p m) {f z : Nat} {o s d : Int} (hf : f < 6) (hz : z < 6) (hfm : f ≠ m.me) (hc : m.cost f = 0) (hs : 0 ≤ s) (hd : 0 ≤ d) (hd2 : d ≤ 200) :
    Calls Tryz.prog 58 #[pv p, .agg #[iv f, iv o, iv z, iv s, iv d]] w fun e w' => e = .returned (iv 6) ∧ Gr w w' := by
  have hp := H.lt
  have hfi : (f : Int) < 6 := by omega
  have hzi : (z : Int) < 6 := by omega
  have HO : Hid (decide ((0 ≤ (f : Int) ∧ (f : Int) < 6) ∧ (f : Int) ≠ m.me) = true) := decide_eq_true ⟨by omega, by omega⟩
  have B2 : Hid (decide (0 ≤ (z : Int) ∧ (z : Int) < 6) = true) := decide_eq_true ⟨by omega, hzi⟩
  have g4 : decide (s < 0) = false := decide_eq_false (by omega)
  have g5 : decide (d < 0) = false := decide_eq_false (by omega)
  have g6 : decide (200 < d) = false := decide_eq_false (by omega)
  have g7 : (m.cost f == 0) = true := by simpa using hc
  have HM := hide (fun (X : World) (g : Gr w X) => H.gr g)
  clear H hs hd hd2 hfm hc
  go_enter Tryz.func58, Tryz.ntmps58
  go_upto_region 1 with (fail)
  refine wp_gen (fun V => Hid (ZArr V 114 5 w.heap.size (nwF f o z s d)) ∧ Hid (Gr w V)) ⟨ZArr.new w 114 5 (nwF f o z s d), (Gr.refl _).alloc _⟩ ?_
  clear hp
  rintro V ⟨A, gV⟩
  have k0 : V.cell? ⟨w.heap.size, 0, none⟩ = some (iv f) := A.out.cell (by omega)
  have k2 : V.cell? ⟨w.heap.size, 2, none⟩ = some (iv z) := A.out.cell (by omega)
  have k3 : V.cell? ⟨w.heap.size, 3, none⟩ = some (iv s) := A.out.cell (by omega)
  have k4 : V.cell? ⟨w.heap.size, 4, none⟩ = some (iv d) := A.out.cell (by omega)
  have c1 := (HM.out _ gV.out).cost hf
  have HN := hide (nother_is (HM.out _ gV.out) HO.out)
  have j0 := A.out.lt
  have j1 := (HM.out _ gV.out).lt
  go_upto_region 3 with (first | (go_at_call 109; with_reducible refine HN.out.mono ?_; rintro e w1 ⟨rfl, hw1⟩; have hw2 := hw1.symm; clear hw1; subst hw2) | (go_at_call 33; with_reducible refine (lnode_is B2.out _).mono ?_; rintro e w1 ⟨rfl, hw1⟩; have hw2 := hw1.symm; clear hw1; subst hw2))
  refine wp_region_ext (by kernel_rfl) (by kernel_rfl) ?_
  repeat (go_big_quiet_step (fail))
  refine wpQuiet_nil ?_
  rintro _ ⟨d2, rfl⟩
  go_wp2_with fail
  go_ret
  exact ⟨rfl, gV.out.trans d2.gr⟩

set_option maxRecDepth 20000 in
set_option maxHeartbeats 8000000 in
theorem nhear_bad {w : World} {p : Nat} {m : Md} (H : DAt w p m) {f o z s d : Int} (hb : ¬ (0 ≤ f ∧ f < 6) ∨ ¬ (0 ≤ z ∧ z < 6) ∨ f = m.me ∨ s < 0 ∨ d < 0 ∨ 200 < d) :
    Calls Tryz.prog 58 #[pv p, .agg #[iv f, iv o, iv z, iv s, iv d]] w fun e w' => e = .returned (iv 1) ∧ Gr w w' := by
  have HM := hide (fun (X : World) (g : Gr w X) => H.gr g)
  obtain ⟨b, B1⟩ : ∃ b, Hid (decide ((0 ≤ f ∧ f < 6) ∧ f ≠ m.me) = b) := ⟨_, rfl⟩
  obtain ⟨b2, B2⟩ : ∃ b, Hid (decide (0 ≤ z ∧ z < 6) = b) := ⟨_, rfl⟩
  have HB : Hid (b = false ∨ b2 = false ∨ decide (s < 0) = true ∨ decide (d < 0) = true ∨ decide (200 < d) = true) := by
    rcases hb with h | h | h | h | h | h
    · exact .inl (by rw [← B1.out]; exact decide_eq_false (fun q => h q.1))
    · exact .inr (.inl (by rw [← B2.out]; exact decide_eq_false h))
    · exact .inl (by rw [← B1.out]; exact decide_eq_false (fun q => q.2 h))
    · exact .inr (.inr (.inl (decide_eq_true h)))
    · exact .inr (.inr (.inr (.inl (decide_eq_true h))))
    · exact .inr (.inr (.inr (.inr (decide_eq_true h))))
  clear hb H
  go_enter Tryz.func58, Tryz.ntmps58
  go_upto_region 1 with (fail)
  refine wp_gen (fun V => Hid (ZArr V 114 5 w.heap.size (nwF f o z s d)) ∧ Hid (Gr w V)) ⟨ZArr.new w 114 5 (nwF f o z s d), (Gr.refl _).alloc _⟩ ?_
  rintro V ⟨A, gV⟩
  have k0 : V.cell? ⟨w.heap.size, 0, none⟩ = some (iv f) := A.out.cell (by omega)
  have k2 : V.cell? ⟨w.heap.size, 2, none⟩ = some (iv z) := A.out.cell (by omega)
  have k3 : V.cell? ⟨w.heap.size, 3, none⟩ = some (iv s) := A.out.cell (by omega)
  have k4 : V.cell? ⟨w.heap.size, 4, none⟩ = some (iv d) := A.out.cell (by omega)
  have HN := hide (nother_is (HM.out _ gV.out) B1.out)
  have j0 := A.out.lt
  clear HM
  cases b
  · clear HB
    go_wp2_with (first | (go_at_call 109; with_reducible refine HN.out.mono ?_; rintro e w1 ⟨rfl, hw1⟩; have hw2 := hw1.symm; clear hw1; subst hw2) | (go_at_call 33; with_reducible refine (lnode_is B2.out _).mono ?_; rintro e w1 ⟨rfl, hw1⟩; have hw2 := hw1.symm; clear hw1; subst hw2))
    go_ret
    exact ⟨rfl, gV.out⟩
  · cases b2
    · clear HB
      go_wp2_with (first | (go_at_call 109; with_reducible refine HN.out.mono ?_; rintro e w1 ⟨rfl, hw1⟩; have hw2 := hw1.symm; clear hw1; subst hw2) | (go_at_call 33; with_reducible refine (lnode_is B2.out _).mono ?_; rintro e w1 ⟨rfl, hw1⟩; have hw2 := hw1.symm; clear hw1; subst hw2))
      go_ret
      exact ⟨rfl, gV.out⟩
    · cases g4 : decide (s < 0)
      · cases g5 : decide (d < 0)
        · have g6 : decide (200 < d) = true := by have := HB.out; simpa [g4, g5] using this
          clear HB
          go_wp2_with (first | (go_at_call 109; with_reducible refine HN.out.mono ?_; rintro e w1 ⟨rfl, hw1⟩; have hw2 := hw1.symm; clear hw1; subst hw2) | (go_at_call 33; with_reducible refine (lnode_is B2.out _).mono ?_; rintro e w1 ⟨rfl, hw1⟩; have hw2 := hw1.symm; clear hw1; subst hw2))
          go_ret
          exact ⟨rfl, gV.out⟩
        · clear HB
          go_wp2_with (first | (go_at_call 109; with_reducible refine HN.out.mono ?_; rintro e w1 ⟨rfl, hw1⟩; have hw2 := hw1.symm; clear hw1; subst hw2) | (go_at_call 33; with_reducible refine (lnode_is B2.out _).mono ?_; rintro e w1 ⟨rfl, hw1⟩; have hw2 := hw1.symm; clear hw1; subst hw2))
          go_ret
          exact ⟨rfl, gV.out⟩
      · clear HB
        go_wp2_with (first | (go_at_call 109; with_reducible refine HN.out.mono ?_; rintro e w1 ⟨rfl, hw1⟩; have hw2 := hw1.symm; clear hw1; subst hw2) | (go_at_call 33; with_reducible refine (lnode_is B2.out _).mono ?_; rintro e w1 ⟨rfl, hw1⟩; have hw2 := hw1.symm; clear hw1; subst hw2))
        go_ret
        exact ⟨rfl, gV.out⟩

end Go.Proofs.YtfcknkanbcndjagGreatDoor

/- THE PROGRAM'S NODE: Link, Hear and Tick of whatever is handed in. -/
namespace Go.Proofs.YtfcknkanbcndjagGreatDoor
open Go.RowKit

abbrev lkOk (m : Md) (f c : Int) : Prop := ((0 ≤ f ∧ f < 6) ∧ f ≠ (m.me : Int)) ∧ 0 ≤ c ∧ c ≤ 15
def lcode (m : Md) (f c : Int) : Int := if lkOk m f c then 0 else 1
def lnkM (m : Md) (f c : Int) : Md := if lkOk m f c then linkM m f.toNat c else m
abbrev hrOk (m : Md) (f z s d : Int) : Prop := ((0 ≤ f ∧ f < 6) ∧ f ≠ (m.me : Int)) ∧ (0 ≤ z ∧ z < 6) ∧ 0 ≤ s ∧ 0 ≤ d ∧ d ≤ 200
def hcode (m : Md) (f z s d : Int) : Int := if hrOk m f z s d then (if m.cost f.toNat = 0 then 6 else 0) else 1
def hrM (m : Md) (f z s d : Int) : Md := if hrOk m f z s d ∧ m.cost f.toNat ≠ 0 then hearM m f.toNat z.toNat s d else m
theorem MdZ.bd {m : Md} (h : MdZ m) : Bd (sel m) := by
  refine ⟨h.ok.cost, fun r k => (h.ok.said r k).2, fun k => ?_⟩
  show (updW m.bests m.me (0, 200) k).2 ≤ 200
  unfold updW
  split
  · exact Int.le_refl _
  · exact (h.x.b200 k).2
theorem nlinkN {w : World} {p : Nat} {m : Md} (H : DAt w p (sel m)) (hz : MdZ m) (f c : Int) :
    Calls Tryz.prog 121 #[pv p, iv f, iv c] w fun e w' => e = .returned (iv (lcode m f c)) ∧ DAt w' p (sel (lnkM m f c)) ∧ Wr p w w' := by
  unfold lcode lnkM
  by_cases q : lkOk m f c
  · rw [if_pos q, if_pos q]
    obtain ⟨k, rfl⟩ : ∃ k : Nat, f = (k : Int) := ⟨f.toNat, by omega⟩
    have := nlink_ok H hz.bd (f := k) (c := c) (by omega) (show k ≠ m.me by omega) q.2.1 q.2.2
    rw [sel_link] at this
    rw [Int.toNat_natCast]
    exact this
  · rw [if_neg q, if_neg q]
    refine (nlink_bad H (f := f) (c := c) ?_).mono fun e w' ⟨h1, h2⟩ => ⟨h1, by rw [h2]; exact H, by rw [h2]; exact Wr.refl _ _⟩
    show ¬ (0 ≤ f ∧ f < 6) ∨ f = (m.me : Int) ∨ c < 0 ∨ 15 < c
    omega
theorem nhearN {w : World} {p : Nat} {m : Md} (H : DAt w p (sel m)) (hz : MdZ m) (f o z s d : Int) :
    Calls Tryz.prog 58 #[pv p, .agg #[iv f, iv o, iv z, iv s, iv d]] w fun e w' => e = .returned (iv (hcode m f z s d)) ∧ DAt w' p (sel (hrM m f z s d)) ∧ Wr p w w' := by
  unfold hcode hrM
  by_cases q : hrOk m f z s d
  · rw [if_pos q]
    obtain ⟨k, rfl⟩ : ∃ k : Nat, f = (k : Int) := ⟨f.toNat, by omega⟩
    obtain ⟨i, rfl⟩ : ∃ i : Nat, z = (i : Int) := ⟨z.toNat, by omega⟩
    rw [Int.toNat_natCast, Int.toNat_natCast]
    by_cases hc : m.cost k = 0
    · rw [if_pos hc, if_neg (fun x => x.2 hc)]
      exact (nhear_none H (f := k) (z := i) (o := o) (s := s) (d := d) (by omega) (by omega) (show k ≠ m.me by omega) hc q.2.2.1 q.2.2.2.1 q.2.2.2.2).mono fun e w' ⟨h1, h2⟩ => ⟨h1, H.gr h2, h2.wr p⟩
    · rw [if_neg hc, if_pos ⟨q, hc⟩]
      have := nhear_ok H hz.bd (f := k) (z := i) (o := o) (s := s) (d := d) (by omega) (by omega) (show k ≠ m.me by omega) hc q.2.2.1 q.2.2.2.1 q.2.2.2.2
      rw [sel_hear hz.l (show i < 6 by omega)] at this
      exact this
  · rw [if_neg q, if_neg (fun x => q x.1)]
    refine (nhear_bad H (f := f) (o := o) (z := z) (s := s) (d := d) ?_).mono fun e w' ⟨h1, h2⟩ => ⟨h1, H.gr h2, h2.wr p⟩
    show ¬ (0 ≤ f ∧ f < 6) ∨ ¬ (0 ≤ z ∧ z < 6) ∨ f = (m.me : Int) ∨ s < 0 ∨ d < 0 ∨ 200 < d
    omega
/-- How often the age of a node's way to itself rose. -/
def age (m : Md) : Int := (m.ways m.me).1
theorem ntickN {w : World} {p : Nat} {m : Md} (H : DAt w p (sel m)) (hz : MdZ m) (ha : age m < 4611686018427387904) :
    Calls Tryz.prog 29 #[pv p] w fun e w' => e = .returned (.tuple #[]) ∧ DAt w' p (sel (tickM m)) ∧ Wr p w w' := by
  obtain ⟨s, h0, hw, _⟩ := hz.ok.self
  have := ntick_any H hz.ok.me (show 0 ≤ (m.ways m.me).1 by rw [hw]; exact h0) ha
  rw [sel_tick] at this
  exact this

end Go.Proofs.YtfcknkanbcndjagGreatDoor

/- CONTRACTS OF package node: Way, Best. -/
namespace Go.Proofs.YtfcknkanbcndjagGreatDoor
open Go.RowKit
attribute [local go_sem] Ext.all Ext.cell Ext.frozen Ext.lt Ext.lt1 Ext.lt2 Ext.ne Ext.ne'
def wayV (v : Int × Int × Int) : Value := .agg #[iv v.1, iv v.2.1, iv v.2.2]
/-- The way to a node, or none of the age 0. -/
def wayOf (m : Md) (k : Int) : Int × Int × Int := if 0 ≤ k ∧ k < 6 then m.ways k.toNat else (0, 200, -1)
theorem wayOf_nat (m : Md) {k : Nat} (h : k < 6) : wayOf m (k : Int) = m.ways k := by
  unfold wayOf
  rw [if_pos ⟨by omega, by omega⟩, Int.toNat_natCast]

set_option maxRecDepth 20000 in
set_option maxHeartbeats 8000000 in
theorem nway_any {w : World} {p : Nat} {m : Md} (H : DAt w p m) (k : Int) :
    Calls Tryz.prog 108 #[pv p, iv k] w fun e w' => e = .returned (wayV (wayOf m k)) ∧ ∃ d : Ext w, w' = d.out := by
  have hp := H.lt
  by_cases e : 0 ≤ k ∧ k < 6
  · have B1 : Hid (decide (0 ≤ k ∧ k < 6) = true) := decide_eq_true e
    obtain ⟨z, rfl⟩ : ∃ z : Nat, k = (z : Int) := ⟨k.toNat, by omega⟩
    have hz : z < 6 := by omega
    have hzi : (z : Int) < 6 := by omega
    obtain ⟨q0, q1, q2⟩ := H.ways hz
    have HV := hide (wayOf_nat m hz)
    generalize m.ways z = v at *
    obtain ⟨s, d, h⟩ := v
    simp only at q0 q1 q2
    clear H e
    go_enter Tryz.func108, Tryz.ntmps108
    go_wp2_with (go_at_call 33; with_reducible refine (lnode_is B1.out _).mono ?_; rintro e w1 ⟨rfl, hw1⟩; subst hw1)
    refine bodyPost_ret (v := .agg #[iv s, iv d, iv h]) (by simp [results, Tryz.results108, go_sem]) rfl ⟨by rw [HV.out]; rfl, ext_mk ?_⟩
    first
      | exact (Gr.refl _).alloc _
      | exact (((((Gr.refl _).alloc _).setCell (by simp) _).setCell (by simp) _).setCell (by simp) _)
  · have B1 : Hid (decide (0 ≤ k ∧ k < 6) = false) := decide_eq_false e
    have HV : Hid (wayOf m k = (0, 200, -1)) := by unfold Hid wayOf; rw [if_neg e]
    clear H e
    go_enter Tryz.func108, Tryz.ntmps108
    go_wp2_with (first | (go_at_call 33; with_reducible refine (lnode_is B1.out _).mono ?_; rintro e w1 ⟨rfl, hw1⟩; subst hw1) | (go_at_call 144; with_reducible refine (noWay_any 0 _).mono ?_; rintro e _ ⟨rfl, d1, rfl⟩))
    refine bodyPost_ret (v := .agg #[iv 0, iv 200, iv (-1)]) (by simp [results, Tryz.results108, go_sem]) rfl ⟨by rw [HV.out]; rfl, ext_mk ?_⟩
    exact (((((Gr.refl _).alloc _).trans d1.gr).setCell (by simp) _).setCell (by simp) _).setCell (by simp) _

end Go.Proofs.YtfcknkanbcndjagGreatDoor

/- CONTRACTS OF package node: New. -/
namespace Go.Proofs.YtfcknkanbcndjagGreatDoor
open Go.RowKit
attribute [local go_sem] Ext.all Ext.cell Ext.frozen Ext.lt Ext.lt1 Ext.lt2 Ext.ne Ext.ne'
/-- A node that is being made: the first k of all. -/
def nwM (me k : Nat) : Md := { me := me, cost := fun _ => 0, heard := fun j _ => if j < k then (0, 200) else (0, 0), ways := fun j => if j < k then (0, 200, -1) else (0, 0, 0), bests := fun j => if j < k then (0, 200) else (0, 0) }
def nwM1 (me k : Nat) : Md := { nwM me k with heard := updW (nwM me k).heard k (fun _ => (0, 200)) }
def nwM2 (me k : Nat) : Md := { nwM1 me k with bests := updW (nwM1 me k).bests k (0, 200) }
theorem upd_lt {α : Type} (a b : α) (k : Nat) : updW (fun j => if j < k then a else b) k a = fun j => if j < k + 1 then a else b := by
  funext j
  unfold updW
  by_cases e : j = k
  · rw [if_pos e, if_pos (by omega)]
  · rw [if_neg e]
    dsimp only
    by_cases e2 : j < k
    · rw [if_pos e2, if_pos (by omega)]
    · rw [if_neg e2, if_neg (by omega)]
theorem upd_lt2 {α : Type} (a b : α) (k : Nat) : updW (fun j (_ : Nat) => if j < k then a else b) k (fun _ => a) = fun j _ => if j < k + 1 then a else b := by
  funext j i
  unfold updW
  by_cases e : j = k
  · rw [if_pos e, if_pos (by omega)]
  · rw [if_neg e]
    dsimp only
    by_cases e2 : j < k
    · rw [if_pos e2, if_pos (by omega)]
    · rw [if_neg e2, if_neg (by omega)]
theorem nw_succ (me k : Nat) : { nwM2 me k with ways := updW (nwM2 me k).ways k (0, 200, -1) } = nwM me (k + 1) := by
  unfold nwM2 nwM1 nwM
  dsimp only
  rw [upd_lt, upd_lt, upd_lt2]
theorem nw_end {t : TypeId} {w : World} {p me : Nat} (h : NdAt t w p { nwM me 6 with ways := updW (nwM me 6).ways me (0, 0, (me : Int)) }) : NdAt t w p (sel (newM me)) := by
  refine ZArr.congr h fun i hi => ?_
  unfold mdF
  have e1 : ∀ a b, a < 6 → ({ nwM me 6 with ways := updW (nwM me 6).ways me (0, 0, (me : Int)) } : Md).heard a b = (sel (newM me)).heard a b := fun a b ha => by
    show (if a < 6 then ((0, 200) : Int × Int) else (0, 0)) = (0, 200)
    rw [if_pos ha]
  have e2 : ∀ a, a < 6 → ({ nwM me 6 with ways := updW (nwM me 6).ways me (0, 0, (me : Int)) } : Md).ways a = (sel (newM me)).ways a := fun a ha => by
    show updW (fun j => if j < 6 then ((0, 200, -1) : Int × Int × Int) else (0, 0, 0)) me (0, 0, (me : Int)) a = updW (fun _ => (0, 200, -1)) me (0, 0, (me : Int)) a
    by_cases e : a = me
    · rw [e, updW_same, updW_same]
    · rw [updW_ne _ _ e, updW_ne _ _ e, if_pos ha]
  have e3 : ∀ a, a < 6 → ({ nwM me 6 with ways := updW (nwM me 6).ways me (0, 0, (me : Int)) } : Md).bests a = (sel (newM me)).bests a := fun a ha => by
    show (if a < 6 then ((0, 200) : Int × Int) else (0, 0)) = updW (updW (fun _ => (0, 200)) me (0, 0)) me (0, 200) a
    rw [if_pos ha]
    unfold updW
    split <;> rfl
  by_cases a0 : i = 0
  · rw [if_pos a0, if_pos a0]; rfl
  · rw [if_neg a0, if_neg a0]
    by_cases a1 : i < 7
    · rw [if_pos a1, if_pos a1]; rfl
    · rw [if_neg a1, if_neg a1]
      by_cases a2 : i < 79
      · rw [if_pos a2, if_pos a2, e1 _ _ (by omega)]
      · rw [if_neg a2, if_neg a2]
        by_cases a3 : i < 97
        · rw [if_pos a3, if_pos a3, e2 _ (by omega)]
        · rw [if_neg a3, if_neg a3, e3 _ (by omega)]

/-- The node's block, at the beginning. -/
theorem zero_node (w : World) : (zeroValue 126).run Tryz.prog w = .ok (.agg (zcells 109 (fun _ => 0))) w := by kernel_rfl
theorem z109_ne : (zcells 109 (fun _ => 0) = #[]) = False := by
  apply eq_false
  intro h
  have := congrArg Array.size h
  simp [zcells] at this
theorem z109_set (me : Nat) : (zcells 109 (fun _ => 0)).setIfInBounds 0 (iv (me : Int)) = zcells 109 (mdF (nwM me 0)) := by
  apply Array.ext
  · simp [zcells]
  · intro i h1 h2
    have hi : i < 109 := by simpa [zcells] using h2
    rw [Array.getElem_setIfInBounds (by simpa [zcells] using hi)]
    simp only [zcells, List.getElem_toArray, List.getElem_map, List.getElem_range]
    by_cases e : 0 = i
    · subst e
      rw [if_pos rfl, mdF_me]
      rfl
    · rw [if_neg e]
      unfold mdF nwM
      rw [if_neg (fun q => e q.symm)]
      split
      · rfl
      · split
        · split <;> rfl
        · split
          · split
            · rfl
            · split <;> rfl
          · split <;> rfl

set_option maxRecDepth 20000 in
set_option maxHeartbeats 8000000 in
theorem nnew_ok {me : Nat} (hme : me < 6) (w : World) :
    Calls Tryz.prog 101 #[iv me] w fun e w' => e = .returned (pv w.heap.size) ∧ DAt w' w.heap.size (sel (newM me)) ∧ Gr w w' := by
  have hmi : (me : Int) < 6 := by omega
  have B1 : Hid (decide (0 ≤ (me : Int) ∧ (me : Int) < 6) = true) := decide_eq_true ⟨by omega, hmi⟩
  have M0 : Hid (NdAt 126 (w.alloc (.cells (zcells 109 (mdF (nwM me 0))) 126)) w.heap.size (nwM me 0)) := ZArr.new w 126 109 (mdF (nwM me 0))
  have hz := zero_node
  have hne := z109_ne
  have hset := z109_set me
  generalize zcells 109 (fun _ => 0) = Z at hz hne hset
  generalize zcells 109 (mdF (nwM me 0)) = U at hset M0
  go_enter Tryz.func101, Tryz.ntmps101
  go_upto_region 4 with (go_at_call 33; with_reducible refine (lnode_is B1.out _).mono ?_; rintro e w1 ⟨rfl, hw1⟩; have hw2 := hw1.symm; clear hw1; subst hw2)
  refine wp_gen (fun V => Hid (DAt V w.heap.size (nwM me 0)) ∧ Hid (Gr w V)) ⟨M0.out, (Gr.refl _).alloc _⟩ ?_
  clear M0
  generalize hp : w.heap.size = p at *
  have hpw : w.heap.size ≤ p := by omega
  have HP := hide hp
  clear hp
  rintro V ⟨M0, g0⟩
  go_wp2_with fail
  go_loopw [11] (fun v11 wr => ∃ k : Nat, k ≤ 6 ∧ v11 = .int .i64 (k : Int) ∧ Hid (DAt wr p (nwM me k)) ∧ Hid (Gr w wr)) (fun v11 _ => (6 - intOf v11).toNat)
  case atStart => exact ⟨0, by omega, rfl, M0, g0⟩
  case round =>
    clear M0 g0
    obtain ⟨k, hk6, rfl, M0, g0⟩ := hrel
    by_cases hk : k < 6
    · have hki : decide ((k : Int) < 6) = true := decide_eq_true (by omega)
      have hk0 : (k : Int) < 6 := by omega
      have wk : IntKind.i64.wrap ((k : Int) + 1) = (k : Int) + 1 := by rw [IntKind.wrap_i64]; omega
      go_upto_region 8 with (go_at_call 142; with_reducible refine (nforget_any M0.out hk).mono ?_; rintro e V1 ⟨rfl, M1', W1'⟩; have M1 := hide M1'; have W1 := hide W1'; clear M1' W1')
      refine wp_gen (fun V => Hid (DAt V p (nwM1 me k)) ∧ Hid (Gr w V)) ⟨M1.out, W1.out.gr g0.out hpw⟩ ?_
      clear M0 M1 W1 g0
      rintro V2 ⟨M2, g2⟩
      have fz := NdAt.free M2.out
      obtain ⟨q0, q1⟩ := M2.out.bests hk
      have hp := M2.out.lt
      go_cut [] from 17 to 22 (fun wx => Hid (DAt wx p (nwM2 me k)) ∧ Hid (Gr w wx))
      case first =>
        go_region_with (go_at_call 143; with_reducible refine (nothing_any _).mono ?_; rintro e V ⟨rfl, d2, hV⟩; have gV : Hid (Gr V2 V) := (by unfold Hid; rw [hV]; exact (Gr.refl _).drewTo d2.gr); clear hV d2; have hp2 := (M2.out.gr gV.out).lt; have fz2 := NdAt.free (M2.out.gr gV.out); obtain ⟨r0, r1⟩ := (M2.out.gr gV.out).bests hk)
        all_goals
          have SM := hide ((M2.out.gr gV.out).setBests hk 0 200)
          have SW := hide (((g2.out.trans gV.out).setCell (p := ⟨p, 97 + k * 2, none⟩) hpw (iv 0)).setCell (p := ⟨p, 97 + k * 2 + 1, none⟩) hpw (iv 200))
          go_wp2_with fail
          go_meet
          exact ⟨SM, SW⟩
      case rest =>
        clear fz q0 q1 hp M2 g2
        obtain ⟨M2, g2⟩ := hcut
        have fz := NdAt.free M2.out
        obtain ⟨q0, q1, q2⟩ := M2.out.ways hk
        have hp := M2.out.lt
        have HS := hide (nw_succ me k)
        go_upto_region 9 with (fail)
        go_region_with (go_at_call 144; with_reducible refine (noWay_any 0 _).mono ?_; rintro e V ⟨rfl, d2, hV⟩; have gV : Hid (Gr wc V) := (by unfold Hid; rw [hV]; exact (Gr.refl _).drewTo d2.gr); clear hV d2; have hp2 := (M2.out.gr gV.out).lt; have fz2 := NdAt.free (M2.out.gr gV.out); obtain ⟨r0, r1, r2⟩ := (M2.out.gr gV.out).ways hk)
        all_goals
          have SM := hide ((M2.out.gr gV.out).setWays hk 0 200 (-1))
          have SW := hide ((((g2.out.trans gV.out).setCell (p := ⟨p, 79 + k * 3, none⟩) hpw (iv 0)).setCell (p := ⟨p, 79 + k * 3 + 1, none⟩) hpw (iv 200)).setCell (p := ⟨p, 79 + k * 3 + 2, none⟩) hpw (iv (-1)))
          rw [HS.out] at SM
          go_wp2_with fail
          go_roundw
          case rel => exact ⟨k + 1, by omega, by congr 1, SM, SW⟩
          case measure => simp [intOf]; omega
    · have hki : decide ((k : Int) < 6) = false := decide_eq_false (by omega)
      have ek : k = 6 := by omega
      subst ek
      have fz := NdAt.free M0.out
      obtain ⟨q0, q1, q2⟩ := M0.out.ways hme
      have hp := M0.out.lt
      have SM := hide (nw_end (M0.out.setWays hme 0 0 (me : Int)))
      have SW := hide (((g0.out.setCell (p := ⟨p, 79 + me * 3, none⟩) hpw (iv 0)).setCell (p := ⟨p, 79 + me * 3 + 1, none⟩) hpw (iv 0)).setCell (p := ⟨p, 79 + me * 3 + 2, none⟩) hpw (iv (me : Int)))
      go_wp2_with fail
      have hpe := HP.out
      clear HP
      subst hpe
      go_ret
      exact ⟨rfl, SM.out, SW.out⟩

end Go.Proofs.YtfcknkanbcndjagGreatDoor

/- LINKS AS LISTS, AND BOTH WAYS TO RECKON HOW FAR IT IS. No Go here. -/
namespace Go.Proofs.YtfcknkanbcndjagGreatDoor

abbrev Tri := Nat × Nat × Nat

/-- Those with which a is linked, of the first j. -/
def ofTo (c : Nat → Nat → Nat) (a : Nat) : Nat → List Nat
  | 0 => []
  | j + 1 => ofTo c a j ++ (if c a j = 0 then [] else [j])

theorem of_len (c : Nat → Nat → Nat) (a : Nat) : ∀ j, (ofTo c a j).length ≤ j
  | 0 => Nat.le_refl _
  | j + 1 => by
    have := of_len c a j
    rw [ofTo, List.length_append]
    split <;> simp <;> omega

end Go.Proofs.YtfcknkanbcndjagGreatDoor
