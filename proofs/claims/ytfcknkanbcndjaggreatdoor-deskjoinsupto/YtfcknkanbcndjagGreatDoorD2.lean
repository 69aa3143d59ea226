import Derived.Test.YtfcknkanbcndjagGreatDoorNtPlain6
import Derived.Test.YtfcknkanbcndjagGreatDoorRows
import Derived.Test.YtfcknkanbcndjagGreatDoorTPlain
import Derived.Test.YtfcknkanbcndjagGreatDoorS5
import Derived.Test.YtfcknkanbcndjagGreatDoorNdPlain
import Derived.OneCell
import Derived.Deep.RegionHeld3
import Derived.Deep.DeepCutAuto
import Derived.StillTailTactics
import Derived.BigRegion
/- THE STEPS OF A NET, AS NUMBERS, with their codes: as the document says them. No Go here. -/
namespace Go.Proofs.YtfcknkanbcndjagGreatDoor

/-- A step: its kind, A, B, N. -/
structure Sp where
  k : Int
  a : Int
  b : Int
  n : Int
abbrev isN (a : Int) : Prop := 0 ≤ a ∧ a < 6
/-- A tells B. -/
def sayC (t : Tn) (a b : Int) : Tn × Int :=
  if ¬ isN a ∨ ¬ isN b then (t, 1)
  else if t.cst a.toNat b.toNat = 0 then (t, 6)
  else if 40 < t.news.length + 6 then (t, 9)
  else (sayT t a.toNat b.toNat, 0)
/-- It tells the first b of all, to the first code. -/
def sayAll (t : Tn) (a : Nat) : Nat → Tn × Int
  | 0 => (t, 0)
  | b + 1 => if (sayAll t a b).2 ≠ 0 then sayAll t a b else if 0 < (sayAll t a b).1.cst a b then sayC (sayAll t a b).1 (a : Int) (b : Int) else sayAll t a b
/-- A list without the element in the place n. -/
def dropAt (l : List Nw) (n : Nat) : List Nw := l.take n ++ l.drop (n + 1)
/-- The news are heard by whom they are for. -/
def hearC (t : Tn) (y : Nw) : Tn × Int := if (t.nd y.g).cost y.f = 0 then (t, 6) else (hearT t y, 0)
def linkC (t : Tn) (a b n : Int) : Tn × Int := if isN a ∧ isN b ∧ a ≠ b ∧ 0 ≤ n ∧ n ≤ 15 then (linkT t a.toNat b.toNat n, 0) else (t, 1)
def newsC (t : Tn) (k n : Int) : Tn × Int :=
  if h : 0 ≤ n ∧ n.toNat < t.news.length then
    (if k = 6 then (if 40 ≤ t.news.length then (t, 9) else ({ t with news := t.news ++ [t.news[n.toNat]'h.2] }, 0))
     else if k = 4 then hearC { t with news := dropAt t.news n.toNat } (t.news[n.toNat]'h.2)
     else ({ t with news := dropAt t.news n.toNat }, 0))
  else (t, 6)
def doT (t : Tn) (x : Sp) : Tn × Int :=
  if x.k = 1 then linkC t x.a x.b x.n
  else if x.k = 2 then (if isN x.a then sayAll (tickT t x.a.toNat) x.a.toNat 6 else (t, 1))
  else if x.k = 3 then sayC t x.a x.b
  else if x.k = 4 ∨ x.k = 5 ∨ x.k = 6 then newsC t x.k x.n
  else (t, 8)
theorem mem_dropAt {l : List Nw} {n : Nat} {x : Nw} (h : x ∈ dropAt l n) : x ∈ l := by
  unfold dropAt at h
  rcases List.mem_append.1 h with q | q
  · exact List.mem_of_mem_take q
  · exact List.mem_of_mem_drop q
/-- Behind a step: the links, the ages, the bests. -/
structure Nx (t t' : Tn) (c c' : Nat → Nat → Nat) (up : Nat → Int) : Prop where
  a : TnA t' c'
  age : ∀ k, k < 6 → agT t' k = agT t k + up k
  best : ∀ x k, x < 6 → k < 6 → bet ((t.nd x).bests k).1 ((t.nd x).bests k).2 ((t'.nd x).bests k).1 ((t'.nd x).bests k).2 = false
theorem Nx.refl {t : Tn} {c : Nat → Nat → Nat} (H : TnA t c) : Nx t t c c (fun _ => 0) := ⟨H, fun k _ => by omega, fun x k _ _ => bet_refl _ _⟩
theorem Nx.sub {t : Tn} {c : Nat → Nat → Nat} (H : TnA t c) {nw : List Nw} (hn : ∀ x ∈ nw, x ∈ t.news) : Nx t { t with news := nw } c c (fun _ => 0) := ⟨H.sub hn, fun k _ => by show agT t k = _; omega, fun x k _ _ => bet_refl _ _⟩
theorem say_nx {t : Tn} {c : Nat → Nat → Nat} (H : TnA t c) (a b : Int) : Nx t (sayC t a b).1 c c (fun _ => 0) := by
  unfold sayC
  by_cases e : ¬ isN a ∨ ¬ isN b
  · rw [if_pos e]; exact Nx.refl H
  · rw [if_neg e]
    by_cases e2 : t.cst a.toNat b.toNat = 0
    · rw [if_pos e2]; exact Nx.refl H
    · rw [if_neg e2]
      by_cases e3 : 40 < t.news.length + 6
      · rw [if_pos e3]; exact Nx.refl H
      · rw [if_neg e3]
        have ha : a.toNat < 6 := by omega
        have hb : b.toNat < 6 := by omega
        have hne : a.toNat ≠ b.toNat := fun q => e2 (by rw [q, H.s.tc.cst _ _ hb hb, H.s.tc.lk.self]; rfl)
        exact ⟨H.say ha hb hne, fun k _ => by show agT t k = _; omega, fun x k _ _ => bet_refl _ _⟩
theorem Nx.trans {t u v : Tn} {c d e : Nat → Nat → Nat} {f g : Nat → Int} (h : Nx t u c d f) (k : Nx u v d e g) : Nx t v c e (fun i => f i + g i) :=
  ⟨k.a, fun i hi => by rw [k.age i hi, h.age i hi]; omega, fun x i hx hi => bet_trans (h.best x i hx hi) (k.best x i hx hi)⟩
theorem Nx.congr {t u : Tn} {c d : Nat → Nat → Nat} {f g : Nat → Int} (h : Nx t u c d f) (e : ∀ k, k < 6 → f k = g k) : Nx t u c d g := ⟨h.a, fun k hk => by rw [h.age k hk, e k hk], h.best⟩
theorem sayAll_nx {t : Tn} {c : Nat → Nat → Nat} (H : TnA t c) (a : Nat) : ∀ b, Nx t (sayAll t a b).1 c c (fun _ => 0)
  | 0 => Nx.refl H
  | b + 1 => by
    have ih := sayAll_nx H a b
    rw [sayAll]
    split
    · exact ih
    · split
      · exact (ih.trans (say_nx ih.a (a : Int) (b : Int))).congr (fun _ _ => rfl)
      · exact ih
theorem hear_nx {t : Tn} {c : Nat → Nat → Nat} (H : TnA t c) {y : Nw} (hy : y.f < 6 ∧ y.g < 6 ∧ y.f ≠ y.g ∧ y.to < 6 ∧ 0 ≤ y.s ∧ 0 ≤ y.d ∧ y.d ≤ 200 ∧ bet y.s y.d ((t.nd y.f).bests y.to).1 ((t.nd y.f).bests y.to).2 = false) (hs : y.s ≤ agT t y.to) : Nx t (hearC t y).1 c c (fun _ => 0) := by
  unfold hearC
  by_cases e : (t.nd y.g).cost y.f = 0
  · rw [if_pos e]; exact Nx.refl H
  · rw [if_neg e]
    have hc : c y.g y.f ≠ 0 := fun q => e (by rw [H.s.tc.cost _ _ hy.2.1 hy.1, q]; rfl)
    obtain ⟨h1, h2⟩ := H.hear hy hs hc
    refine ⟨h1, fun k hk => by rw [h2 k hk]; omega, fun x k hx _ => ?_⟩
    show bet ((t.nd x).bests k).1 ((t.nd x).bests k).2 ((updW t.nd y.g _ x).bests k).1 ((updW t.nd y.g _ x).bests k).2 = false
    by_cases q : x = y.g
    · subst q
      rw [updW_same]
      exact (hear_ok (H.s.z _ hx).ok hy.2.2.2.2.1 hy.2.2.2.2.2.1 hy.2.2.2.2.2.2.1).2 k
    · rw [updW_ne _ _ q]; exact bet_refl _ _
theorem news_nx {t : Tn} {c : Nat → Nat → Nat} (H : TnA t c) (k n : Int) : Nx t (newsC t k n).1 c c (fun _ => 0) := by
  unfold newsC
  by_cases h : 0 ≤ n ∧ n.toNat < t.news.length
  · rw [dif_pos h]
    have hm : t.news[n.toNat]'h.2 ∈ t.news := List.getElem_mem h.2
    have hs := Nx.sub H (nw := dropAt t.news n.toNat) (fun x hx => mem_dropAt hx)
    by_cases e : k = 6
    · rw [if_pos e]
      by_cases e2 : 40 ≤ t.news.length
      · rw [if_pos e2]; exact Nx.refl H
      · rw [if_neg e2]
        exact Nx.sub H (fun x hx => by
          rcases List.mem_append.1 hx with q | q
          · exact q
          · rw [List.mem_singleton.1 q]; exact hm)
    · rw [if_neg e]
      by_cases e2 : k = 4
      · rw [if_pos e2]
        exact (hs.trans (hear_nx hs.a (H.ok.news _ hm) (H.newsA _ hm))).congr (fun _ _ => rfl)
      · rw [if_neg e2]; exact hs
  · rw [dif_neg h]; exact Nx.refl H
/-- The links behind a step. -/
def nextC (c : Nat → Nat → Nat) (x : Sp) : Nat → Nat → Nat := if x.k = 1 ∧ isN x.a ∧ isN x.b ∧ x.a ≠ x.b ∧ 0 ≤ x.n ∧ x.n ≤ 15 then setC c x.a.toNat x.b.toNat x.n.toNat else c
/-- How far an age rises by a step. -/
def upA (x : Sp) (k : Nat) : Int := if x.k = 2 ∧ x.a = (k : Int) then 1 else 0
theorem link_nx {t : Tn} {c : Nat → Nat → Nat} (H : TnA t c) {a b v : Nat} (ha : a < 6) (hb : b < 6) (hne : a ≠ b) (hv : v ≤ 15) : Nx t (linkT t a b v) c (setC c a b v) (fun _ => 0) := by
  obtain ⟨h1, h2⟩ := H.link ha hb hne hv
  refine ⟨h1, fun k hk => by rw [h2 k hk]; omega, fun x k hx _ => ?_⟩
  show bet ((t.nd x).bests k).1 ((t.nd x).bests k).2 ((updW (updW t.nd a (linkM (t.nd a) b v)) b (linkM (t.nd b) a v) x).bests k).1 ((updW (updW t.nd a (linkM (t.nd a) b v)) b (linkM (t.nd b) a v) x).bests k).2 = false
  by_cases q : x = b
  · subst q
    rw [updW_same]
    exact (link_ok (H.s.z _ hx).ok (by omega) (by omega)).2 k
  · rw [updW_ne _ _ q]
    by_cases q2 : x = a
    · subst q2
      rw [updW_same]
      exact (link_ok (H.s.z _ hx).ok (by omega) (by omega)).2 k
    · rw [updW_ne _ _ q2]; exact bet_refl _ _
theorem tick_nx {t : Tn} {c : Nat → Nat → Nat} (H : TnA t c) {a : Nat} (ha : a < 6) : Nx t (tickT t a) c c (fun k => if k = a then 1 else 0) := by
  obtain ⟨h1, h2⟩ := H.tick ha
  refine ⟨h1, fun k hk => ?_, fun x k hx _ => ?_⟩
  · rw [h2]
    by_cases q : k = a
    · rw [if_pos q, if_pos q, q]
    · rw [if_neg q, if_neg q]; omega
  · show bet ((t.nd x).bests k).1 ((t.nd x).bests k).2 ((updW t.nd a (tickM (t.nd a)) x).bests k).1 ((updW t.nd a (tickM (t.nd a)) x).bests k).2 = false
    by_cases q : x = a
    · subst q
      rw [updW_same]
      exact (tick_ok (H.s.z _ hx).ok).2 k
    · rw [updW_ne _ _ q]; exact bet_refl _ _
/-- EACH STEP KEEPS WHAT HOLDS AT ALL TIMES; ages rise at home alone; no best becomes worse. -/
theorem do_nx {t : Tn} {c : Nat → Nat → Nat} (H : TnA t c) (x : Sp) : Nx t (doT t x).1 c (nextC c x) (upA x) := by
  unfold doT nextC
  by_cases e1 : x.k = 1
  · rw [if_pos e1]
    have hu : ∀ k, k < 6 → (0 : Int) = upA x k := fun k _ => by unfold upA; rw [if_neg (fun q => by omega)]
    unfold linkC
    by_cases h : isN x.a ∧ isN x.b ∧ x.a ≠ x.b ∧ 0 ≤ x.n ∧ x.n ≤ 15
    · rw [if_pos h, if_pos ⟨e1, h⟩]
      have e := link_nx H (a := x.a.toNat) (b := x.b.toNat) (v := x.n.toNat) (by omega) (by omega) (by omega) (by omega)
      rw [show ((x.n.toNat : Nat) : Int) = x.n by omega] at e
      exact e.congr hu
    · rw [if_neg h, if_neg (fun q => h q.2)]; exact (Nx.refl H).congr hu
  · have en : ¬ (x.k = 1 ∧ isN x.a ∧ isN x.b ∧ x.a ≠ x.b ∧ 0 ≤ x.n ∧ x.n ≤ 15) := fun q => e1 q.1
    rw [if_neg e1, if_neg en]
    by_cases e2 : x.k = 2
    · rw [if_pos e2]
      by_cases ha : isN x.a
      · rw [if_pos ha]
        have h1 := tick_nx H (a := x.a.toNat) (by omega)
        exact (h1.trans (sayAll_nx h1.a x.a.toNat 6)).congr (fun k hk => by
          unfold upA
          by_cases q : k = x.a.toNat
          · rw [if_pos q, if_pos ⟨e2, by omega⟩]; rfl
          · rw [if_neg q, if_neg (fun w => q (by omega))]; rfl)
      · rw [if_neg ha]
        exact (Nx.refl H).congr (fun k hk => by unfold upA; rw [if_neg (fun w => ha (by omega))])
    · rw [if_neg e2]
      have hu : ∀ k, k < 6 → (0 : Int) = upA x k := fun k _ => by unfold upA; rw [if_neg (fun q => e2 q.1)]
      by_cases e3 : x.k = 3
      · rw [if_pos e3]; exact (say_nx H x.a x.b).congr hu
      · rw [if_neg e3]
        by_cases e4 : x.k = 4 ∨ x.k = 5 ∨ x.k = 6
        · rw [if_pos e4]; exact (news_nx H x.k x.n).congr hu
        · rw [if_neg e4]; exact (Nx.refl H).congr hu
end Go.Proofs.YtfcknkanbcndjagGreatDoor

/- SETTLED, IT STAYS SETTLED, AS NUMBERS: what is told, heard, lost or doubled leaves all lengths. No Go here. -/
namespace Go.Proofs.YtfcknkanbcndjagGreatDoor

end Go.Proofs.YtfcknkanbcndjagGreatDoor

/- A ROUND THAT CHANGES NO WAY: what it leaves, no further round changes. No Go here. -/
namespace Go.Proofs.YtfcknkanbcndjagGreatDoor

end Go.Proofs.YtfcknkanbcndjagGreatDoor

/- A NODE IN MEMORY (handpostref.Mind): a block of 109 numbers. -/
namespace Go.Proofs.YtfcknkanbcndjagGreatDoor
open Go.RowKit


/-- n numbers, as cells. -/
def zcells (n : Nat) (g : Nat → Int) : Array Value := ((List.range n).map fun i => iv (g i)).toArray
/-- At block p there are n numbers. -/
def ZArr (w : World) (t : TypeId) (n p : Nat) (g : Nat → Int) : Prop := w.heap[p]? = some (.cells (zcells n g) t (0, 0))
theorem ZArr.lt {w : World} {t n p : Nat} {g : Nat → Int} (h : ZArr w t n p g) : p < w.heap.size := lt_of_block h
theorem ZArr.cell {w : World} {t n p : Nat} {g : Nat → Int} (h : ZArr w t n p g) {j : Nat} (hj : j < n) : w.cell? ⟨p, j, none⟩ = some (iv (g j)) := by
  unfold ZArr at h
  simp [World.cell?, h, zcells, hj]
theorem ZArr.free {w : World} {t n p : Nat} {g : Nat → Int} (h : ZArr w t n p g) (j : Nat) : w.frozen? ⟨p, j, none⟩ = false := by
  unfold ZArr at h
  simp [World.frozen?, h]
theorem ZArr.gr {w w' : World} {t n p : Nat} {g : Nat → Int} (h : ZArr w t n p g) (k : Gr w w') : ZArr w' t n p g := (Below.block k p (lt_of_block h)).trans h
theorem zcells_congr {n : Nat} {g g' : Nat → Int} (e : ∀ j, j < n → g j = g' j) : zcells n g = zcells n g' := by
  unfold zcells
  congr 1
  apply List.map_congr_left
  intro j hj
  rw [e j (List.mem_range.1 hj)]
theorem ZArr.congr {w : World} {t n p : Nat} {g g' : Nat → Int} (h : ZArr w t n p g) (e : ∀ j, j < n → g j = g' j) : ZArr w t n p g' := by
  unfold ZArr at h ⊢
  rw [← zcells_congr e]; exact h
theorem ZArr.set {w : World} {t n p : Nat} {g g' : Nat → Int} (h : ZArr w t n p g) {j : Nat} {v : Int} (e : ∀ i, i < n → g' i = if i = j then v else g i) : ZArr (w.setCell ⟨p, j, none⟩ (iv v)) t n p g' := by
  unfold ZArr at h ⊢
  have : (w.setCell ⟨p, j, none⟩ (iv v)).heap[p]? = some (.cells ((zcells n g).setIfInBounds j (iv v)) t (0, 0)) := by
    simp [World.setCell, Array.getElem?_modify, h]
  rw [this]
  congr 2
  apply Array.ext
  · simp [zcells]
  · intro i h1 h2
    have hi : i < n := by simpa [zcells] using h1
    rw [Array.getElem_setIfInBounds (by simpa [zcells] using hi)]
    simp only [zcells, List.getElem_toArray, List.getElem_map, List.getElem_range, e i hi]
    by_cases q : j = i
    · subst q; simp
    · rw [if_neg q, if_neg (fun x => q x.symm)]
theorem ZArr.other {w : World} {t n p q : Nat} {g : Nat → Int} (h : ZArr w t n p g) (hn : p ≠ q) (j : Nat) (v : Value) : ZArr (w.setCell ⟨q, j, none⟩ v) t n p g := by
  unfold ZArr
  rw [Below.heap_setCell w ⟨q, j, none⟩ v p hn]; exact h
theorem ZArr.new (w : World) (t n : Nat) (g : Nat → Int) : ZArr (w.alloc (.cells (zcells n g) t)) t n w.heap.size g := heap_alloc_new w _

/-- A node's numbers, one behind the other: itself, its costs, what was said, its ways, the bests. -/
def mdF (m : Md) (i : Nat) : Int :=
  if i = 0 then (m.me : Int)
  else if i < 7 then m.cost (i - 1)
  else if i < 79 then (if (i - 7) % 2 = 0 then (m.heard ((i - 7) / 12) ((i - 7) % 12 / 2)).1 else (m.heard ((i - 7) / 12) ((i - 7) % 12 / 2)).2)
  else if i < 97 then (if (i - 79) % 3 = 0 then (m.ways ((i - 79) / 3)).1 else if (i - 79) % 3 = 1 then (m.ways ((i - 79) / 3)).2.1 else (m.ways ((i - 79) / 3)).2.2)
  else (if (i - 97) % 2 = 0 then (m.bests ((i - 97) / 2)).1 else (m.bests ((i - 97) / 2)).2)
def NdAt (t : TypeId) (w : World) (p : Nat) (m : Md) : Prop := ZArr w t 109 p (mdF m)
/-- The program's Node (the reference's Mind lies alike). -/
abbrev DAt (w : World) (p : Nat) (m : Md) : Prop := NdAt 126 w p m
theorem NdAt.gr {t : TypeId} {w w' : World} {p : Nat} {m : Md} (h : NdAt t w p m) (k : Gr w w') : NdAt t w' p m := ZArr.gr h k
theorem NdAt.lt {t : TypeId} {w : World} {p : Nat} {m : Md} (h : NdAt t w p m) : p < w.heap.size := ZArr.lt h
theorem mdF_me (m : Md) : mdF m 0 = (m.me : Int) := by unfold mdF; rw [if_pos rfl]
theorem mdF_cost (m : Md) {j : Nat} (hj : j < 6) : mdF m (1 + j) = m.cost j := by
  unfold mdF
  rw [if_neg (by omega), if_pos (by omega), show 1 + j - 1 = j by omega]
theorem mdF_heard (m : Md) {f k : Nat} (hf : f < 6) (hk : k < 6) : mdF m (7 + f * 12 + k * 2) = (m.heard f k).1 ∧ mdF m (7 + f * 12 + k * 2 + 1) = (m.heard f k).2 := by
  constructor
  · unfold mdF
    rw [if_neg (by omega), if_neg (by omega), if_pos (by omega), if_pos (by omega), show (7 + f * 12 + k * 2 - 7) / 12 = f by omega, show (7 + f * 12 + k * 2 - 7) % 12 / 2 = k by omega]
  · unfold mdF
    rw [if_neg (by omega), if_neg (by omega), if_pos (by omega), if_neg (by omega), show (7 + f * 12 + k * 2 + 1 - 7) / 12 = f by omega, show (7 + f * 12 + k * 2 + 1 - 7) % 12 / 2 = k by omega]
theorem mdF_ways (m : Md) {k : Nat} (hk : k < 6) : mdF m (79 + k * 3) = (m.ways k).1 ∧ mdF m (79 + k * 3 + 1) = (m.ways k).2.1 ∧ mdF m (79 + k * 3 + 2) = (m.ways k).2.2 := by
  refine ⟨?_, ?_, ?_⟩
  · unfold mdF
    rw [if_neg (by omega), if_neg (by omega), if_neg (by omega), if_pos (by omega), if_pos (by omega), show (79 + k * 3 - 79) / 3 = k by omega]
  · unfold mdF
    rw [if_neg (by omega), if_neg (by omega), if_neg (by omega), if_pos (by omega), if_neg (by omega), if_pos (by omega), show (79 + k * 3 + 1 - 79) / 3 = k by omega]
  · unfold mdF
    rw [if_neg (by omega), if_neg (by omega), if_neg (by omega), if_pos (by omega), if_neg (by omega), if_neg (by omega), show (79 + k * 3 + 2 - 79) / 3 = k by omega]
theorem mdF_bests (m : Md) {k : Nat} (hk : k < 6) : mdF m (97 + k * 2) = (m.bests k).1 ∧ mdF m (97 + k * 2 + 1) = (m.bests k).2 := by
  constructor
  · unfold mdF
    rw [if_neg (by omega), if_neg (by omega), if_neg (by omega), if_neg (by omega), if_pos (by omega), show (97 + k * 2 - 97) / 2 = k by omega]
  · unfold mdF
    rw [if_neg (by omega), if_neg (by omega), if_neg (by omega), if_neg (by omega), if_neg (by omega), show (97 + k * 2 + 1 - 97) / 2 = k by omega]
theorem NdAt.me {t : TypeId} {w : World} {p : Nat} {m : Md} (h : NdAt t w p m) : w.cell? ⟨p, 0, none⟩ = some (iv m.me) := by
  have := ZArr.cell h (j := 0) (by omega)
  rw [mdF_me] at this; exact this
theorem NdAt.cost {t : TypeId} {w : World} {p : Nat} {m : Md} (h : NdAt t w p m) {j : Nat} (hj : j < 6) : w.cell? ⟨p, 1 + j, none⟩ = some (iv (m.cost j)) := by
  have := ZArr.cell h (j := 1 + j) (by omega)
  rw [mdF_cost m hj] at this; exact this
theorem NdAt.heard {t : TypeId} {w : World} {p : Nat} {m : Md} (h : NdAt t w p m) {f k : Nat} (hf : f < 6) (hk : k < 6) : w.cell? ⟨p, 7 + f * 12 + k * 2, none⟩ = some (iv (m.heard f k).1) ∧ w.cell? ⟨p, 7 + f * 12 + k * 2 + 1, none⟩ = some (iv (m.heard f k).2) := by
  have h1 := ZArr.cell h (j := 7 + f * 12 + k * 2) (by omega)
  have h2 := ZArr.cell h (j := 7 + f * 12 + k * 2 + 1) (by omega)
  rw [(mdF_heard m hf hk).1] at h1
  rw [(mdF_heard m hf hk).2] at h2
  exact ⟨h1, h2⟩
theorem NdAt.ways {t : TypeId} {w : World} {p : Nat} {m : Md} (h : NdAt t w p m) {k : Nat} (hk : k < 6) : w.cell? ⟨p, 79 + k * 3, none⟩ = some (iv (m.ways k).1) ∧ w.cell? ⟨p, 79 + k * 3 + 1, none⟩ = some (iv (m.ways k).2.1) ∧ w.cell? ⟨p, 79 + k * 3 + 2, none⟩ = some (iv (m.ways k).2.2) := by
  have h1 := ZArr.cell h (j := 79 + k * 3) (by omega)
  have h2 := ZArr.cell h (j := 79 + k * 3 + 1) (by omega)
  have h3 := ZArr.cell h (j := 79 + k * 3 + 2) (by omega)
  rw [(mdF_ways m hk).1] at h1
  rw [(mdF_ways m hk).2.1] at h2
  rw [(mdF_ways m hk).2.2] at h3
  exact ⟨h1, h2, h3⟩
theorem NdAt.bests {t : TypeId} {w : World} {p : Nat} {m : Md} (h : NdAt t w p m) {k : Nat} (hk : k < 6) : w.cell? ⟨p, 97 + k * 2, none⟩ = some (iv (m.bests k).1) ∧ w.cell? ⟨p, 97 + k * 2 + 1, none⟩ = some (iv (m.bests k).2) := by
  have h1 := ZArr.cell h (j := 97 + k * 2) (by omega)
  have h2 := ZArr.cell h (j := 97 + k * 2 + 1) (by omega)
  rw [(mdF_bests m hk).1] at h1
  rw [(mdF_bests m hk).2] at h2
  exact ⟨h1, h2⟩
/-- A store into the block, as a change of one field. -/
theorem NdAt.setCost {t : TypeId} {w : World} {p : Nat} {m : Md} (h : NdAt t w p m) {j : Nat} (hj : j < 6) (v : Int) : NdAt t (w.setCell ⟨p, 1 + j, none⟩ (iv v)) p { m with cost := updW m.cost j v } := by
  refine ZArr.set h fun i hi => ?_
  unfold mdF updW
  dsimp only
  by_cases e : i = 1 + j
  · subst e
    rw [if_neg (by omega), if_pos (by omega), if_pos rfl, if_pos (by omega)]
  · rw [if_neg e]
    by_cases e0 : i = 0
    · rw [if_pos e0, if_pos e0]
    · rw [if_neg e0, if_neg e0]
      by_cases e7 : i < 7
      · rw [if_pos e7, if_pos e7, if_neg (by omega)]
      · rw [if_neg e7, if_neg e7]
theorem NdAt.setHeard {t : TypeId} {w : World} {p : Nat} {m : Md} (h : NdAt t w p m) {f k : Nat} (hf : f < 6) (hk : k < 6) (s d : Int) : NdAt t ((w.setCell ⟨p, 7 + f * 12 + k * 2, none⟩ (iv s)).setCell ⟨p, 7 + f * 12 + k * 2 + 1, none⟩ (iv d)) p { m with heard := updW m.heard f (updW (m.heard f) k (s, d)) } := by
  refine ZArr.set (ZArr.set h (g' := fun i => if i = 7 + f * 12 + k * 2 then s else mdF m i) (fun _ _ => rfl)) fun i hi => ?_
  unfold mdF updW
  dsimp only
  by_cases e1 : i = 7 + f * 12 + k * 2 + 1
  · subst e1
    rw [if_pos rfl, if_neg (by omega), if_neg (by omega), if_pos (by omega), if_neg (by omega), if_pos (by omega), if_pos (by omega)]
  · rw [if_neg e1]
    by_cases e2 : i = 7 + f * 12 + k * 2
    · subst e2
      rw [if_pos rfl, if_neg (by omega), if_neg (by omega), if_pos (by omega), if_pos (by omega), if_pos (by omega), if_pos (by omega)]
    · rw [if_neg e2]
      by_cases e0 : i = 0
      · rw [if_pos e0, if_pos e0]
      · rw [if_neg e0, if_neg e0]
        by_cases e7 : i < 7
        · rw [if_pos e7, if_pos e7]
        · rw [if_neg e7, if_neg e7]
          by_cases e79 : i < 79
          · rw [if_pos e79, if_pos e79]
            by_cases ef : (i - 7) / 12 = f
            · rw [if_pos ef, if_neg (show ¬ (i - 7) % 12 / 2 = k by omega), ef]
            · rw [if_neg ef]
          · rw [if_neg e79, if_neg e79]
theorem NdAt.setWays {t : TypeId} {w : World} {p : Nat} {m : Md} (h : NdAt t w p m) {k : Nat} (hk : k < 6) (s d o : Int) : NdAt t (((w.setCell ⟨p, 79 + k * 3, none⟩ (iv s)).setCell ⟨p, 79 + k * 3 + 1, none⟩ (iv d)).setCell ⟨p, 79 + k * 3 + 2, none⟩ (iv o)) p { m with ways := updW m.ways k (s, d, o) } := by
  refine ZArr.set (ZArr.set (ZArr.set h (g' := fun i => if i = 79 + k * 3 then s else mdF m i) (fun _ _ => rfl)) (g' := fun i => if i = 79 + k * 3 + 1 then d else if i = 79 + k * 3 then s else mdF m i) (fun _ _ => rfl)) fun i hi => ?_
  unfold mdF updW
  dsimp only
  by_cases e2 : i = 79 + k * 3 + 2
  · subst e2
    rw [if_pos rfl, if_neg (by omega), if_neg (by omega), if_neg (by omega), if_pos (by omega), if_neg (by omega), if_neg (by omega), if_pos (by omega)]
  · rw [if_neg e2]
    by_cases e1 : i = 79 + k * 3 + 1
    · subst e1
      rw [if_pos rfl, if_neg (by omega), if_neg (by omega), if_neg (by omega), if_pos (by omega), if_neg (by omega), if_pos (by omega), if_pos (by omega)]
    · rw [if_neg e1]
      by_cases e3 : i = 79 + k * 3
      · subst e3
        rw [if_pos rfl, if_neg (by omega), if_neg (by omega), if_neg (by omega), if_pos (by omega), if_pos (by omega), if_pos (by omega)]
      · rw [if_neg e3]
        by_cases e0 : i = 0
        · rw [if_pos e0, if_pos e0]
        · rw [if_neg e0, if_neg e0]
          by_cases e7 : i < 7
          · rw [if_pos e7, if_pos e7]
          · rw [if_neg e7, if_neg e7]
            by_cases e79 : i < 79
            · rw [if_pos e79, if_pos e79]
            · rw [if_neg e79, if_neg e79]
              by_cases e97 : i < 97
              · rw [if_pos e97, if_pos e97, if_neg (show ¬ (i - 79) / 3 = k by omega)]
              · rw [if_neg e97, if_neg e97]
theorem NdAt.setBests {t : TypeId} {w : World} {p : Nat} {m : Md} (h : NdAt t w p m) {k : Nat} (hk : k < 6) (s d : Int) : NdAt t ((w.setCell ⟨p, 97 + k * 2, none⟩ (iv s)).setCell ⟨p, 97 + k * 2 + 1, none⟩ (iv d)) p { m with bests := updW m.bests k (s, d) } := by
  refine ZArr.set (ZArr.set h (g' := fun i => if i = 97 + k * 2 then s else mdF m i) (fun _ _ => rfl)) fun i hi => ?_
  unfold mdF updW
  dsimp only
  by_cases e1 : i = 97 + k * 2 + 1
  · subst e1
    rw [if_pos rfl, if_neg (by omega), if_neg (by omega), if_neg (by omega), if_neg (by omega), if_neg (by omega), if_pos (by omega)]
  · rw [if_neg e1]
    by_cases e2 : i = 97 + k * 2
    · subst e2
      rw [if_pos rfl, if_neg (by omega), if_neg (by omega), if_neg (by omega), if_neg (by omega), if_pos (by omega), if_pos (by omega)]
    · rw [if_neg e2]
      by_cases e0 : i = 0
      · rw [if_pos e0, if_pos e0]
      · rw [if_neg e0, if_neg e0]
        by_cases e7 : i < 7
        · rw [if_pos e7, if_pos e7]
        · rw [if_neg e7, if_neg e7]
          by_cases e79 : i < 79
          · rw [if_pos e79, if_pos e79]
          · rw [if_neg e79, if_neg e79]
            by_cases e97 : i < 97
            · rw [if_pos e97, if_pos e97]
            · rw [if_neg e97, if_neg e97, if_neg (show ¬ (i - 97) / 2 = k by omega)]
theorem NdAt.setAge {t : TypeId} {w : World} {p : Nat} {m : Md} (h : NdAt t w p m) {k : Nat} (hk : k < 6) (s : Int) : NdAt t (w.setCell ⟨p, 79 + k * 3, none⟩ (iv s)) p { m with ways := updW m.ways k (s, (m.ways k).2.1, (m.ways k).2.2) } := by
  refine ZArr.set h fun i hi => ?_
  by_cases e : i = 79 + k * 3
  · subst e
    rw [if_pos rfl, (mdF_ways _ hk).1]
    simp [updW]
  · rw [if_neg e]
    unfold mdF updW
    dsimp only
    by_cases e3 : 79 ≤ i ∧ i < 97
    · have a0 : ¬ i = 0 := by omega
      have a1 : ¬ i < 7 := by omega
      have a2 : ¬ i < 79 := by omega
      rw [if_neg a0, if_neg a1, if_neg a2, if_pos e3.2, if_neg a0, if_neg a1, if_neg a2, if_pos e3.2]
      by_cases e4 : (i - 79) / 3 = k
      · have a3 : ¬ (i - 79) % 3 = 0 := by omega
        rw [if_neg a3, if_neg a3, if_pos e4, e4]
      · rw [if_neg e4]
    · by_cases a0 : i = 0
      · rw [if_pos a0, if_pos a0]
      · by_cases a1 : i < 7
        · rw [if_neg a0, if_pos a1, if_neg a0, if_pos a1]
        · by_cases a2 : i < 79
          · rw [if_neg a0, if_neg a1, if_pos a2, if_neg a0, if_neg a1, if_pos a2]
          · have a3 : ¬ i < 97 := by omega
            rw [if_neg a0, if_neg a1, if_neg a2, if_neg a3, if_neg a0, if_neg a1, if_neg a2, if_neg a3]

end Go.Proofs.YtfcknkanbcndjagGreatDoor

/- WHAT A CALL LEAVES AS IT WAS; small blocks of numbers. -/
namespace Go.Proofs.YtfcknkanbcndjagGreatDoor
open Go.RowKit
attribute [local go_sem] Ext.all Ext.cell Ext.frozen Ext.lt Ext.lt1 Ext.lt2 Ext.ne Ext.ne'
/-- All blocks but p's, and younger ones, are as they were. -/
structure Wr (p : Nat) (w w' : World) : Prop where
  os : w'.os = w.os
  tape : w'.tape = w.tape
  output : w'.output = w.output
  size : w.heap.size ≤ w'.heap.size
  block : ∀ k, k < w.heap.size → k ≠ p → w'.heap[k]? = w.heap[k]?
theorem Wr.refl (p : Nat) (w : World) : Wr p w w := ⟨rfl, rfl, rfl, Nat.le_refl _, fun _ _ _ => rfl⟩
theorem Wr.trans {p : Nat} {a b c : World} (h : Wr p a b) (k : Wr p b c) : Wr p a c :=
  ⟨k.os.trans h.os, k.tape.trans h.tape, k.output.trans h.output, Nat.le_trans h.size k.size, fun i hi hp => (k.block i (Nat.lt_of_lt_of_le hi h.size) hp).trans (h.block i hi hp)⟩
theorem Gr.wr {a b : World} (h : Gr a b) (p : Nat) : Wr p a b := ⟨h.os, h.tape, h.output, h.size, fun k hk _ => h.block k hk⟩
theorem Wr.set {p : Nat} {a b : World} (h : Wr p a b) (j : Nat) (v : Value) : Wr p a (b.setCell ⟨p, j, none⟩ v) :=
  ⟨h.os, h.tape, h.output, by have := h.size; simpa using this, fun k hk hp => by rw [heap_setCell_other b ⟨p, j, none⟩ k v hp]; exact h.block k hk hp⟩
theorem Wr.gr {p : Nat} {B a b : World} (h : Wr p a b) (g : Gr B a) (hp : B.heap.size ≤ p) : Gr B b :=
  ⟨h.os.trans g.os, h.tape.trans g.tape, h.output.trans g.output, Nat.le_trans g.size h.size, fun k hk => (h.block k (Nat.lt_of_lt_of_le hk g.size) (by omega)).trans (g.block k hk)⟩
theorem Wr.arr {p t n q : Nat} {a b : World} {g : Nat → Int} (h : Wr p a b) (k : ZArr a t n q g) (hq : q ≠ p) : ZArr b t n q g := (h.block q k.lt hq).trans k

def sdF (s d : Int) : Nat → Int := fun j => if j = 0 then s else d
def wayF (v : Int × Int × Int) : Nat → Int := fun j => if j = 0 then v.1 else if j = 1 then v.2.1 else v.2.2

theorem ZArr.put3 {w : World} {t p : Nat} {g : Nat → Int} (h : ZArr w t 3 p g) (a b c : Int) : ZArr (((w.setCell ⟨p, 0, none⟩ (iv a)).setCell ⟨p, 1, none⟩ (iv b)).setCell ⟨p, 2, none⟩ (iv c)) t 3 p (wayF (a, b, c)) := by
  refine ZArr.set (ZArr.set (ZArr.set h (g' := fun i => if i = 0 then a else g i) (fun _ _ => rfl)) (g' := fun i => if i = 1 then b else if i = 0 then a else g i) (fun _ _ => rfl)) fun i hi => ?_
  unfold wayF
  rcases (show i = 0 ∨ i = 1 ∨ i = 2 by omega) with rfl | rfl | rfl <;> rfl
theorem gr_put3 {w X : World} {p : Nat} (g : Gr w X) (hp : w.heap.size ≤ p) (a b c : Value) : Gr w (((X.setCell ⟨p, 0, none⟩ a).setCell ⟨p, 1, none⟩ b).setCell ⟨p, 2, none⟩ c) := ((g.setCell hp _).setCell hp _).setCell hp _
def nwF (f o z s d : Int) : Nat → Int := fun j => if j = 0 then f else if j = 1 then o else if j = 2 then z else if j = 3 then s else d

end Go.Proofs.YtfcknkanbcndjagGreatDoor

/- CONTRACTS OF package node: Better, nothing, noWay, other; of links.Node. -/
namespace Go.Proofs.YtfcknkanbcndjagGreatDoor
open Go.RowKit
attribute [local go_sem] Ext.all Ext.cell Ext.frozen Ext.lt Ext.lt1 Ext.lt2 Ext.ne Ext.ne'
theorem nbetter_is {s d s2 d2 : Int} {v : Bool} (h : bet s d s2 d2 = v) (w : World) : Calls Tryz.prog 179 #[iv s, iv d, iv s2, iv d2] w fun e w' => e = .returned (.bool v) ∧ w' = w := by
  subst h
  by_cases e : s2 < s
  · have hb : bet s d s2 d2 = true := bet_iff.2 (.inl e)
    have h1 : decide (s2 < s) = true := decide_eq_true e
    rw [hb]
    clear hb e
    go_enter Tryz.func179, Tryz.ntmps179
    go_wp2
    go_ret
    exact ⟨rfl, rfl⟩
  · have h1 : decide (s2 < s) = false := decide_eq_false e
    by_cases e2 : s = s2
    · have h2 : (s == s2) = true := by simpa using e2
      have hb : bet s d s2 d2 = decide (d < d2) := by unfold bet; rw [if_pos e2]
      rw [hb]
      clear hb e e2
      go_enter Tryz.func179, Tryz.ntmps179
      go_wp2
      go_ret
      exact ⟨rfl, rfl⟩
    · have h2 : (s == s2) = false := by simpa using e2
      have hb : bet s d s2 d2 = false := by unfold bet; rw [if_neg e2]; exact h1
      rw [hb]
      clear hb e e2
      go_enter Tryz.func179, Tryz.ntmps179
      go_wp2
      go_ret
      exact ⟨rfl, rfl⟩
theorem lnode_is {k : Int} {v : Bool} (h : decide (0 ≤ k ∧ k < 6) = v) (w : World) : Calls Tryz.prog 33 #[iv k] w fun e w' => e = .returned (.bool v) ∧ w' = w := by
  subst h
  by_cases e : 0 ≤ k
  · have e1 : decide (0 ≤ k ∧ k < 6) = decide (k < 6) := by simp [e]
    rw [e1]
    clear e1
    go_enter Tryz.func33, Tryz.ntmps33
    go_wp2
    go_ret
    exact ⟨rfl, rfl⟩
  · have e1 : decide (0 ≤ k ∧ k < 6) = false := by simp [e]
    have e2 : decide (0 ≤ k) = false := decide_eq_false e
    rw [e1]
    clear e1 e
    go_enter Tryz.func33, Tryz.ntmps33
    go_wp2
    go_ret
    exact ⟨rfl, rfl⟩
theorem nothing_any (w : World) : Calls Tryz.prog 143 #[] w fun e w' => e = .returned (.agg #[iv 0, iv 200]) ∧ ∃ d : Ext w, w' = d.out := by
  go_enter Tryz.func143, Tryz.ntmps143
  go_wp2
  refine bodyPost_ret (v := .agg #[iv 0, iv 200]) (by simp [results, Tryz.results143, go_sem]) rfl ⟨rfl, ext_mk ?_⟩
  first
    | exact (Gr.refl _).alloc _
    | exact ((((Gr.refl _).alloc _).setCell (by simp) _).setCell (by simp) _)
theorem noWay_any (s : Int) (w : World) : Calls Tryz.prog 144 #[iv s] w fun e w' => e = .returned (.agg #[iv s, iv 200, iv (-1)]) ∧ ∃ d : Ext w, w' = d.out := by
  go_enter Tryz.func144, Tryz.ntmps144
  go_wp2
  refine bodyPost_ret (v := .agg #[iv s, iv 200, iv (-1)]) (by simp [results, Tryz.results144, go_sem]) rfl ⟨rfl, ext_mk ?_⟩
  first
    | exact (Gr.refl _).alloc _
    | exact (((((Gr.refl _).alloc _).setCell (by simp) _).setCell (by simp) _).setCell (by simp) _)

/-- Is there such a node, and not the one itself? -/
theorem nother_is {w : World} {p : Nat} {m : Md} (H : DAt w p m) {k : Int} {v : Bool} (h : decide ((0 ≤ k ∧ k < 6) ∧ k ≠ m.me) = v) : Calls Tryz.prog 109 #[pv p, iv k] w fun e w' => e = .returned (.bool v) ∧ w' = w := by
  subst h
  have c0 := H.me
  have hp := H.lt
  clear H
  by_cases e : 0 ≤ k ∧ k < 6
  · have B1 : Hid (decide (0 ≤ k ∧ k < 6) = true) := decide_eq_true e
    have hb : decide ((0 ≤ k ∧ k < 6) ∧ k ≠ m.me) = (k != (m.me : Int)) := by
      by_cases q : k = m.me
      · simp [q]
      · simp [q, e]
    rw [hb]
    clear hb e
    go_enter Tryz.func109, Tryz.ntmps109
    go_wp2_with (go_at_call 33; with_reducible refine (lnode_is B1.out _).mono ?_; rintro e w1 ⟨rfl, hw1⟩; have hw2 := hw1.symm; clear hw1; subst hw2)
    go_ret
    exact ⟨rfl, rfl⟩
  · have B1 : Hid (decide (0 ≤ k ∧ k < 6) = false) := decide_eq_false e
    have hb : decide ((0 ≤ k ∧ k < 6) ∧ k ≠ m.me) = false := by simp only [decide_eq_false_iff_not]; exact fun q => e q.1
    rw [hb]
    clear hb e
    go_enter Tryz.func109, Tryz.ntmps109
    go_wp2_with (go_at_call 33; with_reducible refine (lnode_is B1.out _).mono ?_; rintro e w1 ⟨rfl, hw1⟩; have hw2 := hw1.symm; clear hw1; subst hw2)
    go_ret
    exact ⟨rfl, rfl⟩

end Go.Proofs.YtfcknkanbcndjagGreatDoor

/- CONTRACTS OF package node: mayBeGone. -/
namespace Go.Proofs.YtfcknkanbcndjagGreatDoor
open Go.RowKit
attribute [local go_sem] Ext.all Ext.cell Ext.frozen Ext.lt Ext.lt1 Ext.lt2 Ext.ne Ext.ne'
set_option maxRecDepth 20000 in
set_option maxHeartbeats 8000000 in
theorem nmay_any {w : World} {p : Nat} {m : Md} (H : DAt w p m) {f z : Nat} (hf : f < 6) (hz : z < 6) (hcs : 0 ≤ m.cost f ∧ m.cost f ≤ 15) (hsd : 0 ≤ (m.heard f z).2 ∧ (m.heard f z).2 ≤ 200) {v : Bool} (hv : mayB m z f = v) :
    Calls Tryz.prog 178 #[pv p, iv f, iv z] w fun e w' => e = .returned (.bool v) ∧ ∃ d : Ext w, w' = d.out := by
  subst hv
  have hp := H.lt
  obtain ⟨x1, x2⟩ := H.heard hf hz
  obtain ⟨b0, b1⟩ := H.bests hz
  have c1 := H.cost hf
  have hfi : (f : Int) < 6 := by omega
  have hzi : (z : Int) < 6 := by omega
  have HMB : Hid (mayB m z f = (decide (m.cost f ≠ 0) && decide ((m.heard f z).2 + m.cost f < 200) && bet (m.heard f z).1 (m.heard f z).2 (m.bests z).1 (m.bests z).2)) := rfl
  generalize mayB m z f = mv at *
  generalize m.heard f z = hv at *
  generalize m.bests z = bv at *
  generalize m.cost f = cc at *
  obtain ⟨hs1, hd1⟩ := hv
  obtain ⟨bs, bd⟩ := bv
  simp only at x1 x2 b0 b1 hsd HMB
  have wb : IntKind.i64.wrap (hd1 + cc) = hd1 + cc := by rw [IntKind.wrap_i64]; omega
  clear H
  go_enter Tryz.func178, Tryz.ntmps178
  go_upto_region 1 with (fail)
  go_big_region
  all_goals
    by_cases hc0 : cc = 0
    · have g1 : (cc != 0) = false := by simpa using hc0
      have HV : Hid (mv = false) := by unfold Hid; rw [HMB.out]; simp [hc0]
      clear HMB hc0
      go_wp2_with fail
      go_ret
      exact ⟨by rw [HV.out]; rfl, ext_mk (((Gr.refl _).alloc _).alloc _).drew⟩
    · have g1 : (cc != 0) = true := by simpa using hc0
      by_cases h2 : hd1 + cc < 200
      · have g2 : decide (hd1 + cc < 200) = true := decide_eq_true h2
        obtain ⟨bv, hbt⟩ : ∃ bv, bet hs1 hd1 bs bd = bv := ⟨_, rfl⟩
        have HB1 := hide hbt
        have HV : Hid (mv = bv) := by unfold Hid; rw [HMB.out, hbt]; simp [hc0, h2]
        clear HMB hc0 h2 hbt
        go_wp2_with (go_at_call 179; with_reducible refine (nbetter_is HB1.out _).mono ?_; rintro e _ ⟨rfl, rfl⟩)
        go_ret
        exact ⟨by rw [HV.out]; rfl, ext_mk (((Gr.refl _).alloc _).alloc _).drew⟩
      · have g2 : decide (hd1 + cc < 200) = false := decide_eq_false h2
        have HV : Hid (mv = false) := by unfold Hid; rw [HMB.out]; simp [h2]
        clear HMB hc0 h2
        go_wp2_with fail
        go_ret
        exact ⟨by rw [HV.out]; rfl, ext_mk (((Gr.refl _).alloc _).alloc _).drew⟩
end Go.Proofs.YtfcknkanbcndjagGreatDoor
