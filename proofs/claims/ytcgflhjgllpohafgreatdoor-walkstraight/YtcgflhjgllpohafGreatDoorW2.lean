import Derived.Test.YtcgflhjgllpohafGreatDoorE1
import Derived.Test.YtcgflhjgllpohafGreatDoorLPlain2
import Derived.Sort.Statements
import Derived.Shelf.Spec.TrailingZeros
/- CHANGES BETWEEN TABLES: what is to be changed in one so that it is another one; changes done one by one. No Go here. -/
namespace Go.Proofs.YtcgflhjgllpohafGreatDoor

/-- In a strict order lists with the same members are the same. -/
theorem srt_unique {α : Type} (lt : α → α → Prop) (irr : ∀ x, ¬ lt x x) (asy : ∀ x y, lt x y → ¬ lt y x) : ∀ (A B : List α), A.Pairwise lt → B.Pairwise lt → (∀ x, x ∈ A ↔ x ∈ B) → A = B
  | [], B, _, _, h => by
    cases B with
    | nil => rfl
    | cons y B => exact absurd ((h y).2 (by simp)) (by simp)
  | x :: A, [], _, _, h => absurd ((h x).1 (by simp)) (by simp)
  | x :: A, y :: B, hA, hB, h => by
    rw [List.pairwise_cons] at hA hB
    have e : x = y := by
      rcases List.mem_cons.1 ((h x).1 (by simp)) with e | e
      · exact e
      · rcases List.mem_cons.1 ((h y).2 (by simp)) with e' | e'
        · exact e'.symm
        · exact absurd (hA.1 y e') (asy _ _ (hB.1 x e))
    subst e
    have ih := srt_unique lt irr asy A B hA.2 hB.2 (fun z => ?_)
    · rw [ih]
    · constructor
      · intro hz
        rcases List.mem_cons.1 ((h z).1 (by simp [hz])) with e | e
        · subst e; exact absurd (hA.1 z hz) (irr z)
        · exact e
      · intro hz
        rcases List.mem_cons.1 ((h z).2 (by simp [hz])) with e | e
        · subst e; exact absurd (hB.1 z hz) (irr z)
        · exact e
theorem less_not (l b : Int) : ¬ lessB l b l b = true := by rw [less_irr]; simp
theorem less_asy' {l b m c : Int} (h : lessB l b m c = true) : ¬ lessB m c l b = true := by rw [less_asy h]; simp
theorem nodup_lenT {α : Type} [BEq α] [LawfulBEq α] : ∀ (A B : List α), A.Nodup → (∀ x ∈ A, x ∈ B) → A.length ≤ B.length
  | [], B, _, _ => by simp
  | a :: A, B, h, hs => by
    rw [List.nodup_cons] at h
    have ha : a ∈ B := hs a (by simp)
    have ih := nodup_lenT A (B.erase a) h.2 (fun x hx => (List.mem_erase_of_ne (fun e : x = a => h.1 (by rw [← e]; exact hx))).2 (hs x (by simp [hx])))
    rw [List.length_erase_of_mem ha] at ih
    have : 0 < B.length := List.length_pos_of_mem ha
    simp only [List.length_cons]; omega

theorem hop_ne {h : Int} (hh : hopB h = true) : h ≠ -2 := by intro e; subst e; simp [hopB] at hh
/-- What a table has. -/
theorem Tab.mem_get {rs : List Rt} (h : Tab rs) (l b x : Int) : (l, b, x) ∈ rs ↔ getL rs l b = x ∧ x ≠ -2 := by
  cases ho : okB l b
  · rw [(h.lacks ho).2]
    constructor
    · intro hm; have := h.mem hm; simp [ho] at this
    · rintro ⟨rfl, e⟩; exact absurd rfl e
  · obtain ⟨A, B, hp, hA, hB, hc⟩ := h.part ho
    have nA : ∀ y, (l, b, y) ∉ A := fun y hy => less_not l b (hA _ hy)
    have nB : ∀ y, (l, b, y) ∉ B := fun y hy => less_not l b (hB _ hy)
    rcases hc with ⟨e, _, hg⟩ | ⟨h0, hh0, e, _, hg⟩
    · rw [hg]
      constructor
      · intro hm
        rw [e] at hm
        rcases List.mem_append.1 hm with q | q
        · exact absurd q (nA _)
        · exact absurd q (nB _)
      · rintro ⟨rfl, e⟩; exact absurd rfl e
    · rw [hg]
      constructor
      · intro hm
        rw [e] at hm
        rcases List.mem_append.1 hm with q | q
        · exact absurd q (nA _)
        · rcases List.mem_cons.1 q with q | q
          · have : x = h0 := by simpa using q
            subst this
            exact ⟨rfl, hop_ne hh0⟩
          · exact absurd q (nB _)
      · rintro ⟨rfl, _⟩
        rw [e]; simp
theorem Tab.get_hop {rs : List Rt} (h : Tab rs) {l b : Int} (hn : getL rs l b ≠ -2) : okB l b = true ∧ hopB (getL rs l b) = true := by
  have := h.ok _ ((h.mem_get l b _).2 ⟨rfl, hn⟩)
  exact this
/-- Tables that have the same of each prefix are the same. -/
theorem tab_ext {rs ss : List Rt} (h : Tab rs) (k : Tab ss) (e : ∀ l b, getL rs l b = getL ss l b) : rs = ss := by
  refine srt_unique _ (fun x => less_not _ _) (fun x y => less_asy') rs ss h.srt k.srt (fun r => ?_)
  obtain ⟨l, b, x⟩ := r
  rw [h.mem_get, k.mem_get, e]
/-- What a table has behind Set. -/
theorem Tab.get_set {rs : List Rt} (h : Tab rs) {l b h' : Int} (hc : (setL rs l b h').2 = 0) : getL (setL rs l b h').1 l b = h' ∧ ∀ m c, ¬ (m = l ∧ c = b) → getL (setL rs l b h').1 m c = getL rs m c := by
  refine ⟨(h.back l b h' hc).1, fun m c hn => ?_⟩
  have hT := h.set_tab l b h'
  have key : ∀ y, (m, c, y) ∈ (setL rs l b h').1 ↔ (m, c, y) ∈ rs := by
    intro y
    have ne : ∀ z : Int, ¬ ((m, c, y) = (l, b, z)) := fun z e => hn (by simp at e; exact ⟨e.1, e.2.1⟩)
    rcases h.set l b h' with ⟨_, e⟩ | ⟨ho, _, A, B, _, hA, hB, ⟨_, h0, _, e, _, _, e'⟩ | ⟨hh, _, e', ⟨e, hl, _⟩ | ⟨h0, _, e, _⟩⟩⟩
    · exact absurd hc e
    · rw [e']; conv => rhs; rw [e]
      simp [ne]
    · rw [e']; conv => rhs; rw [e]
      simp [ne]
    · rw [e']; conv => rhs; rw [e]
      simp [ne]
  by_cases e : getL rs m c = -2
  · by_cases e' : getL (setL rs l b h').1 m c = -2
    · rw [e, e']
    · have := (h.mem_get m c _).1 ((key _).1 ((hT.mem_get m c _).2 ⟨rfl, e'⟩))
      exact absurd (this.1.symm.trans e) this.2
  · exact ((hT.mem_get m c _).1 ((key _).2 ((h.mem_get m c _).2 ⟨rfl, e⟩))).1
/-- A route that is there can be taken away. -/
theorem Tab.can_del {rs : List Rt} (h : Tab rs) {l b : Int} (hn : getL rs l b ≠ -2) : (setL rs l b (-2)).2 = 0 := by
  obtain ⟨ho, hh⟩ := h.get_hop hn
  obtain ⟨A, B, hp, hA, hB, ⟨e, _, hg⟩ | ⟨h0, hh0, e, hf, hg⟩⟩ := h.part ho
  · exact absurd hg hn
  · unfold setL
    simp [ho, hf]
/-- A route can be set where there is one, or room. -/
theorem Tab.can_set {rs : List Rt} (h : Tab rs) {l b h' : Int} (ho : okB l b = true) (hh : hopB h' = true) (hr : getL rs l b ≠ -2 ∨ rs.length < 40) : (setL rs l b h').2 = 0 := by
  have h2 := hop_ne hh
  obtain ⟨A, B, hp, hA, hB, ⟨e, hf, hg⟩ | ⟨h0, hh0, e, hf, hg⟩⟩ := h.part ho
  · have hl : ¬ 40 ≤ rs.length := by rcases hr with hr | hr; exact absurd hg hr; omega
    unfold setL
    simp [ho, hh, h2, hf, hl]
  · unfold setL
    simp [ho, hh, h2, hf]
/-- A table whose prefixes are some of another one's, but not all, is shorter. -/
theorem Tab.shorter {rs ss : List Rt} (h : Tab rs) (k : Tab ss) (hs : ∀ l b, getL rs l b ≠ -2 → getL ss l b ≠ -2) {l b : Int} (h1 : getL rs l b = -2) (h2 : getL ss l b ≠ -2) : rs.length < ss.length := by
  have key := nodup_lenT ((l, b) :: rs.map (fun r => (r.1, r.2.1))) (ss.map (fun r => (r.1, r.2.1))) ?_ ?_
  · simp at key; omega
  · rw [List.nodup_cons]
    refine ⟨fun hm => ?_, ?_⟩
    · obtain ⟨⟨m, c, x⟩, hr, e⟩ := List.mem_map.1 hm
      simp at e
      rw [e.1, e.2] at hr
      have := (h.mem_get l b x).1 hr
      exact this.2 (this.1.symm.trans h1)
    · rw [List.Nodup, List.pairwise_map]
      refine h.srt.imp fun {r s} hr e => ?_
      simp at e
      rw [e.1, e.2] at hr
      exact less_not _ _ hr
  · intro p hp
    rcases List.mem_cons.1 hp with rfl | hp
    · exact List.mem_map.2 ⟨(l, b, getL ss l b), (k.mem_get l b _).2 ⟨rfl, h2⟩, rfl⟩
    · obtain ⟨⟨m, c, x⟩, hr, e⟩ := List.mem_map.1 hp
      have hm := (h.mem_get m c x).1 hr
      subst e
      have := hs m c (by rw [hm.1]; exact hm.2)
      exact List.mem_map.2 ⟨(m, c, getL ss m c), (k.mem_get m c _).2 ⟨rfl, this⟩, rfl⟩

/-- A change: Len, Bits, Old, New. -/
abbrev Ch := Int × Int × Int × Int
/-- What is to be changed in rs so that it is ss. -/
structure IsDiff (rs ss : List Rt) (ds : List Ch) : Prop where
  srt : ds.Pairwise (fun c d => lessB c.1 c.2.1 d.1 d.2.1 = true)
  mem : ∀ l b x y, (l, b, x, y) ∈ ds ↔ getL rs l b = x ∧ getL ss l b = y ∧ x ≠ y
theorem IsDiff.unique {rs ss : List Rt} {ds es : List Ch} (h : IsDiff rs ss ds) (k : IsDiff rs ss es) : ds = es := by
  refine srt_unique _ (fun x => less_not _ _) (fun x y => less_asy') ds es h.srt k.srt (fun c => ?_)
  obtain ⟨l, b, x, y⟩ := c
  rw [h.mem, k.mem]
theorem IsDiff.self {rs : List Rt} {ds : List Ch} (h : IsDiff rs rs ds) : ds = [] := by
  cases ds with
  | nil => rfl
  | cons c ds =>
    obtain ⟨l, b, x, y⟩ := c
    obtain ⟨h1, h2, h3⟩ := (h.mem l b x y).1 (by simp)
    exact absurd (h1.symm.trans h2) h3

/-- Changes of which New is none (z), or the others, one by one, to the first that can't be done. -/
def passD (z : Bool) : List Rt → List Ch → List Rt × Int
  | rs, [] => (rs, 0)
  | rs, c :: cs =>
    if decide (c.2.2.2 = -2) ≠ z then passD z rs cs
    else if getL rs c.1 c.2.1 ≠ c.2.2.1 then (rs, 11)
    else if (setL rs c.1 c.2.1 c.2.2.2).2 ≠ 0 then (rs, (setL rs c.1 c.2.1 c.2.2.2).2)
    else passD z (setL rs c.1 c.2.1 c.2.2.2).1 cs
def doneL (rs : List Rt) (cs : List Ch) : List Rt × Int :=
  if (passD true rs cs).2 ≠ 0 then passD true rs cs else passD false (passD true rs cs).1 cs
theorem passD_tab (z : Bool) : ∀ (cs : List Ch) {rs : List Rt}, Tab rs → Tab (passD z rs cs).1
  | [], rs, h => h
  | c :: cs, rs, h => by
    rw [passD]
    split
    · exact passD_tab z cs h
    · split
      · exact h
      · split
        · exact h
        · exact passD_tab z cs (h.set_tab _ _ _)
theorem doneL_tab {rs : List Rt} (h : Tab rs) (cs : List Ch) : Tab (doneL rs cs).1 := by
  unfold doneL
  split
  · exact passD_tab _ _ h
  · exact passD_tab _ _ (passD_tab _ _ h)

theorem pass_del : ∀ (cs : List Ch) {rs : List Rt}, Tab rs → cs.Pairwise (fun c d => lessB c.1 c.2.1 d.1 d.2.1 = true) → (∀ c ∈ cs, c.2.2.2 = -2 → getL rs c.1 c.2.1 = c.2.2.1 ∧ c.2.2.1 ≠ -2) →
    (passD true rs cs).2 = 0 ∧ (∀ c ∈ cs, c.2.2.2 = -2 → getL (passD true rs cs).1 c.1 c.2.1 = -2) ∧ ∀ l b, (∀ c ∈ cs, c.2.2.2 = -2 → ¬ (l = c.1 ∧ b = c.2.1)) → getL (passD true rs cs).1 l b = getL rs l b
  | [], rs, h, _, _ => ⟨rfl, by simp, fun _ _ _ => rfl⟩
  | c :: cs, rs, h, hs, hc => by
    rw [List.pairwise_cons] at hs
    have hne : ∀ d ∈ cs, ¬ (d.1 = c.1 ∧ d.2.1 = c.2.1) := fun d hd e => by
      have := hs.1 d hd
      rw [e.1, e.2] at this
      exact less_not _ _ this
    rw [passD]
    by_cases hz : c.2.2.2 = -2
    · obtain ⟨h1, h2⟩ := hc c (by simp) hz
      have hdel := h.can_del (l := c.1) (b := c.2.1) (by rw [h1]; exact h2)
      obtain ⟨g1, g2⟩ := h.get_set hdel
      rw [if_neg (by simp [hz]), if_neg (by simp [h1]), hz, if_neg (by simp [hdel])]
      obtain ⟨i1, i2, i3⟩ := pass_del cs (h.set_tab c.1 c.2.1 (-2)) hs.2 (fun d hd e => by
        rw [g2 d.1 d.2.1 (hne d hd)]
        exact hc d (by simp [hd]) e)
      refine ⟨i1, fun d hd e => ?_, fun l b hq => ?_⟩
      · rcases List.mem_cons.1 hd with rfl | hd
        · rw [i3 d.1 d.2.1 (fun x hx _ e => hne x hx ⟨e.1.symm, e.2.symm⟩)]
          exact g1
        · exact i2 d hd e
      · rw [i3 l b (fun d hd e => hq d (by simp [hd]) e), g2 l b (hq c (by simp) hz)]
    · rw [if_pos (by simp [hz])]
      obtain ⟨i1, i2, i3⟩ := pass_del cs h hs.2 (fun d hd e => hc d (by simp [hd]) e)
      refine ⟨i1, fun d hd e => ?_, fun l b hq => i3 l b fun d hd e => hq d (by simp [hd]) e⟩
      rcases List.mem_cons.1 hd with rfl | hd
      · exact absurd e hz
      · exact i2 d hd e
theorem pass_set {ss : List Rt} (kT : Tab ss) : ∀ (cs : List Ch) {rs : List Rt}, Tab rs → cs.Pairwise (fun c d => lessB c.1 c.2.1 d.1 d.2.1 = true) → (∀ c ∈ cs, c.2.2.2 ≠ -2 → getL rs c.1 c.2.1 = c.2.2.1 ∧ getL ss c.1 c.2.1 = c.2.2.2) → (∀ l b, getL rs l b ≠ -2 → getL ss l b ≠ -2) →
    (passD false rs cs).2 = 0 ∧ (∀ c ∈ cs, c.2.2.2 ≠ -2 → getL (passD false rs cs).1 c.1 c.2.1 = c.2.2.2) ∧ ∀ l b, (∀ c ∈ cs, c.2.2.2 ≠ -2 → ¬ (l = c.1 ∧ b = c.2.1)) → getL (passD false rs cs).1 l b = getL rs l b
  | [], rs, h, _, _, _ => ⟨rfl, by simp, fun _ _ _ => rfl⟩
  | c :: cs, rs, h, hs, hc, hsub => by
    rw [List.pairwise_cons] at hs
    have hne : ∀ d ∈ cs, ¬ (d.1 = c.1 ∧ d.2.1 = c.2.1) := fun d hd e => by
      have := hs.1 d hd
      rw [e.1, e.2] at this
      exact less_not _ _ this
    rw [passD]
    by_cases hz : c.2.2.2 = -2
    · rw [if_pos (by simp [hz])]
      obtain ⟨i1, i2, i3⟩ := pass_set kT cs h hs.2 (fun d hd e => hc d (by simp [hd]) e) hsub
      refine ⟨i1, fun d hd e => ?_, fun l b hq => i3 l b fun d hd e => hq d (by simp [hd]) e⟩
      rcases List.mem_cons.1 hd with rfl | hd
      · exact absurd hz e
      · exact i2 d hd e
    · obtain ⟨h1, h2⟩ := hc c (by simp) hz
      have hk : getL ss c.1 c.2.1 ≠ -2 := by rw [h2]; exact hz
      obtain ⟨ho, hh⟩ := kT.get_hop hk
      rw [h2] at hh
      have hset := h.can_set ho hh (by
        by_cases e : getL rs c.1 c.2.1 = -2
        · exact .inr (Nat.lt_of_lt_of_le (h.shorter kT hsub e hk) kT.len)
        · exact .inl e)
      obtain ⟨g1, g2⟩ := h.get_set hset
      rw [if_neg (by simp [hz]), if_neg (by simp [h1]), if_neg (by simp [hset])]
      obtain ⟨i1, i2, i3⟩ := pass_set kT cs (h.set_tab c.1 c.2.1 c.2.2.2) hs.2 (fun d hd e => by
        rw [g2 d.1 d.2.1 (hne d hd)]
        exact hc d (by simp [hd]) e) (fun l b hq => by
        by_cases e : l = c.1 ∧ b = c.2.1
        · rw [e.1, e.2]; exact hk
        · rw [g2 l b e] at hq; exact hsub l b hq)
      refine ⟨i1, fun d hd e => ?_, fun l b hq => ?_⟩
      · rcases List.mem_cons.1 hd with rfl | hd
        · rw [i3 d.1 d.2.1 (fun x hx _ e => hne x hx ⟨e.1.symm, e.2.symm⟩)]
          exact g1
        · exact i2 d hd e
      · rw [i3 l b (fun d hd e => hq d (by simp [hd]) e), g2 l b (hq c (by simp) hz)]
/-- DONE, IT IS THE OTHER ONE. -/
theorem done_diff {rs ss : List Rt} {ds : List Ch} (h : Tab rs) (k : Tab ss) (hd : IsDiff rs ss ds) : doneL rs ds = (ss, 0) := by
  have m : ∀ c ∈ ds, getL rs c.1 c.2.1 = c.2.2.1 ∧ getL ss c.1 c.2.1 = c.2.2.2 ∧ c.2.2.1 ≠ c.2.2.2 := fun c hc => by
    obtain ⟨l, b, x, y⟩ := c
    exact (hd.mem l b x y).1 hc
  obtain ⟨p1, p2, p3⟩ := pass_del ds h hd.srt (fun c hc e => by
    obtain ⟨m1, m2, m3⟩ := m c hc
    exact ⟨m1, by rw [e] at m3; exact m3⟩)
  have hT1 := passD_tab true ds h
  have keep : ∀ l b, getL ss l b ≠ -2 → getL (passD true rs ds).1 l b = getL rs l b := fun l b hq => p3 l b fun c hc e q => by
    have := (m c hc).2.1
    rw [← q.1, ← q.2, e] at this
    exact hq this
  have gone : ∀ l b, getL ss l b = -2 → getL (passD true rs ds).1 l b = -2 := fun l b hq => by
    by_cases e : getL rs l b = -2
    · rw [← e]
      refine p3 l b fun c hc e' q => ?_
      obtain ⟨m1, m2, m3⟩ := m c hc
      rw [← q.1, ← q.2, e] at m1
      rw [e', ← m1] at m3
      exact m3 rfl
    · exact p2 (l, b, getL rs l b, -2) ((hd.mem l b _ _).2 ⟨rfl, hq, e⟩) rfl
  obtain ⟨q1, q2, q3⟩ := pass_set k ds hT1 hd.srt (fun c hc e => by
    obtain ⟨m1, m2, m3⟩ := m c hc
    exact ⟨by rw [keep c.1 c.2.1 (by rw [m2]; exact e), m1], m2⟩) (fun l b hq e => hq (gone l b e))
  unfold doneL
  rw [if_neg (by simp [p1])]
  refine Prod.ext ?_ q1
  refine tab_ext (passD_tab false ds hT1) k fun l b => ?_
  by_cases e : getL ss l b = -2
  · rw [q3 l b (fun c hc e' q => by
      have := (m c hc).2.1
      rw [← q.1, ← q.2, e] at this
      exact e' this.symm), gone l b e, e]
  · by_cases e2 : getL rs l b = getL ss l b
    · rw [q3 l b (fun c hc e' q => by
        obtain ⟨m1, m2, m3⟩ := m c hc
        rw [← q.1, ← q.2] at m1 m2
        exact m3 (m1.symm.trans (e2.trans m2))), keep l b e, e2]
    · exact q2 (l, b, getL rs l b, getL ss l b) ((hd.mem l b _ _).2 ⟨rfl, rfl, e2⟩) e

end Go.Proofs.YtcgflhjgllpohafGreatDoor

/- THE REFERENCE's CHANGES: a list of the prefixes of both tables, in order, and of each where they have not the same. No Go here. -/
namespace Go.Proofs.YtcgflhjgllpohafGreatDoor

/-- A route more, in its order. -/
def insR (all : List Rt) (r : Rt) : List Rt := all.takeWhile (fun s => ltB s r.1 r.2.1) ++ r :: all.dropWhile (fun s => ltB s r.1 r.2.1)
/-- The routes of a, and those of b of whose prefixes a has none. -/
def uniR (rs ss : List Rt) : List Rt := ss.foldl (fun all r => if getL rs r.1 r.2.1 = -2 then insR all r else all) rs
def chgR (rs ss : List Rt) : List Ch := (uniR rs ss).filterMap fun r => if getL rs r.1 r.2.1 ≠ getL ss r.1 r.2.1 then some (r.1, r.2.1, getL rs r.1 r.2.1, getL ss r.1 r.2.1) else none

/-- Prefixes in order. -/
structure Ord (all : List Rt) : Prop where
  ok : ∀ r ∈ all, okB r.1 r.2.1 = true
  srt : all.Pairwise (fun r s => lessB r.1 r.2.1 s.1 s.2.1 = true)
theorem Ord.cut {all : List Rt} (h : Ord all) (l b : Int) : (∀ r ∈ all.takeWhile (fun s => ltB s l b), ltB r l b = true) ∧ (∀ r ∈ all.dropWhile (fun s => ltB s l b), ltB r l b = false) := by
  refine ⟨fun r hr => ?_, ?_⟩
  · have hs := h
    clear h
    induction all with
    | nil => simp at hr
    | cons x all ih =>
      rw [List.takeWhile_cons] at hr
      split at hr
      · rename_i hx
        rcases List.mem_cons.1 hr with rfl | hr
        · exact hx
        · exact ih hr ⟨fun s hm => hs.ok s (by simp [hm]), (List.pairwise_cons.1 hs.srt).2⟩
      · simp at hr
  · have hs := h.srt
    clear h
    induction all with
    | nil => intro r hr; simp at hr
    | cons x all ih =>
      intro r hr
      rw [List.dropWhile_cons] at hr
      rw [List.pairwise_cons] at hs
      split at hr
      · exact ih hs.2 r hr
      · rename_i hx
        rcases List.mem_cons.1 hr with rfl | hr
        · simpa using hx
        · cases e : ltB r l b
          · rfl
          · exact absurd (less_tr (hs.1 r hr) e) hx
theorem Ord.ins {all : List Rt} (h : Ord all) {r : Rt} (ho : okB r.1 r.2.1 = true) (hn : ∀ s ∈ all, ¬ (s.1 = r.1 ∧ s.2.1 = r.2.1)) : Ord (insR all r) ∧ ∀ s, s ∈ insR all r ↔ s = r ∨ s ∈ all := by
  obtain ⟨h1, h2⟩ := h.cut r.1 r.2.1
  have e : all.takeWhile (fun s => ltB s r.1 r.2.1) ++ all.dropWhile (fun s => ltB s r.1 r.2.1) = all := List.takeWhile_append_dropWhile
  have mA : ∀ s ∈ all.takeWhile (fun s => ltB s r.1 r.2.1), s ∈ all := fun s hs => by rw [← e]; exact List.mem_append_left _ hs
  have mB : ∀ s ∈ all.dropWhile (fun s => ltB s r.1 r.2.1), s ∈ all := fun s hs => by rw [← e]; exact List.mem_append_right _ hs
  have hB : ∀ s ∈ all.dropWhile (fun s => ltB s r.1 r.2.1), lessB r.1 r.2.1 s.1 s.2.1 = true := fun s hs => by
    cases q : lessB r.1 r.2.1 s.1 s.2.1
    · have := less_tot (h.ok s (mB s hs)) ho (h2 s hs) q
      exact absurd this (hn s (mB s hs))
    · rfl
  have hs := h.srt
  rw [← e] at hs
  obtain ⟨s1, s2, s3⟩ := List.pairwise_append.1 hs
  unfold insR
  refine ⟨⟨fun s hs => ?_, List.pairwise_append.2 ⟨s1, List.pairwise_cons.2 ⟨hB, s2⟩, fun x hx y hy => ?_⟩⟩, fun s => ?_⟩
  · rcases List.mem_append.1 hs with q | q
    · exact h.ok s (mA s q)
    · rcases List.mem_cons.1 q with rfl | q
      · exact ho
      · exact h.ok s (mB s q)
  · rcases List.mem_cons.1 hy with rfl | hy
    · exact h1 x hx
    · exact s3 x hx y hy
  · constructor
    · intro hs
      rcases List.mem_append.1 hs with q | q
      · exact .inr (mA s q)
      · rcases List.mem_cons.1 q with q | q
        · exact .inl q
        · exact .inr (mB s q)
    · rintro (rfl | hs)
      · simp
      · rw [← e] at hs
        rcases List.mem_append.1 hs with q | q
        · exact List.mem_append_left _ q
        · exact List.mem_append_right _ (List.mem_cons_of_mem _ q)

/-- The fold, from whatever list on. -/
theorem uni_fold {rs : List Rt} : ∀ (ts : List Rt) (all : List Rt), Ord all → (∀ r ∈ ts, okB r.1 r.2.1 = true) → ts.Pairwise (fun r s => lessB r.1 r.2.1 s.1 s.2.1 = true) →
    (∀ r ∈ ts, getL rs r.1 r.2.1 = -2 → ∀ s ∈ all, ¬ (s.1 = r.1 ∧ s.2.1 = r.2.1)) →
    Ord (ts.foldl (fun all r => if getL rs r.1 r.2.1 = -2 then insR all r else all) all) ∧ ∀ s, s ∈ ts.foldl (fun all r => if getL rs r.1 r.2.1 = -2 then insR all r else all) all ↔ s ∈ all ∨ (s ∈ ts ∧ getL rs s.1 s.2.1 = -2)
  | [], all, h, _, _, _ => ⟨h, by simp⟩
  | r :: ts, all, h, ho, hs, hn => by
    rw [List.pairwise_cons] at hs
    simp only [List.foldl_cons]
    by_cases hg : getL rs r.1 r.2.1 = -2
    · rw [if_pos hg]
      obtain ⟨i1, i2⟩ := h.ins (ho r (by simp)) (hn r (by simp) hg)
      obtain ⟨j1, j2⟩ := uni_fold ts (insR all r) i1 (fun s hs => ho s (by simp [hs])) hs.2 (fun t ht hgt s hm e => by
        rcases (i2 s).1 hm with rfl | hm
        · have := hs.1 t ht
          rw [e.1, e.2] at this
          exact less_not _ _ this
        · exact hn t (by simp [ht]) hgt s hm e)
      refine ⟨j1, fun s => ?_⟩
      rw [j2, i2]
      constructor
      · rintro ((rfl | q) | q)
        · exact .inr ⟨by simp, hg⟩
        · exact .inl q
        · exact .inr ⟨by simp [q.1], q.2⟩
      · rintro (q | ⟨q1, q2⟩)
        · exact .inl (.inr q)
        · rcases List.mem_cons.1 q1 with rfl | q1
          · exact .inl (.inl rfl)
          · exact .inr ⟨q1, q2⟩
    · rw [if_neg hg]
      obtain ⟨j1, j2⟩ := uni_fold ts all h (fun s hs => ho s (by simp [hs])) hs.2 (fun t ht => hn t (by simp [ht]))
      refine ⟨j1, fun s => ?_⟩
      rw [j2]
      constructor
      · rintro (q | q)
        · exact .inl q
        · exact .inr ⟨by simp [q.1], q.2⟩
      · rintro (q | ⟨q1, q2⟩)
        · exact .inl q
        · rcases List.mem_cons.1 q1 with rfl | q1
          · exact absurd q2 hg
          · exact .inr ⟨q1, q2⟩
theorem Tab.ord {rs : List Rt} (h : Tab rs) : Ord rs := ⟨fun r hr => (h.ok r hr).1, h.srt⟩
theorem uni_is {rs ss : List Rt} (h : Tab rs) (k : Tab ss) : Ord (uniR rs ss) ∧ ∀ s, s ∈ uniR rs ss ↔ s ∈ rs ∨ (s ∈ ss ∧ getL rs s.1 s.2.1 = -2) :=
  uni_fold ss rs h.ord (fun r hr => (k.ok r hr).1) k.srt (fun r _ hg s hs e => by
    obtain ⟨l, b, x⟩ := s
    have := (h.mem_get l b x).1 hs
    simp only at e
    rw [← e.1, ← e.2] at hg
    exact this.2 (this.1.symm.trans hg))
theorem pairwise_filterMap {p : Rt → Option Ch} (hp : ∀ r c, p r = some c → c.1 = r.1 ∧ c.2.1 = r.2.1) : ∀ (L : List Rt), L.Pairwise (fun r s => lessB r.1 r.2.1 s.1 s.2.1 = true) → (L.filterMap p).Pairwise (fun c d => lessB c.1 c.2.1 d.1 d.2.1 = true)
  | [], _ => by simp
  | r :: L, h => by
    rw [List.pairwise_cons] at h
    have ih := pairwise_filterMap hp L h.2
    cases e : p r with
    | none => rw [List.filterMap_cons_none e]; exact ih
    | some c =>
      rw [List.filterMap_cons_some e, List.pairwise_cons]
      refine ⟨fun d hd => ?_, ih⟩
      obtain ⟨s, hs, es⟩ := List.mem_filterMap.1 hd
      rw [(hp r c e).1, (hp r c e).2, (hp s d es).1, (hp s d es).2]
      exact h.1 s hs
/-- The reference's list is what is to be changed. -/
theorem chg_is {rs ss : List Rt} (h : Tab rs) (k : Tab ss) : IsDiff rs ss (chgR rs ss) := by
  obtain ⟨u1, u2⟩ := uni_is h k
  refine ⟨pairwise_filterMap (fun r c hc => ?_) _ u1.srt, fun l b x y => ?_⟩
  · split at hc
    · cases hc; exact ⟨rfl, rfl⟩
    · cases hc
  · unfold chgR
    rw [List.mem_filterMap]
    constructor
    · rintro ⟨r, hr, hc⟩
      split at hc
      · rename_i hne
        have e : (r.1, r.2.1, getL rs r.1 r.2.1, getL ss r.1 r.2.1) = (l, b, x, y) := by simpa using hc
        simp only [Prod.mk.injEq] at e
        obtain ⟨e1, e2, e3, e4⟩ := e
        rw [e1, e2] at e3 e4 hne
        refine ⟨e3, e4, ?_⟩
        rw [← e3, ← e4]; exact hne
      · cases hc
    · rintro ⟨h1, h2, h3⟩
      by_cases e : x = -2
      · have hy : y ≠ -2 := fun q => h3 (e.trans q.symm)
        refine ⟨(l, b, y), (u2 _).2 (.inr ⟨(k.mem_get l b y).2 ⟨h2, hy⟩, by simpa [h1] using e⟩), ?_⟩
        simp only [h1, h2]
        rw [if_pos h3]
      · refine ⟨(l, b, x), (u2 _).2 (.inl ((h.mem_get l b x).2 ⟨h1, e⟩)), ?_⟩
        simp only [h1, h2]
        rw [if_pos h3]

end Go.Proofs.YtcgflhjgllpohafGreatDoor

/- WISHES AS BITS: the program's sets of hops; the routes that it hands over, part by part. No Go here. -/
namespace Go.Proofs.YtcgflhjgllpohafGreatDoor

/-- A hop's place among the bits. -/
def hb (h : Int) : Nat := (h + 1).toNat
theorem hb_lt {h : Int} (hh : h ∈ hopsR) : hb h < 7 := by
  have := hop_mem.2 hh
  simp [hopB] at this
  unfold hb; omega
theorem hb_back {i : Nat} (hi : i < 7) : ((i : Int) - 1) ∈ hopsR ∧ hb ((i : Int) - 1) = i := by
  refine ⟨hop_mem.1 ?_, by unfold hb; omega⟩
  simp [hopB]; omega
theorem hb_inj {g h : Int} (hg : g ∈ hopsR) (hh : h ∈ hopsR) (e : hb g = hb h) : g = h := by
  have a := hop_mem.2 hg
  have b := hop_mem.2 hh
  simp [hopB] at a b
  unfold hb at e; omega

/-- The program's wishes of a part. -/
def wm : TT → Nat
  | .leaf _ _ h => 2 ^ hb h
  | .node _ _ lo hi => if wm lo &&& wm hi = 0 then wm lo ||| wm hi else wm lo &&& wm hi
/-- A set of hops, as bits. -/
structure Bits (W : Int → Bool) (m : Nat) : Prop where
  lt : m < 128
  bit : ∀ h ∈ hopsR, m.testBit (hb h) = W h
theorem bits_zero {m : Nat} (h : m < 128) (hz : ∀ i, i < 7 → m.testBit i = false) : m = 0 := by
  apply Nat.eq_of_testBit_eq
  intro i
  rw [Nat.zero_testBit]
  by_cases hi : i < 7
  · exact hz i hi
  · exact Nat.testBit_lt_two_pow (Nat.lt_of_lt_of_le h (by have : 2 ^ 7 ≤ 2 ^ i := Nat.pow_le_pow_right (by decide) (by omega); omega))
theorem Bits.and {A B : Int → Bool} {m n : Nat} (h : Bits A m) (k : Bits B n) : (m &&& n = 0) ↔ both A B = false := by
  have hl : m &&& n < 128 := Nat.lt_of_le_of_lt Nat.and_le_left h.lt
  constructor
  · intro e
    rw [Bool.eq_false_iff]
    intro hb'
    obtain ⟨g, hg, h1, h2⟩ := both_iff.1 hb'
    have := Nat.testBit_and m n (hb g)
    rw [e, h.bit g hg, k.bit g hg, h1, h2] at this
    simp at this
  · intro e
    refine bits_zero hl fun i hi => ?_
    obtain ⟨h1, h2⟩ := hb_back hi
    rw [Nat.testBit_and, ← h2, h.bit _ h1, k.bit _ h1]
    cases ha : A ((i : Int) - 1) <;> cases hb' : B ((i : Int) - 1) <;> try rfl
    exact absurd (both_iff.2 ⟨_, h1, ha, hb'⟩) (by rw [e]; simp)
theorem wm_tri {f : Nat → Int} (hf : ∀ j, f j ∈ hopsR) : ∀ (k : Nat) (l b : Int) (o : Nat), Bits (wish f k o) (wm (tri f k l b o))
  | k, l, b, o => by
    by_cases ha : Alk f o (2 ^ k)
    · rw [tri_alk ha, wm]
      have h7 := hb_lt (hf o)
      refine ⟨?_, fun h hh => ?_⟩
      · have : 2 ^ hb (f o) ≤ 2 ^ 6 := Nat.pow_le_pow_right (by decide) (by omega)
        omega
      · rw [wish_alk ha, Nat.testBit_two_pow]
        by_cases e : h = f o
        · subst e; simp
        · have : hb (f o) ≠ hb h := fun e' => e (hb_inj hh (hf o) e'.symm)
          simp [e, this]
    · cases k with
      | zero => exact absurd (alk_one f o) ha
      | succ k =>
        rw [tri_not ha, wm]
        have h1 := wm_tri hf k (l + 1) (b * 2) o
        have h2 := wm_tri hf k (l + 1) (b * 2 + 1) (o + 2 ^ k)
        have hz := h1.and h2
        split
        · rename_i e
          have hb' := hz.1 e
          refine ⟨Nat.or_lt_two_pow (n := 7) h1.lt h2.lt, fun h hh => ?_⟩
          rw [wish_rec hf, comb, hb', Nat.testBit_or, h1.bit h hh, h2.bit h hh]; simp
        · rename_i e
          have hb' : both (wish f k o) (wish f k (o + 2 ^ k)) = true := by
            rcases hbb : both (wish f k o) (wish f k (o + 2 ^ k)) with _ | _
            · exact absurd (hz.2 hbb) e
            · rfl
          refine ⟨Nat.lt_of_le_of_lt Nat.and_le_left h1.lt, fun h hh => ?_⟩
          rw [wish_rec hf, comb, hb', Nat.testBit_and, h1.bit h hh, h2.bit h hh]; simp
/-- The lowest bit. -/
def lowB (m : Nat) : Int := ((List.range 7).find? (fun i => m.testBit i)).getD 0 - (1 : Int)
/-- The routes that the program hands over. -/
def each : TT → Int → List Rt
  | .leaf l b g, h => if (wm (.leaf l b g)).testBit (hb h) then [] else [(l, b, lowB (wm (.leaf l b g)))]
  | .node l b lo hi, h =>
    (if (wm (.node l b lo hi)).testBit (hb h) then [] else [(l, b, lowB (wm (.node l b lo hi)))]) ++
      (each lo (if (wm (.node l b lo hi)).testBit (hb h) then h else lowB (wm (.node l b lo hi))) ++ each hi (if (wm (.node l b lo hi)).testBit (hb h) then h else lowB (wm (.node l b lo hi))))
theorem Bits.low {W : Int → Bool} {m : Nat} (h : Bits W m) (hs : ∃ g ∈ hopsR, W g = true) (x : Int) : lowB m = lowW W x := by
  have e : ∀ i : Nat, i < 7 → m.testBit i = W ((i : Int) - 1) := fun i hi => by
    obtain ⟨h1, h2⟩ := hb_back hi
    rw [← h.bit _ h1, h2]
  have e0 : m.testBit 0 = W (-1) := e 0 (by decide)
  have e1 : m.testBit 1 = W 0 := e 1 (by decide)
  have e2 : m.testBit 2 = W 1 := e 2 (by decide)
  have e3 : m.testBit 3 = W 2 := e 3 (by decide)
  have e4 : m.testBit 4 = W 3 := e 4 (by decide)
  have e5 : m.testBit 5 = W 4 := e 5 (by decide)
  have e6 : m.testBit 6 = W 5 := e 6 (by decide)
  unfold lowB lowW
  rw [show List.range 7 = [0, 1, 2, 3, 4, 5, 6] from rfl]
  unfold hopsR at hs ⊢
  simp only [List.find?, e0, e1, e2, e3, e4, e5, e6]
  cases h0 : W (-1)
  · cases h1 : W 0
    · cases h2 : W 1
      · cases h3 : W 2
        · cases h4 : W 3
          · cases h5 : W 4
            · cases h6 : W 5
              · obtain ⟨g, hg, hw⟩ := hs
                simp only [List.mem_cons, List.not_mem_nil, or_false] at hg
                rcases hg with rfl | rfl | rfl | rfl | rfl | rfl | rfl <;> simp_all
              · simp
            · simp
          · simp
        · simp
      · simp
    · simp
  · simp
theorem Bits.has {W : Int → Bool} {m : Nat} (h : Bits W m) {g : Int} (hg : g ∈ hopsR) : m.testBit (hb g) = W g := h.bit g hg
theorem Bits.pos {W : Int → Bool} {m : Nat} (h : Bits W m) (hs : ∃ g ∈ hopsR, W g = true) : m ≠ 0 := by
  obtain ⟨g, hg, hw⟩ := hs
  intro e
  have := h.bit g hg
  rw [e, hw] at this
  simp at this
/-- The program's routes are those of as few as can be. -/
theorem each_tri {f : Nat → Int} (hf : ∀ j, f j ∈ hopsR) : ∀ (k : Nat) (l b : Int) (o : Nat) (h : Int), h ∈ hopsR → each (tri f k l b o) h = leastR f k l b o h
  | k, l, b, o, h, hh => by
    have hB := wm_tri hf k l b o
    have hs := wish_some hf k o
    have hlow := hB.low hs h
    have hbit := hB.bit h hh
    have hnx := nxt_is hs hh
    unfold nxt at hnx
    by_cases ha : Alk f o (2 ^ k)
    · rw [tri_alk ha] at hB hlow hbit ⊢
      rw [each, hbit, hlow]
      cases k with
      | zero => rw [leastR]
      | succ k => rw [leastR, if_pos ha, List.append_nil]
    · cases k with
      | zero => exact absurd (alk_one f o) ha
      | succ k =>
        rw [tri_not ha] at hB hlow hbit ⊢
        rw [each, hbit, hlow, leastR, if_neg ha, each_tri hf k _ _ _ _ hnx.2, each_tri hf k _ _ _ _ hnx.2]
        rfl
theorem ctz_low : ∀ m : Nat, m < 128 → m ≠ 0 → lowB m ∈ hopsR := by decide
theorem each_T {f : Nat → Int} (hf : ∀ j, f j ∈ hopsR) : each (triT f) (-1) = leastT f := each_tri hf 8 0 0 0 (-1) mem_m1
/-- Trees whose hops are hops. -/
def HopT : TT → Prop
  | .leaf _ _ h => h ∈ hopsR
  | .node _ _ lo hi => HopT lo ∧ HopT hi
theorem hop_tri {f : Nat → Int} (hf : ∀ j, f j ∈ hopsR) : ∀ (k : Nat) (l b : Int) (o : Nat), HopT (tri f k l b o)
  | k, l, b, o => by
    by_cases ha : Alk f o (2 ^ k)
    · rw [tri_alk ha]; exact hf o
    · cases k with
      | zero => exact absurd (alk_one f o) ha
      | succ k => rw [tri_not ha]; exact ⟨hop_tri hf k _ _ _, hop_tri hf k _ _ _⟩
theorem or_pos {m n : Nat} (h : m ≠ 0) : m ||| n ≠ 0 := by
  intro e
  have : m ≤ m ||| n := Nat.left_le_or
  omega
theorem wm_bd : ∀ {T : TT}, HopT T → wm T < 128 ∧ wm T ≠ 0
  | .leaf l b h, hh => by
    have h7 := hb_lt hh
    have : 2 ^ hb h ≤ 2 ^ 6 := Nat.pow_le_pow_right (by decide) (by omega)
    have p : 0 < 2 ^ hb h := Nat.pow_pos (by decide)
    rw [wm]; omega
  | .node l b lo hi, hh => by
    obtain ⟨a1, a2⟩ := wm_bd hh.1
    obtain ⟨b1, b2⟩ := wm_bd hh.2
    rw [wm]
    split
    · exact ⟨Nat.or_lt_two_pow (n := 7) a1 b1, or_pos a2⟩
    · rename_i e
      exact ⟨Nat.lt_of_le_of_lt Nat.and_le_left a1, e⟩
end Go.Proofs.YtcgflhjgllpohafGreatDoor

/- Diff, as lists: all prefixes of two tables, sorted, each once; what is to be changed. No Go here. -/
namespace Go.Proofs.YtcgflhjgllpohafGreatDoor

abbrev Pf := Int × Int
def ltP (p q : Pf) : Bool := lessB p.1 p.2 q.1 q.2
theorem ltP_swo : Go.Sort.SWO ltP where
  irrefl := fun p => less_irr p.1 p.2
  trans := fun _ _ _ h k => less_tr h k
  ntrans := fun x y z h k => by
    unfold ltP lessB at *
    simp only [decide_eq_false_iff_not] at *
    omega
/-- What slices.Compact leaves. -/
def cmpGo (q : Pf) : List Pf → List Pf
  | [] => []
  | p :: L => if p = q then cmpGo q L else p :: cmpGo p L
def cmpL : List Pf → List Pf
  | [] => []
  | p :: L => p :: cmpGo p L
def SrtP (L : List Pf) : Prop := L.Pairwise (fun p q => ltP q p = false)
theorem cmpGo_is : ∀ (L : List Pf) (q : Pf), SrtP (q :: L) → (∀ p ∈ q :: L, okB p.1 p.2 = true) → (q :: cmpGo q L).Pairwise (fun p q => ltP p q = true) ∧ ∀ p, p ∈ q :: cmpGo q L ↔ p ∈ q :: L
  | [], q, _, _ => by simp [cmpGo]
  | p :: L, q, hs, ho => by
    rw [cmpGo]
    unfold SrtP at hs
    rw [List.pairwise_cons] at hs
    by_cases e : p = q
    · rw [if_pos e]
      subst e
      obtain ⟨h1, h2⟩ := cmpGo_is L p hs.2 (fun r hr => ho r (List.mem_cons_of_mem _ hr))
      refine ⟨h1, fun r => ?_⟩
      rw [h2]; simp
    · rw [if_neg e]
      obtain ⟨h1, h2⟩ := cmpGo_is L p hs.2 (fun r hr => ho r (List.mem_cons_of_mem _ hr))
      have hlt : ltP q p = true := by
        have h3 := hs.1 p (by simp)
        cases h4 : ltP q p
        · have := less_tot (ho p (by simp)) (ho q (by simp)) h3 h4
          exact absurd (Prod.ext this.1 this.2) e
        · rfl
      refine ⟨List.pairwise_cons.2 ⟨fun r hr => ?_, h1⟩, fun r => ?_⟩
      · rcases List.mem_cons.1 hr with rfl | hr
        · exact hlt
        · exact less_tr hlt ((List.pairwise_cons.1 h1).1 r hr)
      · rw [List.mem_cons, h2, List.mem_cons (a := r) (b := q)]
theorem cmp_is {L : List Pf} (hs : SrtP L) (ho : ∀ p ∈ L, okB p.1 p.2 = true) : (cmpL L).Pairwise (fun p q => ltP p q = true) ∧ ∀ p, p ∈ cmpL L ↔ p ∈ L := by
  cases L with
  | nil => simp [cmpL]
  | cons p L => exact cmpGo_is L p hs ho
def keyL (rs : List Rt) : List Pf := rs.map fun r => (r.1, r.2.1)
def chOf (rs ss : List Rt) (p : Pf) : List Ch := if getL rs p.1 p.2 = getL ss p.1 p.2 then [] else [(p.1, p.2, getL rs p.1 p.2, getL ss p.1 p.2)]
def difL (rs ss : List Rt) (L : List Pf) : List Ch := L.flatMap (chOf rs ss)
theorem difL_nil (rs ss : List Rt) : difL rs ss [] = [] := rfl
theorem difL_snoc (rs ss : List Rt) (L : List Pf) (p : Pf) : difL rs ss (L ++ [p]) = difL rs ss L ++ chOf rs ss p := by simp [difL]
theorem mem_chOf {rs ss : List Rt} {p : Pf} {c : Ch} : c ∈ chOf rs ss p ↔ c = (p.1, p.2, getL rs p.1 p.2, getL ss p.1 p.2) ∧ getL rs p.1 p.2 ≠ getL ss p.1 p.2 := by
  unfold chOf
  split
  · rename_i e; simp [e]
  · rename_i e; simp [e]
theorem mem_dif {rs ss : List Rt} {L : List Pf} {c : Ch} : c ∈ difL rs ss L ↔ (c.1, c.2.1) ∈ L ∧ c.2.2.1 = getL rs c.1 c.2.1 ∧ c.2.2.2 = getL ss c.1 c.2.1 ∧ getL rs c.1 c.2.1 ≠ getL ss c.1 c.2.1 := by
  unfold difL
  rw [List.mem_flatMap]
  constructor
  · rintro ⟨p, hp, hc⟩
    obtain ⟨rfl, hn⟩ := mem_chOf.1 hc
    exact ⟨hp, rfl, rfl, hn⟩
  · rintro ⟨hp, h1, h2, h3⟩
    refine ⟨_, hp, mem_chOf.2 ⟨?_, h3⟩⟩
    obtain ⟨l, b, x, y⟩ := c
    simp only at h1 h2
    rw [h1, h2]
theorem dif_srt {rs ss : List Rt} : ∀ (L : List Pf), L.Pairwise (fun p q => ltP p q = true) → (difL rs ss L).Pairwise (fun c d => lessB c.1 c.2.1 d.1 d.2.1 = true)
  | [], _ => by simp [difL]
  | p :: L, h => by
    rw [List.pairwise_cons] at h
    show (chOf rs ss p ++ difL rs ss L).Pairwise _
    rw [List.pairwise_append]
    refine ⟨?_, dif_srt L h.2, fun c hc d hd => ?_⟩
    · unfold chOf; split <;> simp
    · obtain ⟨rfl, _⟩ := mem_chOf.1 hc
      exact h.1 _ (mem_dif.1 hd).1
theorem mem_key {rs : List Rt} (h : Tab rs) (l b : Int) : (l, b) ∈ keyL rs ↔ getL rs l b ≠ -2 := by
  unfold keyL
  rw [List.mem_map]
  constructor
  · rintro ⟨⟨m, c, x⟩, hr, e⟩
    cases e
    obtain ⟨h1, h2⟩ := (h.mem_get m c x).1 hr
    show getL rs m c ≠ -2
    rw [h1]; exact h2
  · intro hn
    exact ⟨(l, b, getL rs l b), (h.mem_get l b _).2 ⟨rfl, hn⟩, rfl⟩
/-- What Diff tells. -/
theorem dif_is {rs ss : List Rt} (h : Tab rs) (k : Tab ss) {L : List Pf} (hp : L.Perm (keyL rs ++ keyL ss)) (hs : SrtP L) : IsDiff rs ss (difL rs ss (cmpL L)) := by
  have hm : ∀ p, p ∈ L ↔ getL rs p.1 p.2 ≠ -2 ∨ getL ss p.1 p.2 ≠ -2 := fun p => by
    rw [hp.mem_iff, List.mem_append]
    exact or_congr (mem_key h p.1 p.2) (mem_key k p.1 p.2)
  have ho : ∀ p ∈ L, okB p.1 p.2 = true := fun p hpL => by
    rcases (hm p).1 hpL with h1 | h1
    · exact (h.get_hop h1).1
    · exact (k.get_hop h1).1
  obtain ⟨c1, c2⟩ := cmp_is hs ho
  refine ⟨dif_srt _ c1, fun l b x y => ?_⟩
  rw [mem_dif]
  simp only [c2, hm]
  constructor
  · rintro ⟨_, rfl, rfl, hn⟩
    exact ⟨rfl, rfl, hn⟩
  · rintro ⟨rfl, rfl, hn⟩
    refine ⟨?_, rfl, rfl, hn⟩
    by_cases e : getL rs l b = -2
    · right; intro e2; exact hn (e.trans e2.symm)
    · left; exact e
end Go.Proofs.YtcgflhjgllpohafGreatDoor

/- CONTRACTS OF package least: only, has, least, wishesOf; of math/bits.TrailingZeros at sets of seven hops. -/
namespace Go.Proofs.YtcgflhjgllpohafGreatDoor
open Go.RowKit
attribute [local go_sem] Ext.all Ext.cell Ext.frozen Ext.lt Ext.lt1 Ext.lt2 Ext.ne Ext.ne'
abbrev uv (m : Nat) : Value := .int .u64 m
/-- The library's table is there. -/
abbrev Tab64 (w : World) : Prop := TabAt 1 Lib.deBruijn64tab w
theorem Tab64.gr {w w' : World} (h : Tab64 w) (g : Gr w w') : Tab64 w' := fun j hj => by
  have hc := h j hj
  have hl : 1 < w.heap.size := by
    rcases Nat.lt_or_ge 1 w.heap.size with h1 | h1
    · exact h1
    · rw [World.cell?, Array.getElem?_eq_none (by exact h1)] at hc; simp at hc
  rw [Below.cell g (p := ⟨1, j, none⟩) hl]; exact hc

theorem ret_uv {a b : Nat} (h : a = b) : Ending.returned (uv a) = .returned (uv b) := by rw [h]
theorem hops7 {h : Int} (hh : h ∈ hopsR) : h = -1 ∨ h = 0 ∨ h = 1 ∨ h = 2 ∨ h = 3 ∨ h = 4 ∨ h = 5 := by
  simpa [hopsR] using hh
theorem only_any {h : Int} (hh : h ∈ hopsR) (w : World) :
    Calls Tryz.prog 120 #[iv h] w fun e w' => e = .returned (uv (2 ^ hb h)) ∧ w' = w := by
  rcases hops7 hh with rfl | rfl | rfl | rfl | rfl | rfl | rfl <;>
  · go_enter Tryz.func120, Tryz.ntmps120
    go_wp2
    go_ret
    exact ⟨rfl, rfl⟩
theorem and_bit (m k : Nat) : (((m &&& 2 ^ k : Nat) : Int) != 0) = m.testBit k := by
  rw [Bool.eq_iff_iff]
  simp only [bne_iff_ne, ne_eq]
  constructor
  · intro h
    rcases hb : m.testBit k with _ | _
    · exfalso
      apply h
      have : m &&& 2 ^ k = 0 := by
        apply Nat.eq_of_testBit_eq
        intro i
        rw [Nat.testBit_and, Nat.testBit_two_pow, Nat.zero_testBit]
        by_cases e : k = i
        · subst e; simp [hb]
        · simp [e]
      rw [this]; rfl
    · rfl
  · intro h e
    have e' : m &&& 2 ^ k = 0 := by omega
    have := Nat.testBit_and m (2 ^ k) k
    rw [e', h, Nat.testBit_two_pow] at this
    simp at this
theorem whas_any {m : Nat} (hm : m < 128) {h : Int} {v : Bool} (hh : h ∈ hopsR) (hv : m.testBit (hb h) = v) (w : World) :
    Calls Tryz.prog 111 #[uv m, iv h] w fun e w' => e = .returned (.bool v) ∧ w' = w := by
  subst hv
  have h7 := hb_lt hh
  have hp : 2 ^ hb h ≤ 2 ^ 6 := Nat.pow_le_pow_right (by decide) (by omega)
  have key : bits BinOp.and IntKind.u64 (m : Int) ((2 ^ hb h : Nat) : Int) = ((m &&& 2 ^ hb h : Nat) : Int) := bits_and_u64_nat m _ (by omega) (by omega)
  have hx := and_bit m (hb h)
  have HO := hide (only_any hh)
  generalize m.testBit (hb h) = v at *
  generalize m &&& 2 ^ hb h = r at *
  generalize 2 ^ hb h = p at *
  go_enter Tryz.func111, Tryz.ntmps111
  go_wp2_with (go_at_call 120; refine (HO.out _).mono ?_; rintro e _ ⟨rfl, rfl⟩)
  go_ret
  exact ⟨rfl, rfl⟩
theorem tz64_core (x k idx : Nat) (w : World) (hx0 : ((x : Int) == 0) = false)
    (key : IntKind.u64.wrap (bits BinOp.and IntKind.u64 (x : Int) (IntKind.u64.wrap (-(x : Int))) * 285870213051353865) / 288230376151711744 = (idx : Int))
    (hi : idx < 64) (hk : k < 64) (hcell : w.cell? ⟨1, idx, none⟩ = some (.int .u8 k)) :
    Calls Tryz.prog 125 #[uv x] w fun e w' => e = .returned (iv k) ∧ w' = w := by
  go_enter Tryz.func125, Tryz.ntmps125
  go_wp2_with (simp only [key])
  go_ret
  exact ⟨rfl, rfl⟩
theorem tz64_any {m : Nat} (hm : m < 128) (h0 : m ≠ 0) {w : World} (hT : Tab64 w) :
    Calls Tryz.prog 125 #[uv m] w fun e w' => e = .returned (iv (Lib.ctz 64 m : Nat)) ∧ w' = w := by
  obtain ⟨hlow, hk⟩ := Lib.lowest_bit 64 m h0 (by omega)
  obtain ⟨hi, htab⟩ := Lib.deBruijn64_at _ hk
  have hcell := hT _ hi
  rw [htab] at hcell
  exact tz64_core m _ _ w (by simp; omega) (tz64_key m _ (by omega) h0 hlow) hi hk hcell
theorem tz_any {m : Nat} (hm : m < 128) (h0 : m ≠ 0) {w : World} (hT : Tab64 w) :
    Calls Tryz.prog 121 #[uv m] w fun e w' => e = .returned (iv (Lib.ctz 64 m : Nat)) ∧ w' = w := by
  have H := hide (tz64_any hm h0 hT)
  go_enter Tryz.func121, Tryz.ntmps121
  go_wp2_with (go_at_call 125; refine H.out.mono ?_; rintro e _ ⟨rfl, rfl⟩)
  go_ret
  exact ⟨rfl, rfl⟩
theorem ctz_is : ∀ m : Nat, m < 128 → m ≠ 0 → ((Lib.ctz 64 m : Nat) : Int) + -1 = lowB m := by decide +kernel
theorem wleast_any {m : Nat} {x : Int} (hm : m < 128) (h0 : m ≠ 0) (hx : lowB m = x) {w : World} (hT : Tab64 w) :
    Calls Tryz.prog 112 #[uv m] w fun e w' => e = .returned (iv x) ∧ w' = w := by
  subst hx
  have H := hide (tz_any hm h0 hT)
  have hc := ctz_is m hm h0
  have hb : Lib.ctz 64 m < 64 := (Lib.lowest_bit 64 m h0 (by omega)).2
  generalize Lib.ctz 64 m = k at *
  go_enter Tryz.func112, Tryz.ntmps112
  go_wp2_with (go_at_call 121; refine H.out.mono ?_; rintro e _ ⟨rfl, rfl⟩)
  go_ret
  exact ⟨ret_int (by omega), rfl⟩

theorem wishesOf_any : ∀ (T : TT) (w : World) (q : Nat), Tr w T q → HopT T →
    Calls Tryz.prog 110 #[pv q] w fun e w' => e = .returned (uv (wm T)) ∧ ∃ d : Ext w, w' = d.out
  | .leaf l b hp, w, q, h, hh => by
    have HL := hide (leaf_any h)
    have hq := h.lt
    have c2 : w.cell? ⟨q, 2, none⟩ = some (iv hp) := h.cells.2.2
    have HO := hide (only_any (h := hp) hh)
    have HE : Hid (wm (.leaf l b hp) = 2 ^ hb hp) := rfl
    clear h hh
    generalize wm (.leaf l b hp) = M at *
    generalize 2 ^ hb hp = p at *
    go_enter Tryz.func110, Tryz.ntmps110
    go_wp2_with (first
      | (go_at_call 113; refine HL.out.mono ?_; rintro e _ ⟨rfl, d1, rfl⟩)
      | (go_at_call 120; refine (HO.out _).mono ?_; rintro e _ ⟨rfl, rfl⟩))
    go_ret
    exact ⟨ret_uv HE.out.symm, _, rfl⟩
  | .node l b lo hi, w, q, h, hh => by
    have HL := hide (leaf_any h)
    have hq := h.lt
    obtain ⟨x, y, c3, c4, hlo, hhi⟩ := h.nodec
    have H1 := hide (fun (d : Ext w) => wishesOf_any lo d.out x (hlo.gr d.gr) hh.1)
    have H2 := hide (fun (d : Ext w) => wishesOf_any hi d.out y (hhi.gr d.gr) hh.2)
    have b1 := (wm_bd hh.1).1
    have b2 := (wm_bd hh.2).1
    have HE : Hid (wm (.node l b lo hi) = if wm lo &&& wm hi = 0 then wm lo ||| wm hi else wm lo &&& wm hi) := rfl
    have k1 : bits BinOp.and IntKind.u64 (wm lo : Int) (wm hi : Int) = ((wm lo &&& wm hi : Nat) : Int) := bits_and_u64_nat _ _ (by omega) (by omega)
    have k2 : bits BinOp.or IntKind.u64 (wm lo : Int) (wm hi : Int) = ((wm lo ||| wm hi : Nat) : Int) := bits_or_u64_nat _ _ (by omega) (by omega)
    clear h hlo hhi hh
    generalize wm (.node l b lo hi) = M at *
    generalize wm lo ||| wm hi = u at *
    generalize wm lo &&& wm hi = v at *
    generalize wm lo = m1 at *
    generalize wm hi = m2 at *
    by_cases hv : v = 0
    · have hz : ((v : Int) != 0) = false := by simp [hv]
      rw [if_pos hv] at HE
      go_enter Tryz.func110, Tryz.ntmps110
      go_wp2_with (go_at_call 113; refine HL.out.mono ?_; rintro e _ ⟨rfl, d1, rfl⟩)
      refine wp_region_ext_of (by kernel_rfl) (by kernel_rfl) ?_
      repeat (go_big_quiet_step (first | (go_at_call 110; with_reducible exact Calls.ext_of (H1.out _)) | (go_at_call 110; with_reducible exact Calls.ext_of (H2.out _))))
      refine wpQuiet_nil ?_
      rintro _ ⟨d2, rfl⟩
      go_wp2_with (simp only [k1, k2])
      go_ret
      exact ⟨ret_uv HE.out.symm, _, rfl⟩
    · have hz : ((v : Int) != 0) = true := by simp; omega
      rw [if_neg hv] at HE
      go_enter Tryz.func110, Tryz.ntmps110
      go_wp2_with (go_at_call 113; refine HL.out.mono ?_; rintro e _ ⟨rfl, d1, rfl⟩)
      refine wp_region_ext_of (by kernel_rfl) (by kernel_rfl) ?_
      repeat (go_big_quiet_step (first | (go_at_call 110; with_reducible exact Calls.ext_of (H1.out _)) | (go_at_call 110; with_reducible exact Calls.ext_of (H2.out _))))
      refine wpQuiet_nil ?_
      rintro _ ⟨d2, rfl⟩
      go_wp2_with (simp only [k1, k2])
      go_ret
      exact ⟨ret_uv HE.out.symm, _, rfl⟩

end Go.Proofs.YtcgflhjgllpohafGreatDoor

/- CONTRACTS OF package least: eachRoute, whatever it hands the routes to. -/
namespace Go.Proofs.YtcgflhjgllpohafGreatDoor
open Go.RowKit
attribute [local go_sem] Ext.all Ext.cell Ext.frozen Ext.lt Ext.lt1 Ext.lt2 Ext.ne Ext.ne'
abbrev rtV (l b h : Int) : Value := .agg #[iv l, iv b, iv h]
/-- A function that is handed routes: what is known (I) when it was handed these. -/
structure Taker (A : World) (g : FuncId) (lb : Array Value) (I : List Rt → World → Prop) : Prop where
  enters : ∀ args w, (callFunc g args).run Tryz.prog w = .ok (.enter g args) w
  base : ∀ {xs w}, I xs w → Gr A w
  gr : ∀ {xs w w'}, I xs w → Gr w w' → I xs w'
  take : ∀ {xs w} (l b h : Int), I xs w → xs.length ≤ 1000 → Calls Tryz.prog g (#[rtV l b h] ++ lb) w fun e w' => e = .returned (.tuple #[]) ∧ I (xs ++ [(l, b, h)]) w'
/-- A callee that only makes memory. -/
theorem Taker.keep {A : World} {g : FuncId} {lb : Array Value} {I : List Rt → World → Prop} (K : Taker A g lb I) {f : FuncId} {args : Array Value} {v : Value} {X : Ext A} {xs : List Rt} (hI : I xs X.out)
    (h : Calls Tryz.prog f args X.out fun e w' => e = .returned v ∧ ∃ d : Ext X.out, w' = d.out) : Calls Tryz.prog f args X.out fun e w' => e = .returned v ∧ ∃ m : Ext A, w' = m.out ∧ I xs m.out :=
  h.mono fun _ _ ⟨he, d, hd⟩ => ⟨he, ⟨d.out, X.gr.ext d⟩, hd, K.gr hI d.gr⟩
theorem Taker.keep0 {A : World} {I : List Rt → World → Prop} {f : FuncId} {args : Array Value} {v : Value} {X : Ext A} {xs : List Rt} (hI : I xs X.out)
    (h : Calls Tryz.prog f args X.out fun e w' => e = .returned v ∧ w' = X.out) : Calls Tryz.prog f args X.out fun e w' => e = .returned v ∧ ∃ m : Ext A, w' = m.out ∧ I xs m.out :=
  h.mono fun _ _ ⟨he, hd⟩ => ⟨he, X, hd, hI⟩
theorem Taker.keepI {A : World} {g : FuncId} {lb : Array Value} {I : List Rt → World → Prop} (K : Taker A g lb I) {f : FuncId} {args : Array Value} {v : Value} {w : World} {xs : List Rt}
    (h : Calls Tryz.prog f args w fun e w' => e = .returned v ∧ I xs w') : Calls Tryz.prog f args w fun e w' => e = .returned v ∧ ∃ m : Ext A, w' = m.out ∧ I xs m.out :=
  h.mono fun _ w' ⟨he, hd⟩ => ⟨he, ⟨w', K.base hd⟩, rfl, hd⟩

set_option maxRecDepth 20000 in
set_option maxHeartbeats 2000000 in
theorem each_any {A : World} {g : FuncId} {lb : Array Value} {I : List Rt → World → Prop} (K : Taker A g lb I) (h64 : Tab64 A) :
    ∀ (T : TT) (q : Nat) (xs : List Rt) (X : Ext A) (h : Int), Tr A T q → HopT T → h ∈ hopsR → I xs X.out → xs.length + (each T h).length ≤ 1000 →
      Calls Tryz.prog 93 #[pv q, iv h, .func (.func g) #[] lb] X.out fun e w' => e = .returned (.tuple #[]) ∧ I (xs ++ each T h) w'
  | .leaf l b hp, q, xs, X, h, hT, hH, hh, hI, hm => by
    have eg := K.enters
    have hq := hT.lt
    obtain ⟨c0, c1, c2⟩ := hT.cells
    obtain ⟨b1, b2⟩ := wm_bd hH
    have HW := hide (fun (Y : Ext A) ys (hY : I ys Y.out) => K.keep hY (wishesOf_any _ Y.out q (hT.gr Y.gr) hH))
    have HL := hide (fun (Y : Ext A) ys (hY : I ys Y.out) => K.keep hY (leaf_as (hT.gr Y.gr) (show TT.isLeaf (.leaf l b hp) = true from rfl)))
    cases hv : (wm (.leaf l b hp)).testBit (hb h)
    · have HH := hide (fun (Y : Ext A) ys (hY : I ys Y.out) => Taker.keep0 hY (whas_any b1 hh hv Y.out))
      have HE : Hid (each (.leaf l b hp) h = [(l, b, lowB (wm (.leaf l b hp)))]) := by unfold Hid; rw [each, hv]; rfl
      have HS := hide (fun (Y : Ext A) ys (hY : I ys Y.out) => Taker.keep0 hY (wleast_any b1 b2 rfl (h64.gr Y.gr)))
      have HX := hide (fun (Y : Ext A) ys (hY : I ys Y.out) (hy : ys.length ≤ 1000) => K.keepI (K.take l b (lowB (wm (.leaf l b hp))) hY hy))
      clear hT hH
      generalize wm (.leaf l b hp) = M at *
      generalize lowB M = z at *
      rw [HE.out]
      have hxl : xs.length ≤ 1000 := by rw [HE.out] at hm; omega
      clear HE hm
      go_enter Tryz.func93, Tryz.ntmps93
      go_wp2_with (first
        | (go_at_call 110; refine (HW.out X xs hI).mono ?_; rintro e _ ⟨rfl, m1, rfl, i1⟩)
        | (go_at_call 111; refine (HH.out m1 xs i1).mono ?_; rintro e _ ⟨rfl, m2, rfl, i2⟩)
        | (go_at_call 112; refine (HS.out m2 xs i2).mono ?_; rintro e _ ⟨rfl, m3, rfl, i3⟩)
        | (go_at_fn g; refine (HX.out m3 xs i3 hxl).mono ?_; rintro e _ ⟨rfl, m4, rfl, i4⟩)
        | (go_at_call 113; refine (HL.out m4 _ i4).mono ?_; rintro e _ ⟨rfl, m5, rfl, i5⟩)
        | fail)
      refine bodyPost_ret (results_none rfl _ _ _) rfl ?_
      exact ⟨rfl, i5⟩
    · have HH := hide (fun (Y : Ext A) ys (hY : I ys Y.out) => Taker.keep0 hY (whas_any b1 hh hv Y.out))
      have HE : Hid (each (.leaf l b hp) h = []) := by unfold Hid; rw [each, hv]; rfl
      clear hT hH
      generalize wm (.leaf l b hp) = M at *
      rw [HE.out, List.append_nil]
      clear HE hm
      go_enter Tryz.func93, Tryz.ntmps93
      go_wp2_with (first
        | (go_at_call 110; refine (HW.out X xs hI).mono ?_; rintro e _ ⟨rfl, m1, rfl, i1⟩)
        | (go_at_call 111; refine (HH.out m1 xs i1).mono ?_; rintro e _ ⟨rfl, m2, rfl, i2⟩)
        | (go_at_call 113; refine (HL.out m2 _ i2).mono ?_; rintro e _ ⟨rfl, m5, rfl, i5⟩)
        | fail)
      refine bodyPost_ret (results_none rfl _ _ _) rfl ?_
      exact ⟨rfl, i5⟩
  | .node l b lo hi, q, xs, X, h, hT, hH, hh, hI, hm => by
    have eg := K.enters
    have hq := hT.lt
    obtain ⟨c0, c1, c2⟩ := hT.cells
    have c0' : A.cell? ⟨q, 0, none⟩ = some (iv l) := c0
    have c1' : A.cell? ⟨q, 1, none⟩ = some (iv b) := c1
    clear c0 c1 c2
    obtain ⟨x, y, c3, c4, hlo, hhi⟩ := hT.nodec
    obtain ⟨b1, b2⟩ := wm_bd hH
    have HW := hide (fun (Y : Ext A) ys (hY : I ys Y.out) => K.keep hY (wishesOf_any _ Y.out q (hT.gr Y.gr) hH))
    have HL := hide (fun (Y : Ext A) ys (hY : I ys Y.out) => K.keep hY (leaf_as (hT.gr Y.gr) (show TT.isLeaf (.node l b lo hi) = false from rfl)))
    cases hv : (wm (.node l b lo hi)).testBit (hb h)
    · have HH := hide (fun (Y : Ext A) ys (hY : I ys Y.out) => Taker.keep0 hY (whas_any b1 hh hv Y.out))
      have hz := ctz_low _ b1 b2
      have HE : Hid (each (.node l b lo hi) h = (l, b, lowB (wm (.node l b lo hi))) :: (each lo (lowB (wm (.node l b lo hi))) ++ each hi (lowB (wm (.node l b lo hi))))) := by unfold Hid; rw [each, hv]; rfl
      have HS := hide (fun (Y : Ext A) ys (hY : I ys Y.out) => Taker.keep0 hY (wleast_any b1 b2 rfl (h64.gr Y.gr)))
      have HX := hide (fun (Y : Ext A) ys (hY : I ys Y.out) (hy : ys.length ≤ 1000) => K.keepI (K.take l b (lowB (wm (.node l b lo hi))) hY hy))
      have R1 := hide (fun (Y : Ext A) ys (hY : I ys Y.out) hy => K.keepI (each_any K h64 lo x ys Y (lowB (wm (.node l b lo hi))) hlo hH.1 hz hY hy))
      have R2 := hide (fun (Y : Ext A) ys (hY : I ys Y.out) hy => K.keepI (each_any K h64 hi y ys Y (lowB (wm (.node l b lo hi))) hhi hH.2 hz hY hy))
      clear hT hH hlo hhi
      generalize wm (.node l b lo hi) = M at *
      generalize lowB M = z at *
      rw [HE.out] at hm ⊢
      simp only [List.length_cons, List.length_append] at hm
      clear HE
      have hxl : xs.length ≤ 1000 := by omega
      have l1 : Hid ((xs ++ [(l, b, z)]).length + (each lo z).length ≤ 1000) := by unfold Hid; simp only [List.length_append, List.length_singleton]; omega
      have l2 : Hid ((xs ++ [(l, b, z)] ++ each lo z).length + (each hi z).length ≤ 1000) := by unfold Hid; simp only [List.length_append, List.length_singleton]; omega
      have HL2 : Hid (xs ++ (l, b, z) :: (each lo z ++ each hi z) = xs ++ [(l, b, z)] ++ each lo z ++ each hi z) := by unfold Hid; simp
      rw [HL2.out]
      clear HL2 hm
      generalize each lo z = e1 at *
      generalize each hi z = e2 at *
      go_enter Tryz.func93, Tryz.ntmps93
      go_wp2_with (first
        | (go_at_call 110; refine (HW.out X xs hI).mono ?_; rintro e _ ⟨rfl, m1, rfl, i1⟩)
        | (go_at_call 111; refine (HH.out m1 xs i1).mono ?_; rintro e _ ⟨rfl, m2, rfl, i2⟩)
        | (go_at_call 112; refine (HS.out m2 xs i2).mono ?_; rintro e _ ⟨rfl, m3, rfl, i3⟩)
        | (go_at_fn g; refine (HX.out m3 xs i3 hxl).mono ?_; rintro e _ ⟨rfl, m4, rfl, i4⟩)
        | (go_at_call 113; refine (HL.out m4 _ i4).mono ?_; rintro e _ ⟨rfl, m5, rfl, i5⟩)
        | (go_at_call 93; with_reducible refine (R1.out m5 _ i5 l1.out).mono ?_; rintro e _ ⟨rfl, m6, rfl, i6⟩)
        | (go_at_call 93; with_reducible refine (R2.out m6 _ i6 l2.out).mono ?_; rintro e _ ⟨rfl, m7, rfl, i7⟩)
        | fail)
      go_end0
      exact ⟨rfl, i7⟩
    · have HH := hide (fun (Y : Ext A) ys (hY : I ys Y.out) => Taker.keep0 hY (whas_any b1 hh hv Y.out))
      have HE : Hid (each (.node l b lo hi) h = each lo h ++ each hi h) := by unfold Hid; rw [each, hv]; rfl
      have R1 := hide (fun (Y : Ext A) ys (hY : I ys Y.out) hy => K.keepI (each_any K h64 lo x ys Y h hlo hH.1 hh hY hy))
      have R2 := hide (fun (Y : Ext A) ys (hY : I ys Y.out) hy => K.keepI (each_any K h64 hi y ys Y h hhi hH.2 hh hY hy))
      clear hT hH hlo hhi
      generalize wm (.node l b lo hi) = M at *
      rw [HE.out] at hm ⊢
      simp only [List.length_append] at hm
      clear HE
      have l1 : Hid (xs.length + (each lo h).length ≤ 1000) := by unfold Hid; omega
      have l2 : Hid ((xs ++ each lo h).length + (each hi h).length ≤ 1000) := by unfold Hid; simp only [List.length_append]; omega
      rw [← List.append_assoc]
      clear hm
      generalize each lo h = e1 at *
      generalize each hi h = e2 at *
      go_enter Tryz.func93, Tryz.ntmps93
      go_wp2_with (first
        | (go_at_call 110; refine (HW.out X xs hI).mono ?_; rintro e _ ⟨rfl, m1, rfl, i1⟩)
        | (go_at_call 111; refine (HH.out m1 xs i1).mono ?_; rintro e _ ⟨rfl, m2, rfl, i2⟩)
        | (go_at_call 113; refine (HL.out m2 _ i2).mono ?_; rintro e _ ⟨rfl, m5, rfl, i5⟩)
        | (go_at_call 93; with_reducible refine (R1.out m5 _ i5 l1.out).mono ?_; rintro e _ ⟨rfl, m6, rfl, i6⟩)
        | (go_at_call 93; with_reducible refine (R2.out m6 _ i6 l2.out).mono ?_; rintro e _ ⟨rfl, m7, rfl, i7⟩)
        | fail)
      go_end0
      exact ⟨rfl, i7⟩

end Go.Proofs.YtcgflhjgllpohafGreatDoor
