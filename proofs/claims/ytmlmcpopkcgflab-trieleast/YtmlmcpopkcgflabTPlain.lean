/- TABLES AS LISTS OF ROUTES: the order of prefixes; where a route stands; setting, getting, looking; what the reference does; facts for the laws. No Go here. -/
import Derived.Test.YtmlmcpopkcgflabSpanPlain
namespace Go.Proofs.Ytmlmcpopkcgflab

/-- A route: Len, Bits, Hop. -/
abbrev Rt := Int × Int × Int
def hopB (h : Int) : Bool := decide (h = -1 ∨ (0 ≤ h ∧ h < 6))
/-- Is r a route of the prefix l, b? -/
def sameB (r : Rt) (l b : Int) : Bool := decide (r.1 = l ∧ r.2.1 = b)
/-- Is r ahead of the prefix l, b? -/
def ltB (r : Rt) (l b : Int) : Bool := lessB r.1 r.2.1 l b

/-- What a table holds. -/
structure Tab (rs : List Rt) : Prop where
  ok : ∀ r ∈ rs, okB r.1 r.2.1 = true ∧ hopB r.2.2 = true
  srt : rs.Pairwise (fun r s => lessB r.1 r.2.1 s.1 s.2.1 = true)
  len : rs.length ≤ 40

theorem less_irr (l b : Int) : lessB l b l b = false := by
  cases h : lessB l b l b
  · rfl
  · rw [less_iff] at h; omega
theorem less_tr {l b m c n d : Int} (h : lessB l b m c = true) (k : lessB m c n d = true) : lessB l b n d = true := by
  rw [less_iff] at *; omega
theorem less_asy {l b m c : Int} (h : lessB l b m c = true) : lessB m c l b = false := by
  cases k : lessB m c l b
  · rfl
  · rw [less_iff] at *; omega
theorem less_tot {l b m c : Int} (ho : okB l b = true) (hk : okB m c = true) (h : lessB l b m c = false) (k : lessB m c l b = false) : l = m ∧ b = c := by
  have h1 : ¬ (firstI l b < firstI m c ∨ firstI l b = firstI m c ∧ l < m) := fun e => by rw [less_iff.2 e] at h; cases h
  have h2 : ¬ (firstI m c < firstI l b ∨ firstI m c = firstI l b ∧ m < l) := fun e => by rw [less_iff.2 e] at k; cases k
  have e1 : l = m := by omega
  have e2 : firstI l b = firstI m c := by omega
  subst e1
  rw [first_is_ok ho, first_is_ok hk] at e2
  refine ⟨rfl, ?_⟩
  have hp : (0 : Int) < 2 ^ (8 - l).toNat := Int.pow_pos (by decide)
  exact Int.eq_of_mul_eq_mul_right (by omega) e2

/-- Two prefixes with one address: the shorter one is ahead. -/
theorem less_len {l b m c a : Int} (h : hasB l b a = true) (k : hasB m c a = true) : lessB l b m c = true ↔ l < m := by
  obtain ⟨ho, a0, a1, hb⟩ := has_iff.1 h
  obtain ⟨ho', _, _, hb'⟩ := has_iff.1 k
  obtain ⟨h0, h8, _, _⟩ := ok_iff.1 ho
  obtain ⟨k0, k8, _, _⟩ := ok_iff.1 ho'
  rw [less_iff, first_is_ok ho, first_is_ok ho']
  subst hb hb'
  rcases nine h0 h8 with rfl | rfl | rfl | rfl | rfl | rfl | rfl | rfl | rfl <;>
  rcases nine k0 k8 with rfl | rfl | rfl | rfl | rfl | rfl | rfl | rfl | rfl <;>
  simp (config := { decide := true }) only [] <;> simp <;> omega
theorem same_len {l b m c a : Int} (h : hasB l b a = true) (k : hasB m c a = true) (e : l = m) : b = c := by
  obtain ⟨_, _, _, hb⟩ := has_iff.1 h
  obtain ⟨_, _, _, hb'⟩ := has_iff.1 k
  subst e hb hb'; rfl

/-- Where a prefix stands, or would have to. -/
def plc (rs : List Rt) (l b : Int) : Nat := (rs.takeWhile (fun r => ltB r l b)).length
def fnd (rs : List Rt) (l b : Int) : Bool := (rs[plc rs l b]?).any (fun r => sameB r l b)
def getL (rs : List Rt) (l b : Int) : Int := match rs[plc rs l b]? with | some r => if sameB r l b then r.2.2 else -2 | none => -2
def setL (rs : List Rt) (l b h : Int) : List Rt × Int :=
  if okB l b = false ∨ (hopB h = false ∧ h ≠ -2) then (rs, 1)
  else if h = -2 ∧ fnd rs l b = false then (rs, 6)
  else if h = -2 then (rs.take (plc rs l b) ++ rs.drop (plc rs l b + 1), 0)
  else if fnd rs l b = true then (rs.take (plc rs l b) ++ (l, b, h) :: rs.drop (plc rs l b + 1), 0)
  else if 40 ≤ rs.length then (rs, 9)
  else (rs.take (plc rs l b) ++ (l, b, h) :: rs.drop (plc rs l b), 0)

theorem takeWhile_len_le (p : Rt → Bool) (rs : List Rt) : (rs.takeWhile p).length ≤ rs.length := by
  induction rs with
  | nil => simp
  | cons r rs ih => simp only [List.takeWhile_cons]; split <;> simp; omega
theorem plc_le (rs : List Rt) (l b : Int) : plc rs l b ≤ rs.length := takeWhile_len_le _ _
theorem takeWhile_all (p : Rt → Bool) (A B : List Rt) (hA : ∀ r ∈ A, p r = true) (hB : ∀ r ∈ B, p r = false) : (A ++ B).takeWhile p = A := by
  induction A with
  | nil => cases B with
    | nil => rfl
    | cons r B => simp [hB r (by simp)]
  | cons r A ih => simp [hA r (by simp), ih (fun x hx => hA x (by simp [hx]))]

theorem Tab.mem {rs : List Rt} (h : Tab rs) {r : Rt} (hr : r ∈ rs) : okB r.1 r.2.1 = true := (h.ok r hr).1

/-- The routes ahead of a prefix, and the others. -/
theorem Tab.cut {rs : List Rt} (h : Tab rs) (l b : Int) : ∃ A B, rs = A ++ B ∧ plc rs l b = A.length ∧ (∀ r ∈ A, ltB r l b = true) ∧ (∀ r ∈ B, ltB r l b = false) := by
  refine ⟨rs.takeWhile (fun r => ltB r l b), rs.dropWhile (fun r => ltB r l b), List.takeWhile_append_dropWhile.symm, rfl, ?_, ?_⟩
  · intro r hr
    clear h
    induction rs with
    | nil => simp at hr
    | cons x rs ih =>
      rw [List.takeWhile_cons] at hr
      split at hr
      · rename_i hx
        rcases List.mem_cons.1 hr with rfl | hr
        · exact hx
        · exact ih hr
      · simp at hr
  · have hs := h.srt
    clear h
    induction rs with
    | nil => intro r hr; simp at hr
    | cons x rs ih =>
      intro r hr
      rw [List.dropWhile_cons] at hr
      rw [List.pairwise_cons] at hs
      split at hr
      · exact ih hs.2 r hr
      · rename_i hx
        rcases List.mem_cons.1 hr with rfl | hr
        · simpa using hx
        · cases e : ltB r l b
          · rfl
          · exact absurd (less_tr (hs.1 r hr) e) hx

/-- What place finds: the places below are those ahead. -/
theorem plc_lt {rs : List Rt} (h : Tab rs) (l b : Int) (t : Nat) (ht : t < rs.length) : (t < plc rs l b → ltB rs[t] l b = true) ∧ (plc rs l b ≤ t → ltB rs[t] l b = false) := by
  obtain ⟨A, B, rfl, hp, hA, hB⟩ := h.cut l b
  rw [hp]
  refine ⟨fun hlt => ?_, fun hge => ?_⟩
  · rw [List.getElem_append_left hlt]
    exact hA _ (List.getElem_mem _)
  · rw [List.getElem_append_right hge]
    exact hB _ (List.getElem_mem _)

/-- A table parted at a prefix: its route, if it is there. -/
theorem Tab.part {rs : List Rt} (h : Tab rs) {l b : Int} (ho : okB l b = true) :
    ∃ A B, plc rs l b = A.length ∧ (∀ r ∈ A, lessB r.1 r.2.1 l b = true) ∧ (∀ r ∈ B, lessB l b r.1 r.2.1 = true) ∧
      ((rs = A ++ B ∧ fnd rs l b = false ∧ getL rs l b = -2) ∨ ∃ h0, hopB h0 = true ∧ rs = A ++ (l, b, h0) :: B ∧ fnd rs l b = true ∧ getL rs l b = h0) := by
  obtain ⟨A, B, rfl, hp, hA, hB⟩ := h.cut l b
  have key : ∀ r ∈ B, sameB r l b = false → lessB l b r.1 r.2.1 = true := by
    intro r hr hs
    cases e : lessB l b r.1 r.2.1
    · have := less_tot (h.mem (List.mem_append_right _ hr)) ho (hB r hr) e
      simp [sameB, this] at hs
    · rfl
  cases B with
  | nil =>
    refine ⟨A, [], hp, hA, by simp, .inl ⟨rfl, ?_, ?_⟩⟩
    · unfold fnd; rw [hp]; simp
    · unfold getL; rw [hp]; simp
  | cons x B =>
    have hx : (A ++ x :: B)[plc (A ++ x :: B) l b]? = some x := by rw [hp]; simp
    have hrest : ∀ r ∈ B, lessB x.1 x.2.1 r.1 r.2.1 = true := by
      have := (List.pairwise_append.1 h.srt).2.1
      exact (List.pairwise_cons.1 this).1
    cases hs : sameB x l b
    · refine ⟨A, x :: B, hp, hA, ?_, .inl ⟨rfl, ?_, ?_⟩⟩
      · intro r hr
        rcases List.mem_cons.1 hr with rfl | hr'
        · exact key _ hr hs
        · exact less_tr (key x (by simp) hs) (hrest r hr')
      · unfold fnd; rw [hx]; simp [hs]
      · unfold getL; rw [hx]; simp [hs]
    · obtain ⟨xl, xb, xh⟩ := x
      have e : xl = l ∧ xb = b := by simpa [sameB] using hs
      obtain ⟨rfl, rfl⟩ := e
      refine ⟨A, B, hp, hA, hrest, .inr ⟨xh, (h.ok (xl, xb, xh) (by simp)).2, rfl, ?_, ?_⟩⟩
      · unfold fnd; rw [hx]; simp [hs]
      · unfold getL; rw [hx]; simp [hs]

/-- What is no prefix is not there. -/
theorem Tab.lacks {rs : List Rt} (h : Tab rs) {l b : Int} (ho : okB l b = false) : fnd rs l b = false ∧ getL rs l b = -2 := by
  have : ∀ r, rs[plc rs l b]? = some r → sameB r l b = false := by
    intro r hr
    cases hs : sameB r l b
    · rfl
    · have e : r.1 = l ∧ r.2.1 = b := by simpa [sameB] using hs
      have := h.mem (List.mem_of_getElem? hr)
      rw [e.1, e.2, ho] at this
      cases this
  unfold fnd getL
  cases hr : rs[plc rs l b]? with
  | none => simp
  | some r => simp [this r hr]

/-- A table of parts. -/
theorem Tab.mk_parts {A B : List Rt} {l b h : Int} (hAB : Tab (A ++ B)) (ho : okB l b = true) (hh : hopB h = true) (hA : ∀ r ∈ A, lessB r.1 r.2.1 l b = true) (hB : ∀ r ∈ B, lessB l b r.1 r.2.1 = true) (hl : (A ++ B).length < 40) : Tab (A ++ (l, b, h) :: B) := by
  refine ⟨?_, ?_, by simp at hl ⊢; omega⟩
  · intro r hr
    rcases List.mem_append.1 hr with hr | hr
    · exact hAB.ok r (List.mem_append_left _ hr)
    · rcases List.mem_cons.1 hr with rfl | hr
      · exact ⟨ho, hh⟩
      · exact hAB.ok r (List.mem_append_right _ hr)
  · have hp := List.pairwise_append.1 hAB.srt
    refine List.pairwise_append.2 ⟨hp.1, List.pairwise_cons.2 ⟨hB, hp.2.1⟩, ?_⟩
    intro x hx y hy
    rcases List.mem_cons.1 hy with rfl | hy
    · exact hA x hx
    · exact hp.2.2 x hx y hy
theorem Tab.drop_mid {A B : List Rt} {r : Rt} (h : Tab (A ++ r :: B)) : Tab (A ++ B) := by
  refine ⟨fun x hx => h.ok x ?_, ?_, by have := h.len; simp at this ⊢; omega⟩
  · rcases List.mem_append.1 hx with hx | hx
    · exact List.mem_append_left _ hx
    · exact List.mem_append_right _ (List.mem_cons_of_mem _ hx)
  · have hp := List.pairwise_append.1 h.srt
    exact List.pairwise_append.2 ⟨hp.1, (List.pairwise_cons.1 hp.2.1).2, fun x hx y hy => hp.2.2 x hx y (List.mem_cons_of_mem _ hy)⟩

/-- Set, by parts. -/
theorem Tab.set {rs : List Rt} (h : Tab rs) (l b h' : Int) :
    ((setL rs l b h').1 = rs ∧ (setL rs l b h').2 ≠ 0) ∨
    (okB l b = true ∧ (setL rs l b h').2 = 0 ∧ ∃ A B, plc rs l b = A.length ∧ (∀ r ∈ A, lessB r.1 r.2.1 l b = true) ∧ (∀ r ∈ B, lessB l b r.1 r.2.1 = true) ∧
      ((h' = -2 ∧ ∃ h0, hopB h0 = true ∧ rs = A ++ (l, b, h0) :: B ∧ fnd rs l b = true ∧ getL rs l b = h0 ∧ (setL rs l b h').1 = A ++ B) ∨
       (hopB h' = true ∧ h' ≠ -2 ∧ (setL rs l b h').1 = A ++ (l, b, h') :: B ∧ ((rs = A ++ B ∧ rs.length < 40 ∧ fnd rs l b = false ∧ getL rs l b = -2) ∨ ∃ h0, hopB h0 = true ∧ rs = A ++ (l, b, h0) :: B ∧ fnd rs l b = true ∧ getL rs l b = h0)))) := by
  unfold setL
  by_cases h1 : okB l b = false ∨ (hopB h' = false ∧ h' ≠ -2)
  · rw [if_pos h1]; exact .inl ⟨rfl, by simp⟩
  rw [if_neg h1]
  have ho : okB l b = true := by cases e : okB l b with | true => rfl | false => exact absurd (.inl e) h1
  obtain ⟨A, B, hp, hA, hB, hc⟩ := h.part ho
  by_cases h2 : h' = -2 ∧ fnd rs l b = false
  · rw [if_pos h2]; exact .inl ⟨rfl, by simp⟩
  rw [if_neg h2]
  by_cases h3 : h' = -2
  · rw [if_pos h3]
    rcases hc with ⟨_, e, _⟩ | ⟨h0, hh0, e, hf, hg⟩
    · exact absurd ⟨h3, e⟩ h2
    · refine .inr ⟨ho, rfl, A, B, hp, hA, hB, .inl ⟨h3, h0, hh0, e, hf, hg, ?_⟩⟩
      rw [hp, e]
      simp
  rw [if_neg h3]
  have hh : hopB h' = true := by cases e : hopB h' with | true => rfl | false => exact absurd (.inr ⟨e, h3⟩) h1
  by_cases h4 : fnd rs l b = true
  · rw [if_pos h4]
    rcases hc with ⟨_, e, _⟩ | ⟨h0, hh0, e, hf, hg⟩
    · rw [e] at h4; cases h4
    · refine .inr ⟨ho, rfl, A, B, hp, hA, hB, .inr ⟨hh, h3, ?_, .inr ⟨h0, hh0, e, hf, hg⟩⟩⟩
      rw [hp, e]
      simp
  rw [if_neg h4]
  by_cases h5 : 40 ≤ rs.length
  · rw [if_pos h5]; exact .inl ⟨rfl, by simp⟩
  rw [if_neg h5]
  rcases hc with ⟨e, hf, hg⟩ | ⟨h0, hh0, e, hf, hg⟩
  · refine .inr ⟨ho, rfl, A, B, hp, hA, hB, .inr ⟨hh, h3, ?_, .inl ⟨e, by omega, hf, hg⟩⟩⟩
    rw [hp, e]
    simp
  · exact absurd hf h4

theorem Tab.set_tab {rs : List Rt} (h : Tab rs) (l b h' : Int) : Tab (setL rs l b h').1 := by
  rcases h.set l b h' with ⟨e, _⟩ | ⟨ho, _, A, B, _, hA, hB, ⟨_, h0, _, e, _, _, e'⟩ | ⟨hh, _, e', ⟨e, hl, _⟩ | ⟨h0, _, e, _⟩⟩⟩
  · rw [e]; exact h
  · rw [e']; subst e; exact h.drop_mid
  · rw [e']; subst e; exact h.mk_parts ho hh hA hB hl
  · rw [e']; subst e
    exact h.drop_mid.mk_parts ho hh hA hB (by have := h.len; simp at this ⊢; omega)

theorem Tab.nil : Tab [] := ⟨by simp, by simp, by simp⟩

/-- Looking: from the end on. -/
def lookL (rs : List Rt) (a : Int) : Int := rs.foldl (fun acc r => if hasB r.1 r.2.1 a then r.2.2 else acc) (-1)
theorem lookL_snoc (rs : List Rt) (r : Rt) (a : Int) : lookL (rs ++ [r]) a = if hasB r.1 r.2.1 a then r.2.2 else lookL rs a := by simp [lookL]
def lookFrom (x : Int) (rs : List Rt) (a : Int) : Int := rs.foldl (fun acc r => if hasB r.1 r.2.1 a then r.2.2 else acc) x
theorem lookL_append (A B : List Rt) (a : Int) : lookL (A ++ B) a = lookFrom (lookL A a) B a := by simp [lookL, lookFrom]
theorem lookFrom_none {B : List Rt} {a : Int} (h : ∀ r ∈ B, hasB r.1 r.2.1 a = false) (x : Int) : lookFrom x B a = x := by
  induction B generalizing x with
  | nil => rfl
  | cons r B ih => simp only [lookFrom, List.foldl_cons, h r (by simp)]; exact ih (fun y hy => h y (by simp [hy])) x
theorem lookFrom_some {B : List Rt} {a : Int} (h : ∃ r ∈ B, hasB r.1 r.2.1 a = true) (x y : Int) : lookFrom x B a = lookFrom y B a := by
  induction B generalizing x y with
  | nil => simp at h
  | cons r B ih =>
    simp only [lookFrom, List.foldl_cons]
    cases hr : hasB r.1 r.2.1 a
    · obtain ⟨q, hq, hqa⟩ := h
      rcases List.mem_cons.1 hq with rfl | hq
      · rw [hr] at hqa; cases hqa
      · exact ih ⟨q, hq, hqa⟩ x y
    · rfl
theorem lookL_mid {A B : List Rt} {r : Rt} {a : Int} (hr : hasB r.1 r.2.1 a = true) (hB : ∀ s ∈ B, hasB s.1 s.2.1 a = false) : lookL (A ++ r :: B) a = r.2.2 := by
  rw [lookL_append]
  simp only [lookFrom, List.foldl_cons, hr, if_true]
  exact lookFrom_none hB _
theorem lookL_skip {A B : List Rt} {r : Rt} {a : Int} (hr : hasB r.1 r.2.1 a = false) : lookL (A ++ r :: B) a = lookL (A ++ B) a := by
  rw [lookL_append, lookL_append]
  simp [lookFrom, hr]
theorem lookL_none {rs : List Rt} {a : Int} (h : ∀ r ∈ rs, hasB r.1 r.2.1 a = false) : lookL rs a = -1 := lookFrom_none h _

/-- The longest counts. -/
theorem Tab.longest {rs : List Rt} (h : Tab rs) (a : Int) {r : Rt} (hr : r ∈ rs) (ha : hasB r.1 r.2.1 a = true) (hm : ∀ s ∈ rs, hasB s.1 s.2.1 a = true → s.1 ≤ r.1) : lookL rs a = r.2.2 := by
  obtain ⟨A, B, rfl⟩ := List.append_of_mem hr
  refine lookL_mid ha fun s hs => ?_
  cases e : hasB s.1 s.2.1 a
  · rfl
  · have h1 := (List.pairwise_cons.1 (List.pairwise_append.1 h.srt).2.1).1 s hs
    have h2 := (less_len ha e).1 h1
    have h3 := hm s (by simp [hs]) e
    omega

/-- A route says nothing of others' addresses. -/
theorem Tab.apart {rs : List Rt} (h : Tab rs) (l b h' a : Int) (hc : (setL rs l b h').2 = 0) :
    (hasB l b a = false ∨ (∃ r ∈ rs, hasB r.1 r.2.1 a = true ∧ l < r.1) → lookL (setL rs l b h').1 a = lookL rs a) ∧
    (hasB l b a = true → (∀ r ∈ rs, hasB r.1 r.2.1 a = true → r.1 ≤ l) → h' ≠ -2 → lookL (setL rs l b h').1 a = h') := by
  rcases h.set l b h' with ⟨_, e⟩ | ⟨ho, _, A, B, _, hA, hB, hx⟩
  · exact absurd hc e
  have far : ∀ r ∈ B, hasB l b a = true → hasB r.1 r.2.1 a = true → l < r.1 := fun r hr h1 h2 => (less_len h1 h2).1 (hB r hr)
  have near : ∀ r ∈ A, hasB l b a = true → hasB r.1 r.2.1 a = true → r.1 < l := fun r hr h1 h2 => (less_len h2 h1).1 (hA r hr)
  have inB : ∀ mid : List Rt, (∀ r ∈ mid, r.1 = l) → hasB l b a = true → (∃ r ∈ A ++ (mid ++ B), hasB r.1 r.2.1 a = true ∧ l < r.1) → ∃ r ∈ B, hasB r.1 r.2.1 a = true := by
    rintro mid hmid h1 ⟨r, hr, hra, hrl⟩
    rcases List.mem_append.1 hr with hr | hr
    · have := near r hr h1 hra; omega
    · rcases List.mem_append.1 hr with hr | hr
      · have := hmid r hr; omega
      · exact ⟨r, hr, hra⟩
  have both : ∀ (m1 m2 : List Rt), (∃ r ∈ B, hasB r.1 r.2.1 a = true) → lookL (A ++ (m1 ++ B)) a = lookL (A ++ (m2 ++ B)) a := by
    intro m1 m2 hb
    rw [← List.append_assoc, ← List.append_assoc, lookL_append, lookL_append (A ++ m2)]
    exact lookFrom_some hb _ _
  have skip : ∀ h1 : Int, hasB l b a = false → lookL (A ++ (l, b, h1) :: B) a = lookL (A ++ B) a := fun h1 hn => lookL_skip (r := (l, b, h1)) hn
  have isL : ∀ h1 : Int, (∀ r ∈ [((l, b, h1) : Rt)], r.1 = l) := by simp
  rcases hx with ⟨e1, h0, _, e, _, _, e'⟩ | ⟨hh, h2, e', ⟨e, hl, _⟩ | ⟨h0, _, e, _⟩⟩
  · rw [e']; subst e
    refine ⟨fun hor => ?_, fun _ _ h3 => absurd e1 h3⟩
    cases hp : hasB l b a
    · exact (skip h0 hp).symm
    · rcases hor with hor | hor
      · rw [hp] at hor; cases hor
      · exact both [] [(l, b, h0)] (inB [(l, b, h0)] (isL h0) hp hor)
  · rw [e']; subst e
    refine ⟨fun hor => ?_, fun hp hno _ => ?_⟩
    · cases hp : hasB l b a
      · exact skip h' hp
      · rcases hor with hor | hor
        · rw [hp] at hor; cases hor
        · exact both [(l, b, h')] [] (inB [] (by simp) hp hor)
    · refine lookL_mid (r := (l, b, h')) hp fun s hs => ?_
      cases e : hasB s.1 s.2.1 a
      · rfl
      · have := far s hs hp e
        have := hno s (by simp [hs]) e
        omega
  · rw [e']; subst e
    refine ⟨fun hor => ?_, fun hp hno _ => ?_⟩
    · cases hp : hasB l b a
      · rw [skip h' hp, skip h0 hp]
      · rcases hor with hor | hor
        · rw [hp] at hor; cases hor
        · exact both [(l, b, h')] [(l, b, h0)] (inB [(l, b, h0)] (isL h0) hp hor)
    · refine lookL_mid (r := (l, b, h')) hp fun s hs => ?_
      cases e : hasB s.1 s.2.1 a
      · rfl
      · have := far s hs hp e
        have := hno s (by simp [hs]) e
        omega

theorem plc_parts {A B : List Rt} {l b : Int} (hA : ∀ r ∈ A, lessB r.1 r.2.1 l b = true) (hB : ∀ r ∈ B, lessB l b r.1 r.2.1 = true) :
    (plc (A ++ B) l b = A.length ∧ fnd (A ++ B) l b = false ∧ getL (A ++ B) l b = -2) ∧ ∀ h0, plc (A ++ (l, b, h0) :: B) l b = A.length ∧ fnd (A ++ (l, b, h0) :: B) l b = true ∧ getL (A ++ (l, b, h0) :: B) l b = h0 := by
  have hB' : ∀ r ∈ B, ltB r l b = false := fun r hr => less_asy (hB r hr)
  have ne : ∀ r ∈ B, sameB r l b = false := by
    intro r hr
    cases e : sameB r l b
    · rfl
    · have e' : r.1 = l ∧ r.2.1 = b := by simpa [sameB] using e
      have := hB r hr
      rw [e'.1, e'.2, less_irr] at this
      cases this
  refine ⟨?_, fun h0 => ?_⟩
  · have hp : plc (A ++ B) l b = A.length := by unfold plc; rw [takeWhile_all (fun r => ltB r l b) A B hA hB']
    refine ⟨hp, ?_, ?_⟩
    · unfold fnd; rw [hp]; cases B with
      | nil => simp
      | cons x B => simp [ne x (by simp)]
    · unfold getL; rw [hp]; cases B with
      | nil => simp
      | cons x B => simp [ne x (by simp)]
  · have hp : plc (A ++ (l, b, h0) :: B) l b = A.length := by
      unfold plc
      rw [takeWhile_all (fun r => ltB r l b) A ((l, b, h0) :: B) hA (fun r hr => ?_)]
      rcases List.mem_cons.1 hr with rfl | hr
      · exact less_irr l b
      · exact hB' r hr
    refine ⟨hp, ?_, ?_⟩
    · unfold fnd; rw [hp]; simp [sameB]
    · unfold getL; rw [hp]; simp [sameB]

/-- What was set and taken away is not there; what was there can be put back. -/
theorem Tab.back {rs : List Rt} (h : Tab rs) (l b h' : Int) (hc : (setL rs l b h').2 = 0) :
    getL (setL rs l b h').1 l b = h' ∧ (setL (setL rs l b h').1 l b (getL rs l b)).2 = 0 ∧ (setL (setL rs l b h').1 l b (getL rs l b)).1 = rs := by
  rcases h.set l b h' with ⟨_, e⟩ | ⟨ho, _, A, B, _, hA, hB, hx⟩
  · exact absurd hc e
  obtain ⟨⟨p1, p2, p3⟩, pp⟩ := plc_parts hA hB
  have hn : ¬ (okB l b = false) := by rw [ho]; simp
  rcases hx with ⟨e1, h0, hh0, e, _, hg, e'⟩ | ⟨hh, h2, e', ⟨e, hl, _, hg⟩ | ⟨h0, hh0, e, _, hg⟩⟩
  · rw [e', hg, p3]
    have h02 : h0 ≠ -2 := by intro e; subst e; simp [hopB] at hh0
    have hlen := h.len
    subst e
    refine ⟨e1.symm, ?_⟩
    unfold setL
    have hlt : ¬ 40 ≤ (A ++ B).length := by simp at hlen ⊢; omega
    simp only [hn, hh0, h02, p1, p2, hlt]
    simp
  · rw [e', hg]
    obtain ⟨q1, q2, q3⟩ := pp h'
    refine ⟨q3, ?_⟩
    subst e
    unfold setL
    simp only [hn, q1, q2]
    simp
  · rw [e', hg]
    obtain ⟨q1, q2, q3⟩ := pp h'
    have h02 : h0 ≠ -2 := by intro e; subst e; simp [hopB] at hh0
    refine ⟨q3, ?_⟩
    subst e
    unfold setL
    simp only [hn, hh0, h02, q1, q2]
    simp

/-- The reference's Set: one round; all rounds. -/
def stepR (l b h : Int) (st : List Rt × Bool) (r : Rt) : List Rt × Bool :=
  if sameB r l b then st else if !st.2 && lessB l b r.1 r.2.1 then (st.1 ++ [(l, b, h)] ++ [r], true) else (st.1 ++ [r], st.2)
def foldR (rs : List Rt) (l b h : Int) : List Rt × Bool := rs.foldl (stepR l b h) ([], decide (h = -2))
def outR (rs : List Rt) (l b h : Int) : List Rt := if (foldR rs l b h).2 then (foldR rs l b h).1 else (foldR rs l b h).1 ++ [(l, b, h)]

theorem foldR_snoc (rs : List Rt) (r : Rt) (l b h : Int) : foldR (rs ++ [r]) l b h = stepR l b h (foldR rs l b h) r := by simp [foldR]

theorem step_A {l b h : Int} {A : List Rt} (hA : ∀ r ∈ A, lessB r.1 r.2.1 l b = true) (out : List Rt) (put : Bool) : A.foldl (stepR l b h) (out, put) = (out ++ A, put) := by
  induction A generalizing out with
  | nil => simp
  | cons r A ih =>
    have hr := hA r (by simp)
    have hs : sameB r l b = false := by
      cases e : sameB r l b
      · rfl
      · have e' : r.1 = l ∧ r.2.1 = b := by simpa [sameB] using e
        rw [e'.1, e'.2, less_irr] at hr; cases hr
    have h1 : stepR l b h (out, put) r = (out ++ [r], put) := by simp [stepR, hs, less_asy hr]
    rw [List.foldl_cons, h1, ih (fun x hx => hA x (by simp [hx]))]
    simp
theorem step_B {l b h : Int} {B : List Rt} (hB : ∀ r ∈ B, lessB l b r.1 r.2.1 = true) (out : List Rt) : B.foldl (stepR l b h) (out, true) = (out ++ B, true) := by
  induction B generalizing out with
  | nil => simp
  | cons r B ih =>
    have hr := hB r (by simp)
    have hs : sameB r l b = false := by
      cases e : sameB r l b
      · rfl
      · have e' : r.1 = l ∧ r.2.1 = b := by simpa [sameB] using e
        rw [e'.1, e'.2, less_irr] at hr; cases hr
    have h1 : stepR l b h (out, true) r = (out ++ [r], true) := by simp [stepR, hs]
    rw [List.foldl_cons, h1, ih (fun x hx => hB x (by simp [hx]))]
    simp
theorem step_B0 {l b h : Int} {B : List Rt} (hB : ∀ r ∈ B, lessB l b r.1 r.2.1 = true) (out : List Rt) :
    (if (B.foldl (stepR l b h) (out, false)).2 then (B.foldl (stepR l b h) (out, false)).1 else (B.foldl (stepR l b h) (out, false)).1 ++ [(l, b, h)]) = out ++ (l, b, h) :: B := by
  cases B with
  | nil => simp
  | cons r B =>
    have hr := hB r (by simp)
    have hs : sameB r l b = false := by
      cases e : sameB r l b
      · rfl
      · have e' : r.1 = l ∧ r.2.1 = b := by simpa [sameB] using e
        rw [e'.1, e'.2, less_irr] at hr; cases hr
    have h1 : stepR l b h (out, false) r = (out ++ [(l, b, h)] ++ [r], true) := by simp [stepR, hs, hr]
    rw [List.foldl_cons, h1, step_B (fun x hx => hB x (by simp [hx]))]
    simp
theorem step_same (l b h h0 : Int) (st : List Rt × Bool) : stepR l b h st (l, b, h0) = st := by simp [stepR, sameB]

theorem Tab.outR {rs : List Rt} (h : Tab rs) (l b h' : Int) (hc : (setL rs l b h').2 = 0) : outR rs l b h' = (setL rs l b h').1 := by
  rcases h.set l b h' with ⟨_, e⟩ | ⟨ho, _, A, B, _, hA, hB, hx⟩
  · exact absurd hc e
  rcases hx with ⟨e1, h0, _, e, _, _, e'⟩ | ⟨hh, h2, e', ⟨e, hl, _⟩ | ⟨h0, _, e, _⟩⟩
  · rw [e']; subst e e1
    unfold Go.Proofs.Ytmlmcpopkcgflab.outR foldR
    rw [List.foldl_append, step_A hA, List.foldl_cons, step_same]
    simp only [decide_true, step_B hB]
    simp
  · rw [e']; subst e
    unfold Go.Proofs.Ytmlmcpopkcgflab.outR foldR
    rw [List.foldl_append, step_A hA]
    simp only [h2, decide_false, List.nil_append]
    exact step_B0 hB A
  · rw [e']; subst e
    unfold Go.Proofs.Ytmlmcpopkcgflab.outR foldR
    rw [List.foldl_append, step_A hA, List.foldl_cons, step_same]
    simp only [h2, decide_false, List.nil_append]
    exact step_B0 hB A

/-- The reference's Get. -/
def getR (rs : List Rt) (l b : Int) : Int := match rs.find? (fun r => sameB r l b && okB l b) with | some r => r.2.2 | none => -2
theorem Tab.getR {rs : List Rt} (h : Tab rs) (l b : Int) : getR rs l b = getL rs l b := by
  cases ho : okB l b
  · rw [(h.lacks ho).2]
    unfold Go.Proofs.Ytmlmcpopkcgflab.getR
    have e : rs.find? (fun r => sameB r l b && okB l b) = none := by rw [List.find?_eq_none]; intro r _; simp [ho]
    rw [e]
  · obtain ⟨A, B, _, hA, hB, hx⟩ := h.part ho
    have nA : ∀ r ∈ A, sameB r l b = false := by
      intro r hr
      cases e : sameB r l b
      · rfl
      · have e' : r.1 = l ∧ r.2.1 = b := by simpa [sameB] using e
        have := hA r hr
        rw [e'.1, e'.2, less_irr] at this; cases this
    have nB : ∀ r ∈ B, sameB r l b = false := by
      intro r hr
      cases e : sameB r l b
      · rfl
      · have e' : r.1 = l ∧ r.2.1 = b := by simpa [sameB] using e
        have := hB r hr
        rw [e'.1, e'.2, less_irr] at this; cases this
    have fA : A.find? (fun r => sameB r l b && okB l b) = none := by
      rw [List.find?_eq_none]; intro r hr; simp [nA r hr]
    have fB : B.find? (fun r => sameB r l b && okB l b) = none := by
      rw [List.find?_eq_none]; intro r hr; simp [nB r hr]
    unfold Go.Proofs.Ytmlmcpopkcgflab.getR
    rcases hx with ⟨e, _, hg⟩ | ⟨h0, _, e, _, hg⟩
    · rw [hg, e, List.find?_append, fA, fB]; rfl
    · rw [hg, e, List.find?_append, fA]
      simp [sameB, ho]

end Go.Proofs.Ytmlmcpopkcgflab
