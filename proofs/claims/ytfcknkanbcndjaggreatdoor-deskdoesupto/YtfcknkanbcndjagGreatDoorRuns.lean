import Derived.Test.YtfcknkanbcndjagGreatDoorSpanPlain
import Derived.Test.YtfcknkanbcndjagGreatDoorL1
import Derived.OneCell
import Derived.Test.YtfcknkanbcndjagGreatDoorMdPlain3
import Derived.Lib.AppendZerosOnto
import Derived.Lib.Overlaps
import Derived.Laws.Externs
import Derived.Laws.CopyOwn
import Derived.Deep.RegionLaw
/- TABLES AS LISTS OF ROUTES: the order of prefixes; where a route stands; setting, getting, looking; what the reference does; facts for the laws. No Go here. -/
namespace Go.Proofs.YtfcknkanbcndjagGreatDoor

/-- A route: Len, Bits, Hop. -/
abbrev Rt := Int × Int × Int
def hopB (h : Int) : Bool := decide (h = -1 ∨ (0 ≤ h ∧ h < 6))
/-- Is r a route of the prefix l, b? -/
def sameB (r : Rt) (l b : Int) : Bool := decide (r.1 = l ∧ r.2.1 = b)
/-- Is r ahead of the prefix l, b? -/
def ltB (r : Rt) (l b : Int) : Bool := lessB r.1 r.2.1 l b

/-- What a table holds. -/
structure Tab (rs : List Rt) : Prop where
  ok : ∀ r ∈ rs, okB r.1 r.2.1 = true ∧ hopB r.2.2 = true
  srt : rs.Pairwise (fun r s => lessB r.1 r.2.1 s.1 s.2.1 = true)
  len : rs.length ≤ 40

theorem less_irr (l b : Int) : lessB l b l b = false := by
  cases h : lessB l b l b
  · rfl
  · rw [less_iff] at h; omega
theorem less_tr {l b m c n d : Int} (h : lessB l b m c = true) (k : lessB m c n d = true) : lessB l b n d = true := by
  rw [less_iff] at *; omega
theorem less_asy {l b m c : Int} (h : lessB l b m c = true) : lessB m c l b = false := by
  cases k : lessB m c l b
  · rfl
  · rw [less_iff] at *; omega
theorem less_tot {l b m c : Int} (ho : okB l b = true) (hk : okB m c = true) (h : lessB l b m c = false) (k : lessB m c l b = false) : l = m ∧ b = c := by
  have h1 : ¬ (firstI l b < firstI m c ∨ firstI l b = firstI m c ∧ l < m) := fun e => by rw [less_iff.2 e] at h; cases h
  have h2 : ¬ (firstI m c < firstI l b ∨ firstI m c = firstI l b ∧ m < l) := fun e => by rw [less_iff.2 e] at k; cases k
  have e1 : l = m := by omega
  have e2 : firstI l b = firstI m c := by omega
  subst e1
  rw [first_is_ok ho, first_is_ok hk] at e2
  refine ⟨rfl, ?_⟩
  have hp : (0 : Int) < 2 ^ (8 - l).toNat := Int.pow_pos (by decide)
  exact Int.eq_of_mul_eq_mul_right (by omega) e2

/-- Two prefixes with one address: the shorter one is ahead. -/
theorem less_len {l b m c a : Int} (h : hasB l b a = true) (k : hasB m c a = true) : lessB l b m c = true ↔ l < m := by
  obtain ⟨ho, a0, a1, hb⟩ := has_iff.1 h
  obtain ⟨ho', _, _, hb'⟩ := has_iff.1 k
  obtain ⟨h0, h8, _, _⟩ := ok_iff.1 ho
  obtain ⟨k0, k8, _, _⟩ := ok_iff.1 ho'
  rw [less_iff, first_is_ok ho, first_is_ok ho']
  subst hb hb'
  rcases nine h0 h8 with rfl | rfl | rfl | rfl | rfl | rfl | rfl | rfl | rfl <;>
  rcases nine k0 k8 with rfl | rfl | rfl | rfl | rfl | rfl | rfl | rfl | rfl <;>
  simp (config := { decide := true }) only [] <;> simp <;> omega
/-- Where a prefix stands, or would have to. -/
def plc (rs : List Rt) (l b : Int) : Nat := (rs.takeWhile (fun r => ltB r l b)).length
def fnd (rs : List Rt) (l b : Int) : Bool := (rs[plc rs l b]?).any (fun r => sameB r l b)
def getL (rs : List Rt) (l b : Int) : Int := match rs[plc rs l b]? with | some r => if sameB r l b then r.2.2 else -2 | none => -2
def setL (rs : List Rt) (l b h : Int) : List Rt × Int :=
  if okB l b = false ∨ (hopB h = false ∧ h ≠ -2) then (rs, 1)
  else if h = -2 ∧ fnd rs l b = false then (rs, 6)
  else if h = -2 then (rs.take (plc rs l b) ++ rs.drop (plc rs l b + 1), 0)
  else if fnd rs l b = true then (rs.take (plc rs l b) ++ (l, b, h) :: rs.drop (plc rs l b + 1), 0)
  else if 40 ≤ rs.length then (rs, 9)
  else (rs.take (plc rs l b) ++ (l, b, h) :: rs.drop (plc rs l b), 0)

theorem takeWhile_len_le (p : Rt → Bool) (rs : List Rt) : (rs.takeWhile p).length ≤ rs.length := by
  induction rs with
  | nil => simp
  | cons r rs ih => simp only [List.takeWhile_cons]; split <;> simp; omega
theorem plc_le (rs : List Rt) (l b : Int) : plc rs l b ≤ rs.length := takeWhile_len_le _ _
theorem takeWhile_all (p : Rt → Bool) (A B : List Rt) (hA : ∀ r ∈ A, p r = true) (hB : ∀ r ∈ B, p r = false) : (A ++ B).takeWhile p = A := by
  induction A with
  | nil => cases B with
    | nil => rfl
    | cons r B => simp [hB r (by simp)]
  | cons r A ih => simp [hA r (by simp), ih (fun x hx => hA x (by simp [hx]))]

theorem Tab.mem {rs : List Rt} (h : Tab rs) {r : Rt} (hr : r ∈ rs) : okB r.1 r.2.1 = true := (h.ok r hr).1

/-- The routes ahead of a prefix, and the others. -/
theorem Tab.cut {rs : List Rt} (h : Tab rs) (l b : Int) : ∃ A B, rs = A ++ B ∧ plc rs l b = A.length ∧ (∀ r ∈ A, ltB r l b = true) ∧ (∀ r ∈ B, ltB r l b = false) := by
  refine ⟨rs.takeWhile (fun r => ltB r l b), rs.dropWhile (fun r => ltB r l b), List.takeWhile_append_dropWhile.symm, rfl, ?_, ?_⟩
  · intro r hr
    clear h
    induction rs with
    | nil => simp at hr
    | cons x rs ih =>
      rw [List.takeWhile_cons] at hr
      split at hr
      · rename_i hx
        rcases List.mem_cons.1 hr with rfl | hr
        · exact hx
        · exact ih hr
      · simp at hr
  · have hs := h.srt
    clear h
    induction rs with
    | nil => intro r hr; simp at hr
    | cons x rs ih =>
      intro r hr
      rw [List.dropWhile_cons] at hr
      rw [List.pairwise_cons] at hs
      split at hr
      · exact ih hs.2 r hr
      · rename_i hx
        rcases List.mem_cons.1 hr with rfl | hr
        · simpa using hx
        · cases e : ltB r l b
          · rfl
          · exact absurd (less_tr (hs.1 r hr) e) hx

/-- What place finds: the places below are those ahead. -/
theorem plc_lt {rs : List Rt} (h : Tab rs) (l b : Int) (t : Nat) (ht : t < rs.length) : (t < plc rs l b → ltB rs[t] l b = true) ∧ (plc rs l b ≤ t → ltB rs[t] l b = false) := by
  obtain ⟨A, B, rfl, hp, hA, hB⟩ := h.cut l b
  rw [hp]
  refine ⟨fun hlt => ?_, fun hge => ?_⟩
  · rw [List.getElem_append_left hlt]
    exact hA _ (List.getElem_mem _)
  · rw [List.getElem_append_right hge]
    exact hB _ (List.getElem_mem _)

/-- A table parted at a prefix: its route, if it is there. -/
theorem Tab.part {rs : List Rt} (h : Tab rs) {l b : Int} (ho : okB l b = true) :
    ∃ A B, plc rs l b = A.length ∧ (∀ r ∈ A, lessB r.1 r.2.1 l b = true) ∧ (∀ r ∈ B, lessB l b r.1 r.2.1 = true) ∧
      ((rs = A ++ B ∧ fnd rs l b = false ∧ getL rs l b = -2) ∨ ∃ h0, hopB h0 = true ∧ rs = A ++ (l, b, h0) :: B ∧ fnd rs l b = true ∧ getL rs l b = h0) := by
  obtain ⟨A, B, rfl, hp, hA, hB⟩ := h.cut l b
  have key : ∀ r ∈ B, sameB r l b = false → lessB l b r.1 r.2.1 = true := by
    intro r hr hs
    cases e : lessB l b r.1 r.2.1
    · have := less_tot (h.mem (List.mem_append_right _ hr)) ho (hB r hr) e
      simp [sameB, this] at hs
    · rfl
  cases B with
  | nil =>
    refine ⟨A, [], hp, hA, by simp, .inl ⟨rfl, ?_, ?_⟩⟩
    · unfold fnd; rw [hp]; simp
    · unfold getL; rw [hp]; simp
  | cons x B =>
    have hx : (A ++ x :: B)[plc (A ++ x :: B) l b]? = some x := by rw [hp]; simp
    have hrest : ∀ r ∈ B, lessB x.1 x.2.1 r.1 r.2.1 = true := by
      have := (List.pairwise_append.1 h.srt).2.1
      exact (List.pairwise_cons.1 this).1
    cases hs : sameB x l b
    · refine ⟨A, x :: B, hp, hA, ?_, .inl ⟨rfl, ?_, ?_⟩⟩
      · intro r hr
        rcases List.mem_cons.1 hr with rfl | hr'
        · exact key _ hr hs
        · exact less_tr (key x (by simp) hs) (hrest r hr')
      · unfold fnd; rw [hx]; simp [hs]
      · unfold getL; rw [hx]; simp [hs]
    · obtain ⟨xl, xb, xh⟩ := x
      have e : xl = l ∧ xb = b := by simpa [sameB] using hs
      obtain ⟨rfl, rfl⟩ := e
      refine ⟨A, B, hp, hA, hrest, .inr ⟨xh, (h.ok (xl, xb, xh) (by simp)).2, rfl, ?_, ?_⟩⟩
      · unfold fnd; rw [hx]; simp [hs]
      · unfold getL; rw [hx]; simp [hs]

/-- What is no prefix is not there. -/
theorem Tab.lacks {rs : List Rt} (h : Tab rs) {l b : Int} (ho : okB l b = false) : fnd rs l b = false ∧ getL rs l b = -2 := by
  have : ∀ r, rs[plc rs l b]? = some r → sameB r l b = false := by
    intro r hr
    cases hs : sameB r l b
    · rfl
    · have e : r.1 = l ∧ r.2.1 = b := by simpa [sameB] using hs
      have := h.mem (List.mem_of_getElem? hr)
      rw [e.1, e.2, ho] at this
      cases this
  unfold fnd getL
  cases hr : rs[plc rs l b]? with
  | none => simp
  | some r => simp [this r hr]

/-- A table of parts. -/
theorem Tab.mk_parts {A B : List Rt} {l b h : Int} (hAB : Tab (A ++ B)) (ho : okB l b = true) (hh : hopB h = true) (hA : ∀ r ∈ A, lessB r.1 r.2.1 l b = true) (hB : ∀ r ∈ B, lessB l b r.1 r.2.1 = true) (hl : (A ++ B).length < 40) : Tab (A ++ (l, b, h) :: B) := by
  refine ⟨?_, ?_, by simp at hl ⊢; omega⟩
  · intro r hr
    rcases List.mem_append.1 hr with hr | hr
    · exact hAB.ok r (List.mem_append_left _ hr)
    · rcases List.mem_cons.1 hr with rfl | hr
      · exact ⟨ho, hh⟩
      · exact hAB.ok r (List.mem_append_right _ hr)
  · have hp := List.pairwise_append.1 hAB.srt
    refine List.pairwise_append.2 ⟨hp.1, List.pairwise_cons.2 ⟨hB, hp.2.1⟩, ?_⟩
    intro x hx y hy
    rcases List.mem_cons.1 hy with rfl | hy
    · exact hA x hx
    · exact hp.2.2 x hx y hy
theorem Tab.drop_mid {A B : List Rt} {r : Rt} (h : Tab (A ++ r :: B)) : Tab (A ++ B) := by
  refine ⟨fun x hx => h.ok x ?_, ?_, by have := h.len; simp at this ⊢; omega⟩
  · rcases List.mem_append.1 hx with hx | hx
    · exact List.mem_append_left _ hx
    · exact List.mem_append_right _ (List.mem_cons_of_mem _ hx)
  · have hp := List.pairwise_append.1 h.srt
    exact List.pairwise_append.2 ⟨hp.1, (List.pairwise_cons.1 hp.2.1).2, fun x hx y hy => hp.2.2 x hx y (List.mem_cons_of_mem _ hy)⟩

/-- Set, by parts. -/
theorem Tab.set {rs : List Rt} (h : Tab rs) (l b h' : Int) :
    ((setL rs l b h').1 = rs ∧ (setL rs l b h').2 ≠ 0) ∨
    (okB l b = true ∧ (setL rs l b h').2 = 0 ∧ ∃ A B, plc rs l b = A.length ∧ (∀ r ∈ A, lessB r.1 r.2.1 l b = true) ∧ (∀ r ∈ B, lessB l b r.1 r.2.1 = true) ∧
      ((h' = -2 ∧ ∃ h0, hopB h0 = true ∧ rs = A ++ (l, b, h0) :: B ∧ fnd rs l b = true ∧ getL rs l b = h0 ∧ (setL rs l b h').1 = A ++ B) ∨
       (hopB h' = true ∧ h' ≠ -2 ∧ (setL rs l b h').1 = A ++ (l, b, h') :: B ∧ ((rs = A ++ B ∧ rs.length < 40 ∧ fnd rs l b = false ∧ getL rs l b = -2) ∨ ∃ h0, hopB h0 = true ∧ rs = A ++ (l, b, h0) :: B ∧ fnd rs l b = true ∧ getL rs l b = h0)))) := by
  unfold setL
  by_cases h1 : okB l b = false ∨ (hopB h' = false ∧ h' ≠ -2)
  · rw [if_pos h1]; exact .inl ⟨rfl, by simp⟩
  rw [if_neg h1]
  have ho : okB l b = true := by cases e : okB l b with | true => rfl | false => exact absurd (.inl e) h1
  obtain ⟨A, B, hp, hA, hB, hc⟩ := h.part ho
  by_cases h2 : h' = -2 ∧ fnd rs l b = false
  · rw [if_pos h2]; exact .inl ⟨rfl, by simp⟩
  rw [if_neg h2]
  by_cases h3 : h' = -2
  · rw [if_pos h3]
    rcases hc with ⟨_, e, _⟩ | ⟨h0, hh0, e, hf, hg⟩
    · exact absurd ⟨h3, e⟩ h2
    · refine .inr ⟨ho, rfl, A, B, hp, hA, hB, .inl ⟨h3, h0, hh0, e, hf, hg, ?_⟩⟩
      rw [hp, e]
      simp
  rw [if_neg h3]
  have hh : hopB h' = true := by cases e : hopB h' with | true => rfl | false => exact absurd (.inr ⟨e, h3⟩) h1
  by_cases h4 : fnd rs l b = true
  · rw [if_pos h4]
    rcases hc with ⟨_, e, _⟩ | ⟨h0, hh0, e, hf, hg⟩
    · rw [e] at h4; cases h4
    · refine .inr ⟨ho, rfl, A, B, hp, hA, hB, .inr ⟨hh, h3, ?_, .inr ⟨h0, hh0, e, hf, hg⟩⟩⟩
      rw [hp, e]
      simp
  rw [if_neg h4]
  by_cases h5 : 40 ≤ rs.length
  · rw [if_pos h5]; exact .inl ⟨rfl, by simp⟩
  rw [if_neg h5]
  rcases hc with ⟨e, hf, hg⟩ | ⟨h0, hh0, e, hf, hg⟩
  · refine .inr ⟨ho, rfl, A, B, hp, hA, hB, .inr ⟨hh, h3, ?_, .inl ⟨e, by omega, hf, hg⟩⟩⟩
    rw [hp, e]
    simp
  · exact absurd hf h4

theorem Tab.set_tab {rs : List Rt} (h : Tab rs) (l b h' : Int) : Tab (setL rs l b h').1 := by
  rcases h.set l b h' with ⟨e, _⟩ | ⟨ho, _, A, B, _, hA, hB, ⟨_, h0, _, e, _, _, e'⟩ | ⟨hh, _, e', ⟨e, hl, _⟩ | ⟨h0, _, e, _⟩⟩⟩
  · rw [e]; exact h
  · rw [e']; subst e; exact h.drop_mid
  · rw [e']; subst e; exact h.mk_parts ho hh hA hB hl
  · rw [e']; subst e
    exact h.drop_mid.mk_parts ho hh hA hB (by have := h.len; simp at this ⊢; omega)

theorem Tab.nil : Tab [] := ⟨by simp, by simp, by simp⟩

/-- Looking: from the end on. -/
def lookL (rs : List Rt) (a : Int) : Int := rs.foldl (fun acc r => if hasB r.1 r.2.1 a then r.2.2 else acc) (-1)
theorem lookL_snoc (rs : List Rt) (r : Rt) (a : Int) : lookL (rs ++ [r]) a = if hasB r.1 r.2.1 a then r.2.2 else lookL rs a := by simp [lookL]
def lookFrom (x : Int) (rs : List Rt) (a : Int) : Int := rs.foldl (fun acc r => if hasB r.1 r.2.1 a then r.2.2 else acc) x
theorem lookL_append (A B : List Rt) (a : Int) : lookL (A ++ B) a = lookFrom (lookL A a) B a := by simp [lookL, lookFrom]
theorem lookFrom_none {B : List Rt} {a : Int} (h : ∀ r ∈ B, hasB r.1 r.2.1 a = false) (x : Int) : lookFrom x B a = x := by
  induction B generalizing x with
  | nil => rfl
  | cons r B ih => simp only [lookFrom, List.foldl_cons, h r (by simp)]; exact ih (fun y hy => h y (by simp [hy])) x
theorem lookFrom_some {B : List Rt} {a : Int} (h : ∃ r ∈ B, hasB r.1 r.2.1 a = true) (x y : Int) : lookFrom x B a = lookFrom y B a := by
  induction B generalizing x y with
  | nil => simp at h
  | cons r B ih =>
    simp only [lookFrom, List.foldl_cons]
    cases hr : hasB r.1 r.2.1 a
    · obtain ⟨q, hq, hqa⟩ := h
      rcases List.mem_cons.1 hq with rfl | hq
      · rw [hr] at hqa; cases hqa
      · exact ih ⟨q, hq, hqa⟩ x y
    · rfl
theorem lookL_mid {A B : List Rt} {r : Rt} {a : Int} (hr : hasB r.1 r.2.1 a = true) (hB : ∀ s ∈ B, hasB s.1 s.2.1 a = false) : lookL (A ++ r :: B) a = r.2.2 := by
  rw [lookL_append]
  simp only [lookFrom, List.foldl_cons, hr, if_true]
  exact lookFrom_none hB _
theorem lookL_skip {A B : List Rt} {r : Rt} {a : Int} (hr : hasB r.1 r.2.1 a = false) : lookL (A ++ r :: B) a = lookL (A ++ B) a := by
  rw [lookL_append, lookL_append]
  simp [lookFrom, hr]
theorem lookL_none {rs : List Rt} {a : Int} (h : ∀ r ∈ rs, hasB r.1 r.2.1 a = false) : lookL rs a = -1 := lookFrom_none h _

/-- A route says nothing of others' addresses. -/
theorem Tab.apart {rs : List Rt} (h : Tab rs) (l b h' a : Int) (hc : (setL rs l b h').2 = 0) :
    (hasB l b a = false ∨ (∃ r ∈ rs, hasB r.1 r.2.1 a = true ∧ l < r.1) → lookL (setL rs l b h').1 a = lookL rs a) ∧
    (hasB l b a = true → (∀ r ∈ rs, hasB r.1 r.2.1 a = true → r.1 ≤ l) → h' ≠ -2 → lookL (setL rs l b h').1 a = h') := by
  rcases h.set l b h' with ⟨_, e⟩ | ⟨ho, _, A, B, _, hA, hB, hx⟩
  · exact absurd hc e
  have far : ∀ r ∈ B, hasB l b a = true → hasB r.1 r.2.1 a = true → l < r.1 := fun r hr h1 h2 => (less_len h1 h2).1 (hB r hr)
  have near : ∀ r ∈ A, hasB l b a = true → hasB r.1 r.2.1 a = true → r.1 < l := fun r hr h1 h2 => (less_len h2 h1).1 (hA r hr)
  have inB : ∀ mid : List Rt, (∀ r ∈ mid, r.1 = l) → hasB l b a = true → (∃ r ∈ A ++ (mid ++ B), hasB r.1 r.2.1 a = true ∧ l < r.1) → ∃ r ∈ B, hasB r.1 r.2.1 a = true := by
    rintro mid hmid h1 ⟨r, hr, hra, hrl⟩
    rcases List.mem_append.1 hr with hr | hr
    · have := near r hr h1 hra; omega
    · rcases List.mem_append.1 hr with hr | hr
      · have := hmid r hr; omega
      · exact ⟨r, hr, hra⟩
  have both : ∀ (m1 m2 : List Rt), (∃ r ∈ B, hasB r.1 r.2.1 a = true) → lookL (A ++ (m1 ++ B)) a = lookL (A ++ (m2 ++ B)) a := by
    intro m1 m2 hb
    rw [← List.append_assoc, ← List.append_assoc, lookL_append, lookL_append (A ++ m2)]
    exact lookFrom_some hb _ _
  have skip : ∀ h1 : Int, hasB l b a = false → lookL (A ++ (l, b, h1) :: B) a = lookL (A ++ B) a := fun h1 hn => lookL_skip (r := (l, b, h1)) hn
  have isL : ∀ h1 : Int, (∀ r ∈ [((l, b, h1) : Rt)], r.1 = l) := by simp
  rcases hx with ⟨e1, h0, _, e, _, _, e'⟩ | ⟨hh, h2, e', ⟨e, hl, _⟩ | ⟨h0, _, e, _⟩⟩
  · rw [e']; subst e
    refine ⟨fun hor => ?_, fun _ _ h3 => absurd e1 h3⟩
    cases hp : hasB l b a
    · exact (skip h0 hp).symm
    · rcases hor with hor | hor
      · rw [hp] at hor; cases hor
      · exact both [] [(l, b, h0)] (inB [(l, b, h0)] (isL h0) hp hor)
  · rw [e']; subst e
    refine ⟨fun hor => ?_, fun hp hno _ => ?_⟩
    · cases hp : hasB l b a
      · exact skip h' hp
      · rcases hor with hor | hor
        · rw [hp] at hor; cases hor
        · exact both [(l, b, h')] [] (inB [] (by simp) hp hor)
    · refine lookL_mid (r := (l, b, h')) hp fun s hs => ?_
      cases e : hasB s.1 s.2.1 a
      · rfl
      · have := far s hs hp e
        have := hno s (by simp [hs]) e
        omega
  · rw [e']; subst e
    refine ⟨fun hor => ?_, fun hp hno _ => ?_⟩
    · cases hp : hasB l b a
      · rw [skip h' hp, skip h0 hp]
      · rcases hor with hor | hor
        · rw [hp] at hor; cases hor
        · exact both [(l, b, h')] [(l, b, h0)] (inB [(l, b, h0)] (isL h0) hp hor)
    · refine lookL_mid (r := (l, b, h')) hp fun s hs => ?_
      cases e : hasB s.1 s.2.1 a
      · rfl
      · have := far s hs hp e
        have := hno s (by simp [hs]) e
        omega

theorem plc_parts {A B : List Rt} {l b : Int} (hA : ∀ r ∈ A, lessB r.1 r.2.1 l b = true) (hB : ∀ r ∈ B, lessB l b r.1 r.2.1 = true) :
    (plc (A ++ B) l b = A.length ∧ fnd (A ++ B) l b = false ∧ getL (A ++ B) l b = -2) ∧ ∀ h0, plc (A ++ (l, b, h0) :: B) l b = A.length ∧ fnd (A ++ (l, b, h0) :: B) l b = true ∧ getL (A ++ (l, b, h0) :: B) l b = h0 := by
  have hB' : ∀ r ∈ B, ltB r l b = false := fun r hr => less_asy (hB r hr)
  have ne : ∀ r ∈ B, sameB r l b = false := by
    intro r hr
    cases e : sameB r l b
    · rfl
    · have e' : r.1 = l ∧ r.2.1 = b := by simpa [sameB] using e
      have := hB r hr
      rw [e'.1, e'.2, less_irr] at this
      cases this
  refine ⟨?_, fun h0 => ?_⟩
  · have hp : plc (A ++ B) l b = A.length := by unfold plc; rw [takeWhile_all (fun r => ltB r l b) A B hA hB']
    refine ⟨hp, ?_, ?_⟩
    · unfold fnd; rw [hp]; cases B with
      | nil => simp
      | cons x B => simp [ne x (by simp)]
    · unfold getL; rw [hp]; cases B with
      | nil => simp
      | cons x B => simp [ne x (by simp)]
  · have hp : plc (A ++ (l, b, h0) :: B) l b = A.length := by
      unfold plc
      rw [takeWhile_all (fun r => ltB r l b) A ((l, b, h0) :: B) hA (fun r hr => ?_)]
      rcases List.mem_cons.1 hr with rfl | hr
      · exact less_irr l b
      · exact hB' r hr
    refine ⟨hp, ?_, ?_⟩
    · unfold fnd; rw [hp]; simp [sameB]
    · unfold getL; rw [hp]; simp [sameB]

/-- What was set and taken away is not there; what was there can be put back. -/
theorem Tab.back {rs : List Rt} (h : Tab rs) (l b h' : Int) (hc : (setL rs l b h').2 = 0) :
    getL (setL rs l b h').1 l b = h' ∧ (setL (setL rs l b h').1 l b (getL rs l b)).2 = 0 ∧ (setL (setL rs l b h').1 l b (getL rs l b)).1 = rs := by
  rcases h.set l b h' with ⟨_, e⟩ | ⟨ho, _, A, B, _, hA, hB, hx⟩
  · exact absurd hc e
  obtain ⟨⟨p1, p2, p3⟩, pp⟩ := plc_parts hA hB
  have hn : ¬ (okB l b = false) := by rw [ho]; simp
  rcases hx with ⟨e1, h0, hh0, e, _, hg, e'⟩ | ⟨hh, h2, e', ⟨e, hl, _, hg⟩ | ⟨h0, hh0, e, _, hg⟩⟩
  · rw [e', hg, p3]
    have h02 : h0 ≠ -2 := by intro e; subst e; simp [hopB] at hh0
    have hlen := h.len
    subst e
    refine ⟨e1.symm, ?_⟩
    unfold setL
    have hlt : ¬ 40 ≤ (A ++ B).length := by simp at hlen ⊢; omega
    simp only [hn, hh0, h02, p1, p2, hlt]
    simp
  · rw [e', hg]
    obtain ⟨q1, q2, q3⟩ := pp h'
    refine ⟨q3, ?_⟩
    subst e
    unfold setL
    simp only [hn, q1, q2]
    simp
  · rw [e', hg]
    obtain ⟨q1, q2, q3⟩ := pp h'
    have h02 : h0 ≠ -2 := by intro e; subst e; simp [hopB] at hh0
    refine ⟨q3, ?_⟩
    subst e
    unfold setL
    simp only [hn, hh0, h02, q1, q2]
    simp

/-- The reference's Set: one round; all rounds. -/
def stepR (l b h : Int) (st : List Rt × Bool) (r : Rt) : List Rt × Bool :=
  if sameB r l b then st else if !st.2 && lessB l b r.1 r.2.1 then (st.1 ++ [(l, b, h)] ++ [r], true) else (st.1 ++ [r], st.2)
def foldR (rs : List Rt) (l b h : Int) : List Rt × Bool := rs.foldl (stepR l b h) ([], decide (h = -2))
def outR (rs : List Rt) (l b h : Int) : List Rt := if (foldR rs l b h).2 then (foldR rs l b h).1 else (foldR rs l b h).1 ++ [(l, b, h)]

theorem foldR_snoc (rs : List Rt) (r : Rt) (l b h : Int) : foldR (rs ++ [r]) l b h = stepR l b h (foldR rs l b h) r := by simp [foldR]

theorem step_A {l b h : Int} {A : List Rt} (hA : ∀ r ∈ A, lessB r.1 r.2.1 l b = true) (out : List Rt) (put : Bool) : A.foldl (stepR l b h) (out, put) = (out ++ A, put) := by
  induction A generalizing out with
  | nil => simp
  | cons r A ih =>
    have hr := hA r (by simp)
    have hs : sameB r l b = false := by
      cases e : sameB r l b
      · rfl
      · have e' : r.1 = l ∧ r.2.1 = b := by simpa [sameB] using e
        rw [e'.1, e'.2, less_irr] at hr; cases hr
    have h1 : stepR l b h (out, put) r = (out ++ [r], put) := by simp [stepR, hs, less_asy hr]
    rw [List.foldl_cons, h1, ih (fun x hx => hA x (by simp [hx]))]
    simp
theorem step_B {l b h : Int} {B : List Rt} (hB : ∀ r ∈ B, lessB l b r.1 r.2.1 = true) (out : List Rt) : B.foldl (stepR l b h) (out, true) = (out ++ B, true) := by
  induction B generalizing out with
  | nil => simp
  | cons r B ih =>
    have hr := hB r (by simp)
    have hs : sameB r l b = false := by
      cases e : sameB r l b
      · rfl
      · have e' : r.1 = l ∧ r.2.1 = b := by simpa [sameB] using e
        rw [e'.1, e'.2, less_irr] at hr; cases hr
    have h1 : stepR l b h (out, true) r = (out ++ [r], true) := by simp [stepR, hs]
    rw [List.foldl_cons, h1, ih (fun x hx => hB x (by simp [hx]))]
    simp
theorem step_B0 {l b h : Int} {B : List Rt} (hB : ∀ r ∈ B, lessB l b r.1 r.2.1 = true) (out : List Rt) :
    (if (B.foldl (stepR l b h) (out, false)).2 then (B.foldl (stepR l b h) (out, false)).1 else (B.foldl (stepR l b h) (out, false)).1 ++ [(l, b, h)]) = out ++ (l, b, h) :: B := by
  cases B with
  | nil => simp
  | cons r B =>
    have hr := hB r (by simp)
    have hs : sameB r l b = false := by
      cases e : sameB r l b
      · rfl
      · have e' : r.1 = l ∧ r.2.1 = b := by simpa [sameB] using e
        rw [e'.1, e'.2, less_irr] at hr; cases hr
    have h1 : stepR l b h (out, false) r = (out ++ [(l, b, h)] ++ [r], true) := by simp [stepR, hs, hr]
    rw [List.foldl_cons, h1, step_B (fun x hx => hB x (by simp [hx]))]
    simp
theorem step_same (l b h h0 : Int) (st : List Rt × Bool) : stepR l b h st (l, b, h0) = st := by simp [stepR, sameB]

theorem Tab.outR {rs : List Rt} (h : Tab rs) (l b h' : Int) (hc : (setL rs l b h').2 = 0) : outR rs l b h' = (setL rs l b h').1 := by
  rcases h.set l b h' with ⟨_, e⟩ | ⟨ho, _, A, B, _, hA, hB, hx⟩
  · exact absurd hc e
  rcases hx with ⟨e1, h0, _, e, _, _, e'⟩ | ⟨hh, h2, e', ⟨e, hl, _⟩ | ⟨h0, _, e, _⟩⟩
  · rw [e']; subst e e1
    unfold Go.Proofs.YtfcknkanbcndjagGreatDoor.outR foldR
    rw [List.foldl_append, step_A hA, List.foldl_cons, step_same]
    simp only [decide_true, step_B hB]
    simp
  · rw [e']; subst e
    unfold Go.Proofs.YtfcknkanbcndjagGreatDoor.outR foldR
    rw [List.foldl_append, step_A hA]
    simp only [h2, decide_false, List.nil_append]
    exact step_B0 hB A
  · rw [e']; subst e
    unfold Go.Proofs.YtfcknkanbcndjagGreatDoor.outR foldR
    rw [List.foldl_append, step_A hA, List.foldl_cons, step_same]
    simp only [h2, decide_false, List.nil_append]
    exact step_B0 hB A

/-- The reference's Get. -/
def getR (rs : List Rt) (l b : Int) : Int := match rs.find? (fun r => sameB r l b && okB l b) with | some r => r.2.2 | none => -2
theorem Tab.getR {rs : List Rt} (h : Tab rs) (l b : Int) : getR rs l b = getL rs l b := by
  cases ho : okB l b
  · rw [(h.lacks ho).2]
    unfold Go.Proofs.YtfcknkanbcndjagGreatDoor.getR
    have e : rs.find? (fun r => sameB r l b && okB l b) = none := by rw [List.find?_eq_none]; intro r _; simp [ho]
    rw [e]
  · obtain ⟨A, B, _, hA, hB, hx⟩ := h.part ho
    have nA : ∀ r ∈ A, sameB r l b = false := by
      intro r hr
      cases e : sameB r l b
      · rfl
      · have e' : r.1 = l ∧ r.2.1 = b := by simpa [sameB] using e
        have := hA r hr
        rw [e'.1, e'.2, less_irr] at this; cases this
    have nB : ∀ r ∈ B, sameB r l b = false := by
      intro r hr
      cases e : sameB r l b
      · rfl
      · have e' : r.1 = l ∧ r.2.1 = b := by simpa [sameB] using e
        have := hB r hr
        rw [e'.1, e'.2, less_irr] at this; cases this
    have fA : A.find? (fun r => sameB r l b && okB l b) = none := by
      rw [List.find?_eq_none]; intro r hr; simp [nA r hr]
    have fB : B.find? (fun r => sameB r l b && okB l b) = none := by
      rw [List.find?_eq_none]; intro r hr; simp [nB r hr]
    unfold Go.Proofs.YtfcknkanbcndjagGreatDoor.getR
    rcases hx with ⟨e, _, hg⟩ | ⟨h0, _, e, _, hg⟩
    · rw [hg, e, List.find?_append, fA, fB]; rfl
    · rw [hg, e, List.find?_append, fA]
      simp [sameB, ho]

end Go.Proofs.YtfcknkanbcndjagGreatDoor

/- ROUTES IN MEMORY: what a slice of routes reads as; what a table is; what a call that writes a table leaves. -/
namespace Go.Proofs.YtfcknkanbcndjagGreatDoor
open Go.RowKit

/-- A slice at 'ao' reads as these routes; its block is one of M. -/
def RowAt (w : World) (M : Nat → Prop) (ao : Option Addr) (rs : List Rt) : Prop :=
  rs = [] ∨ ∃ b o, ao = some ⟨b, o, none⟩ ∧ b < w.heap.size ∧ M b ∧ ∀ i (h : i < rs.length),
    w.cell? ⟨b, o + i * 3, none⟩ = some (iv rs[i].1) ∧ w.cell? ⟨b, o + i * 3 + 1, none⟩ = some (iv rs[i].2.1) ∧ w.cell? ⟨b, o + i * 3 + 2, none⟩ = some (iv rs[i].2.2)

theorem RowAt.nil (w : World) (M : Nat → Prop) (ao : Option Addr) : RowAt w M ao [] := .inl rfl

theorem RowAt.mono {w : World} {M N : Nat → Prop} {ao : Option Addr} {rs : List Rt} (h : RowAt w M ao rs) (hm : ∀ k, k < w.heap.size → M k → N k) : RowAt w N ao rs := by
  rcases h with h | ⟨b, o, ha, hb, hM, hc⟩
  · exact .inl h
  · exact .inr ⟨b, o, ha, hb, hm b hb hM, hc⟩

theorem RowAt.kept {w w' : World} {M : Nat → Prop} {ao : Option Addr} {rs : List Rt} (h : RowAt w M ao rs) (k : Kp M w w') : RowAt w' M ao rs := by
  rcases h with h | ⟨b, o, ha, hb, hM, hc⟩
  · exact .inl h
  · refine .inr ⟨b, o, ha, Nat.lt_of_lt_of_le hb k.size, hM, fun i hi => ?_⟩
    have e : ∀ q, w'.cell? ⟨b, q, none⟩ = w.cell? ⟨b, q, none⟩ := fun q => World.cell?_of_block (a := ⟨b, q, none⟩) (k.block b hb hM)
    rw [e, e, e]
    exact hc i hi
theorem RowAt.gr {w w' : World} {M : Nat → Prop} {ao : Option Addr} {rs : List Rt} (h : RowAt w M ao rs) (k : Gr w w') : RowAt w' M ao rs := h.kept (k.kp M)

/-- Cells of routes. -/
def cel (r : Rt) : List Value := [iv r.1, iv r.2.1, iv r.2.2]
def cels (rs : List Rt) : List Value := rs.flatMap cel

theorem cels_cons (r : Rt) (rs : List Rt) : cels (r :: rs) = iv r.1 :: iv r.2.1 :: iv r.2.2 :: cels rs := rfl
theorem cels_append (a b : List Rt) : cels (a ++ b) = cels a ++ cels b := by simp [cels]
theorem cels_length : ∀ rs : List Rt, (cels rs).length = rs.length * 3
  | [] => rfl
  | r :: rs => by rw [cels_cons]; simp only [List.length_cons, cels_length rs]; omega
theorem cels_take : ∀ (rs : List Rt) (i : Nat), (cels rs).take (i * 3) = cels (rs.take i)
  | [], i => by simp [cels]
  | r :: rs, 0 => by simp [cels]
  | r :: rs, i + 1 => by
    rw [show (i + 1) * 3 = i * 3 + 1 + 1 + 1 by omega, cels_cons]
    simp only [List.take_succ_cons, cels_take rs i, cels_cons]
theorem cels_drop : ∀ (rs : List Rt) (i : Nat), (cels rs).drop (i * 3) = cels (rs.drop i)
  | [], i => by simp [cels]
  | r :: rs, 0 => by simp [cels]
  | r :: rs, i + 1 => by
    rw [show (i + 1) * 3 = i * 3 + 1 + 1 + 1 by omega, cels_cons]
    simp only [List.drop_succ_cons, cels_drop rs i]
theorem cels_one : ∀ (rs : List Rt), ∀ u ∈ cels rs, u.oneCell' = true
  | [], u, h => by cases h
  | r :: rs, u, h => by
    rw [cels_cons] at h
    simp only [List.mem_cons] at h
    rcases h with rfl | rfl | rfl | h
    · rfl
    · rfl
    · rfl
    · exact cels_one rs u h
theorem cels_at : ∀ (rs : List Rt) (i : Nat) (h : i < rs.length), (cels rs)[i * 3]? = some (iv rs[i].1) ∧ (cels rs)[i * 3 + 1]? = some (iv rs[i].2.1) ∧ (cels rs)[i * 3 + 2]? = some (iv rs[i].2.2)
  | r :: rs, 0, _ => by simp [cels_cons]
  | r :: rs, i + 1, h => by
    have ih := cels_at rs i (by simpa using h)
    rw [cels_cons, show (i + 1) * 3 = i * 3 + 1 + 1 + 1 by omega]
    refine ⟨?_, ?_, ?_⟩
    · simpa using ih.1
    · rw [show i * 3 + 1 + 1 + 1 + 1 = (i * 3 + 1) + 1 + 1 + 1 by omega]; simpa using ih.2.1
    · rw [show i * 3 + 1 + 1 + 1 + 2 = (i * 3 + 2) + 1 + 1 + 1 by omega]; simpa using ih.2.2
/-- Every cell of routes is one of a route's three. -/
theorem cels_cells {w : World} {b o : Nat} {rs : List Rt} (h : ∀ i (h : i < rs.length),
    w.cell? ⟨b, o + i * 3, none⟩ = some (iv rs[i].1) ∧ w.cell? ⟨b, o + i * 3 + 1, none⟩ = some (iv rs[i].2.1) ∧ w.cell? ⟨b, o + i * 3 + 2, none⟩ = some (iv rs[i].2.2)) :
    ∀ j u, (cels rs)[j]? = some u → w.cell? ⟨b, o + j, none⟩ = some u := by
  intro j u hj
  have hl : j < rs.length * 3 := by
    have := (List.getElem?_eq_some_iff.1 hj).1
    rwa [cels_length] at this
  have hi : j / 3 < rs.length := by omega
  have hc := h (j / 3) hi
  have ha := cels_at rs (j / 3) hi
  have h3 : j % 3 = 0 ∨ j % 3 = 1 ∨ j % 3 = 2 := by omega
  rcases h3 with h3 | h3 | h3
  · have e : j = j / 3 * 3 := by omega
    rw [e] at hj ⊢
    rw [ha.1] at hj
    rw [hc.1, hj]
  · have e : j = j / 3 * 3 + 1 := by omega
    rw [e] at hj ⊢
    rw [ha.2.1] at hj
    rw [← Nat.add_assoc, hc.2.1, hj]
  · have e : j = j / 3 * 3 + 2 := by omega
    rw [e] at hj ⊢
    rw [ha.2.2] at hj
    rw [← Nat.add_assoc, hc.2.2, hj]

/-- A row that the program owns, read. -/
theorem rowAt_own {w : World} {base : Nat} {M : Nat → Prop} {ao : Option Addr} {n c : Nat} {rs : List Rt} (h : w.ownsRow base 133 3 (.slice ao n c) n (cels rs)) (hM : ∀ a, ao = some a → M a.block) : RowAt w M ao rs ∧ rs.length = n ∧ n ≤ c ∧ c ≤ maxLen := by
  have hl : rs.length = n := by have := h.1; rw [cels_length] at this; omega
  obtain ⟨_, hh⟩ := h
  rcases hh with ⟨h1, h2⟩ | ⟨g, cap, cur, h1, hb, hg, hn, hc, hs, ht⟩
  · cases h1
    have : rs = [] := List.eq_nil_of_length_eq_zero hl
    subst this
    exact ⟨.inl rfl, rfl, Nat.le_refl _, by unfold maxLen; omega⟩
  · cases h1
    refine ⟨.inr ⟨g, 0, rfl, (Array.getElem?_eq_some_iff.1 hg).1, hM _ rfl, fun i hi => ?_⟩, hl, hn, hc⟩
    have e : ∀ j, j < n * 3 → w.cell? ⟨g, 0 + j, none⟩ = (cels rs)[j]? := by
      intro j hj
      rw [← ht, List.getElem?_take_of_lt hj]
      simp [World.cell?, hg]
    have ha := cels_at rs i hi
    rw [Nat.add_assoc, Nat.add_assoc, e _ (by omega), e _ (by omega), e _ (by omega)]
    exact ha

/-- A table: its one cell, its row; none of M's blocks is its own; M's blocks are there. -/
structure TabS (w : World) (M : Nat → Prop) (tb : Nat) (v : Value) (rs : List Rt) : Prop where
  cell : w.heap[tb]? = some (.cells #[v] 171 (0, 0))
  own : w.ownsRow 0 133 3 v rs.length (cels rs)
  notTb : ¬ M tb
  notRow : ∀ g, v.ownBlock = some g → ¬ M g
  bd : ∀ k, M k → k < w.heap.size

theorem TabS.kept {w w' : World} {M N : Nat → Prop} {tb : Nat} {v : Value} {rs : List Rt} (h : TabS w M tb v rs) (k : Kp N w w') (h1 : N tb) (h2 : ∀ g, v.ownBlock = some g → N g) : TabS w' M tb v rs := by
  have hlt := lt_of_block h.cell
  refine ⟨by rw [k.block tb hlt h1]; exact h.cell, ⟨h.own.1, ?_⟩, h.notTb, h.notRow, fun j hj => Nat.lt_of_lt_of_le (h.bd j hj) k.size⟩
  rcases h.own.2 with hn | ⟨g, cap, cur, rfl, hb, hgg, rest⟩
  · exact .inl hn
  · exact .inr ⟨g, cap, cur, rfl, hb, by rw [k.block g (lt_of_block hgg) (h2 g rfl)]; exact hgg, rest⟩
theorem TabS.gr {w w' : World} {M : Nat → Prop} {tb : Nat} {v : Value} {rs : List Rt} (h : TabS w M tb v rs) (k : Gr w w') : TabS w' M tb v rs :=
  h.kept (k.kp fun _ => True) trivial (fun _ _ => trivial)
theorem TabS.lt {w : World} {M : Nat → Prop} {tb : Nat} {v : Value} {rs : List Rt} (h : TabS w M tb v rs) : tb < w.heap.size := lt_of_block h.cell
/-- More to be kept: what has been made since. -/
theorem TabS.more {w w' : World} {M : Nat → Prop} {tb : Nat} {v : Value} {rs : List Rt} (h : TabS w M tb v rs) (k : Gr w w') : TabS w' (fun b => M b ∨ (w.heap.size ≤ b ∧ b < w'.heap.size)) tb v rs := by
  have h' := h.gr k
  refine ⟨h'.cell, h'.own, fun e => ?_, fun g hg e => ?_, fun j hj => ?_⟩
  · rcases e with e | e
    · exact h.notTb e
    · have := h.lt; omega
  · rcases e with e | e
    · exact h.notRow g hg e
    · have := (h.own.lt g hg).2; omega
  · rcases hj with hj | hj
    · exact h'.bd j hj
    · exact hj.2
/-- The row is not the table's own cell. -/
theorem TabS.ne {w : World} {M : Nat → Prop} {tb : Nat} {v : Value} {rs : List Rt} (h : TabS w M tb v rs) : v.ownBlock ≠ some tb := by
  intro e
  rcases h.own.2 with ⟨hn, _⟩ | ⟨g, cap, cur, hv, hb, hgg, rest⟩
  · rw [hn] at e; cases e
  · rw [hv] at e
    simp only [Value.ownBlock, Option.some.injEq] at e
    rw [e, h.cell] at hgg
    simp at hgg
theorem TabS.cell0 {w : World} {M : Nat → Prop} {tb : Nat} {v : Value} {rs : List Rt} (h : TabS w M tb v rs) : w.cell? ⟨tb, 0, none⟩ = some v := cell_of_one h.cell
/-- The table's slice, as it is read. -/
theorem TabS.shape {w : World} {M : Nat → Prop} {tb : Nat} {v : Value} {rs : List Rt} (h : TabS w M tb v rs) : ∃ ao c, v = .slice ao rs.length c ∧ RowAt w (fun _ => True) ao rs := by
  have ho := h.own
  rcases ho.2 with ⟨rfl, hn⟩ | ⟨g, cap, cur, rfl, hb, hgg, rest⟩
  · have : rs = [] := List.eq_nil_of_length_eq_zero hn
    subst this
    exact ⟨none, 0, rfl, .inl rfl⟩
  · exact ⟨_, _, rfl, (rowAt_own ho (fun _ _ => trivial)).1⟩
/-- A new table. -/
theorem TabS.new (w : World) (M : Nat → Prop) (hM : ∀ k, M k → k < w.heap.size) : TabS (w.alloc (.cells #[.slice none 0 0] 171)) M w.heap.size (.slice none 0 0) [] :=
  ⟨heap_alloc_new w _, World.ownsRow_nil _ _ _ _, fun e => by have := hM _ e; omega, fun g hg => (by cases hg), fun k hk => by have := hM k hk; simp; omega⟩
/-- The row has been moved or written; the table's cell is stored. -/
theorem TabS.store {w w2 : World} {M : Nat → Prop} {tb n' : Nat} {v v' : Value} {rs rs' : List Rt} (h : TabS w M tb v rs) (hg : w.grownBy w2 v.ownBlock) (ho : w2.ownsRow 0 133 3 v' n' (cels rs')) (hn : rs'.length = n') (hv : v'.ownBlock = v.ownBlock ∨ ∀ k, v'.ownBlock = some k → w.heap.size ≤ k) :
    (w2.cell? ⟨tb, 0, none⟩ = some v ∧ w2.frozen? ⟨tb, 0, none⟩ = false) ∧ TabS (w2.setCell ⟨tb, 0, none⟩ v') M tb v' rs' ∧ Kp M w (w2.setCell ⟨tb, 0, none⟩ v') := by
  have hb : w2.heap[tb]? = some (.cells #[v] 171 (0, 0)) := by rw [hg.block tb h.lt (fun e => h.ne e.symm)]; exact h.cell
  have hne : v'.ownBlock ≠ some tb := by
    intro e
    rcases hv with hv | hv
    · exact h.ne (hv ▸ e)
    · have := hv tb e; have := h.lt; omega
  subst hn
  refine ⟨⟨cell_of_one hb, free_of_one hb⟩, ⟨one_setCell hb, ownsRow_setCell_other ho hne v', h.notTb, ?_, ?_⟩, ?_⟩
  · intro g e hMg
    rcases hv with hv | hv
    · exact h.notRow g (hv ▸ e) hMg
    · have := hv g e; have := h.bd g hMg; omega
  · intro k hk
    have := h.bd k hk; have := hg.size
    simp; omega
  · refine ⟨hg.os, hg.tape, hg.output, by have := hg.size; simpa using this, fun k hk hMk => ?_⟩
    rw [heap_setCell_other w2 ⟨tb, 0, none⟩ k v' (fun e => h.notTb (by have e' : k = tb := e; rw [← e']; exact hMk))]
    exact hg.block k hk (fun e => h.notRow k e.symm hMk)

end Go.Proofs.YtfcknkanbcndjagGreatDoor

/- CONTRACTS OF package table that only read: held, Look, Get, List, All, place. -/
namespace Go.Proofs.YtfcknkanbcndjagGreatDoor
open Go.RowKit
attribute [local go_sem] Ext.all Ext.cell Ext.frozen Ext.lt Ext.lt1 Ext.lt2 Ext.ne Ext.ne'
theorem held_any (w : World) (tb : Nat) (v : Value) (hc : w.cell? ⟨tb, 0, none⟩ = some v) :
    Calls Tryz.prog 62 #[.pointer (some ⟨tb, 0, none⟩)] w fun e w' => e = .returned v ∧ w' = w := by
  go_enter Tryz.func62, Tryz.ntmps62
  go_wp2
  go_ret
  exact ⟨rfl, rfl⟩

theorem look_any (w : World) (M : Nat → Prop) (tb : Nat) (ao : Option Addr) (n c : Nat) (rs : List Rt) (a : Int) (hc : w.cell? ⟨tb, 0, none⟩ = some (.slice ao n c)) (H : RowAt w M ao rs) (hn : rs.length = n) (hm : n ≤ 1000) :
    Calls Tryz.prog 34 #[.pointer (some ⟨tb, 0, none⟩), .int .i64 a] w fun e w' => e = .returned (.int .i64 (lookL rs a)) ∧ ∃ d : Ext w, w' = d.out := by
  go_enter Tryz.func34, Tryz.ntmps34
  go_wp2_with (go_at_call 62; refine (held_any w tb _ hc).mono ?_; rintro e w1 ⟨rfl, hw1⟩; subst hw1)
  go_loopw [6] (fun i wr => ∃ (k : Nat) (j : Int), (k : Int) - 1 ≤ j ∧ j ≤ (k : Int) - 1 ∧ k ≤ n ∧ i = .int .i64 j ∧ Hid (lookL (rs.take k) a = lookL rs a) ∧ Gr w1 wr) (fun i _ => (intOf i + 1).toNat)
  case atStart => exact ⟨n, _, by omega, by omega, Nat.le_refl _, rfl, by unfold Hid; rw [List.take_of_length_le (by omega)], Gr.refl _⟩
  case round =>
    obtain ⟨k, j, hj1, hj2, hk, rfl, HL, g⟩ := hrel
    obtain ⟨d, rfl⟩ := ext_mk g
    clear hc
    by_cases h0 : k = 0
    · subst h0
      have hj : j = -1 := by omega
      subst hj
      have hr : -1 = lookL rs a := HL.out
      clear H
      go_wp2
      go_ret
      exact ⟨ret_int hr, _, rfl⟩
    · obtain ⟨m, rfl⟩ : ∃ m, k = m + 1 := ⟨k - 1, by omega⟩
      have hj : j = (m : Int) := by omega
      subst hj
      have hkr : m < rs.length := by omega
      rcases H with rfl | ⟨b, o, rfl, hb, hM, hcs⟩
      · simp at hn; omega
      obtain ⟨c1, c2, c3⟩ := hcs m hkr
      have HS : Hid (lookL (rs.take (m + 1)) a = if hasB rs[m].1 rs[m].2.1 a then rs[m].2.2 else lookL (rs.take m) a) := by unfold Hid; rw [List.take_succ_eq_append_getElem hkr, lookL_snoc]
      clear hcs
      generalize rs[m] = r at c1 c2 c3 HS
      obtain ⟨rl, rb, rh⟩ := r
      simp only at c1 c2 c3 HS
      cases hh : hasB rl rb a
      · have HR : Hid (lookL (rs.take m) a = lookL rs a) := by unfold Hid; have := HS.out; rw [hh] at this; simp at this; rw [← this]; exact HL.out
        have HH : Hid (hasB rl rb a = false) := hh
        clear hh HS HL
        go_wp2_with (go_at_call 63; with_reducible refine (Calls.ext_of (has_is HH.out _)).mono ?_; rintro e _ ⟨rfl, d1, rfl⟩)
        go_roundw
        case rel => exact ⟨m, _, by omega, by omega, by omega, rfl, HR, d1.gr⟩
        case measure => simp [intOf]
      · have HR : Hid (rh = lookL rs a) := by unfold Hid; have := HS.out; rw [hh] at this; simp at this; rw [← this]; exact HL.out
        have HH : Hid (hasB rl rb a = true) := hh
        clear hh HS HL
        go_wp2_with (go_at_call 63; with_reducible refine (Calls.ext_of (has_is HH.out _)).mono ?_; rintro e _ ⟨rfl, d1, rfl⟩)
        go_ret
        exact ⟨ret_int HR.out, _, rfl⟩

/-- Is the route at i not ahead of p? (The closure that place hands to the search.) -/
theorem place1_any (w : World) (M : Nat → Prop) (rb pb : Nat) (ao : Option Addr) (n c : Nat) (rs : List Rt) (l b : Int) (i : Nat) (hrb : w.cell? ⟨rb, 0, none⟩ = some (.slice ao n c)) (hp0 : w.cell? ⟨pb, 0, none⟩ = some (iv l)) (hp1 : w.cell? ⟨pb, 1, none⟩ = some (iv b))
    (hr : rb < w.heap.size) (hpb : pb < w.heap.size) (H : RowAt w M ao rs) (hn : rs.length = n) (hi : i < n) (v : Bool) (hv : Hid ((rs[i]?.map fun r => lessB r.1 r.2.1 l b) = some v)) :
    Calls Tryz.prog 154 #[.int .i64 i, .pointer (some ⟨rb, 0, none⟩), .pointer (some ⟨pb, 0, none⟩)] w fun e w' => e = .returned (.bool (!v)) ∧ ∃ d : Ext w, w' = d.out := by
  rcases H with rfl | ⟨rbk, o, rfl, hb, hM, hcs⟩
  · simp at hn; omega
  have hir : i < rs.length := by omega
  obtain ⟨c1, c2, c3⟩ := hcs i hir
  have HV : Hid (lessB rs[i].1 rs[i].2.1 l b = v) := by unfold Hid; have := hv.out; rw [List.getElem?_eq_getElem hir] at this; simpa using this
  clear hcs hv
  generalize rs[i] = r at c1 c2 c3 HV
  obtain ⟨rl, rbb, rh⟩ := r
  simp only at c1 c2 c3 HV
  go_enter Tryz.func154, Tryz.ntmps154
  go_wp2
  refine wp_region_ext (by kernel_rfl) (by kernel_rfl) ?_
  repeat (go_big_quiet_step ((go_at_call 152; with_reducible exact Calls.ext_of (less_is HV.out _))))
  refine wpQuiet_nil ?_
  rintro _ ⟨d1, rfl⟩
  go_wp2
  go_ret
  exact ⟨rfl, _, rfl⟩

end Go.Proofs.YtfcknkanbcndjagGreatDoor

/- CONTRACTS: sort.Search at the closure of place; place; Get; Hop; IsHop; New. -/
namespace Go.Proofs.YtfcknkanbcndjagGreatDoor
open Go.RowKit
attribute [local go_sem] Ext.all Ext.cell Ext.frozen Ext.lt Ext.lt1 Ext.lt2 Ext.ne Ext.ne'
theorem search_any (w : World) (rb pb n cnt : Nat) (p : Nat → Bool) (hm : n ≤ 1000)
    (hf : ∀ (d : Ext w) (i : Nat), i < n → Calls Tryz.prog 154 #[.int .i64 i, .pointer (some ⟨rb, 0, none⟩), .pointer (some ⟨pb, 0, none⟩)] d.out fun e w' => e = .returned (.bool (p i)) ∧ ∃ d' : Ext d.out, w' = d'.out)
    (hc : cnt ≤ n) (h0 : ∀ t, t < cnt → p t = false) (h1 : ∀ t, cnt ≤ t → t < n → p t = true) :
    Calls Tryz.prog 153 #[.int .i64 n, .func (.func 154) #[] #[.pointer (some ⟨rb, 0, none⟩), .pointer (some ⟨pb, 0, none⟩)]] w fun e w' => e = .returned (.int .i64 cnt) ∧ ∃ d : Ext w, w' = d.out := by
  have HF : Hid _ := hf
  have H0 : Hid _ := h0
  have H1 : Hid _ := h1
  clear hf h0 h1
  go_enter Tryz.func153, Tryz.ntmps153
  go_wp2
  go_loopw [5, 6] (fun s5 s6 wr => ∃ (lo hi : Nat), s5 = .int .i64 lo ∧ s6 = .int .i64 hi ∧ lo ≤ cnt ∧ cnt ≤ hi ∧ hi ≤ n ∧ Gr w wr) (fun s5 s6 _ => (intOf s6 - intOf s5).toNat)
  case atStart => exact ⟨0, n, rfl, rfl, Nat.zero_le _, hc, Nat.le_refl _, Gr.refl _⟩
  case round =>
    obtain ⟨lo, hi, rfl, rfl, hlc, hch, hin, g⟩ := hrel
    obtain ⟨d, rfl⟩ := ext_mk g
    by_cases hlt : lo < hi
    · have hcl := HF.out d ((lo + hi) / 2) (by omega)
      rw [show (((lo + hi) / 2 : Nat) : Int) = ((lo : Int) + (hi : Int)) / 2 by omega] at hcl
      cases hp : p ((lo + hi) / 2) <;> rw [hp] at hcl
      · have hlo : (lo + hi) / 2 < cnt := by
          rcases Nat.lt_or_ge ((lo + hi) / 2) cnt with h | h
          · exact h
          · rw [H1.out _ h (by omega)] at hp; cases hp
        clear hp
        have HC : Hid _ := hcl
        clear hcl
        go_wp2_with (go_at_call 154; refine (Calls.ext_of HC.out).mono ?_; rintro e _ ⟨rfl, d1, rfl⟩)
        go_roundw
        case rel => exact ⟨(lo + hi) / 2 + 1, hi, by go_num, rfl, by omega, hch, hin, d1.gr⟩
        case measure => simp [intOf]; omega
      · have hlo : cnt ≤ (lo + hi) / 2 := by
          rcases Nat.lt_or_ge ((lo + hi) / 2) cnt with h | h
          · rw [H0.out _ h] at hp; cases hp
          · exact h
        clear hp
        have HC : Hid _ := hcl
        clear hcl
        go_wp2_with (go_at_call 154; refine (Calls.ext_of HC.out).mono ?_; rintro e _ ⟨rfl, d1, rfl⟩)
        go_roundw
        case rel => exact ⟨lo, (lo + hi) / 2, rfl, by go_num, hlc, by omega, by omega, d1.gr⟩
        case measure => simp [intOf]; omega
    · have : lo = cnt := by omega
      subst this
      go_wp2
      go_ret
      exact ⟨rfl, _, rfl⟩

theorem boxes (w : World) (l b : Int) (v : Value) : ∃ W, W = (w.alloc (.cells #[iv l, iv b] 52)).alloc (.cells #[v] 108) ∧ Gr w W ∧ W.cell? ⟨w.heap.size + 1, 0, none⟩ = some v ∧ W.cell? ⟨w.heap.size, 0, none⟩ = some (iv l) ∧ W.cell? ⟨w.heap.size, 1, none⟩ = some (iv b) ∧ w.heap.size + 1 < W.heap.size ∧ w.heap.size < W.heap.size := by
  refine ⟨_, rfl, ((Gr.refl w).alloc _).alloc _, ?_, ?_, ?_, ?_, ?_⟩ <;> simp [go_sem] <;> omega

theorem place_any (w : World) (M : Nat → Prop) (tb : Nat) (ao : Option Addr) (n c : Nat) (rs : List Rt) (l b : Int) (hc : w.cell? ⟨tb, 0, none⟩ = some (.slice ao n c)) (htb : tb < w.heap.size) (H : RowAt w M ao rs) (hn : rs.length = n) (hT : Tab rs) :
    Calls Tryz.prog 117 #[.pointer (some ⟨tb, 0, none⟩), pfx l b] w fun e w' => e = .returned (.tuple #[.int .i64 (plc rs l b), .bool (fnd rs l b)]) ∧ ∃ d : Ext w, w' = d.out := by
  have hc1 : ∀ o, (w.alloc o).cell? ⟨tb, 0, none⟩ = some (.slice ao n c) := fun o => (Ext.cell ⟨w.alloc o, (Gr.refl w).alloc o⟩ tb 0 htb).trans hc
  obtain ⟨W, hW, g0, b0, b1, b2, s1, s0⟩ := boxes w l b (.slice ao n c)
  have HW : Hid (W = _) := hW
  clear hW
  have hle := plc_le rs l b
  have hm : n ≤ 1000 := by have := hT.len; omega
  have HP : Hid (∀ t (ht : t < rs.length), (t < plc rs l b → ltB rs[t] l b = true) ∧ (plc rs l b ≤ t → ltB rs[t] l b = false)) := plc_lt hT l b
  have hrow := H.gr g0
  have HS : Hid (Calls Tryz.prog 153 #[.int .i64 n, .func (.func 154) #[] #[.pointer (some ⟨w.heap.size + 1, 0, none⟩), .pointer (some ⟨w.heap.size, 0, none⟩)]] W fun e w' => e = .returned (.int .i64 (plc rs l b)) ∧ ∃ d : Ext W, w' = d.out) := by
    refine search_any W _ _ n (plc rs l b) (fun i => !((rs[i]?.map fun r => lessB r.1 r.2.1 l b).getD true)) hm ?_ (by omega) ?_ ?_
    · intro d i hi
      have hir : i < rs.length := by omega
      refine place1_any d.out M _ _ ao n c rs l b i ?_ ?_ ?_ ?_ ?_ (hrow.gr d.gr) hn hi _ (by unfold Hid; rw [List.getElem?_eq_getElem hir]; simp)
      · rw [d.cell _ _ s1]; exact b0
      · rw [d.cell _ _ s0]; exact b1
      · rw [d.cell _ _ s0]; exact b2
      · exact d.lt _ s1
      · exact d.lt _ s0
    · intro t ht
      have hir : t < rs.length := by omega
      have := (HP.out t hir).1 ht
      simp only [List.getElem?_eq_getElem hir, Option.map_some, Option.getD_some]
      unfold ltB at this; rw [this]; rfl
    · intro t ht htn
      have hir : t < rs.length := by omega
      have := (HP.out t hir).2 ht
      simp only [List.getElem?_eq_getElem hir, Option.map_some, Option.getD_some]
      unfold ltB at this; rw [this]; rfl
  clear HP
  have HF : Hid (fnd rs l b = (rs[plc rs l b]?).any (fun r => sameB r l b)) := rfl
  generalize plc rs l b = k at *
  generalize fnd rs l b = f at *
  by_cases hk : k < n
  · have hd : decide ((k : Int) < (n : Int)) = true := by simpa using hk
    have hkr : k < rs.length := by omega
    rcases hrow with rfl | ⟨rbk, o, rfl, hb, hM, hcs⟩
    · simp at hn; omega
    obtain ⟨c1, c2, c3⟩ := hcs k hkr
    have HV : Hid (f = (rs[k].1 == l && rs[k].2.1 == b)) := by unfold Hid; have := HF.out; rw [List.getElem?_eq_getElem hkr] at this; rw [this]; simp [sameB]; rw [Bool.eq_iff_iff]; simp
    clear hcs HF
    generalize rs[k] = r at *
    obtain ⟨rl, rbb, rh⟩ := r
    simp only at c1 c2 c3
    have e3 : ((rl == l) = false ∧ f = false) ∨ ((rl == l) = true ∧ (rbb == b) = false ∧ f = false) ∨ ((rl == l) = true ∧ (rbb == b) = true ∧ f = true) := by
      have := HV.out
      simp only at this
      cases h1 : rl == l <;> cases h2 : rbb == b <;> simp [this, h1, h2]
    rcases e3 with ⟨e1, rfl⟩ | ⟨e1, e2, rfl⟩ | ⟨e1, e2, rfl⟩
    all_goals
      go_enter Tryz.func117, Tryz.ntmps117
      go_wp2_with (first | (go_at_call 62; refine (held_any _ tb _ (hc1 _)).mono ?_; rintro e w1 ⟨rfl, hw1⟩; subst hw1) | (go_at_call 153; rw [← HW.out]; refine HS.out.mono ?_; rintro e _ ⟨rfl, d1, rfl⟩))
      go_quiet (fail)
      go_wp2
      go_ret2
      exact ⟨rfl, ext_mk ((g0.ext d1).drewN _)⟩
  · have hd : decide ((k : Int) < (n : Int)) = false := by simp; omega
    have hf : f = false := by have := HF.out; rw [List.getElem?_eq_none (by omega)] at this; simpa using this
    subst hf
    clear HF
    go_enter Tryz.func117, Tryz.ntmps117
    go_wp2_with (first | (go_at_call 62; refine (held_any _ tb _ (hc1 _)).mono ?_; rintro e w1 ⟨rfl, hw1⟩; subst hw1) | (go_at_call 153; rw [← HW.out]; refine HS.out.mono ?_; rintro e _ ⟨rfl, d1, rfl⟩))
    go_quiet (fail)
    go_wp2
    go_ret2
    exact ⟨rfl, ext_mk ((g0.ext d1).drewN _)⟩

theorem hop_any (h : Int) (w : World) : Calls Tryz.prog 116 #[.int .i64 h] w fun e w' => e = .returned (.bool (hopB h)) ∧ ∃ d : Ext w, w' = d.out := by
  have e3 : ((h == -1) = true ∧ hopB h = true) ∨ ((h == -1) = false ∧ decide (0 ≤ h) = false ∧ hopB h = false) ∨ ((h == -1) = false ∧ decide (0 ≤ h) = true ∧ hopB h = decide (h < 6)) := by
    unfold hopB
    by_cases h1 : h = -1
    · exact .inl (by simp [h1])
    · by_cases h2 : 0 ≤ h
      · exact .inr (.inr (by simp [h1, h2]))
      · exact .inr (.inl (by simp [h1, h2]))
  rcases e3 with ⟨e1, e⟩ | ⟨e1, e2, e⟩ | ⟨e1, e2, e⟩
  all_goals
    rw [e]; clear e
    go_enter Tryz.func116, Tryz.ntmps116
    go_wp2
    go_ret
    exact ⟨rfl, ext_mk (Gr.refl _)⟩
theorem hop_is {h : Int} {v : Bool} (e : hopB h = v) (w : World) : Calls Tryz.prog 116 #[.int .i64 h] w fun e w' => e = .returned (.bool v) ∧ ∃ d : Ext w, w' = d.out := by subst e; exact hop_any h w

theorem isHop_any (h : Int) (w : World) : Calls Tryz.prog 105 #[.int .i64 h] w fun e w' => e = .returned (.bool (hopB h)) ∧ ∃ d : Ext w, w' = d.out := by
  have e3 : ((h == -1) = true ∧ hopB h = true) ∨ ((h == -1) = false ∧ decide (0 ≤ h) = false ∧ hopB h = false) ∨ ((h == -1) = false ∧ decide (0 ≤ h) = true ∧ hopB h = decide (h < 6)) := by
    unfold hopB
    by_cases h1 : h = -1
    · exact .inl (by simp [h1])
    · by_cases h2 : 0 ≤ h
      · exact .inr (.inr (by simp [h1, h2]))
      · exact .inr (.inl (by simp [h1, h2]))
  rcases e3 with ⟨e1, e⟩ | ⟨e1, e2, e⟩ | ⟨e1, e2, e⟩
  all_goals
    rw [e]; clear e
    go_enter Tryz.func105, Tryz.ntmps105
    go_wp2
    go_ret
    exact ⟨rfl, ext_mk (Gr.refl _)⟩
theorem isHop_is {h : Int} {v : Bool} (e : hopB h = v) (w : World) : Calls Tryz.prog 105 #[.int .i64 h] w fun e w' => e = .returned (.bool v) ∧ ∃ d : Ext w, w' = d.out := by subst e; exact isHop_any h w

/-- A new table. -/
theorem new_any (w : World) : Calls Tryz.prog 47 #[] w fun e w' => e = .returned (.pointer (some ⟨w.heap.size, 0, none⟩)) ∧ w' = w.alloc (.cells #[.slice none 0 0] 171) := by
  go_enter Tryz.func47, Tryz.ntmps47
  go_wp2
  go_ret
  exact ⟨rfl, rfl⟩

end Go.Proofs.YtfcknkanbcndjagGreatDoor

/- BUILTINS ON ROWS OF ROUTES (three cells each): append from a row, copy, clear; as run equations and as steps of a walk. -/
namespace Go.Proofs.YtfcknkanbcndjagGreatDoor
open Go.RowKit

theorem Tryz.info133 : (Tryz.prog.info? 133).map (fun i => (i.zero, i.size, i.bytes)) = some (some (.agg #[iv 0, iv 0, iv 0]), 3, 24) := by kernel_rfl
theorem Tryz.size133 : (Tryz.prog.info? 133).map (·.size) = some 3 := by kernel_rfl

theorem run_copy_row3 {P : Program} (w : World) (dT sT ty elem : TypeId) (g o dLen dCap : Nat) (a : Addr) (sLen sCap : Nat) (cur : Array Value) (t : TypeId) (cs : List Value)
    (hu : P.underlying dT = some (.slice elem)) (hs : (P.info? elem).map (·.size) = some 3)
    (hg : w.heap[g]? = some (.cells cur t (0, 0))) (hn : cs.length = Nat.min sLen dLen * 3)
    (hsrc : ∀ j v, cs[j]? = some v → w.cell? (a.add j) = some v) (hfit : o + cs.length ≤ cur.size) (h1 : ∀ v ∈ cs, v.oneCell' = true) :
    (Builtin.copy_ #[dT, sT] ty #[.slice (some ⟨g, o, none⟩) dLen dCap, .slice (some a) sLen sCap]).run P w =
      .ok (goInt (Nat.min sLen dLen)) (w.setRow g (cur.toList.take o ++ cs ++ cur.toList.drop (o + cs.length)).toArray) := by
  have hl := run_loadCells_list (P := P) w a cs hsrc
  have hst := run_storeCells_at P g o t cs 0 cur w hg (by simpa using hfit) h1
  cases hq : P.info? elem with
  | none => simp [hq] at hs
  | some i =>
    have hi : i.size = 3 := by simpa [hq] using hs
    simp [Builtin.copy_, run_underlying hu, Builtin.lenOf, Builtin.firstCells, sizeOf, typeInfo, hq, hi, ← hn, hl, hst]

theorem run_clear_row3 {P : Program} (w : World) (t e ty : TypeId) (z : Value) (ht : P.underlying t = some (.slice e)) (hv : ∀ w, (zeroValue e).run P w = .ok z w) (zs : List Value) (hz : (Builtin.zeroCells z.cells 1).toList = zs) (h1 : ∀ v ∈ zs, v.oneCell' = true)
    (g o c : Nat) (cur : Array Value) (te : TypeId) (hg : w.heap[g]? = some (.cells cur te (0, 0))) (hfit : o + zs.length ≤ cur.size) :
    (Builtin.clear_ #[t] ty #[.slice (some ⟨g, o, none⟩) 1 c]).run P w = .ok (.tuple #[]) (w.setRow g (cur.toList.take o ++ zs ++ cur.toList.drop (o + zs.length)).toArray) := by
  have hst := run_storeCells_at P g o te zs 0 cur w hg (by simpa using hfit) h1
  simp only [Nat.add_zero] at hst
  simp [Builtin.clear_, run_underlying ht, hv, hz, hst]

/-- An append whose run is known, as one step of a region that draws. -/
theorem step_append_eqR {P : Program} {ops : Array Oper} {o : Oper} {a : Act} {w : World} {K : Act → World → Prop} {Q : Exit → Act → World → Prop} {E : Prop}
    (hg : o.guard = none) (d x : Operand) (dT sT : TypeId) (hop : o.op = Op.call { callee := Callee.builtin Builtin.append, args := #[d, x], argTypes := #[dT, sT] })
    (v u : Value) (hd : a.eval d = v) (hx : a.eval x = u) {v' : Value} {w' : World} (hr : (Builtin.append_ #[dT, sT] o.type #[v, u]).run P w = .ok v' w') (hK : K (a.put o.dst v') w') :
    if Region.wanted o (yielded ops a.tmps) = true then Oper.wp P o a w K Q else E := by
  have hw : Region.wanted o (yielded ops a.tmps) = true := by simp [Region.wanted, hg]
  rw [if_pos hw]
  unfold Oper.wp
  simp [execOp, hop, resolve, invoke, builtin, hd, hx, hr, Result.andThen]
  exact hK
theorem step_copy_eq {P : Program} {ops : Array Oper} {o : Oper} {a : Act} {w : World} {K : Act → World → Prop} {Q : Exit → Act → World → Prop} {E : Prop}
    (hg : o.guard = none) (d x : Operand) (dT sT : TypeId) (hop : o.op = Op.call { callee := Callee.builtin Builtin.copy, args := #[d, x], argTypes := #[dT, sT] })
    (v u : Value) (hd : a.eval d = v) (hx : a.eval x = u) {v' : Value} {w' : World} (hr : (Builtin.copy_ #[dT, sT] o.type #[v, u]).run P w = .ok v' w') (hK : K (a.put o.dst v') w') :
    if Region.wanted o (yielded ops a.tmps) = true then Oper.wp P o a w K Q else E := by
  have hw : Region.wanted o (yielded ops a.tmps) = true := by simp [Region.wanted, hg]
  rw [if_pos hw]
  unfold Oper.wp
  simp [execOp, hop, resolve, invoke, builtin, hd, hx, hr, Result.andThen]
  exact hK
/-- 'append(nil, l...)': a new row, or nil. -/
theorem run_append_new (w : World) (M : Nat → Prop) (ty : TypeId) (ao : Option Addr) (n c : Nat) (rs : List Rt) (H : RowAt w M ao rs) (hn : rs.length = n) (hm : n ≤ 1000000) :
    ∃ v' w', (Builtin.append_ #[108, 108] ty #[.slice none 0 0, .slice ao n c]).run Tryz.prog w = .ok v' w' ∧ w'.ownsRow w.heap.size 133 3 v' n (cels rs) ∧ w.grownBy w' none := by
  obtain ⟨i0, hi, hz0, hz1, hz2⟩ := info_parts Tryz.info133
  cases ao with
  | none =>
    have h0 : rs = [] := by
      rcases H with h | ⟨b, o, h, _⟩
      · exact h
      · cases h
    subst h0
    have : n = 0 := by simpa using hn.symm
    subst this
    refine ⟨.slice none 0 0, w, ?_, World.ownsRow_nil _ _ _ _, World.grownBy.refl _ _⟩
    simp [Builtin.append_, run_underlying Tryz.underlying108, sizeOf, typeInfo, hi, Builtin.lenOf, Builtin.firstCells]
  | some a =>
    have hc : ∀ j u, (cels rs)[j]? = some u → w.cell? (a.add j) = some u := by
      rcases H with h | ⟨b, o, h, _, _, hcs⟩
      · subst h; intro j u hj; simp [cels] at hj
      · cases h
        intro j u hj
        rw [Addr.add_lit]
        exact cels_cells hcs j u hj
    obtain ⟨v', w', h1, h2, h3, _⟩ := run_append_own (P := Tryz.prog) w w.heap.size 108 ty 133 i0 _ 3 24 Tryz.underlying108 hi hz0 hz1 hz2 (by rfl) (by decide) (.slice none 0 0) 0 [] (World.ownsRow_nil _ _ _ _)
      a n c (cels rs) (by rw [cels_length, hn]) hc (cels_one rs) (by unfold maxLen; omega) (by omega) (Nat.le_refl _)
    simp only [Nat.zero_add, List.nil_append] at h2
    exact ⟨v', w', h1, h2, h3⟩

end Go.Proofs.YtfcknkanbcndjagGreatDoor
