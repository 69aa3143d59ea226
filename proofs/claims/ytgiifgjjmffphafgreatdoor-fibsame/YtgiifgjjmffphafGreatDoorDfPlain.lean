import Derived.Test.YtgiifgjjmffphafGreatDoorLPlain
import Derived.Test.YtgiifgjjmffphafGreatDoorTMem
import Derived.Sort.Statements
/- AS FEW AS CAN BE: by these routes all go as they did; no sorted list of routes by which all go so has fewer; one less is not enough. No Go here. -/
namespace Go.Proofs.YtgiifgjjmffphafGreatDoor

theorem lookFrom_append (x : Int) (A B : List Rt) (a : Int) : lookFrom x (A ++ B) a = lookFrom (lookFrom x A a) B a := by simp [lookFrom]
theorem lookFrom_cons (x : Int) (r : Rt) (B : List Rt) (a : Int) : lookFrom x (r :: B) a = lookFrom (if hasB r.1 r.2.1 a then r.2.2 else x) B a := rfl
theorem lookFrom_nil (x a : Int) : lookFrom x [] a = x := rfl
theorem lookL_from (rs : List Rt) (a : Int) : lookL rs a = lookFrom (-1) rs a := rfl

/-- A route of a part: it stands in the prefix l, b. -/
structure Ins (l b : Int) (r : Rt) : Prop where
  ok : okB r.1 r.2.1 = true
  fst : firstI l b ≤ firstI r.1 r.2.1
  lst : lastI r.1 r.2.1 ≤ lastI l b
  len : l ≤ r.1
theorem Ins.has {l b : Int} {r : Rt} (h : Ins l b r) (ho : okB l b = true) {a : Int} (ha : hasB r.1 r.2.1 a = true) : hasB l b a = true := by
  have := (span_has (a := a) h.ok).2.2.2.1 ha
  have h1 := h.fst; have h2 := h.lst
  exact (span_has (a := a) ho).2.2.2.2 (by omega)
theorem Ins.low {k : Nat} {l b : Int} {o : Nat} {r : Rt} (hS : SpT (k + 1) l b o) (h : Ins (l + 1) (b * 2) r) : Ins l b r := by
  have e1 := hS.first; have e2 := hS.low.first; have e3 := hS.last; have e4 := hS.low.last
  have e5 : 2 ^ (k + 1) = 2 ^ k + 2 ^ k := by rw [Nat.pow_succ]; omega
  have e0 := Nat.pow_pos (n := k) (show 0 < 2 by decide)
  have h1 := h.fst; have h2 := h.lst; have h3 := h.len
  exact ⟨h.ok, by omega, by omega, by omega⟩
theorem Ins.high {k : Nat} {l b : Int} {o : Nat} {r : Rt} (hS : SpT (k + 1) l b o) (h : Ins (l + 1) (b * 2 + 1) r) : Ins l b r := by
  have e1 := hS.first; have e2 := hS.high.first; have e3 := hS.last; have e4 := hS.high.last
  have e5 : 2 ^ (k + 1) = 2 ^ k + 2 ^ k := by rw [Nat.pow_succ]; omega
  have e0 := Nat.pow_pos (n := k) (show 0 < 2 by decide)
  have h1 := h.fst; have h2 := h.lst; have h3 := h.len
  exact ⟨h.ok, by omega, by omega, by omega⟩

/-- All routes of the least table stand in their part, and go to hops. -/
theorem least_ins {f : Nat → Int} (hf : ∀ j, f j ∈ hopsR) : ∀ {k : Nat} {l b : Int} {o : Nat} {h : Int}, SpT k l b o → ∀ r ∈ leastR f k l b o h, Ins l b r ∧ hopB r.2.2 = true
  | 0, l, b, o, h, hS, r, hr => by
    rw [leastR] at hr
    split at hr
    · simp at hr
    · have : r = (l, b, lowW (wish f 0 o) h) := by simpa using hr
      subst this
      exact ⟨⟨hS.2.1, Int.le_refl _, Int.le_refl _, Int.le_refl _⟩, hop_mem.2 (lowW_is (wish_some hf 0 o) h).2⟩
  | k + 1, l, b, o, h, hS, r, hr => by
    rw [leastR] at hr
    rcases List.mem_append.1 hr with hr | hr
    · split at hr
      · simp at hr
      · have : r = (l, b, lowW (wish f (k + 1) o) h) := by simpa using hr
        subst this
        exact ⟨⟨hS.2.1, Int.le_refl _, Int.le_refl _, Int.le_refl _⟩, hop_mem.2 (lowW_is (wish_some hf (k + 1) o) h).2⟩
    · split at hr
      · simp at hr
      · rcases List.mem_append.1 hr with hr | hr
        · obtain ⟨h1, h2⟩ := least_ins hf hS.low r hr
          exact ⟨h1.low hS, h2⟩
        · obtain ⟨h1, h2⟩ := least_ins hf hS.high r hr
          exact ⟨h1.high hS, h2⟩
/-- They stand in order. -/
theorem least_srt {f : Nat → Int} (hf : ∀ j, f j ∈ hopsR) : ∀ {k : Nat} {l b : Int} {o : Nat} {h : Int}, SpT k l b o → (leastR f k l b o h).Pairwise (fun r s => lessB r.1 r.2.1 s.1 s.2.1 = true)
  | 0, l, b, o, h, hS => by
    rw [leastR]
    split <;> simp
  | k + 1, l, b, o, h, hS => by
    rw [leastR]
    have e1 := hS.first
    have e2 := hS.low.first
    have e3 := hS.low.last
    have e4 := hS.high.first
    have e0 := Nat.pow_pos (n := k) (show 0 < 2 by decide)
    refine List.pairwise_append.2 ⟨?_, ?_, ?_⟩
    · split <;> simp
    · split
      · simp
      · refine List.pairwise_append.2 ⟨least_srt hf hS.low, least_srt hf hS.high, fun r hr s hs => ?_⟩
        obtain ⟨h1, _⟩ := least_ins hf hS.low r hr
        obtain ⟨h2, _⟩ := least_ins hf hS.high s hs
        have g1 := h1.lst; have g2 := h2.fst
        have g3 := (span_has (a := 0) h1.ok).2.1
        rw [less_iff]; omega
    · intro r hr s hs
      split at hr
      · simp at hr
      · have : r = (l, b, lowW (wish f (k + 1) o) h) := by simpa using hr
        subst this
        split at hs
        · simp at hs
        · rcases List.mem_append.1 hs with hs | hs
          · obtain ⟨h2, _⟩ := least_ins hf hS.low s hs
            have g2 := h2.fst; have g3 := h2.len
            rw [less_iff]; simp only; omega
          · obtain ⟨h2, _⟩ := least_ins hf hS.high s hs
            have g2 := h2.fst; have g3 := h2.len
            rw [less_iff]; simp only; omega
/-- By them all go as they should. -/
theorem least_look {f : Nat → Int} (hf : ∀ j, f j ∈ hopsR) : ∀ {k : Nat} {l b : Int} {o : Nat} {h : Int}, SpT k l b o → ∀ a : Int, hasB l b a = true → lookFrom h (leastR f k l b o h) a = f a.toNat
  | k, l, b, o, h, hS, a, ha => by
    by_cases hk : Alk f o (2 ^ k)
    · have e : f a.toNat = f o := by
        have h2 := (hS.has a).1 ha
        have := hk (a.toNat - o) (by omega)
        rwa [show o + (a.toNat - o) = a.toNat by omega] at this
      have hl : leastR f k l b o h = if wish f k o h then [] else [(l, b, lowW (wish f k o) h)] := by
        cases k with
        | zero => rw [leastR]
        | succ k => rw [leastR, if_pos hk, List.append_nil]
      rw [hl, e]
      split
      · rename_i hw
        rw [wish_alk hk] at hw
        rw [lookFrom_nil]; simpa using hw
      · have hw := (lowW_is (wish_some hf k o) h).1
        rw [wish_alk hk] at hw
        rw [lookFrom_cons, lookFrom_nil, if_pos ha]
        simpa using hw
    · cases k with
      | zero => exact absurd (alk_one f o) hk
      | succ k =>
        rw [leastR, if_neg hk, lookFrom_append, lookFrom_append]
        have hn : lookFrom h (if wish f (k + 1) o h then [] else [(l, b, lowW (wish f (k + 1) o) h)]) a = nxt (wish f (k + 1) o) h := by
          unfold nxt
          split
          · rw [lookFrom_nil]
          · rw [lookFrom_cons, lookFrom_nil, if_pos ha]
        rw [hn]
        have h1 := (hS.has a).1 ha
        have e5 : 2 ^ (k + 1) = 2 ^ k + 2 ^ k := by rw [Nat.pow_succ]; omega
        cases hl : hasB (l + 1) (b * 2) a
        · have hr : hasB (l + 1) (b * 2 + 1) a = true := by
            rw [hS.high.has a]
            have : ¬ ((o : Int) ≤ a ∧ a < ((o + 2 ^ k : Nat) : Int)) := fun q => by rw [(hS.low.has a).2 q] at hl; cases hl
            omega
          rw [lookFrom_none (B := leastR f k (l + 1) (b * 2) o (nxt (wish f (k + 1) o) h)) (fun r hr => ?_)]
          · exact least_look hf hS.high a hr
          · cases e : hasB r.1 r.2.1 a
            · rfl
            · rw [(least_ins hf hS.low r hr).1.has hS.low.2.1 e] at hl; cases hl
        · rw [least_look hf hS.low a hl]
          refine lookFrom_none (fun r hr => ?_) _
          cases e : hasB r.1 r.2.1 a
          · rfl
          · have g1 := (hS.high.has a).1 ((least_ins hf hS.high r hr).1.has hS.high.2.1 e)
            have g2 := (hS.low.has a).1 hl
            omega

theorem lookFrom_filter {p : Rt → Bool} {a : Int} : ∀ (J : List Rt) (x : Int), (∀ r ∈ J, p r = false → hasB r.1 r.2.1 a = false) → lookFrom x (J.filter p) a = lookFrom x J a
  | [], x, _ => rfl
  | r :: J, x, h => by
    have ih := fun y => lookFrom_filter J y (fun s hs => h s (by simp [hs]))
    rw [List.filter_cons, lookFrom_cons]
    cases hp : p r
    · rw [if_neg (by simp), h r (by simp) hp]; exact ih x
    · rw [if_pos rfl, lookFrom_cons]; exact ih _
theorem filter_lens (p : Rt → Bool) : ∀ J : List Rt, (J.filter p).length + (J.filter (fun r => !p r)).length = J.length
  | [] => rfl
  | r :: J => by
    have ih := filter_lens p J
    rw [List.filter_cons, List.filter_cons]
    cases hp : p r <;> simp <;> omega
theorem off_le (W : Int → Bool) (h : Int) : off W h ≤ 1 := by unfold off; split <;> omega

/-- A route in a half, or in the other one. -/
theorem Ins.part {k : Nat} {l b : Int} {o : Nat} {r : Rt} (hS : SpT (k + 1) l b o) (h : Ins l b r) (hl : l < r.1) :
    (firstI r.1 r.2.1 < ((o + 2 ^ k : Nat) : Int) → Ins (l + 1) (b * 2) r) ∧ (¬ firstI r.1 r.2.1 < ((o + 2 ^ k : Nat) : Int) → Ins (l + 1) (b * 2 + 1) r) := by
  have e1 := hS.first; have e2 := hS.low.first; have e3 := hS.last; have e4 := hS.low.last
  have e6 := hS.high.first; have e7 := hS.high.last
  have e5 : 2 ^ (k + 1) = 2 ^ k + 2 ^ k := by rw [Nat.pow_succ]; omega
  have e0 := Nat.pow_pos (n := k) (show 0 < 2 by decide)
  have h1 := h.fst; have h2 := h.lst; have h3 := h.len
  refine ⟨fun hq => ⟨h.ok, by omega, ?_, by omega⟩, fun hq => ⟨h.ok, by omega, by omega, by omega⟩⟩
  obtain ⟨r0, r8, rb, rl, _, _⟩ := ok_pows h.ok
  have f1 := first_is_ok h.ok
  have f2 := last_is_ok h.ok
  have hk8 : l + (k + 1 : Nat) = 8 := hS.1
  obtain ⟨d, hd⟩ : ∃ d : Nat, k = d + (8 - r.1).toNat := ⟨k - (8 - r.1).toNat, by omega⟩
  have hp : (2 : Int) ^ k = 2 ^ d * 2 ^ (8 - r.1).toNat := by rw [hd, Int.pow_add]
  have hpos : (0 : Int) < 2 ^ (8 - r.1).toNat := Int.pow_pos (by decide)
  have ho : ((o + 2 ^ k : Nat) : Int) = (b * 2 + 1) * 2 ^ k := by rw [← hS.high.2.2]
  have hc : ((2 ^ k : Nat) : Int) = (2 : Int) ^ k := by simp
  have hmid : lastI (l + 1) (b * 2) + 1 = (b * 2 + 1) * 2 ^ d * 2 ^ (8 - r.1).toNat := by rw [e4, ho, hp, Int.mul_assoc]
  have hq2 : r.2.1 * 2 ^ (8 - r.1).toNat < (b * 2 + 1) * 2 ^ d * 2 ^ (8 - r.1).toNat := by
    rw [← f1, ← hmid, e4]; exact hq
  have hlt : r.2.1 < (b * 2 + 1) * 2 ^ d := Int.lt_of_mul_lt_mul_right hq2 (Int.le_of_lt hpos)
  have hle := Int.mul_le_mul_of_nonneg_right (show r.2.1 + 1 ≤ (b * 2 + 1) * 2 ^ d by omega) (Int.le_of_lt hpos)
  rw [Int.add_mul, Int.one_mul] at hle
  rw [f2]; omega

/-- No sorted list of routes in a part by which all go so has fewer. -/
theorem min_part {f : Nat → Int} (hf : ∀ j, f j ∈ hopsR) : ∀ (k : Nat) {l b : Int} {o : Nat} (I : List Rt) (h : Int), SpT k l b o → (∀ r ∈ I, Ins l b r) → I.Pairwise (fun r s => lessB r.1 r.2.1 s.1 s.2.1 = true) →
    (∀ a, hasB l b a = true → lookFrom h I a = f a.toNat) → few f k o + off (wish f k o) h ≤ I.length
  | 0, l, b, o, I, h, hS, hI, _, hL => by
    rw [few]
    cases I with
    | nil =>
      have := hL (o : Int) ((hS.has _).2 (by omega))
      rw [lookFrom_nil] at this
      have hw : wish f 0 o h = true := by rw [wish]; simpa using this
      rw [off_wish hw]; exact Nat.le_refl _
    | cons r I =>
      have := off_le (wish f 0 o) h
      simp only [List.length_cons]; omega
  | k + 1, l, b, o, I, h, hS, hI, hP, hL => by
    -- strictly inside
    have strict : ∀ (J : List Rt) (g : Int), (∀ r ∈ J, Ins l b r ∧ l < r.1) → J.Pairwise (fun r s => lessB r.1 r.2.1 s.1 s.2.1 = true) → (∀ a, hasB l b a = true → lookFrom g J a = f a.toNat) → few f (k + 1) o + off (wish f (k + 1) o) g ≤ J.length := by
      intro J g hJ hJP hJL
      have e0 := Nat.pow_pos (n := k) (show 0 < 2 by decide)
      have e5 : 2 ^ (k + 1) = 2 ^ k + 2 ^ k := by rw [Nat.pow_succ]; omega
      let p : Rt → Bool := fun r => decide (firstI r.1 r.2.1 < ((o + 2 ^ k : Nat) : Int))
      have hlo : ∀ r ∈ J, p r = true → Ins (l + 1) (b * 2) r := fun r hr hp => (Ins.part hS (hJ r hr).1 (hJ r hr).2).1 (of_decide_eq_true hp)
      have hhi : ∀ r ∈ J, p r = false → Ins (l + 1) (b * 2 + 1) r := fun r hr hp => (Ins.part hS (hJ r hr).1 (hJ r hr).2).2 (of_decide_eq_false hp)
      have i1 := min_part hf k (J.filter p) g hS.low (fun r hr => by rw [List.mem_filter] at hr; exact hlo r hr.1 hr.2) (hJP.filter p) (fun a ha => by
        rw [lookFrom_filter]
        · exact hJL a ((hS.has a).2 (by have := (hS.low.has a).1 ha; omega))
        · intro r hr hp
          cases e : hasB r.1 r.2.1 a
          · rfl
          · have g1 := (hS.high.has a).1 ((hhi r hr hp).has hS.high.2.1 e)
            have g2 := (hS.low.has a).1 ha
            omega)
      have i2 := min_part hf k (J.filter (fun r => !p r)) g hS.high (fun r hr => by rw [List.mem_filter] at hr; exact hhi r hr.1 (by simpa using hr.2)) (hJP.filter _) (fun a ha => by
        rw [lookFrom_filter]
        · exact hJL a ((hS.has a).2 (by have := (hS.high.has a).1 ha; omega))
        · intro r hr hp
          cases e : hasB r.1 r.2.1 a
          · rfl
          · have g1 := (hS.low.has a).1 ((hlo r hr (by simpa using hp)).has hS.low.2.1 e)
            have g2 := (hS.high.has a).1 ha
            omega)
      have i3 := filter_lens p J
      have i4 := few_le hf k o g
      omega
    -- a route of the part itself stands first
    have hone : ∀ r, Ins l b r → ¬ l < r.1 → r.1 = l ∧ r.2.1 = b := by
      intro r hr hn
      have e1 : r.1 = l := by have := hr.len; omega
      refine ⟨e1, ?_⟩
      have h1 := hr.fst; have h2 := hr.lst
      have e2 := first_is_ok hr.ok; have e3 := last_is_ok hr.ok
      have e4 := first_is_ok hS.2.1; have e6 := last_is_ok hS.2.1
      rw [e1] at e2 e3
      have e7 : firstI r.1 r.2.1 = firstI l b := by rw [e1] at h1 h2 ⊢; omega
      have hp : (0 : Int) < 2 ^ (8 - l).toNat := Int.pow_pos (by decide)
      rw [e1, e2, e4] at e7
      exact Int.eq_of_mul_eq_mul_right (by omega) e7
    have hnl : ∀ x, Ins l b x → lessB x.1 x.2.1 l b = false := by
      intro x hx
      have h1 := hx.fst; have h2 := hx.len
      cases e : lessB x.1 x.2.1 l b
      · rfl
      · rw [less_iff] at e; omega
    cases I with
    | nil => exact strict [] h (by simp) (by simp) hL
    | cons r I =>
      rw [List.pairwise_cons] at hP
      have tail : ∀ s ∈ I, Ins l b s ∧ l < s.1 := by
        intro s hs
        refine ⟨hI s (by simp [hs]), ?_⟩
        by_cases hq : l < s.1
        · exact hq
        · obtain ⟨q1, q2⟩ := hone s (hI s (by simp [hs])) hq
          have := hP.1 s hs
          rw [q1, q2, hnl r (hI r (by simp))] at this
          cases this
      by_cases hr : l < r.1
      · exact strict (r :: I) h (fun s hs => by
          rcases List.mem_cons.1 hs with rfl | hs
          · exact ⟨hI _ (by simp), hr⟩
          · exact tail s hs) (List.pairwise_cons.2 hP) hL
      · obtain ⟨q1, q2⟩ := hone r (hI r (by simp)) hr
        have := strict I r.2.2 tail hP.2 (fun a ha => by
          have := hL a ha
          rw [lookFrom_cons, q1, q2, if_pos ha] at this
          exact this)
        have := off_le (wish f (k + 1) o) h
        simp only [List.length_cons]; omega

/-- The table of as few as can be. -/
def leastT (f : Nat → Int) : List Rt := leastR f 8 0 0 0 (-1)
theorem mem_m1 : (-1 : Int) ∈ hopsR := by decide
theorem least_T_len {f : Nat → Int} (hf : ∀ j, f j ∈ hopsR) : (leastT f).length = few f 8 0 + off (wish f 8 0) (-1) := least_len hf 8 0 0 0 mem_m1
theorem cnts_T {f : Nat → Int} (hf : ∀ j, f j ∈ hopsR) : cnts f 8 0 (-1) = (leastT f).length := by rw [least_T_len hf, cnts_is hf 8 0 mem_m1]
theorem least_T_look {f : Nat → Int} (hf : ∀ j, f j ∈ hopsR) (j : Nat) (hj : j < 256) : lookL (leastT f) j = f j := by
  rw [lookL_from, leastT, least_look hf SpT.root j ((root_has _).2 (by omega))]; simp
theorem ins_root {r : Rt} (h : okB r.1 r.2.1 = true) : Ins 0 0 r := by
  obtain ⟨g0, g1, g2, _⟩ := span_has (a := 0) h
  obtain ⟨h0, _⟩ := ok_iff.1 h
  have e1 : firstI 0 0 = 0 := by decide
  have e2 : lastI 0 0 = 255 := by decide
  exact ⟨h, by omega, by omega, h0⟩
/-- NO TABLE HAS FEWER. -/
theorem least_min {f : Nat → Int} (hf : ∀ j, f j ∈ hopsR) {rs : List Rt} (ho : ∀ r ∈ rs, okB r.1 r.2.1 = true) (hs : rs.Pairwise (fun r s => lessB r.1 r.2.1 s.1 s.2.1 = true)) (hl : ∀ j : Nat, j < 256 → lookL rs j = f j) : (leastT f).length ≤ rs.length := by
  rw [least_T_len hf]
  refine min_part hf 8 rs (-1) SpT.root (fun r hr => ins_root (ho r hr)) hs (fun a ha => ?_)
  obtain ⟨a0, a1⟩ := (root_has a).1 ha
  have := hl a.toNat (by omega)
  rw [show ((a.toNat : Nat) : Int) = a by omega] at this
  exact this
theorem least_T_ok {f : Nat → Int} (hf : ∀ j, f j ∈ hopsR) : (∀ r ∈ leastT f, okB r.1 r.2.1 = true ∧ hopB r.2.2 = true) ∧ (leastT f).Pairwise (fun r s => lessB r.1 r.2.1 s.1 s.2.1 = true) :=
  ⟨fun r hr => ⟨(least_ins hf SpT.root r hr).1.ok, (least_ins hf SpT.root r hr).2⟩, least_srt hf SpT.root⟩
theorem least_tab {f : Nat → Int} (hf : ∀ j, f j ∈ hopsR) (h : (leastT f).length ≤ 40) : Tab (leastT f) := ⟨(least_T_ok hf).1, (least_T_ok hf).2, h⟩
/-- One route less is not enough. -/
theorem least_less {f : Nat → Int} (hf : ∀ j, f j ∈ hopsR) {A B : List Rt} {r : Rt} (e : leastT f = A ++ r :: B) : ¬ ∀ j : Nat, j < 256 → lookL (A ++ B) j = f j := by
  intro h
  obtain ⟨h1, h2⟩ := least_T_ok hf
  rw [e] at h1 h2
  have hs : (A ++ B).Pairwise (fun r s => lessB r.1 r.2.1 s.1 s.2.1 = true) := h2.sublist (List.Sublist.append_left (List.sublist_cons_self r B) A)
  have := least_min hf (fun s hs => (h1 s (by rcases List.mem_append.1 hs with q | q <;> simp [q])).1) hs h
  rw [e] at this
  simp at this
  omega
/-- With another hop of one of its routes addresses go otherwise. -/
theorem least_other {f : Nat → Int} (hf : ∀ j, f j ∈ hopsR) {A B : List Rt} {l b g g' : Int} (e : leastT f = A ++ (l, b, g) :: B) (hne : g' ≠ g) : ¬ ∀ j : Nat, j < 256 → lookL (A ++ (l, b, g') :: B) j = f j := by
  intro h
  by_cases hu : ∃ a, hasB l b a = true ∧ ∀ s ∈ B, hasB s.1 s.2.1 a = false
  · obtain ⟨a, ha, hB⟩ := hu
    obtain ⟨_, a0, a1, _⟩ := has_iff.1 ha
    have h1 := h a.toNat (by omega)
    have h2 := least_T_look hf a.toNat (by omega)
    rw [show ((a.toNat : Nat) : Int) = a by omega] at h1 h2
    rw [e, lookL_mid (r := (l, b, g)) ha hB] at h2
    rw [lookL_mid (r := (l, b, g')) ha hB] at h1
    exact hne (h1.trans h2.symm)
  · refine least_less hf e fun j hj => ?_
    have h2 := least_T_look hf j hj
    rw [e] at h2
    rw [← h2]
    cases ha : hasB l b j
    · exact (lookL_skip (r := (l, b, g)) ha).symm
    · rw [lookL_append, lookL_append, lookFrom_cons, if_pos ha]
      refine lookFrom_some ?_ _ _
      refine Classical.byContradiction fun hn => hu ⟨j, ha, fun s hs => ?_⟩
      cases q : hasB s.1 s.2.1 j
      · rfl
      · exact absurd ⟨s, hs, q⟩ hn

end Go.Proofs.YtgiifgjjmffphafGreatDoor

/- CHANGES BETWEEN TABLES: what is to be changed in one so that it is another one; changes done one by one. No Go here. -/
namespace Go.Proofs.YtgiifgjjmffphafGreatDoor

/-- In a strict order lists with the same members are the same. -/
theorem srt_unique {α : Type} (lt : α → α → Prop) (irr : ∀ x, ¬ lt x x) (asy : ∀ x y, lt x y → ¬ lt y x) : ∀ (A B : List α), A.Pairwise lt → B.Pairwise lt → (∀ x, x ∈ A ↔ x ∈ B) → A = B
  | [], B, _, _, h => by
    cases B with
    | nil => rfl
    | cons y B => exact absurd ((h y).2 (by simp)) (by simp)
  | x :: A, [], _, _, h => absurd ((h x).1 (by simp)) (by simp)
  | x :: A, y :: B, hA, hB, h => by
    rw [List.pairwise_cons] at hA hB
    have e : x = y := by
      rcases List.mem_cons.1 ((h x).1 (by simp)) with e | e
      · exact e
      · rcases List.mem_cons.1 ((h y).2 (by simp)) with e' | e'
        · exact e'.symm
        · exact absurd (hA.1 y e') (asy _ _ (hB.1 x e))
    subst e
    have ih := srt_unique lt irr asy A B hA.2 hB.2 (fun z => ?_)
    · rw [ih]
    · constructor
      · intro hz
        rcases List.mem_cons.1 ((h z).1 (by simp [hz])) with e | e
        · subst e; exact absurd (hA.1 z hz) (irr z)
        · exact e
      · intro hz
        rcases List.mem_cons.1 ((h z).2 (by simp [hz])) with e | e
        · subst e; exact absurd (hB.1 z hz) (irr z)
        · exact e
theorem less_not (l b : Int) : ¬ lessB l b l b = true := by rw [less_irr]; simp
theorem less_asy' {l b m c : Int} (h : lessB l b m c = true) : ¬ lessB m c l b = true := by rw [less_asy h]; simp
theorem nodup_lenT {α : Type} [BEq α] [LawfulBEq α] : ∀ (A B : List α), A.Nodup → (∀ x ∈ A, x ∈ B) → A.length ≤ B.length
  | [], B, _, _ => by simp
  | a :: A, B, h, hs => by
    rw [List.nodup_cons] at h
    have ha : a ∈ B := hs a (by simp)
    have ih := nodup_lenT A (B.erase a) h.2 (fun x hx => (List.mem_erase_of_ne (fun e : x = a => h.1 (by rw [← e]; exact hx))).2 (hs x (by simp [hx])))
    rw [List.length_erase_of_mem ha] at ih
    have : 0 < B.length := List.length_pos_of_mem ha
    simp only [List.length_cons]; omega

theorem hop_ne {h : Int} (hh : hopB h = true) : h ≠ -2 := by intro e; subst e; simp [hopB] at hh
/-- What a table has. -/
theorem Tab.mem_get {rs : List Rt} (h : Tab rs) (l b x : Int) : (l, b, x) ∈ rs ↔ getL rs l b = x ∧ x ≠ -2 := by
  cases ho : okB l b
  · rw [(h.lacks ho).2]
    constructor
    · intro hm; have := h.mem hm; simp [ho] at this
    · rintro ⟨rfl, e⟩; exact absurd rfl e
  · obtain ⟨A, B, hp, hA, hB, hc⟩ := h.part ho
    have nA : ∀ y, (l, b, y) ∉ A := fun y hy => less_not l b (hA _ hy)
    have nB : ∀ y, (l, b, y) ∉ B := fun y hy => less_not l b (hB _ hy)
    rcases hc with ⟨e, _, hg⟩ | ⟨h0, hh0, e, _, hg⟩
    · rw [hg]
      constructor
      · intro hm
        rw [e] at hm
        rcases List.mem_append.1 hm with q | q
        · exact absurd q (nA _)
        · exact absurd q (nB _)
      · rintro ⟨rfl, e⟩; exact absurd rfl e
    · rw [hg]
      constructor
      · intro hm
        rw [e] at hm
        rcases List.mem_append.1 hm with q | q
        · exact absurd q (nA _)
        · rcases List.mem_cons.1 q with q | q
          · have : x = h0 := by simpa using q
            subst this
            exact ⟨rfl, hop_ne hh0⟩
          · exact absurd q (nB _)
      · rintro ⟨rfl, _⟩
        rw [e]; simp
theorem Tab.get_hop {rs : List Rt} (h : Tab rs) {l b : Int} (hn : getL rs l b ≠ -2) : okB l b = true ∧ hopB (getL rs l b) = true := by
  have := h.ok _ ((h.mem_get l b _).2 ⟨rfl, hn⟩)
  exact this
/-- Tables that have the same of each prefix are the same. -/
theorem tab_ext {rs ss : List Rt} (h : Tab rs) (k : Tab ss) (e : ∀ l b, getL rs l b = getL ss l b) : rs = ss := by
  refine srt_unique _ (fun x => less_not _ _) (fun x y => less_asy') rs ss h.srt k.srt (fun r => ?_)
  obtain ⟨l, b, x⟩ := r
  rw [h.mem_get, k.mem_get, e]
/-- What a table has behind Set. -/
theorem Tab.get_set {rs : List Rt} (h : Tab rs) {l b h' : Int} (hc : (setL rs l b h').2 = 0) : getL (setL rs l b h').1 l b = h' ∧ ∀ m c, ¬ (m = l ∧ c = b) → getL (setL rs l b h').1 m c = getL rs m c := by
  refine ⟨(h.back l b h' hc).1, fun m c hn => ?_⟩
  have hT := h.set_tab l b h'
  have key : ∀ y, (m, c, y) ∈ (setL rs l b h').1 ↔ (m, c, y) ∈ rs := by
    intro y
    have ne : ∀ z : Int, ¬ ((m, c, y) = (l, b, z)) := fun z e => hn (by simp at e; exact ⟨e.1, e.2.1⟩)
    rcases h.set l b h' with ⟨_, e⟩ | ⟨ho, _, A, B, _, hA, hB, ⟨_, h0, _, e, _, _, e'⟩ | ⟨hh, _, e', ⟨e, hl, _⟩ | ⟨h0, _, e, _⟩⟩⟩
    · exact absurd hc e
    · rw [e']; conv => rhs; rw [e]
      simp [ne]
    · rw [e']; conv => rhs; rw [e]
      simp [ne]
    · rw [e']; conv => rhs; rw [e]
      simp [ne]
  by_cases e : getL rs m c = -2
  · by_cases e' : getL (setL rs l b h').1 m c = -2
    · rw [e, e']
    · have := (h.mem_get m c _).1 ((key _).1 ((hT.mem_get m c _).2 ⟨rfl, e'⟩))
      exact absurd (this.1.symm.trans e) this.2
  · exact ((hT.mem_get m c _).1 ((key _).2 ((h.mem_get m c _).2 ⟨rfl, e⟩))).1
/-- A route that is there can be taken away. -/
theorem Tab.can_del {rs : List Rt} (h : Tab rs) {l b : Int} (hn : getL rs l b ≠ -2) : (setL rs l b (-2)).2 = 0 := by
  obtain ⟨ho, hh⟩ := h.get_hop hn
  obtain ⟨A, B, hp, hA, hB, ⟨e, _, hg⟩ | ⟨h0, hh0, e, hf, hg⟩⟩ := h.part ho
  · exact absurd hg hn
  · unfold setL
    simp [ho, hf]
/-- A route can be set where there is one, or room. -/
theorem Tab.can_set {rs : List Rt} (h : Tab rs) {l b h' : Int} (ho : okB l b = true) (hh : hopB h' = true) (hr : getL rs l b ≠ -2 ∨ rs.length < 40) : (setL rs l b h').2 = 0 := by
  have h2 := hop_ne hh
  obtain ⟨A, B, hp, hA, hB, ⟨e, hf, hg⟩ | ⟨h0, hh0, e, hf, hg⟩⟩ := h.part ho
  · have hl : ¬ 40 ≤ rs.length := by rcases hr with hr | hr; exact absurd hg hr; omega
    unfold setL
    simp [ho, hh, h2, hf, hl]
  · unfold setL
    simp [ho, hh, h2, hf]
/-- A table whose prefixes are some of another one's, but not all, is shorter. -/
theorem Tab.shorter {rs ss : List Rt} (h : Tab rs) (k : Tab ss) (hs : ∀ l b, getL rs l b ≠ -2 → getL ss l b ≠ -2) {l b : Int} (h1 : getL rs l b = -2) (h2 : getL ss l b ≠ -2) : rs.length < ss.length := by
  have key := nodup_lenT ((l, b) :: rs.map (fun r => (r.1, r.2.1))) (ss.map (fun r => (r.1, r.2.1))) ?_ ?_
  · simp at key; omega
  · rw [List.nodup_cons]
    refine ⟨fun hm => ?_, ?_⟩
    · obtain ⟨⟨m, c, x⟩, hr, e⟩ := List.mem_map.1 hm
      simp at e
      rw [e.1, e.2] at hr
      have := (h.mem_get l b x).1 hr
      exact this.2 (this.1.symm.trans h1)
    · rw [List.Nodup, List.pairwise_map]
      refine h.srt.imp fun {r s} hr e => ?_
      simp at e
      rw [e.1, e.2] at hr
      exact less_not _ _ hr
  · intro p hp
    rcases List.mem_cons.1 hp with rfl | hp
    · exact List.mem_map.2 ⟨(l, b, getL ss l b), (k.mem_get l b _).2 ⟨rfl, h2⟩, rfl⟩
    · obtain ⟨⟨m, c, x⟩, hr, e⟩ := List.mem_map.1 hp
      have hm := (h.mem_get m c x).1 hr
      subst e
      have := hs m c (by rw [hm.1]; exact hm.2)
      exact List.mem_map.2 ⟨(m, c, getL ss m c), (k.mem_get m c _).2 ⟨rfl, this⟩, rfl⟩

/-- A change: Len, Bits, Old, New. -/
abbrev Ch := Int × Int × Int × Int
/-- What is to be changed in rs so that it is ss. -/
structure IsDiff (rs ss : List Rt) (ds : List Ch) : Prop where
  srt : ds.Pairwise (fun c d => lessB c.1 c.2.1 d.1 d.2.1 = true)
  mem : ∀ l b x y, (l, b, x, y) ∈ ds ↔ getL rs l b = x ∧ getL ss l b = y ∧ x ≠ y
theorem IsDiff.unique {rs ss : List Rt} {ds es : List Ch} (h : IsDiff rs ss ds) (k : IsDiff rs ss es) : ds = es := by
  refine srt_unique _ (fun x => less_not _ _) (fun x y => less_asy') ds es h.srt k.srt (fun c => ?_)
  obtain ⟨l, b, x, y⟩ := c
  rw [h.mem, k.mem]
theorem IsDiff.self {rs : List Rt} {ds : List Ch} (h : IsDiff rs rs ds) : ds = [] := by
  cases ds with
  | nil => rfl
  | cons c ds =>
    obtain ⟨l, b, x, y⟩ := c
    obtain ⟨h1, h2, h3⟩ := (h.mem l b x y).1 (by simp)
    exact absurd (h1.symm.trans h2) h3

/-- Changes of which New is none (z), or the others, one by one, to the first that can't be done. -/
def passD (z : Bool) : List Rt → List Ch → List Rt × Int
  | rs, [] => (rs, 0)
  | rs, c :: cs =>
    if decide (c.2.2.2 = -2) ≠ z then passD z rs cs
    else if getL rs c.1 c.2.1 ≠ c.2.2.1 then (rs, 11)
    else if (setL rs c.1 c.2.1 c.2.2.2).2 ≠ 0 then (rs, (setL rs c.1 c.2.1 c.2.2.2).2)
    else passD z (setL rs c.1 c.2.1 c.2.2.2).1 cs
def doneL (rs : List Rt) (cs : List Ch) : List Rt × Int :=
  if (passD true rs cs).2 ≠ 0 then passD true rs cs else passD false (passD true rs cs).1 cs
theorem passD_tab (z : Bool) : ∀ (cs : List Ch) {rs : List Rt}, Tab rs → Tab (passD z rs cs).1
  | [], rs, h => h
  | c :: cs, rs, h => by
    rw [passD]
    split
    · exact passD_tab z cs h
    · split
      · exact h
      · split
        · exact h
        · exact passD_tab z cs (h.set_tab _ _ _)
theorem doneL_tab {rs : List Rt} (h : Tab rs) (cs : List Ch) : Tab (doneL rs cs).1 := by
  unfold doneL
  split
  · exact passD_tab _ _ h
  · exact passD_tab _ _ (passD_tab _ _ h)

theorem pass_del : ∀ (cs : List Ch) {rs : List Rt}, Tab rs → cs.Pairwise (fun c d => lessB c.1 c.2.1 d.1 d.2.1 = true) → (∀ c ∈ cs, c.2.2.2 = -2 → getL rs c.1 c.2.1 = c.2.2.1 ∧ c.2.2.1 ≠ -2) →
    (passD true rs cs).2 = 0 ∧ (∀ c ∈ cs, c.2.2.2 = -2 → getL (passD true rs cs).1 c.1 c.2.1 = -2) ∧ ∀ l b, (∀ c ∈ cs, c.2.2.2 = -2 → ¬ (l = c.1 ∧ b = c.2.1)) → getL (passD true rs cs).1 l b = getL rs l b
  | [], rs, h, _, _ => ⟨rfl, by simp, fun _ _ _ => rfl⟩
  | c :: cs, rs, h, hs, hc => by
    rw [List.pairwise_cons] at hs
    have hne : ∀ d ∈ cs, ¬ (d.1 = c.1 ∧ d.2.1 = c.2.1) := fun d hd e => by
      have := hs.1 d hd
      rw [e.1, e.2] at this
      exact less_not _ _ this
    rw [passD]
    by_cases hz : c.2.2.2 = -2
    · obtain ⟨h1, h2⟩ := hc c (by simp) hz
      have hdel := h.can_del (l := c.1) (b := c.2.1) (by rw [h1]; exact h2)
      obtain ⟨g1, g2⟩ := h.get_set hdel
      rw [if_neg (by simp [hz]), if_neg (by simp [h1]), hz, if_neg (by simp [hdel])]
      obtain ⟨i1, i2, i3⟩ := pass_del cs (h.set_tab c.1 c.2.1 (-2)) hs.2 (fun d hd e => by
        rw [g2 d.1 d.2.1 (hne d hd)]
        exact hc d (by simp [hd]) e)
      refine ⟨i1, fun d hd e => ?_, fun l b hq => ?_⟩
      · rcases List.mem_cons.1 hd with rfl | hd
        · rw [i3 d.1 d.2.1 (fun x hx _ e => hne x hx ⟨e.1.symm, e.2.symm⟩)]
          exact g1
        · exact i2 d hd e
      · rw [i3 l b (fun d hd e => hq d (by simp [hd]) e), g2 l b (hq c (by simp) hz)]
    · rw [if_pos (by simp [hz])]
      obtain ⟨i1, i2, i3⟩ := pass_del cs h hs.2 (fun d hd e => hc d (by simp [hd]) e)
      refine ⟨i1, fun d hd e => ?_, fun l b hq => i3 l b fun d hd e => hq d (by simp [hd]) e⟩
      rcases List.mem_cons.1 hd with rfl | hd
      · exact absurd e hz
      · exact i2 d hd e
theorem pass_set {ss : List Rt} (kT : Tab ss) : ∀ (cs : List Ch) {rs : List Rt}, Tab rs → cs.Pairwise (fun c d => lessB c.1 c.2.1 d.1 d.2.1 = true) → (∀ c ∈ cs, c.2.2.2 ≠ -2 → getL rs c.1 c.2.1 = c.2.2.1 ∧ getL ss c.1 c.2.1 = c.2.2.2) → (∀ l b, getL rs l b ≠ -2 → getL ss l b ≠ -2) →
    (passD false rs cs).2 = 0 ∧ (∀ c ∈ cs, c.2.2.2 ≠ -2 → getL (passD false rs cs).1 c.1 c.2.1 = c.2.2.2) ∧ ∀ l b, (∀ c ∈ cs, c.2.2.2 ≠ -2 → ¬ (l = c.1 ∧ b = c.2.1)) → getL (passD false rs cs).1 l b = getL rs l b
  | [], rs, h, _, _, _ => ⟨rfl, by simp, fun _ _ _ => rfl⟩
  | c :: cs, rs, h, hs, hc, hsub => by
    rw [List.pairwise_cons] at hs
    have hne : ∀ d ∈ cs, ¬ (d.1 = c.1 ∧ d.2.1 = c.2.1) := fun d hd e => by
      have := hs.1 d hd
      rw [e.1, e.2] at this
      exact less_not _ _ this
    rw [passD]
    by_cases hz : c.2.2.2 = -2
    · rw [if_pos (by simp [hz])]
      obtain ⟨i1, i2, i3⟩ := pass_set kT cs h hs.2 (fun d hd e => hc d (by simp [hd]) e) hsub
      refine ⟨i1, fun d hd e => ?_, fun l b hq => i3 l b fun d hd e => hq d (by simp [hd]) e⟩
      rcases List.mem_cons.1 hd with rfl | hd
      · exact absurd hz e
      · exact i2 d hd e
    · obtain ⟨h1, h2⟩ := hc c (by simp) hz
      have hk : getL ss c.1 c.2.1 ≠ -2 := by rw [h2]; exact hz
      obtain ⟨ho, hh⟩ := kT.get_hop hk
      rw [h2] at hh
      have hset := h.can_set ho hh (by
        by_cases e : getL rs c.1 c.2.1 = -2
        · exact .inr (Nat.lt_of_lt_of_le (h.shorter kT hsub e hk) kT.len)
        · exact .inl e)
      obtain ⟨g1, g2⟩ := h.get_set hset
      rw [if_neg (by simp [hz]), if_neg (by simp [h1]), if_neg (by simp [hset])]
      obtain ⟨i1, i2, i3⟩ := pass_set kT cs (h.set_tab c.1 c.2.1 c.2.2.2) hs.2 (fun d hd e => by
        rw [g2 d.1 d.2.1 (hne d hd)]
        exact hc d (by simp [hd]) e) (fun l b hq => by
        by_cases e : l = c.1 ∧ b = c.2.1
        · rw [e.1, e.2]; exact hk
        · rw [g2 l b e] at hq; exact hsub l b hq)
      refine ⟨i1, fun d hd e => ?_, fun l b hq => ?_⟩
      · rcases List.mem_cons.1 hd with rfl | hd
        · rw [i3 d.1 d.2.1 (fun x hx _ e => hne x hx ⟨e.1.symm, e.2.symm⟩)]
          exact g1
        · exact i2 d hd e
      · rw [i3 l b (fun d hd e => hq d (by simp [hd]) e), g2 l b (hq c (by simp) hz)]
/-- DONE, IT IS THE OTHER ONE. -/
theorem done_diff {rs ss : List Rt} {ds : List Ch} (h : Tab rs) (k : Tab ss) (hd : IsDiff rs ss ds) : doneL rs ds = (ss, 0) := by
  have m : ∀ c ∈ ds, getL rs c.1 c.2.1 = c.2.2.1 ∧ getL ss c.1 c.2.1 = c.2.2.2 ∧ c.2.2.1 ≠ c.2.2.2 := fun c hc => by
    obtain ⟨l, b, x, y⟩ := c
    exact (hd.mem l b x y).1 hc
  obtain ⟨p1, p2, p3⟩ := pass_del ds h hd.srt (fun c hc e => by
    obtain ⟨m1, m2, m3⟩ := m c hc
    exact ⟨m1, by rw [e] at m3; exact m3⟩)
  have hT1 := passD_tab true ds h
  have keep : ∀ l b, getL ss l b ≠ -2 → getL (passD true rs ds).1 l b = getL rs l b := fun l b hq => p3 l b fun c hc e q => by
    have := (m c hc).2.1
    rw [← q.1, ← q.2, e] at this
    exact hq this
  have gone : ∀ l b, getL ss l b = -2 → getL (passD true rs ds).1 l b = -2 := fun l b hq => by
    by_cases e : getL rs l b = -2
    · rw [← e]
      refine p3 l b fun c hc e' q => ?_
      obtain ⟨m1, m2, m3⟩ := m c hc
      rw [← q.1, ← q.2, e] at m1
      rw [e', ← m1] at m3
      exact m3 rfl
    · exact p2 (l, b, getL rs l b, -2) ((hd.mem l b _ _).2 ⟨rfl, hq, e⟩) rfl
  obtain ⟨q1, q2, q3⟩ := pass_set k ds hT1 hd.srt (fun c hc e => by
    obtain ⟨m1, m2, m3⟩ := m c hc
    exact ⟨by rw [keep c.1 c.2.1 (by rw [m2]; exact e), m1], m2⟩) (fun l b hq e => hq (gone l b e))
  unfold doneL
  rw [if_neg (by simp [p1])]
  refine Prod.ext ?_ q1
  refine tab_ext (passD_tab false ds hT1) k fun l b => ?_
  by_cases e : getL ss l b = -2
  · rw [q3 l b (fun c hc e' q => by
      have := (m c hc).2.1
      rw [← q.1, ← q.2, e] at this
      exact e' this.symm), gone l b e, e]
  · by_cases e2 : getL rs l b = getL ss l b
    · rw [q3 l b (fun c hc e' q => by
        obtain ⟨m1, m2, m3⟩ := m c hc
        rw [← q.1, ← q.2] at m1 m2
        exact m3 (m1.symm.trans (e2.trans m2))), keep l b e, e2]
    · exact q2 (l, b, getL rs l b, getL ss l b) ((hd.mem l b _ _).2 ⟨rfl, rfl, e2⟩) e

end Go.Proofs.YtgiifgjjmffphafGreatDoor

/- THE REFERENCE's CHANGES: a list of the prefixes of both tables, in order, and of each where they have not the same. No Go here. -/
namespace Go.Proofs.YtgiifgjjmffphafGreatDoor

/-- A route more, in its order. -/
def insR (all : List Rt) (r : Rt) : List Rt := all.takeWhile (fun s => ltB s r.1 r.2.1) ++ r :: all.dropWhile (fun s => ltB s r.1 r.2.1)
/-- The routes of a, and those of b of whose prefixes a has none. -/
def uniR (rs ss : List Rt) : List Rt := ss.foldl (fun all r => if getL rs r.1 r.2.1 = -2 then insR all r else all) rs
def chgR (rs ss : List Rt) : List Ch := (uniR rs ss).filterMap fun r => if getL rs r.1 r.2.1 ≠ getL ss r.1 r.2.1 then some (r.1, r.2.1, getL rs r.1 r.2.1, getL ss r.1 r.2.1) else none

/-- Prefixes in order. -/
structure Ord (all : List Rt) : Prop where
  ok : ∀ r ∈ all, okB r.1 r.2.1 = true
  srt : all.Pairwise (fun r s => lessB r.1 r.2.1 s.1 s.2.1 = true)
theorem Ord.cut {all : List Rt} (h : Ord all) (l b : Int) : (∀ r ∈ all.takeWhile (fun s => ltB s l b), ltB r l b = true) ∧ (∀ r ∈ all.dropWhile (fun s => ltB s l b), ltB r l b = false) := by
  refine ⟨fun r hr => ?_, ?_⟩
  · have hs := h
    clear h
    induction all with
    | nil => simp at hr
    | cons x all ih =>
      rw [List.takeWhile_cons] at hr
      split at hr
      · rename_i hx
        rcases List.mem_cons.1 hr with rfl | hr
        · exact hx
        · exact ih hr ⟨fun s hm => hs.ok s (by simp [hm]), (List.pairwise_cons.1 hs.srt).2⟩
      · simp at hr
  · have hs := h.srt
    clear h
    induction all with
    | nil => intro r hr; simp at hr
    | cons x all ih =>
      intro r hr
      rw [List.dropWhile_cons] at hr
      rw [List.pairwise_cons] at hs
      split at hr
      · exact ih hs.2 r hr
      · rename_i hx
        rcases List.mem_cons.1 hr with rfl | hr
        · simpa using hx
        · cases e : ltB r l b
          · rfl
          · exact absurd (less_tr (hs.1 r hr) e) hx
theorem Ord.ins {all : List Rt} (h : Ord all) {r : Rt} (ho : okB r.1 r.2.1 = true) (hn : ∀ s ∈ all, ¬ (s.1 = r.1 ∧ s.2.1 = r.2.1)) : Ord (insR all r) ∧ ∀ s, s ∈ insR all r ↔ s = r ∨ s ∈ all := by
  obtain ⟨h1, h2⟩ := h.cut r.1 r.2.1
  have e : all.takeWhile (fun s => ltB s r.1 r.2.1) ++ all.dropWhile (fun s => ltB s r.1 r.2.1) = all := List.takeWhile_append_dropWhile
  have mA : ∀ s ∈ all.takeWhile (fun s => ltB s r.1 r.2.1), s ∈ all := fun s hs => by rw [← e]; exact List.mem_append_left _ hs
  have mB : ∀ s ∈ all.dropWhile (fun s => ltB s r.1 r.2.1), s ∈ all := fun s hs => by rw [← e]; exact List.mem_append_right _ hs
  have hB : ∀ s ∈ all.dropWhile (fun s => ltB s r.1 r.2.1), lessB r.1 r.2.1 s.1 s.2.1 = true := fun s hs => by
    cases q : lessB r.1 r.2.1 s.1 s.2.1
    · have := less_tot (h.ok s (mB s hs)) ho (h2 s hs) q
      exact absurd this (hn s (mB s hs))
    · rfl
  have hs := h.srt
  rw [← e] at hs
  obtain ⟨s1, s2, s3⟩ := List.pairwise_append.1 hs
  unfold insR
  refine ⟨⟨fun s hs => ?_, List.pairwise_append.2 ⟨s1, List.pairwise_cons.2 ⟨hB, s2⟩, fun x hx y hy => ?_⟩⟩, fun s => ?_⟩
  · rcases List.mem_append.1 hs with q | q
    · exact h.ok s (mA s q)
    · rcases List.mem_cons.1 q with rfl | q
      · exact ho
      · exact h.ok s (mB s q)
  · rcases List.mem_cons.1 hy with rfl | hy
    · exact h1 x hx
    · exact s3 x hx y hy
  · constructor
    · intro hs
      rcases List.mem_append.1 hs with q | q
      · exact .inr (mA s q)
      · rcases List.mem_cons.1 q with q | q
        · exact .inl q
        · exact .inr (mB s q)
    · rintro (rfl | hs)
      · simp
      · rw [← e] at hs
        rcases List.mem_append.1 hs with q | q
        · exact List.mem_append_left _ q
        · exact List.mem_append_right _ (List.mem_cons_of_mem _ q)

/-- The fold, from whatever list on. -/
theorem uni_fold {rs : List Rt} : ∀ (ts : List Rt) (all : List Rt), Ord all → (∀ r ∈ ts, okB r.1 r.2.1 = true) → ts.Pairwise (fun r s => lessB r.1 r.2.1 s.1 s.2.1 = true) →
    (∀ r ∈ ts, getL rs r.1 r.2.1 = -2 → ∀ s ∈ all, ¬ (s.1 = r.1 ∧ s.2.1 = r.2.1)) →
    Ord (ts.foldl (fun all r => if getL rs r.1 r.2.1 = -2 then insR all r else all) all) ∧ ∀ s, s ∈ ts.foldl (fun all r => if getL rs r.1 r.2.1 = -2 then insR all r else all) all ↔ s ∈ all ∨ (s ∈ ts ∧ getL rs s.1 s.2.1 = -2)
  | [], all, h, _, _, _ => ⟨h, by simp⟩
  | r :: ts, all, h, ho, hs, hn => by
    rw [List.pairwise_cons] at hs
    simp only [List.foldl_cons]
    by_cases hg : getL rs r.1 r.2.1 = -2
    · rw [if_pos hg]
      obtain ⟨i1, i2⟩ := h.ins (ho r (by simp)) (hn r (by simp) hg)
      obtain ⟨j1, j2⟩ := uni_fold ts (insR all r) i1 (fun s hs => ho s (by simp [hs])) hs.2 (fun t ht hgt s hm e => by
        rcases (i2 s).1 hm with rfl | hm
        · have := hs.1 t ht
          rw [e.1, e.2] at this
          exact less_not _ _ this
        · exact hn t (by simp [ht]) hgt s hm e)
      refine ⟨j1, fun s => ?_⟩
      rw [j2, i2]
      constructor
      · rintro ((rfl | q) | q)
        · exact .inr ⟨by simp, hg⟩
        · exact .inl q
        · exact .inr ⟨by simp [q.1], q.2⟩
      · rintro (q | ⟨q1, q2⟩)
        · exact .inl (.inr q)
        · rcases List.mem_cons.1 q1 with rfl | q1
          · exact .inl (.inl rfl)
          · exact .inr ⟨q1, q2⟩
    · rw [if_neg hg]
      obtain ⟨j1, j2⟩ := uni_fold ts all h (fun s hs => ho s (by simp [hs])) hs.2 (fun t ht => hn t (by simp [ht]))
      refine ⟨j1, fun s => ?_⟩
      rw [j2]
      constructor
      · rintro (q | q)
        · exact .inl q
        · exact .inr ⟨by simp [q.1], q.2⟩
      · rintro (q | ⟨q1, q2⟩)
        · exact .inl q
        · rcases List.mem_cons.1 q1 with rfl | q1
          · exact absurd q2 hg
          · exact .inr ⟨q1, q2⟩
theorem Tab.ord {rs : List Rt} (h : Tab rs) : Ord rs := ⟨fun r hr => (h.ok r hr).1, h.srt⟩
theorem uni_is {rs ss : List Rt} (h : Tab rs) (k : Tab ss) : Ord (uniR rs ss) ∧ ∀ s, s ∈ uniR rs ss ↔ s ∈ rs ∨ (s ∈ ss ∧ getL rs s.1 s.2.1 = -2) :=
  uni_fold ss rs h.ord (fun r hr => (k.ok r hr).1) k.srt (fun r _ hg s hs e => by
    obtain ⟨l, b, x⟩ := s
    have := (h.mem_get l b x).1 hs
    simp only at e
    rw [← e.1, ← e.2] at hg
    exact this.2 (this.1.symm.trans hg))
theorem pairwise_filterMap {p : Rt → Option Ch} (hp : ∀ r c, p r = some c → c.1 = r.1 ∧ c.2.1 = r.2.1) : ∀ (L : List Rt), L.Pairwise (fun r s => lessB r.1 r.2.1 s.1 s.2.1 = true) → (L.filterMap p).Pairwise (fun c d => lessB c.1 c.2.1 d.1 d.2.1 = true)
  | [], _ => by simp
  | r :: L, h => by
    rw [List.pairwise_cons] at h
    have ih := pairwise_filterMap hp L h.2
    cases e : p r with
    | none => rw [List.filterMap_cons_none e]; exact ih
    | some c =>
      rw [List.filterMap_cons_some e, List.pairwise_cons]
      refine ⟨fun d hd => ?_, ih⟩
      obtain ⟨s, hs, es⟩ := List.mem_filterMap.1 hd
      rw [(hp r c e).1, (hp r c e).2, (hp s d es).1, (hp s d es).2]
      exact h.1 s hs
/-- The reference's list is what is to be changed. -/
theorem chg_is {rs ss : List Rt} (h : Tab rs) (k : Tab ss) : IsDiff rs ss (chgR rs ss) := by
  obtain ⟨u1, u2⟩ := uni_is h k
  refine ⟨pairwise_filterMap (fun r c hc => ?_) _ u1.srt, fun l b x y => ?_⟩
  · split at hc
    · cases hc; exact ⟨rfl, rfl⟩
    · cases hc
  · unfold chgR
    rw [List.mem_filterMap]
    constructor
    · rintro ⟨r, hr, hc⟩
      split at hc
      · rename_i hne
        have e : (r.1, r.2.1, getL rs r.1 r.2.1, getL ss r.1 r.2.1) = (l, b, x, y) := by simpa using hc
        simp only [Prod.mk.injEq] at e
        obtain ⟨e1, e2, e3, e4⟩ := e
        rw [e1, e2] at e3 e4 hne
        refine ⟨e3, e4, ?_⟩
        rw [← e3, ← e4]; exact hne
      · cases hc
    · rintro ⟨h1, h2, h3⟩
      by_cases e : x = -2
      · have hy : y ≠ -2 := fun q => h3 (e.trans q.symm)
        refine ⟨(l, b, y), (u2 _).2 (.inr ⟨(k.mem_get l b y).2 ⟨h2, hy⟩, by simpa [h1] using e⟩), ?_⟩
        simp only [h1, h2]
        rw [if_pos h3]
      · refine ⟨(l, b, x), (u2 _).2 (.inl ((h.mem_get l b x).2 ⟨h1, e⟩)), ?_⟩
        simp only [h1, h2]
        rw [if_pos h3]

end Go.Proofs.YtgiifgjjmffphafGreatDoor

/- WISHES AS BITS: the program's sets of hops; the routes that it hands over, part by part. No Go here. -/
namespace Go.Proofs.YtgiifgjjmffphafGreatDoor

/-- A hop's place among the bits. -/
def hb (h : Int) : Nat := (h + 1).toNat
theorem hb_lt {h : Int} (hh : h ∈ hopsR) : hb h < 7 := by
  have := hop_mem.2 hh
  simp [hopB] at this
  unfold hb; omega
theorem hb_back {i : Nat} (hi : i < 7) : ((i : Int) - 1) ∈ hopsR ∧ hb ((i : Int) - 1) = i := by
  refine ⟨hop_mem.1 ?_, by unfold hb; omega⟩
  simp [hopB]; omega
theorem hb_inj {g h : Int} (hg : g ∈ hopsR) (hh : h ∈ hopsR) (e : hb g = hb h) : g = h := by
  have a := hop_mem.2 hg
  have b := hop_mem.2 hh
  simp [hopB] at a b
  unfold hb at e; omega

/-- The program's wishes of a part. -/
def wm : TT → Nat
  | .leaf _ _ h => 2 ^ hb h
  | .node _ _ lo hi => if wm lo &&& wm hi = 0 then wm lo ||| wm hi else wm lo &&& wm hi
/-- A set of hops, as bits. -/
structure Bits (W : Int → Bool) (m : Nat) : Prop where
  lt : m < 128
  bit : ∀ h ∈ hopsR, m.testBit (hb h) = W h
theorem bits_zero {m : Nat} (h : m < 128) (hz : ∀ i, i < 7 → m.testBit i = false) : m = 0 := by
  apply Nat.eq_of_testBit_eq
  intro i
  rw [Nat.zero_testBit]
  by_cases hi : i < 7
  · exact hz i hi
  · exact Nat.testBit_lt_two_pow (Nat.lt_of_lt_of_le h (by have : 2 ^ 7 ≤ 2 ^ i := Nat.pow_le_pow_right (by decide) (by omega); omega))
theorem Bits.and {A B : Int → Bool} {m n : Nat} (h : Bits A m) (k : Bits B n) : (m &&& n = 0) ↔ both A B = false := by
  have hl : m &&& n < 128 := Nat.lt_of_le_of_lt Nat.and_le_left h.lt
  constructor
  · intro e
    rw [Bool.eq_false_iff]
    intro hb'
    obtain ⟨g, hg, h1, h2⟩ := both_iff.1 hb'
    have := Nat.testBit_and m n (hb g)
    rw [e, h.bit g hg, k.bit g hg, h1, h2] at this
    simp at this
  · intro e
    refine bits_zero hl fun i hi => ?_
    obtain ⟨h1, h2⟩ := hb_back hi
    rw [Nat.testBit_and, ← h2, h.bit _ h1, k.bit _ h1]
    cases ha : A ((i : Int) - 1) <;> cases hb' : B ((i : Int) - 1) <;> try rfl
    exact absurd (both_iff.2 ⟨_, h1, ha, hb'⟩) (by rw [e]; simp)
theorem wm_tri {f : Nat → Int} (hf : ∀ j, f j ∈ hopsR) : ∀ (k : Nat) (l b : Int) (o : Nat), Bits (wish f k o) (wm (tri f k l b o))
  | k, l, b, o => by
    by_cases ha : Alk f o (2 ^ k)
    · rw [tri_alk ha, wm]
      have h7 := hb_lt (hf o)
      refine ⟨?_, fun h hh => ?_⟩
      · have : 2 ^ hb (f o) ≤ 2 ^ 6 := Nat.pow_le_pow_right (by decide) (by omega)
        omega
      · rw [wish_alk ha, Nat.testBit_two_pow]
        by_cases e : h = f o
        · subst e; simp
        · have : hb (f o) ≠ hb h := fun e' => e (hb_inj hh (hf o) e'.symm)
          simp [e, this]
    · cases k with
      | zero => exact absurd (alk_one f o) ha
      | succ k =>
        rw [tri_not ha, wm]
        have h1 := wm_tri hf k (l + 1) (b * 2) o
        have h2 := wm_tri hf k (l + 1) (b * 2 + 1) (o + 2 ^ k)
        have hz := h1.and h2
        split
        · rename_i e
          have hb' := hz.1 e
          refine ⟨Nat.or_lt_two_pow (n := 7) h1.lt h2.lt, fun h hh => ?_⟩
          rw [wish_rec hf, comb, hb', Nat.testBit_or, h1.bit h hh, h2.bit h hh]; simp
        · rename_i e
          have hb' : both (wish f k o) (wish f k (o + 2 ^ k)) = true := by
            rcases hbb : both (wish f k o) (wish f k (o + 2 ^ k)) with _ | _
            · exact absurd (hz.2 hbb) e
            · rfl
          refine ⟨Nat.lt_of_le_of_lt Nat.and_le_left h1.lt, fun h hh => ?_⟩
          rw [wish_rec hf, comb, hb', Nat.testBit_and, h1.bit h hh, h2.bit h hh]; simp
/-- The lowest bit. -/
def lowB (m : Nat) : Int := ((List.range 7).find? (fun i => m.testBit i)).getD 0 - (1 : Int)
/-- The routes that the program hands over. -/
def each : TT → Int → List Rt
  | .leaf l b g, h => if (wm (.leaf l b g)).testBit (hb h) then [] else [(l, b, lowB (wm (.leaf l b g)))]
  | .node l b lo hi, h =>
    (if (wm (.node l b lo hi)).testBit (hb h) then [] else [(l, b, lowB (wm (.node l b lo hi)))]) ++
      (each lo (if (wm (.node l b lo hi)).testBit (hb h) then h else lowB (wm (.node l b lo hi))) ++ each hi (if (wm (.node l b lo hi)).testBit (hb h) then h else lowB (wm (.node l b lo hi))))
theorem Bits.low {W : Int → Bool} {m : Nat} (h : Bits W m) (hs : ∃ g ∈ hopsR, W g = true) (x : Int) : lowB m = lowW W x := by
  have e : ∀ i : Nat, i < 7 → m.testBit i = W ((i : Int) - 1) := fun i hi => by
    obtain ⟨h1, h2⟩ := hb_back hi
    rw [← h.bit _ h1, h2]
  have e0 : m.testBit 0 = W (-1) := e 0 (by decide)
  have e1 : m.testBit 1 = W 0 := e 1 (by decide)
  have e2 : m.testBit 2 = W 1 := e 2 (by decide)
  have e3 : m.testBit 3 = W 2 := e 3 (by decide)
  have e4 : m.testBit 4 = W 3 := e 4 (by decide)
  have e5 : m.testBit 5 = W 4 := e 5 (by decide)
  have e6 : m.testBit 6 = W 5 := e 6 (by decide)
  unfold lowB lowW
  rw [show List.range 7 = [0, 1, 2, 3, 4, 5, 6] from rfl]
  unfold hopsR at hs ⊢
  simp only [List.find?, e0, e1, e2, e3, e4, e5, e6]
  cases h0 : W (-1)
  · cases h1 : W 0
    · cases h2 : W 1
      · cases h3 : W 2
        · cases h4 : W 3
          · cases h5 : W 4
            · cases h6 : W 5
              · obtain ⟨g, hg, hw⟩ := hs
                simp only [List.mem_cons, List.not_mem_nil, or_false] at hg
                rcases hg with rfl | rfl | rfl | rfl | rfl | rfl | rfl <;> simp_all
              · simp
            · simp
          · simp
        · simp
      · simp
    · simp
  · simp
theorem Bits.has {W : Int → Bool} {m : Nat} (h : Bits W m) {g : Int} (hg : g ∈ hopsR) : m.testBit (hb g) = W g := h.bit g hg
theorem Bits.pos {W : Int → Bool} {m : Nat} (h : Bits W m) (hs : ∃ g ∈ hopsR, W g = true) : m ≠ 0 := by
  obtain ⟨g, hg, hw⟩ := hs
  intro e
  have := h.bit g hg
  rw [e, hw] at this
  simp at this
/-- The program's routes are those of as few as can be. -/
theorem each_tri {f : Nat → Int} (hf : ∀ j, f j ∈ hopsR) : ∀ (k : Nat) (l b : Int) (o : Nat) (h : Int), h ∈ hopsR → each (tri f k l b o) h = leastR f k l b o h
  | k, l, b, o, h, hh => by
    have hB := wm_tri hf k l b o
    have hs := wish_some hf k o
    have hlow := hB.low hs h
    have hbit := hB.bit h hh
    have hnx := nxt_is hs hh
    unfold nxt at hnx
    by_cases ha : Alk f o (2 ^ k)
    · rw [tri_alk ha] at hB hlow hbit ⊢
      rw [each, hbit, hlow]
      cases k with
      | zero => rw [leastR]
      | succ k => rw [leastR, if_pos ha, List.append_nil]
    · cases k with
      | zero => exact absurd (alk_one f o) ha
      | succ k =>
        rw [tri_not ha] at hB hlow hbit ⊢
        rw [each, hbit, hlow, leastR, if_neg ha, each_tri hf k _ _ _ _ hnx.2, each_tri hf k _ _ _ _ hnx.2]
        rfl
theorem ctz_low : ∀ m : Nat, m < 128 → m ≠ 0 → lowB m ∈ hopsR := by decide
theorem each_T {f : Nat → Int} (hf : ∀ j, f j ∈ hopsR) : each (triT f) (-1) = leastT f := each_tri hf 8 0 0 0 (-1) mem_m1
/-- Trees whose hops are hops. -/
def HopT : TT → Prop
  | .leaf _ _ h => h ∈ hopsR
  | .node _ _ lo hi => HopT lo ∧ HopT hi
theorem hop_tri {f : Nat → Int} (hf : ∀ j, f j ∈ hopsR) : ∀ (k : Nat) (l b : Int) (o : Nat), HopT (tri f k l b o)
  | k, l, b, o => by
    by_cases ha : Alk f o (2 ^ k)
    · rw [tri_alk ha]; exact hf o
    · cases k with
      | zero => exact absurd (alk_one f o) ha
      | succ k => rw [tri_not ha]; exact ⟨hop_tri hf k _ _ _, hop_tri hf k _ _ _⟩
theorem or_pos {m n : Nat} (h : m ≠ 0) : m ||| n ≠ 0 := by
  intro e
  have : m ≤ m ||| n := Nat.left_le_or
  omega
theorem wm_bd : ∀ {T : TT}, HopT T → wm T < 128 ∧ wm T ≠ 0
  | .leaf l b h, hh => by
    have h7 := hb_lt hh
    have : 2 ^ hb h ≤ 2 ^ 6 := Nat.pow_le_pow_right (by decide) (by omega)
    have p : 0 < 2 ^ hb h := Nat.pow_pos (by decide)
    rw [wm]; omega
  | .node l b lo hi, hh => by
    obtain ⟨a1, a2⟩ := wm_bd hh.1
    obtain ⟨b1, b2⟩ := wm_bd hh.2
    rw [wm]
    split
    · exact ⟨Nat.or_lt_two_pow (n := 7) a1 b1, or_pos a2⟩
    · rename_i e
      exact ⟨Nat.lt_of_le_of_lt Nat.and_le_left a1, e⟩
end Go.Proofs.YtgiifgjjmffphafGreatDoor

/- Diff, as lists: all prefixes of two tables, sorted, each once; what is to be changed. No Go here. -/
namespace Go.Proofs.YtgiifgjjmffphafGreatDoor

abbrev Pf := Int × Int
def ltP (p q : Pf) : Bool := lessB p.1 p.2 q.1 q.2
theorem ltP_swo : Go.Sort.SWO ltP where
  irrefl := fun p => less_irr p.1 p.2
  trans := fun _ _ _ h k => less_tr h k
  ntrans := fun x y z h k => by
    unfold ltP lessB at *
    simp only [decide_eq_false_iff_not] at *
    omega
/-- What slices.Compact leaves. -/
def cmpGo (q : Pf) : List Pf → List Pf
  | [] => []
  | p :: L => if p = q then cmpGo q L else p :: cmpGo p L
def cmpL : List Pf → List Pf
  | [] => []
  | p :: L => p :: cmpGo p L
def SrtP (L : List Pf) : Prop := L.Pairwise (fun p q => ltP q p = false)
theorem cmpGo_is : ∀ (L : List Pf) (q : Pf), SrtP (q :: L) → (∀ p ∈ q :: L, okB p.1 p.2 = true) → (q :: cmpGo q L).Pairwise (fun p q => ltP p q = true) ∧ ∀ p, p ∈ q :: cmpGo q L ↔ p ∈ q :: L
  | [], q, _, _ => by simp [cmpGo]
  | p :: L, q, hs, ho => by
    rw [cmpGo]
    unfold SrtP at hs
    rw [List.pairwise_cons] at hs
    by_cases e : p = q
    · rw [if_pos e]
      subst e
      obtain ⟨h1, h2⟩ := cmpGo_is L p hs.2 (fun r hr => ho r (List.mem_cons_of_mem _ hr))
      refine ⟨h1, fun r => ?_⟩
      rw [h2]; simp
    · rw [if_neg e]
      obtain ⟨h1, h2⟩ := cmpGo_is L p hs.2 (fun r hr => ho r (List.mem_cons_of_mem _ hr))
      have hlt : ltP q p = true := by
        have h3 := hs.1 p (by simp)
        cases h4 : ltP q p
        · have := less_tot (ho p (by simp)) (ho q (by simp)) h3 h4
          exact absurd (Prod.ext this.1 this.2) e
        · rfl
      refine ⟨List.pairwise_cons.2 ⟨fun r hr => ?_, h1⟩, fun r => ?_⟩
      · rcases List.mem_cons.1 hr with rfl | hr
        · exact hlt
        · exact less_tr hlt ((List.pairwise_cons.1 h1).1 r hr)
      · rw [List.mem_cons, h2, List.mem_cons (a := r) (b := q)]
theorem cmp_is {L : List Pf} (hs : SrtP L) (ho : ∀ p ∈ L, okB p.1 p.2 = true) : (cmpL L).Pairwise (fun p q => ltP p q = true) ∧ ∀ p, p ∈ cmpL L ↔ p ∈ L := by
  cases L with
  | nil => simp [cmpL]
  | cons p L => exact cmpGo_is L p hs ho
def keyL (rs : List Rt) : List Pf := rs.map fun r => (r.1, r.2.1)
def chOf (rs ss : List Rt) (p : Pf) : List Ch := if getL rs p.1 p.2 = getL ss p.1 p.2 then [] else [(p.1, p.2, getL rs p.1 p.2, getL ss p.1 p.2)]
def difL (rs ss : List Rt) (L : List Pf) : List Ch := L.flatMap (chOf rs ss)
theorem difL_nil (rs ss : List Rt) : difL rs ss [] = [] := rfl
theorem difL_snoc (rs ss : List Rt) (L : List Pf) (p : Pf) : difL rs ss (L ++ [p]) = difL rs ss L ++ chOf rs ss p := by simp [difL]
theorem mem_chOf {rs ss : List Rt} {p : Pf} {c : Ch} : c ∈ chOf rs ss p ↔ c = (p.1, p.2, getL rs p.1 p.2, getL ss p.1 p.2) ∧ getL rs p.1 p.2 ≠ getL ss p.1 p.2 := by
  unfold chOf
  split
  · rename_i e; simp [e]
  · rename_i e; simp [e]
theorem mem_dif {rs ss : List Rt} {L : List Pf} {c : Ch} : c ∈ difL rs ss L ↔ (c.1, c.2.1) ∈ L ∧ c.2.2.1 = getL rs c.1 c.2.1 ∧ c.2.2.2 = getL ss c.1 c.2.1 ∧ getL rs c.1 c.2.1 ≠ getL ss c.1 c.2.1 := by
  unfold difL
  rw [List.mem_flatMap]
  constructor
  · rintro ⟨p, hp, hc⟩
    obtain ⟨rfl, hn⟩ := mem_chOf.1 hc
    exact ⟨hp, rfl, rfl, hn⟩
  · rintro ⟨hp, h1, h2, h3⟩
    refine ⟨_, hp, mem_chOf.2 ⟨?_, h3⟩⟩
    obtain ⟨l, b, x, y⟩ := c
    simp only at h1 h2
    rw [h1, h2]
theorem dif_srt {rs ss : List Rt} : ∀ (L : List Pf), L.Pairwise (fun p q => ltP p q = true) → (difL rs ss L).Pairwise (fun c d => lessB c.1 c.2.1 d.1 d.2.1 = true)
  | [], _ => by simp [difL]
  | p :: L, h => by
    rw [List.pairwise_cons] at h
    show (chOf rs ss p ++ difL rs ss L).Pairwise _
    rw [List.pairwise_append]
    refine ⟨?_, dif_srt L h.2, fun c hc d hd => ?_⟩
    · unfold chOf; split <;> simp
    · obtain ⟨rfl, _⟩ := mem_chOf.1 hc
      exact h.1 _ (mem_dif.1 hd).1
theorem mem_key {rs : List Rt} (h : Tab rs) (l b : Int) : (l, b) ∈ keyL rs ↔ getL rs l b ≠ -2 := by
  unfold keyL
  rw [List.mem_map]
  constructor
  · rintro ⟨⟨m, c, x⟩, hr, e⟩
    cases e
    obtain ⟨h1, h2⟩ := (h.mem_get m c x).1 hr
    show getL rs m c ≠ -2
    rw [h1]; exact h2
  · intro hn
    exact ⟨(l, b, getL rs l b), (h.mem_get l b _).2 ⟨rfl, hn⟩, rfl⟩
/-- What Diff tells. -/
theorem dif_is {rs ss : List Rt} (h : Tab rs) (k : Tab ss) {L : List Pf} (hp : L.Perm (keyL rs ++ keyL ss)) (hs : SrtP L) : IsDiff rs ss (difL rs ss (cmpL L)) := by
  have hm : ∀ p, p ∈ L ↔ getL rs p.1 p.2 ≠ -2 ∨ getL ss p.1 p.2 ≠ -2 := fun p => by
    rw [hp.mem_iff, List.mem_append]
    exact or_congr (mem_key h p.1 p.2) (mem_key k p.1 p.2)
  have ho : ∀ p ∈ L, okB p.1 p.2 = true := fun p hpL => by
    rcases (hm p).1 hpL with h1 | h1
    · exact (h.get_hop h1).1
    · exact (k.get_hop h1).1
  obtain ⟨c1, c2⟩ := cmp_is hs ho
  refine ⟨dif_srt _ c1, fun l b x y => ?_⟩
  rw [mem_dif]
  simp only [c2, hm]
  constructor
  · rintro ⟨_, rfl, rfl, hn⟩
    exact ⟨rfl, rfl, hn⟩
  · rintro ⟨rfl, rfl, hn⟩
    refine ⟨?_, rfl, rfl, hn⟩
    by_cases e : getL rs l b = -2
    · right; intro e2; exact hn (e.trans e2.symm)
    · left; exact e
end Go.Proofs.YtgiifgjjmffphafGreatDoor
