/- TRIES AS TREES: the least tree of where addresses go; its leaves in their order; looking in it. No Go here. -/
import Derived.Test.YtmlmcpopkcgflabDPlain
namespace Go.Proofs.Ytmlmcpopkcgflab

/-- A trie: leaves with Len, Bits, Hop; parts with Len, Bits and two halves. -/
inductive TT where
  | leaf (l b h : Int)
  | node (l b : Int) (lo hi : TT)

namespace TT
def len : TT → Int | .leaf l _ _ => l | .node l _ _ _ => l
def bits : TT → Int | .leaf _ b _ => b | .node _ b _ _ => b
def hop : TT → Int | .leaf _ _ h => h | .node _ _ _ _ => 0
def isLeaf : TT → Bool | .leaf _ _ _ => true | .node _ _ _ _ => false
def leaves : TT → List Rt | .leaf l b h => [(l, b, h)] | .node _ _ lo hi => lo.leaves ++ hi.leaves
def depth : TT → Nat | .leaf _ _ _ => 0 | .node _ _ lo hi => max lo.depth hi.depth + 1
def look : TT → Int → Int
  | .leaf l b h, a => if hasB l b a then h else -1
  | .node l b lo hi, a => if hasB l b a then (if hasB lo.len lo.bits a then lo.look a else hi.look a) else -1
/-- It is a trie of the prefix l, b in which no two leaves that are halves of one go alike. -/
def Whole : TT → Int → Int → Prop
  | .leaf l' b' _, l, b => l' = l ∧ b' = b
  | .node l' b' lo hi, l, b => l' = l ∧ b' = b ∧ 0 ≤ l ∧ l < 8 ∧ 0 ≤ b ∧ b < 256 ∧ ¬ (lo.isLeaf = true ∧ hi.isLeaf = true ∧ lo.hop = hi.hop) ∧ lo.Whole (l + 1) (b * 2) ∧ hi.Whole (l + 1) (b * 2 + 1)
end TT

/-- n addresses from o on go alike. -/
def Alk (f : Nat → Int) (o n : Nat) : Prop := ∀ j, j < n → f (o + j) = f o
instance (f : Nat → Int) (o n : Nat) : Decidable (Alk f o n) := by unfold Alk; infer_instance

/-- The trie of the prefix l, b, whose 2 ^ k addresses begin at o. -/
def tri (f : Nat → Int) : Nat → Int → Int → Nat → TT
  | 0, l, b, o => .leaf l b (f o)
  | k + 1, l, b, o => if Alk f o (2 ^ (k + 1)) then .leaf l b (f o) else .node l b (tri f k (l + 1) (b * 2) o) (tri f k (l + 1) (b * 2 + 1) (o + 2 ^ k))

theorem tri_alk {f : Nat → Int} {k : Nat} {l b : Int} {o : Nat} (h : Alk f o (2 ^ k)) : tri f k l b o = .leaf l b (f o) := by
  cases k with
  | zero => rfl
  | succ k => rw [tri, if_pos h]
theorem tri_not {f : Nat → Int} {k : Nat} {l b : Int} {o : Nat} (h : ¬ Alk f o (2 ^ (k + 1))) : tri f (k + 1) l b o = .node l b (tri f k (l + 1) (b * 2) o) (tri f k (l + 1) (b * 2 + 1) (o + 2 ^ k)) := by
  rw [tri, if_neg h]
theorem alk_one (f : Nat → Int) (o : Nat) : Alk f o (2 ^ 0) := by
  intro j hj
  have : j = 0 := by simpa using hj
  rw [this, Nat.add_zero]

theorem tri_len (f : Nat → Int) (k : Nat) (l b : Int) (o : Nat) : (tri f k l b o).len = l ∧ (tri f k l b o).bits = b := by
  cases k with
  | zero => exact ⟨rfl, rfl⟩
  | succ k => rw [tri]; split <;> exact ⟨rfl, rfl⟩
theorem tri_leaf {f : Nat → Int} {k : Nat} {l b : Int} {o : Nat} (h : (tri f k l b o).isLeaf = true) : Alk f o (2 ^ k) ∧ (tri f k l b o).hop = f o := by
  cases k with
  | zero => exact ⟨alk_one f o, rfl⟩
  | succ k =>
    rw [tri] at h ⊢
    split
    · rename_i ha; exact ⟨ha, rfl⟩
    · rename_i ha; rw [if_neg ha] at h; cases h

/-- The prefix l, b has the 2 ^ k addresses from o on. -/
def Sp (k : Nat) (l b : Int) (o : Nat) : Prop := l + k = 8 ∧ okB l b = true ∧ (o : Int) = b * 2 ^ k

theorem Sp.root : Sp 8 0 0 0 := by refine ⟨by omega, by decide, by omega⟩
theorem Sp.pow {k : Nat} {l b : Int} {o : Nat} (h : Sp k l b o) : (8 - l).toNat = k := by have := h.1; omega
theorem Sp.first {k : Nat} {l b : Int} {o : Nat} (h : Sp k l b o) : firstI l b = o := by rw [first_is_ok h.2.1, h.pow, h.2.2]
theorem Sp.last {k : Nat} {l b : Int} {o : Nat} (h : Sp k l b o) : lastI l b + 1 = ((o + 2 ^ k : Nat) : Int) := by
  rw [last_is_ok h.2.1, h.pow, Int.natCast_add, h.2.2]; simp
theorem Sp.has {k : Nat} {l b : Int} {o : Nat} (h : Sp k l b o) (a : Int) : hasB l b a = true ↔ (o : Int) ≤ a ∧ a < ((o + 2 ^ k : Nat) : Int) := by
  rw [(span_has (a := a) h.2.1).2.2.2, h.first, ← h.last]; omega
theorem Sp.top {k : Nat} {l b : Int} {o : Nat} (h : Sp k l b o) : o + 2 ^ k ≤ 256 := by
  have h1 := (span_has (a := 0) h.2.1).2.2.1
  have h2 := h.last
  omega
theorem Sp.low {k : Nat} {l b : Int} {o : Nat} (h : Sp (k + 1) l b o) : Sp k (l + 1) (b * 2) o := by
  obtain ⟨h1, h2, h3⟩ := h
  obtain ⟨g0, g8, gb, gl⟩ := ok_iff.1 h2
  refine ⟨by omega, ok_iff.2 ⟨by omega, by omega, by omega, ?_⟩, ?_⟩
  · rw [show (l + 1).toNat = l.toNat + 1 by omega, Int.pow_succ]; omega
  · rw [h3, Int.pow_succ, Int.mul_assoc, Int.mul_comm 2]
theorem Sp.high {k : Nat} {l b : Int} {o : Nat} (h : Sp (k + 1) l b o) : Sp k (l + 1) (b * 2 + 1) (o + 2 ^ k) := by
  obtain ⟨h1, h2, h3⟩ := h
  obtain ⟨g0, g8, gb, gl⟩ := ok_iff.1 h2
  refine ⟨by omega, ok_iff.2 ⟨by omega, by omega, by omega, ?_⟩, ?_⟩
  · rw [show (l + 1).toNat = l.toNat + 1 by omega, Int.pow_succ]; omega
  · rw [Int.natCast_add, h3, Int.pow_succ, Int.add_mul, Int.mul_assoc, Int.mul_comm 2]; simp
theorem Sp.bd {k : Nat} {l b : Int} {o : Nat} (h : Sp k l b o) : 0 ≤ l ∧ l ≤ 8 ∧ 0 ≤ b ∧ b < 256 := by
  obtain ⟨h0, h8, hb, hl⟩ := ok_iff.1 h.2.1
  have := (pw_bd l h8).2
  omega

/-- Looking in the trie. -/
theorem look_tri {f : Nat → Int} : ∀ {k : Nat} {l b : Int} {o : Nat}, Sp k l b o → ∀ a : Int, (tri f k l b o).look a = if hasB l b a then f a.toNat else -1
  | k, l, b, o, h, a => by
    by_cases ha : Alk f o (2 ^ k)
    · rw [tri_alk ha, TT.look]
      cases hh : hasB l b a
      · rfl
      · have := (h.has a).1 hh
        have e := ha (a.toNat - o) (by omega)
        rw [show o + (a.toNat - o) = a.toNat by omega] at e
        simp [e]
    · cases k with
      | zero => exact absurd (alk_one f o) ha
      | succ k =>
        rw [tri_not ha, TT.look, (tri_len f k (l + 1) (b * 2) o).1, (tri_len f k (l + 1) (b * 2) o).2, look_tri h.low a, look_tri h.high a]
        cases hh : hasB l b a
        · rfl
        · have h1 := (h.has a).1 hh
          have e : 2 ^ (k + 1) = 2 ^ k + 2 ^ k := by rw [Nat.pow_succ]; omega
          cases hl : hasB (l + 1) (b * 2) a
          · have hr : hasB (l + 1) (b * 2 + 1) a = true := by
              rw [h.high.has a]
              have : ¬ ((o : Int) ≤ a ∧ a < ((o + 2 ^ k : Nat) : Int)) := fun q => by rw [(h.low.has a).2 q] at hl; cases hl
              omega
            simp [hr]
          · simp

/-- Routes one beside the other, from s to below e. -/
def Chn : Int → List Rt → Int → Prop
  | s, [], e => s = e
  | s, r :: rs, e => okB r.1 r.2.1 = true ∧ firstI r.1 r.2.1 = s ∧ Chn (lastI r.1 r.2.1 + 1) rs e
theorem Chn.append : ∀ {A B : List Rt} {s m e : Int}, Chn s A m → Chn m B e → Chn s (A ++ B) e
  | [], B, s, m, e, h, k => by cases h; exact k
  | r :: A, B, s, m, e, h, k => ⟨h.1, h.2.1, Chn.append h.2.2 k⟩
theorem chn_tri {f : Nat → Int} : ∀ {k : Nat} {l b : Int} {o : Nat}, Sp k l b o → Chn o (tri f k l b o).leaves ((o + 2 ^ k : Nat) : Int)
  | k, l, b, o, h => by
    by_cases ha : Alk f o (2 ^ k)
    · rw [tri_alk ha]
      exact ⟨h.2.1, h.first, h.last⟩
    · cases k with
      | zero => exact absurd (alk_one f o) ha
      | succ k =>
        rw [tri_not ha, TT.leaves]
        have h1 := chn_tri (f := f) h.low
        have h2 := chn_tri (f := f) h.high
        rw [show o + 2 ^ k + 2 ^ k = o + 2 ^ (k + 1) by rw [Nat.pow_succ]; omega] at h2
        exact h1.append h2
/-- Of a row of routes: all are prefixes, none begins ahead of s. -/
theorem Chn.mem : ∀ {rs : List Rt} {s e : Int}, Chn s rs e → s ≤ e ∧ ∀ r ∈ rs, okB r.1 r.2.1 = true ∧ s ≤ firstI r.1 r.2.1 ∧ lastI r.1 r.2.1 < e
  | [], s, e, h => by cases h; exact ⟨Int.le_refl _, by simp⟩
  | r :: rs, s, e, h => by
    obtain ⟨h1, h2, h3⟩ := h
    obtain ⟨i1, i2⟩ := h3.mem
    obtain ⟨g0, g1, g2, _⟩ := span_has (a := 0) h1
    refine ⟨by omega, fun x hx => ?_⟩
    rcases List.mem_cons.1 hx with rfl | hx
    · exact ⟨h1, by omega, by omega⟩
    · obtain ⟨j1, j2, j3⟩ := i2 x hx
      exact ⟨j1, by omega, j3⟩
theorem Chn.srt : ∀ {rs : List Rt} {s e : Int}, Chn s rs e → rs.Pairwise (fun r s => lessB r.1 r.2.1 s.1 s.2.1 = true)
  | [], s, e, h => by simp
  | r :: rs, s, e, h => by
    obtain ⟨h1, h2, h3⟩ := h
    refine List.pairwise_cons.2 ⟨fun x hx => ?_, h3.srt⟩
    obtain ⟨_, j2, _⟩ := h3.mem.2 x hx
    obtain ⟨g0, g1, g2, _⟩ := span_has (a := 0) h1
    rw [less_iff]; omega
/-- How many have an address. -/
def cntL (rs : List Rt) (a : Int) : Nat := rs.countP (fun r => hasB r.1 r.2.1 a)
theorem Chn.cnt : ∀ {rs : List Rt} {s e : Int} (a : Int), Chn s rs e → cntL rs a = if s ≤ a ∧ a < e then 1 else 0
  | [], s, e, a, h => by cases h; rw [if_neg (by omega)]; rfl
  | r :: rs, s, e, a, h => by
    obtain ⟨h1, h2, h3⟩ := h
    have ih := h3.cnt a
    have hm := h3.mem.1
    obtain ⟨g0, g1, g2, g3⟩ := span_has (a := a) h1
    unfold cntL at ih ⊢
    rw [List.countP_cons, ih]
    cases hh : hasB r.1 r.2.1 a
    · have : ¬ (firstI r.1 r.2.1 ≤ a ∧ a ≤ lastI r.1 r.2.1) := fun q => by rw [g3.2 q] at hh; cases hh
      by_cases hq : s ≤ a ∧ a < e
      · rw [if_pos hq, if_pos (by omega)]; simp
      · rw [if_neg hq, if_neg (by omega)]; simp
    · have hq := g3.1 hh
      rw [if_neg (show ¬ (lastI r.1 r.2.1 + 1 ≤ a ∧ a < e) by omega), if_pos (show s ≤ a ∧ a < e by omega)]; simp
theorem Chn.length : ∀ {rs : List Rt} {s e : Int}, Chn s rs e → (rs.length : Int) ≤ e - s
  | [], s, e, h => by cases h; simp
  | r :: rs, s, e, h => by
    obtain ⟨h1, h2, h3⟩ := h
    have := h3.length
    obtain ⟨g0, g1, g2, g3⟩ := span_has (a := 0) h1
    simp; omega

/-- What a leaf tells of its addresses. -/
theorem leaf_tri {f : Nat → Int} : ∀ {k : Nat} {l b : Int} {o : Nat}, Sp k l b o → ∀ r ∈ (tri f k l b o).leaves, ∀ a : Int, hasB r.1 r.2.1 a = true → r.2.2 = f a.toNat
  | k, l, b, o, h, r, hr, a, ha => by
    by_cases hk : Alk f o (2 ^ k)
    · rw [tri_alk hk] at hr
      have : r = (l, b, f o) := by simpa [TT.leaves] using hr
      subst this
      have h2 := (h.has a).1 ha
      have e := hk (a.toNat - o) (by omega)
      rw [show o + (a.toNat - o) = a.toNat by omega] at e
      exact e.symm
    · cases k with
      | zero => exact absurd (alk_one f o) hk
      | succ k =>
        rw [tri_not hk, TT.leaves] at hr
        rcases List.mem_append.1 hr with hr | hr
        · exact leaf_tri h.low r hr a ha
        · exact leaf_tri h.high r hr a ha

/-- Where the same addresses go alike the tries are the same. -/
theorem tri_congr {f g : Nat → Int} : ∀ {k : Nat} {l b : Int} {o : Nat}, (∀ j, j < 2 ^ k → f (o + j) = g (o + j)) → tri f k l b o = tri g k l b o
  | 0, l, b, o, h => by rw [tri, tri, show f o = g o from h 0 (by decide)]
  | k + 1, l, b, o, h => by
    have e0 : f o = g o := h 0 (Nat.pow_pos (by decide))
    have e : 2 ^ (k + 1) = 2 ^ k + 2 ^ k := by rw [Nat.pow_succ]; omega
    have ea : Alk f o (2 ^ (k + 1)) ↔ Alk g o (2 ^ (k + 1)) := by
      constructor
      · intro q j hj; rw [← h j hj, q j hj, e0]
      · intro q j hj; rw [h j hj, q j hj, e0]
    have e1 : tri f k (l + 1) (b * 2) o = tri g k (l + 1) (b * 2) o := tri_congr fun j hj => h j (by omega)
    have e2 : tri f k (l + 1) (b * 2 + 1) (o + 2 ^ k) = tri g k (l + 1) (b * 2 + 1) (o + 2 ^ k) := tri_congr fun j hj => by rw [Nat.add_assoc]; exact h _ (by omega)
    rw [tri, tri, e0, e1, e2]
    by_cases hq : Alk g o (2 ^ (k + 1))
    · rw [if_pos (ea.2 hq), if_pos hq]
    · rw [if_neg (fun q => hq (ea.1 q)), if_neg hq]

theorem cnt_mem {rs : List Rt} {a : Int} (h : cntL rs a = 1) : ∃ r ∈ rs, hasB r.1 r.2.1 a = true := by
  have : 0 < rs.countP (fun r => hasB r.1 r.2.1 a) := by unfold cntL at h; omega
  exact List.countP_pos_iff.1 this

attribute [irreducible] tri
/-- The trie of all addresses. -/
def triT (f : Nat → Int) : TT := tri f 8 0 0 0
theorem chn_T (f : Nat → Int) : Chn 0 (triT f).leaves 256 := by
  have h := chn_tri (f := f) Sp.root
  rw [show ((0 + 2 ^ 8 : Nat) : Int) = 256 by decide, show ((0 : Nat) : Int) = 0 by decide] at h
  unfold triT
  exact h
theorem len_T (f : Nat → Int) : (triT f).leaves.length ≤ 256 := by have := (chn_T f).length; omega
theorem root_has (a : Int) : hasB 0 0 a = true ↔ 0 ≤ a ∧ a < 256 := by rw [Sp.root.has a]; simp
theorem look_T (f : Nat → Int) (a : Int) : (triT f).look a = if 0 ≤ a ∧ a < 256 then f a.toNat else -1 := by
  unfold triT
  rw [look_tri Sp.root a]
  by_cases h : 0 ≤ a ∧ a < 256
  · rw [if_pos h, if_pos ((root_has a).2 h)]
  · rw [if_neg h, if_neg (fun q => h ((root_has a).1 q))]
theorem cnt_T (f : Nat → Int) (a : Int) : cntL (triT f).leaves a = if 0 ≤ a ∧ a < 256 then 1 else 0 := (chn_T f).cnt a
theorem leaf_T {f : Nat → Int} {r : Rt} (hr : r ∈ (triT f).leaves) {a : Int} (ha : hasB r.1 r.2.1 a = true) : r.2.2 = f a.toNat := leaf_tri Sp.root r hr a ha
theorem leaf_look {f : Nat → Int} {r : Rt} (hr : r ∈ (triT f).leaves) {a : Int} (ha : hasB r.1 r.2.1 a = true) : r.2.2 = (triT f).look a := by
  obtain ⟨_, h0, h1, _⟩ := has_iff.1 ha
  rw [look_T, if_pos ⟨h0, h1⟩, leaf_T hr ha]
/-- Every leaf's hop is one of the addresses'. -/
theorem leaf_hop {f : Nat → Int} {r : Rt} (hr : r ∈ (triT f).leaves) : ∃ j : Nat, j < 256 ∧ r.2.2 = f j := by
  obtain ⟨ho, h1, h2⟩ := (chn_T f).mem.2 r hr
  obtain ⟨g0, g1, g2, g3⟩ := span_has (a := firstI r.1 r.2.1) ho
  exact ⟨(firstI r.1 r.2.1).toNat, by omega, leaf_T hr (g3.2 ⟨Int.le_refl _, g1⟩)⟩
/-- The same leaves: all addresses go alike. -/
theorem leaves_same {f g : Nat → Int} : (triT f).leaves = (triT g).leaves ↔ ∀ j : Nat, j < 256 → f j = g j := by
  constructor
  · intro h j hj
    obtain ⟨r, hr, ha⟩ := cnt_mem (a := (j : Int)) (by rw [cnt_T f, if_pos (by omega)])
    rw [show f j = r.2.2 by rw [leaf_T hr ha]; simp]
    rw [h] at hr
    rw [leaf_T hr ha]; simp
  · intro h
    rw [triT, triT, tri_congr (g := g) (fun j hj => by simpa using h j hj)]

theorem whole_tri {f : Nat → Int} : ∀ {k : Nat} {l b : Int} {o : Nat}, Sp k l b o → (tri f k l b o).Whole l b
  | k, l, b, o, h => by
    by_cases hk : Alk f o (2 ^ k)
    · rw [tri_alk hk]; exact ⟨rfl, rfl⟩
    · cases k with
      | zero => exact absurd (alk_one f o) hk
      | succ k =>
        rw [tri_not hk]
        obtain ⟨b1, b2, b3, b4⟩ := h.bd
        refine ⟨rfl, rfl, b1, by have := h.1; omega, b3, b4, ?_, whole_tri h.low, whole_tri h.high⟩
        rintro ⟨e1, e2, e3⟩
        obtain ⟨a1, c1⟩ := tri_leaf e1
        obtain ⟨a2, c2⟩ := tri_leaf e2
        rw [c1, c2] at e3
        refine hk fun j hj => ?_
        have e : 2 ^ (k + 1) = 2 ^ k + 2 ^ k := by rw [Nat.pow_succ]; omega
        by_cases hj2 : j < 2 ^ k
        · exact a1 j hj2
        · have := a2 (j - 2 ^ k) (by omega)
          rw [show o + 2 ^ k + (j - 2 ^ k) = o + j by omega] at this
          rw [this, e3]
theorem whole_T (f : Nat → Int) : (triT f).Whole 0 0 := by unfold triT; exact whole_tri Sp.root

/-- A list of leaves is a table's, but that it may be too long. -/
theorem chkGo_ok : ∀ (rs : List Rt) (p : Option Rt), (∀ r ∈ rs, okB r.1 r.2.1 = true ∧ hopB r.2.2 = true) → rs.Pairwise (fun r s => lessB r.1 r.2.1 s.1 s.2.1 = true) → (∀ q, p = some q → ∀ r ∈ rs, lessB q.1 q.2.1 r.1 r.2.1 = true) → chkGo p rs = 0
  | [], _, _, _, _ => rfl
  | r :: rs, p, h1, h2, h3 => by
    have hf : fltL p r = 0 := by
      obtain ⟨a1, a2⟩ := h1 r (by simp)
      unfold fltL
      rw [if_neg (by simp [a1, a2])]
      cases p with
      | none => rfl
      | some q =>
        have hq := h3 q rfl r (by simp)
        have hs : sameB q r.1 r.2.1 = false := by
          cases e : sameB q r.1 r.2.1
          · rfl
          · have e' : q.1 = r.1 ∧ q.2.1 = r.2.1 := by simpa [sameB] using e
            rw [e'.1, e'.2, less_irr] at hq; cases hq
        simp [hs, hq]
    rw [chkGo, if_pos hf]
    obtain ⟨p1, p2⟩ := List.pairwise_cons.1 h2
    exact chkGo_ok rs (some r) (fun x hx => h1 x (by simp [hx])) p2 (fun q hq x hx => by cases hq; exact p1 x hx)
theorem chk_T {f : Nat → Int} (hf : ∀ j : Nat, j < 256 → hopB (f j) = true) : chkL (triT f).leaves = if 40 < (triT f).leaves.length then 3 else 0 := by
  unfold chkL
  split
  · rfl
  · refine chkGo_ok _ none (fun r hr => ⟨((chn_T f).mem.2 r hr).1, ?_⟩) (chn_T f).srt (fun q hq => by cases hq)
    obtain ⟨j, hj, e⟩ := leaf_hop hr
    rw [e]; exact hf j hj

/-- Of routes that each tell of their addresses what is so, and one has the address. -/
theorem lookL_all {rs : List Rt} {a x : Int} (h : ∀ r ∈ rs, hasB r.1 r.2.1 a = true → r.2.2 = x) (he : ∃ r ∈ rs, hasB r.1 r.2.1 a = true) : lookL rs a = x := by
  have key : ∀ (rs : List Rt) (y : Int), (∀ r ∈ rs, hasB r.1 r.2.1 a = true → r.2.2 = x) → ((∃ r ∈ rs, hasB r.1 r.2.1 a = true) ∨ y = x) → lookFrom y rs a = x := by
    intro rs
    induction rs with
    | nil => intro y _ h2; rcases h2 with ⟨r, hr, _⟩ | h2
             · simp at hr
             · exact h2
    | cons r rs ih =>
      intro y h1 h2
      show lookFrom (if hasB r.1 r.2.1 a then r.2.2 else y) rs a = x
      refine ih _ (fun s hs => h1 s (by simp [hs])) ?_
      cases hh : hasB r.1 r.2.1 a
      · rcases h2 with ⟨s, hs, hsa⟩ | h2
        · rcases List.mem_cons.1 hs with rfl | hs
          · rw [hh] at hsa; cases hsa
          · exact .inl ⟨s, hs, hsa⟩
        · exact .inr (by simpa using h2)
      · exact .inr (by simpa using h1 r (by simp) hh)
  exact key rs (-1) h (.inl he)
theorem lookL_T (f : Nat → Int) (j : Nat) (hj : j < 256) : lookL (triT f).leaves j = f j := by
  refine lookL_all (fun r hr ha => by rw [leaf_T hr ha]; simp) (cnt_mem (by rw [cnt_T, if_pos (by omega)]))

/-- Where an address goes is a hop. -/
theorem lookFrom_hop {a : Int} : ∀ (rs : List Rt) (x : Int), hopB x = true → (∀ r ∈ rs, hopB r.2.2 = true) → hopB (lookFrom x rs a) = true
  | [], x, hx, _ => hx
  | r :: rs, x, hx, h => by
    show hopB (lookFrom (if hasB r.1 r.2.1 a then r.2.2 else x) rs a) = true
    refine lookFrom_hop rs _ ?_ (fun s hs => h s (by simp [hs]))
    split
    · exact h r (by simp)
    · exact hx
theorem Tab.look_hop {rs : List Rt} (h : Tab rs) (a : Int) : hopB (lookL rs a) = true := lookFrom_hop rs (-1) (by decide) (fun r hr => (h.ok r hr).2)
theorem look_no {rs : List Rt} {a : Int} (h : ¬ (0 ≤ a ∧ a < 256)) : lookL rs a = -1 := lookL_none fun r _ => by
  cases e : hasB r.1 r.2.1 a
  · rfl
  · obtain ⟨_, h0, h1, _⟩ := has_iff.1 e
    exact absurd ⟨h0, h1⟩ h
/-- The table's own trie. -/
def trT (rs : List Rt) : TT := triT fun j => lookL rs j
theorem trT_look (rs : List Rt) (a : Int) : (trT rs).look a = lookL rs a := by
  rw [trT, look_T]
  by_cases h : 0 ≤ a ∧ a < 256
  · rw [if_pos h, show ((a.toNat : Nat) : Int) = a by omega]
  · rw [if_neg h, look_no h]

end Go.Proofs.Ytmlmcpopkcgflab
