import Derived.WalkKit
import Derived.WalkSpells
import Derived.BigQuiet
import Derived.Handy
import Derived.RowKit3
import Derived.WalkSmall
import Derived.Deep.QuietTactic
import Derived.Deep.RegionWith
/- PLAIN FACTS ON NUMBERS: no Go in sight. -/
namespace Go.Proofs.YtfcknkanbcndjagGreatDoor

/-- Is it a prefix? -/
def okB (l b : Int) : Bool := decide (0 ≤ l ∧ l ≤ 8 ∧ 0 ≤ b ∧ b < 2 ^ l.toNat)
/-- Is it an address? -/
def adB (a : Int) : Bool := decide (0 ≤ a ∧ a < 256)
/-- The lowest address. -/
def firstI (l b : Int) : Int := if okB l b then b * 2 ^ (8 - l).toNat else -1
/-- The greatest address. -/
def lastI (l b : Int) : Int := if okB l b then b * 2 ^ (8 - l).toNat + 2 ^ (8 - l).toNat - 1 else -1
/-- Is an address one of its? -/
def hasB (l b a : Int) : Bool := decide (okB l b = true ∧ 0 ≤ a ∧ a < 256 ∧ a / 2 ^ (8 - l).toNat = b)
/-- Does it stand ahead? -/
def lessB (l b m c : Int) : Bool := decide (firstI l b < firstI m c ∨ firstI l b = firstI m c ∧ l < m)

theorem ok_iff {l b : Int} : okB l b = true ↔ 0 ≤ l ∧ l ≤ 8 ∧ 0 ≤ b ∧ b < 2 ^ l.toNat := by unfold okB; simp
theorem has_iff {l b a : Int} : hasB l b a = true ↔ okB l b = true ∧ 0 ≤ a ∧ a < 256 ∧ a / 2 ^ (8 - l).toNat = b := by unfold hasB; simp
theorem less_iff {l b m c : Int} : lessB l b m c = true ↔ firstI l b < firstI m c ∨ firstI l b = firstI m c ∧ l < m := by unfold lessB; simp

/-- Nine lengths. -/
theorem nine {l : Int} (h0 : 0 ≤ l) (h8 : l ≤ 8) : l = 0 ∨ l = 1 ∨ l = 2 ∨ l = 3 ∨ l = 4 ∨ l = 5 ∨ l = 6 ∨ l = 7 ∨ l = 8 := by omega

theorem pw_bd (k : Int) (h : k ≤ 8) : (1 : Int) ≤ 2 ^ k.toNat ∧ (2 : Int) ^ k.toNat ≤ 256 := by
  by_cases h0 : 0 ≤ k
  · rcases nine h0 h with h | h | h | h | h | h | h | h | h <;> subst h <;> decide
  · have e : k.toNat = 0 := by omega
    rw [e]; decide

/-- What a prefix is, by its nine lengths: the bits, and both powers as numbers. -/
theorem ok_pows {l b : Int} (h : okB l b = true) : 0 ≤ l ∧ l ≤ 8 ∧ 0 ≤ b ∧ b < 2 ^ l.toNat ∧ 0 ≤ b * 2 ^ (8 - l).toNat ∧ b * 2 ^ (8 - l).toNat + 2 ^ (8 - l).toNat ≤ 256 := by
  obtain ⟨h0, h8, hb, hl⟩ := ok_iff.1 h
  refine ⟨h0, h8, hb, hl, ?_⟩
  rcases nine h0 h8 with h | h | h | h | h | h | h | h | h <;> subst h <;> simp at hl ⊢ <;> omega

/-- The n lowest bits of a number, as a text of 0 and 1, the lowest one last. -/
def bitsL : Nat → Int → List UInt8
  | 0, _ => []
  | n + 1, b => bitsL n (b / 2) ++ [if b % 2 = 1 then 49 else 48]
/-- The text of a prefix. -/
def textL (l b : Int) : List UInt8 := if okB l b then bitsL l.toNat b ++ (if l < 8 then [42] else []) else []

theorem bitsL_length : ∀ (n : Nat) (b : Int), (bitsL n b).length = n
  | 0, _ => rfl
  | n + 1, b => by simp [bitsL, bitsL_length n]

theorem div_pow_succ (b : Int) (m : Nat) : b / 2 ^ m / 2 = b / 2 ^ (m + 1) := by
  rw [Int.pow_succ, Int.ediv_ediv_of_nonneg (Int.le_of_lt (Int.pow_pos (by decide)))]

/-- One bit more. -/
theorem bitsL_next (n m : Nat) (b : Int) (v : UInt8) (hm : m + 1 ≤ n) (hv : (if b / 2 ^ m % 2 = 1 then (49 : UInt8) else 48) = v) :
    bitsL (n - m) (b / 2 ^ m) = bitsL (n - (m + 1)) (b / 2 ^ (m + 1)) ++ [v] := by
  have e : n - m = (n - (m + 1)) + 1 := by omega
  rw [e, bitsL, div_pow_succ, hv]

end Go.Proofs.YtfcknkanbcndjagGreatDoor

/- WORLDS THAT HAVE ONLY GROWN: 'Gr a w': w is a with new blocks behind it (and draws); 'Ext a': such a world, as a datum; a region that draws its order, all of whose operations read old memory or call what only grows, walked once in the text's order. -/
namespace Go.Proofs.YtfcknkanbcndjagGreatDoor
open Go.RowKit

/-- w is a, grown. -/
def Gr (a w : World) : Prop := Below a.heap.size a w
theorem Gr.refl (a : World) : Gr a a := Below.refl _ _
theorem Gr.trans {a b c : World} (h : Gr a b) (k : Gr b c) : Gr a c := Below.trans h (Below.mono k (Below.size h))
theorem Gr.alloc {a w : World} (h : Gr a w) (o : Obj) : Gr a (w.alloc o) := Below.alloc h (Below.size h) o
theorem Gr.drew {a w : World} (h : Gr a w) : Gr a w.drew := Below.drew h
theorem Gr.drewN {a w : World} (h : Gr a w) (n : Nat) : Gr a (w.drewN n) := below_drewN h n
theorem Gr.setCell {a w : World} (h : Gr a w) {p : Addr} (hp : a.heap.size ≤ p.block) (u : Value) : Gr a (w.setCell p u) := Below.setCell h hp u

theorem Gr.grown {a w w' : World} {row : Option Nat} (h : Gr a w) (hg : w.grownBy w' row) (hr : ∀ k, row = some k → a.heap.size ≤ k) : Gr a w' := Below.grown h hg (Below.size h) hr

/-- A world that has grown out of a. -/
structure Ext (a : World) where
  out : World
  gr : Gr a out

theorem Gr.ext {a w : World} (h : Gr a w) (d : Ext w) : Gr a d.out := h.trans d.gr
theorem ext_mk {a w : World} (h : Gr a w) : ∃ d : Ext a, w = d.out := ⟨⟨w, h⟩, rfl⟩

theorem Ext.cell {a : World} (d : Ext a) (b o : Nat) (h : b < a.heap.size) : d.out.cell? ⟨b, o, none⟩ = a.cell? ⟨b, o, none⟩ := Below.cell d.gr (p := ⟨b, o, none⟩) h
theorem Ext.frozen {a : World} (d : Ext a) (b o : Nat) (h : b < a.heap.size) : d.out.frozen? ⟨b, o, none⟩ = a.frozen? ⟨b, o, none⟩ := Below.frozen d.gr (p := ⟨b, o, none⟩) h
theorem Ext.lt {a : World} (d : Ext a) (b : Nat) (h : b < a.heap.size) : b < d.out.heap.size := Nat.lt_of_lt_of_le h (Below.size d.gr)
theorem Ext.lt1 {a : World} (d : Ext a) (b : Nat) (h : b < a.heap.size) : b < d.out.heap.size + 1 := Nat.lt_succ_of_lt (d.lt b h)
theorem Ext.lt2 {a : World} (d : Ext a) (b : Nat) (h : b < a.heap.size) : b < d.out.heap.size + 2 := Nat.lt_succ_of_lt (d.lt1 b h)
theorem Ext.ne {a : World} (d : Ext a) (b : Nat) (h : b < a.heap.size) : (d.out.heap.size = b) = False := eq_false (Nat.ne_of_gt (d.lt b h))
theorem Ext.ne' {a : World} (d : Ext a) (b : Nat) (h : b < a.heap.size) : (b = d.out.heap.size) = False := eq_false (Nat.ne_of_lt (d.lt b h))

theorem Ext.all {a : World} (p : Prop) : (Ext a → p) ↔ p := ⟨fun h => h ⟨a, Gr.refl a⟩, fun h _ => h⟩

/-- A callee that only makes memory, met in a world that has grown. -/
theorem Calls.ext_of {P : Program} {f : FuncId} {args : Array Value} {a : World} {d : Ext a} {v : Value}
    (h : Calls P f args d.out fun e w' => e = .returned v ∧ ∃ d' : Ext d.out, w' = d'.out) : Calls P f args d.out fun e w'' => e = .returned v ∧ ∃ m : Ext a, w'' = m.out :=
  h.mono fun _ _ ⟨he, d', hm⟩ => ⟨he, ext_mk (by rw [hm]; exact d.gr.ext d')⟩

/-- A region that draws, at the class of worlds that have grown. -/
theorem wp_region_ext {P : Program} {id : Nat} {Q : Exit → Act → World → Prop} {a : Act} {w : World} {l : List Oper} (hm : P.follows .mixedOrders = true) (hB : Region.lexB .any l.toArray = true)
    (h : wpQuiet P l.toArray (fun w' => ∃ d : Ext w, w' = d.out) (fun a' => ∀ w', (∃ d : Ext w, w' = d.out) → Q .normal a' w') l a) : (Code.region id l.toArray true).wp P Q a w :=
  wp_region_quiet (C := fun w' => ∃ d : Ext w, w' = d.out) hm hB (ext_mk (Gr.drew (Gr.refl w))) (by simpa using h)

/-- The same where the world at hand has grown already. -/
theorem wp_region_ext_of {P : Program} {id : Nat} {Q : Exit → Act → World → Prop} {a : Act} {B : World} {d : Ext B} {l : List Oper} (hm : P.follows .mixedOrders = true) (hB : Region.lexB .any l.toArray = true)
    (h : wpQuiet P l.toArray (fun w' => ∃ d : Ext B, w' = d.out) (fun a' => ∀ w', (∃ d : Ext B, w' = d.out) → Q .normal a' w') l a) : (Code.region id l.toArray true).wp P Q a d.out :=
  wp_region_quiet (C := fun w' => ∃ d : Ext B, w' = d.out) hm hB (ext_mk (Gr.drew d.gr)) (by simpa using h)

theorem hide {p : Prop} (h : p) : Hid p := h
theorem ret_int {k : IntKind} {a b : Int} (h : a = b) : Ending.returned (.int k a) = .returned (.int k b) := by rw [h]
theorem ret_bool {a b : Bool} (h : a = b) : Ending.returned (.bool a) = .returned (.bool b) := by rw [h]

end Go.Proofs.YtfcknkanbcndjagGreatDoor

/- PLAIN FACTS for PrefixSpan: no Go in sight. -/
namespace Go.Proofs.YtfcknkanbcndjagGreatDoor

theorem first_is_ok {l b : Int} (h : okB l b = true) : firstI l b = b * 2 ^ (8 - l).toNat := by simp [firstI, h]
theorem last_is_ok {l b : Int} (h : okB l b = true) : lastI l b = b * 2 ^ (8 - l).toNat + 2 ^ (8 - l).toNat - 1 := by simp [lastI, h]

/-- All in a row. -/
theorem span_has {l b a : Int} (h : okB l b = true) : 0 ≤ firstI l b ∧ firstI l b ≤ lastI l b ∧ lastI l b ≤ 255 ∧ (hasB l b a = true ↔ firstI l b ≤ a ∧ a ≤ lastI l b) := by
  rw [has_iff, first_is_ok h, last_is_ok h]
  obtain ⟨h0, h8, hb, hl, g1, g2⟩ := ok_pows h
  simp only [h, true_and]
  rcases nine h0 h8 with h | h | h | h | h | h | h | h | h <;> subst h <;> simp at hl g1 g2 ⊢ <;> omega

end Go.Proofs.YtfcknkanbcndjagGreatDoor

/- TABLES AS LISTS OF ROUTES: the order of prefixes; where a route stands; setting, getting, looking; what the reference does; facts for the laws. No Go here. -/
namespace Go.Proofs.YtfcknkanbcndjagGreatDoor

/-- A route: Len, Bits, Hop. -/
abbrev Rt := Int × Int × Int
def hopB (h : Int) : Bool := decide (h = -1 ∨ (0 ≤ h ∧ h < 6))
/-- Is r a route of the prefix l, b? -/
def sameB (r : Rt) (l b : Int) : Bool := decide (r.1 = l ∧ r.2.1 = b)
/-- Is r ahead of the prefix l, b? -/
def ltB (r : Rt) (l b : Int) : Bool := lessB r.1 r.2.1 l b

/-- What a table holds. -/
structure Tab (rs : List Rt) : Prop where
  ok : ∀ r ∈ rs, okB r.1 r.2.1 = true ∧ hopB r.2.2 = true
  srt : rs.Pairwise (fun r s => lessB r.1 r.2.1 s.1 s.2.1 = true)
  len : rs.length ≤ 40

theorem less_irr (l b : Int) : lessB l b l b = false := by
  cases h : lessB l b l b
  · rfl
  · rw [less_iff] at h; omega
theorem less_tr {l b m c n d : Int} (h : lessB l b m c = true) (k : lessB m c n d = true) : lessB l b n d = true := by
  rw [less_iff] at *; omega
theorem less_asy {l b m c : Int} (h : lessB l b m c = true) : lessB m c l b = false := by
  cases k : lessB m c l b
  · rfl
  · rw [less_iff] at *; omega
theorem less_tot {l b m c : Int} (ho : okB l b = true) (hk : okB m c = true) (h : lessB l b m c = false) (k : lessB m c l b = false) : l = m ∧ b = c := by
  have h1 : ¬ (firstI l b < firstI m c ∨ firstI l b = firstI m c ∧ l < m) := fun e => by rw [less_iff.2 e] at h; cases h
  have h2 : ¬ (firstI m c < firstI l b ∨ firstI m c = firstI l b ∧ m < l) := fun e => by rw [less_iff.2 e] at k; cases k
  have e1 : l = m := by omega
  have e2 : firstI l b = firstI m c := by omega
  subst e1
  rw [first_is_ok ho, first_is_ok hk] at e2
  refine ⟨rfl, ?_⟩
  have hp : (0 : Int) < 2 ^ (8 - l).toNat := Int.pow_pos (by decide)
  exact Int.eq_of_mul_eq_mul_right (by omega) e2

/-- Two prefixes with one address: the shorter one is ahead. -/
theorem less_len {l b m c a : Int} (h : hasB l b a = true) (k : hasB m c a = true) : lessB l b m c = true ↔ l < m := by
  obtain ⟨ho, a0, a1, hb⟩ := has_iff.1 h
  obtain ⟨ho', _, _, hb'⟩ := has_iff.1 k
  obtain ⟨h0, h8, _, _⟩ := ok_iff.1 ho
  obtain ⟨k0, k8, _, _⟩ := ok_iff.1 ho'
  rw [less_iff, first_is_ok ho, first_is_ok ho']
  subst hb hb'
  rcases nine h0 h8 with rfl | rfl | rfl | rfl | rfl | rfl | rfl | rfl | rfl <;>
  rcases nine k0 k8 with rfl | rfl | rfl | rfl | rfl | rfl | rfl | rfl | rfl <;>
  simp (config := { decide := true }) only [] <;> simp <;> omega
/-- Where a prefix stands, or would have to. -/
def plc (rs : List Rt) (l b : Int) : Nat := (rs.takeWhile (fun r => ltB r l b)).length
def fnd (rs : List Rt) (l b : Int) : Bool := (rs[plc rs l b]?).any (fun r => sameB r l b)
def getL (rs : List Rt) (l b : Int) : Int := match rs[plc rs l b]? with | some r => if sameB r l b then r.2.2 else -2 | none => -2
def setL (rs : List Rt) (l b h : Int) : List Rt × Int :=
  if okB l b = false ∨ (hopB h = false ∧ h ≠ -2) then (rs, 1)
  else if h = -2 ∧ fnd rs l b = false then (rs, 6)
  else if h = -2 then (rs.take (plc rs l b) ++ rs.drop (plc rs l b + 1), 0)
  else if fnd rs l b = true then (rs.take (plc rs l b) ++ (l, b, h) :: rs.drop (plc rs l b + 1), 0)
  else if 40 ≤ rs.length then (rs, 9)
  else (rs.take (plc rs l b) ++ (l, b, h) :: rs.drop (plc rs l b), 0)

theorem takeWhile_len_le (p : Rt → Bool) (rs : List Rt) : (rs.takeWhile p).length ≤ rs.length := by
  induction rs with
  | nil => simp
  | cons r rs ih => simp only [List.takeWhile_cons]; split <;> simp; omega
theorem plc_le (rs : List Rt) (l b : Int) : plc rs l b ≤ rs.length := takeWhile_len_le _ _
theorem Tab.mem {rs : List Rt} (h : Tab rs) {r : Rt} (hr : r ∈ rs) : okB r.1 r.2.1 = true := (h.ok r hr).1

/-- The routes ahead of a prefix, and the others. -/
theorem Tab.cut {rs : List Rt} (h : Tab rs) (l b : Int) : ∃ A B, rs = A ++ B ∧ plc rs l b = A.length ∧ (∀ r ∈ A, ltB r l b = true) ∧ (∀ r ∈ B, ltB r l b = false) := by
  refine ⟨rs.takeWhile (fun r => ltB r l b), rs.dropWhile (fun r => ltB r l b), List.takeWhile_append_dropWhile.symm, rfl, ?_, ?_⟩
  · intro r hr
    clear h
    induction rs with
    | nil => simp at hr
    | cons x rs ih =>
      rw [List.takeWhile_cons] at hr
      split at hr
      · rename_i hx
        rcases List.mem_cons.1 hr with rfl | hr
        · exact hx
        · exact ih hr
      · simp at hr
  · have hs := h.srt
    clear h
    induction rs with
    | nil => intro r hr; simp at hr
    | cons x rs ih =>
      intro r hr
      rw [List.dropWhile_cons] at hr
      rw [List.pairwise_cons] at hs
      split at hr
      · exact ih hs.2 r hr
      · rename_i hx
        rcases List.mem_cons.1 hr with rfl | hr
        · simpa using hx
        · cases e : ltB r l b
          · rfl
          · exact absurd (less_tr (hs.1 r hr) e) hx

/-- What place finds: the places below are those ahead. -/
theorem plc_lt {rs : List Rt} (h : Tab rs) (l b : Int) (t : Nat) (ht : t < rs.length) : (t < plc rs l b → ltB rs[t] l b = true) ∧ (plc rs l b ≤ t → ltB rs[t] l b = false) := by
  obtain ⟨A, B, rfl, hp, hA, hB⟩ := h.cut l b
  rw [hp]
  refine ⟨fun hlt => ?_, fun hge => ?_⟩
  · rw [List.getElem_append_left hlt]
    exact hA _ (List.getElem_mem _)
  · rw [List.getElem_append_right hge]
    exact hB _ (List.getElem_mem _)

/-- A table parted at a prefix: its route, if it is there. -/
theorem Tab.part {rs : List Rt} (h : Tab rs) {l b : Int} (ho : okB l b = true) :
    ∃ A B, plc rs l b = A.length ∧ (∀ r ∈ A, lessB r.1 r.2.1 l b = true) ∧ (∀ r ∈ B, lessB l b r.1 r.2.1 = true) ∧
      ((rs = A ++ B ∧ fnd rs l b = false ∧ getL rs l b = -2) ∨ ∃ h0, hopB h0 = true ∧ rs = A ++ (l, b, h0) :: B ∧ fnd rs l b = true ∧ getL rs l b = h0) := by
  obtain ⟨A, B, rfl, hp, hA, hB⟩ := h.cut l b
  have key : ∀ r ∈ B, sameB r l b = false → lessB l b r.1 r.2.1 = true := by
    intro r hr hs
    cases e : lessB l b r.1 r.2.1
    · have := less_tot (h.mem (List.mem_append_right _ hr)) ho (hB r hr) e
      simp [sameB, this] at hs
    · rfl
  cases B with
  | nil =>
    refine ⟨A, [], hp, hA, by simp, .inl ⟨rfl, ?_, ?_⟩⟩
    · unfold fnd; rw [hp]; simp
    · unfold getL; rw [hp]; simp
  | cons x B =>
    have hx : (A ++ x :: B)[plc (A ++ x :: B) l b]? = some x := by rw [hp]; simp
    have hrest : ∀ r ∈ B, lessB x.1 x.2.1 r.1 r.2.1 = true := by
      have := (List.pairwise_append.1 h.srt).2.1
      exact (List.pairwise_cons.1 this).1
    cases hs : sameB x l b
    · refine ⟨A, x :: B, hp, hA, ?_, .inl ⟨rfl, ?_, ?_⟩⟩
      · intro r hr
        rcases List.mem_cons.1 hr with rfl | hr'
        · exact key _ hr hs
        · exact less_tr (key x (by simp) hs) (hrest r hr')
      · unfold fnd; rw [hx]; simp [hs]
      · unfold getL; rw [hx]; simp [hs]
    · obtain ⟨xl, xb, xh⟩ := x
      have e : xl = l ∧ xb = b := by simpa [sameB] using hs
      obtain ⟨rfl, rfl⟩ := e
      refine ⟨A, B, hp, hA, hrest, .inr ⟨xh, (h.ok (xl, xb, xh) (by simp)).2, rfl, ?_, ?_⟩⟩
      · unfold fnd; rw [hx]; simp [hs]
      · unfold getL; rw [hx]; simp [hs]

/-- What is no prefix is not there. -/
theorem Tab.lacks {rs : List Rt} (h : Tab rs) {l b : Int} (ho : okB l b = false) : fnd rs l b = false ∧ getL rs l b = -2 := by
  have : ∀ r, rs[plc rs l b]? = some r → sameB r l b = false := by
    intro r hr
    cases hs : sameB r l b
    · rfl
    · have e : r.1 = l ∧ r.2.1 = b := by simpa [sameB] using hs
      have := h.mem (List.mem_of_getElem? hr)
      rw [e.1, e.2, ho] at this
      cases this
  unfold fnd getL
  cases hr : rs[plc rs l b]? with
  | none => simp
  | some r => simp [this r hr]

/-- A table of parts. -/
theorem Tab.mk_parts {A B : List Rt} {l b h : Int} (hAB : Tab (A ++ B)) (ho : okB l b = true) (hh : hopB h = true) (hA : ∀ r ∈ A, lessB r.1 r.2.1 l b = true) (hB : ∀ r ∈ B, lessB l b r.1 r.2.1 = true) (hl : (A ++ B).length < 40) : Tab (A ++ (l, b, h) :: B) := by
  refine ⟨?_, ?_, by simp at hl ⊢; omega⟩
  · intro r hr
    rcases List.mem_append.1 hr with hr | hr
    · exact hAB.ok r (List.mem_append_left _ hr)
    · rcases List.mem_cons.1 hr with rfl | hr
      · exact ⟨ho, hh⟩
      · exact hAB.ok r (List.mem_append_right _ hr)
  · have hp := List.pairwise_append.1 hAB.srt
    refine List.pairwise_append.2 ⟨hp.1, List.pairwise_cons.2 ⟨hB, hp.2.1⟩, ?_⟩
    intro x hx y hy
    rcases List.mem_cons.1 hy with rfl | hy
    · exact hA x hx
    · exact hp.2.2 x hx y hy
theorem Tab.drop_mid {A B : List Rt} {r : Rt} (h : Tab (A ++ r :: B)) : Tab (A ++ B) := by
  refine ⟨fun x hx => h.ok x ?_, ?_, by have := h.len; simp at this ⊢; omega⟩
  · rcases List.mem_append.1 hx with hx | hx
    · exact List.mem_append_left _ hx
    · exact List.mem_append_right _ (List.mem_cons_of_mem _ hx)
  · have hp := List.pairwise_append.1 h.srt
    exact List.pairwise_append.2 ⟨hp.1, (List.pairwise_cons.1 hp.2.1).2, fun x hx y hy => hp.2.2 x hx y (List.mem_cons_of_mem _ hy)⟩

/-- Set, by parts. -/
theorem Tab.set {rs : List Rt} (h : Tab rs) (l b h' : Int) :
    ((setL rs l b h').1 = rs ∧ (setL rs l b h').2 ≠ 0) ∨
    (okB l b = true ∧ (setL rs l b h').2 = 0 ∧ ∃ A B, plc rs l b = A.length ∧ (∀ r ∈ A, lessB r.1 r.2.1 l b = true) ∧ (∀ r ∈ B, lessB l b r.1 r.2.1 = true) ∧
      ((h' = -2 ∧ ∃ h0, hopB h0 = true ∧ rs = A ++ (l, b, h0) :: B ∧ fnd rs l b = true ∧ getL rs l b = h0 ∧ (setL rs l b h').1 = A ++ B) ∨
       (hopB h' = true ∧ h' ≠ -2 ∧ (setL rs l b h').1 = A ++ (l, b, h') :: B ∧ ((rs = A ++ B ∧ rs.length < 40 ∧ fnd rs l b = false ∧ getL rs l b = -2) ∨ ∃ h0, hopB h0 = true ∧ rs = A ++ (l, b, h0) :: B ∧ fnd rs l b = true ∧ getL rs l b = h0)))) := by
  unfold setL
  by_cases h1 : okB l b = false ∨ (hopB h' = false ∧ h' ≠ -2)
  · rw [if_pos h1]; exact .inl ⟨rfl, by simp⟩
  rw [if_neg h1]
  have ho : okB l b = true := by cases e : okB l b with | true => rfl | false => exact absurd (.inl e) h1
  obtain ⟨A, B, hp, hA, hB, hc⟩ := h.part ho
  by_cases h2 : h' = -2 ∧ fnd rs l b = false
  · rw [if_pos h2]; exact .inl ⟨rfl, by simp⟩
  rw [if_neg h2]
  by_cases h3 : h' = -2
  · rw [if_pos h3]
    rcases hc with ⟨_, e, _⟩ | ⟨h0, hh0, e, hf, hg⟩
    · exact absurd ⟨h3, e⟩ h2
    · refine .inr ⟨ho, rfl, A, B, hp, hA, hB, .inl ⟨h3, h0, hh0, e, hf, hg, ?_⟩⟩
      rw [hp, e]
      simp
  rw [if_neg h3]
  have hh : hopB h' = true := by cases e : hopB h' with | true => rfl | false => exact absurd (.inr ⟨e, h3⟩) h1
  by_cases h4 : fnd rs l b = true
  · rw [if_pos h4]
    rcases hc with ⟨_, e, _⟩ | ⟨h0, hh0, e, hf, hg⟩
    · rw [e] at h4; cases h4
    · refine .inr ⟨ho, rfl, A, B, hp, hA, hB, .inr ⟨hh, h3, ?_, .inr ⟨h0, hh0, e, hf, hg⟩⟩⟩
      rw [hp, e]
      simp
  rw [if_neg h4]
  by_cases h5 : 40 ≤ rs.length
  · rw [if_pos h5]; exact .inl ⟨rfl, by simp⟩
  rw [if_neg h5]
  rcases hc with ⟨e, hf, hg⟩ | ⟨h0, hh0, e, hf, hg⟩
  · refine .inr ⟨ho, rfl, A, B, hp, hA, hB, .inr ⟨hh, h3, ?_, .inl ⟨e, by omega, hf, hg⟩⟩⟩
    rw [hp, e]
    simp
  · exact absurd hf h4

theorem Tab.set_tab {rs : List Rt} (h : Tab rs) (l b h' : Int) : Tab (setL rs l b h').1 := by
  rcases h.set l b h' with ⟨e, _⟩ | ⟨ho, _, A, B, _, hA, hB, ⟨_, h0, _, e, _, _, e'⟩ | ⟨hh, _, e', ⟨e, hl, _⟩ | ⟨h0, _, e, _⟩⟩⟩
  · rw [e]; exact h
  · rw [e']; subst e; exact h.drop_mid
  · rw [e']; subst e; exact h.mk_parts ho hh hA hB hl
  · rw [e']; subst e
    exact h.drop_mid.mk_parts ho hh hA hB (by have := h.len; simp at this ⊢; omega)

theorem Tab.nil : Tab [] := ⟨by simp, by simp, by simp⟩

/-- Looking: from the end on. -/
def lookL (rs : List Rt) (a : Int) : Int := rs.foldl (fun acc r => if hasB r.1 r.2.1 a then r.2.2 else acc) (-1)
theorem lookL_snoc (rs : List Rt) (r : Rt) (a : Int) : lookL (rs ++ [r]) a = if hasB r.1 r.2.1 a then r.2.2 else lookL rs a := by simp [lookL]
def lookFrom (x : Int) (rs : List Rt) (a : Int) : Int := rs.foldl (fun acc r => if hasB r.1 r.2.1 a then r.2.2 else acc) x
theorem lookFrom_none {B : List Rt} {a : Int} (h : ∀ r ∈ B, hasB r.1 r.2.1 a = false) (x : Int) : lookFrom x B a = x := by
  induction B generalizing x with
  | nil => rfl
  | cons r B ih => simp only [lookFrom, List.foldl_cons, h r (by simp)]; exact ih (fun y hy => h y (by simp [hy])) x
theorem lookL_none {rs : List Rt} {a : Int} (h : ∀ r ∈ rs, hasB r.1 r.2.1 a = false) : lookL rs a = -1 := lookFrom_none h _

/-- The reference's Set: one round; all rounds. -/
def stepR (l b h : Int) (st : List Rt × Bool) (r : Rt) : List Rt × Bool :=
  if sameB r l b then st else if !st.2 && lessB l b r.1 r.2.1 then (st.1 ++ [(l, b, h)] ++ [r], true) else (st.1 ++ [r], st.2)
def foldR (rs : List Rt) (l b h : Int) : List Rt × Bool := rs.foldl (stepR l b h) ([], decide (h = -2))
def outR (rs : List Rt) (l b h : Int) : List Rt := if (foldR rs l b h).2 then (foldR rs l b h).1 else (foldR rs l b h).1 ++ [(l, b, h)]

theorem foldR_snoc (rs : List Rt) (r : Rt) (l b h : Int) : foldR (rs ++ [r]) l b h = stepR l b h (foldR rs l b h) r := by simp [foldR]

theorem step_A {l b h : Int} {A : List Rt} (hA : ∀ r ∈ A, lessB r.1 r.2.1 l b = true) (out : List Rt) (put : Bool) : A.foldl (stepR l b h) (out, put) = (out ++ A, put) := by
  induction A generalizing out with
  | nil => simp
  | cons r A ih =>
    have hr := hA r (by simp)
    have hs : sameB r l b = false := by
      cases e : sameB r l b
      · rfl
      · have e' : r.1 = l ∧ r.2.1 = b := by simpa [sameB] using e
        rw [e'.1, e'.2, less_irr] at hr; cases hr
    have h1 : stepR l b h (out, put) r = (out ++ [r], put) := by simp [stepR, hs, less_asy hr]
    rw [List.foldl_cons, h1, ih (fun x hx => hA x (by simp [hx]))]
    simp
theorem step_B {l b h : Int} {B : List Rt} (hB : ∀ r ∈ B, lessB l b r.1 r.2.1 = true) (out : List Rt) : B.foldl (stepR l b h) (out, true) = (out ++ B, true) := by
  induction B generalizing out with
  | nil => simp
  | cons r B ih =>
    have hr := hB r (by simp)
    have hs : sameB r l b = false := by
      cases e : sameB r l b
      · rfl
      · have e' : r.1 = l ∧ r.2.1 = b := by simpa [sameB] using e
        rw [e'.1, e'.2, less_irr] at hr; cases hr
    have h1 : stepR l b h (out, true) r = (out ++ [r], true) := by simp [stepR, hs]
    rw [List.foldl_cons, h1, ih (fun x hx => hB x (by simp [hx]))]
    simp
theorem step_B0 {l b h : Int} {B : List Rt} (hB : ∀ r ∈ B, lessB l b r.1 r.2.1 = true) (out : List Rt) :
    (if (B.foldl (stepR l b h) (out, false)).2 then (B.foldl (stepR l b h) (out, false)).1 else (B.foldl (stepR l b h) (out, false)).1 ++ [(l, b, h)]) = out ++ (l, b, h) :: B := by
  cases B with
  | nil => simp
  | cons r B =>
    have hr := hB r (by simp)
    have hs : sameB r l b = false := by
      cases e : sameB r l b
      · rfl
      · have e' : r.1 = l ∧ r.2.1 = b := by simpa [sameB] using e
        rw [e'.1, e'.2, less_irr] at hr; cases hr
    have h1 : stepR l b h (out, false) r = (out ++ [(l, b, h)] ++ [r], true) := by simp [stepR, hs, hr]
    rw [List.foldl_cons, h1, step_B (fun x hx => hB x (by simp [hx]))]
    simp
theorem step_same (l b h h0 : Int) (st : List Rt × Bool) : stepR l b h st (l, b, h0) = st := by simp [stepR, sameB]

theorem Tab.outR {rs : List Rt} (h : Tab rs) (l b h' : Int) (hc : (setL rs l b h').2 = 0) : outR rs l b h' = (setL rs l b h').1 := by
  rcases h.set l b h' with ⟨_, e⟩ | ⟨ho, _, A, B, _, hA, hB, hx⟩
  · exact absurd hc e
  rcases hx with ⟨e1, h0, _, e, _, _, e'⟩ | ⟨hh, h2, e', ⟨e, hl, _⟩ | ⟨h0, _, e, _⟩⟩
  · rw [e']; subst e e1
    unfold Go.Proofs.YtfcknkanbcndjagGreatDoor.outR foldR
    rw [List.foldl_append, step_A hA, List.foldl_cons, step_same]
    simp only [decide_true, step_B hB]
    simp
  · rw [e']; subst e
    unfold Go.Proofs.YtfcknkanbcndjagGreatDoor.outR foldR
    rw [List.foldl_append, step_A hA]
    simp only [h2, decide_false, List.nil_append]
    exact step_B0 hB A
  · rw [e']; subst e
    unfold Go.Proofs.YtfcknkanbcndjagGreatDoor.outR foldR
    rw [List.foldl_append, step_A hA, List.foldl_cons, step_same]
    simp only [h2, decide_false, List.nil_append]
    exact step_B0 hB A

/-- The reference's Get. -/
def getR (rs : List Rt) (l b : Int) : Int := match rs.find? (fun r => sameB r l b && okB l b) with | some r => r.2.2 | none => -2
theorem Tab.getR {rs : List Rt} (h : Tab rs) (l b : Int) : getR rs l b = getL rs l b := by
  cases ho : okB l b
  · rw [(h.lacks ho).2]
    unfold Go.Proofs.YtfcknkanbcndjagGreatDoor.getR
    have e : rs.find? (fun r => sameB r l b && okB l b) = none := by rw [List.find?_eq_none]; intro r _; simp [ho]
    rw [e]
  · obtain ⟨A, B, _, hA, hB, hx⟩ := h.part ho
    have nA : ∀ r ∈ A, sameB r l b = false := by
      intro r hr
      cases e : sameB r l b
      · rfl
      · have e' : r.1 = l ∧ r.2.1 = b := by simpa [sameB] using e
        have := hA r hr
        rw [e'.1, e'.2, less_irr] at this; cases this
    have nB : ∀ r ∈ B, sameB r l b = false := by
      intro r hr
      cases e : sameB r l b
      · rfl
      · have e' : r.1 = l ∧ r.2.1 = b := by simpa [sameB] using e
        have := hB r hr
        rw [e'.1, e'.2, less_irr] at this; cases this
    have fA : A.find? (fun r => sameB r l b && okB l b) = none := by
      rw [List.find?_eq_none]; intro r hr; simp [nA r hr]
    have fB : B.find? (fun r => sameB r l b && okB l b) = none := by
      rw [List.find?_eq_none]; intro r hr; simp [nB r hr]
    unfold Go.Proofs.YtfcknkanbcndjagGreatDoor.getR
    rcases hx with ⟨e, _, hg⟩ | ⟨h0, _, e, _, hg⟩
    · rw [hg, e, List.find?_append, fA, fB]; rfl
    · rw [hg, e, List.find?_append, fA]
      simp [sameB, ho]

end Go.Proofs.YtfcknkanbcndjagGreatDoor
