import Derived.Test.YtfcknkanbcndjagGreatDoorNe9
import Derived.Test.YtfcknkanbcndjagGreatDoorPo0
import Derived.Test.YtfcknkanbcndjagGreatDoorL1
import Derived.Test.YtfcknkanbcndjagGreatDoorRuns
/- WHERE A WAY GOES, AS A HOP. -/
namespace Go.Proofs.YtfcknkanbcndjagGreatDoor
open Go.RowKit
theorem hopW_of (a b c : Int) (w : World) : (Instr.field 119 (.agg #[iv a, iv b, iv c]) 2).run Tryz.prog w = .ok (iv c) w := by kernel_rfl
theorem hp_way (t : Tn) (n z : Int) : (wayTn t n z).2.2 = hpT t n z := by
  unfold wayTn hpT wayOf
  by_cases hn : isN n
  · rw [if_pos hn, if_pos hn]
    by_cases hz : isN z
    · rw [if_pos hz, if_pos hz]
    · rw [if_neg hz, if_neg hz]
  · rw [if_neg hn, if_neg hn]
theorem full_take (t : Tn) (n : Int) {rs : List Rt} {k : Nat} (hk : k < rs.length) : fullL t n (rs.take (k + 1)) = fullL t n (rs.take k) ++ [(rs[k].1, rs[k].2.1, hpT t n rs[k].2.2)] := by
  rw [List.take_succ_eq_append_getElem hk, full_snoc]

end Go.Proofs.YtfcknkanbcndjagGreatDoor

/- CONTRACTS OF prefix.Child, as at layer 1. -/
namespace Go.Proofs.YtfcknkanbcndjagGreatDoor
open Go.RowKit
attribute [local go_sem] Ext.all Ext.cell Ext.frozen Ext.lt Ext.lt1 Ext.lt2 Ext.ne Ext.ne'
theorem or_0 (b : Int) (h0 : 0 ≤ b) (h : b < 256) : bits .or .i64 (b * 2) 0 = b * 2 := by
  have : ∀ n : Fin 256, bits .or .i64 ((n.val : Int) * 2) 0 = (n.val : Int) * 2 := by decide +kernel
  have h1 := this ⟨b.toNat, by omega⟩
  simpa [Int.toNat_of_nonneg h0] using h1
theorem or_1 (b : Int) (h0 : 0 ≤ b) (h : b < 256) : bits .or .i64 (b * 2) 1 = b * 2 + 1 := by
  have : ∀ n : Fin 256, bits .or .i64 ((n.val : Int) * 2) 1 = (n.val : Int) * 2 + 1 := by decide +kernel
  have h1 := this ⟨b.toNat, by omega⟩
  simpa [Int.toNat_of_nonneg h0] using h1

theorem child_yes0 (l b : Int) (ho : okB l b = true) (h8 : l < 8) (w : World) :
    Calls Tryz.prog 185 #[pfx l b, .int .i64 0] w fun e w' => e = .returned (.tuple #[pfx (l + 1) (b * 2), .bool true]) ∧ ∃ d : Ext w, w' = d.out := by
  obtain ⟨h0, _, hb, hl, g1, g2⟩ := ok_pows ho
  obtain ⟨p1, p2⟩ := pw_bd l (by omega)
  have e8 : (l == 8) = false := by simp; omega
  go_enter Tryz.func185, Tryz.ntmps185
  go_wp2_with (go_at_call 114; refine (check_is ho _).mono ?_; rintro e _ ⟨rfl, d1, rfl⟩)
  refine bodyPost_ret (v := .tuple #[pfx (l + 1) (b * 2), .bool true]) (by simp [results, Tryz.results185, go_sem, or_0 b hb (by omega)]) rfl ⟨rfl, ext_mk ?_⟩
  exact (((((Gr.refl _).alloc _).alloc _).ext d1).setCell (by simp) _).setCell (by simp) _

theorem child_yes1 (l b : Int) (ho : okB l b = true) (h8 : l < 8) (w : World) :
    Calls Tryz.prog 185 #[pfx l b, .int .i64 1] w fun e w' => e = .returned (.tuple #[pfx (l + 1) (b * 2 + 1), .bool true]) ∧ ∃ d : Ext w, w' = d.out := by
  obtain ⟨h0, _, hb, hl, g1, g2⟩ := ok_pows ho
  obtain ⟨p1, p2⟩ := pw_bd l (by omega)
  have e8 : (l == 8) = false := by simp; omega
  go_enter Tryz.func185, Tryz.ntmps185
  go_wp2_with (go_at_call 114; refine (check_is ho _).mono ?_; rintro e _ ⟨rfl, d1, rfl⟩)
  refine bodyPost_ret (v := .tuple #[pfx (l + 1) (b * 2 + 1), .bool true]) (by simp [results, Tryz.results185, go_sem, or_1 b hb (by omega)]) rfl ⟨rfl, ext_mk ?_⟩
  exact (((((Gr.refl _).alloc _).alloc _).ext d1).setCell (by simp) _).setCell (by simp) _

end Go.Proofs.YtfcknkanbcndjagGreatDoor

/- THE REFERENCE's LOOK: of the routes that have the address the longest one; of a table it is the last one. No Go here. -/
namespace Go.Proofs.YtfcknkanbcndjagGreatDoor

/-- Every route behind place k that has the address is longer than nn. -/
def Beyond (rs : List Rt) (a : Int) (k : Nat) (nn : Int) : Prop := ∀ r ∈ rs.drop k, hasB r.1 r.2.1 a = true → nn < r.1
theorem beyond_skip {rs : List Rt} {a : Int} {k : Nat} {nn : Int} (hk : k < rs.length) (h : Beyond rs a k nn) : Beyond rs a (k + 1) nn := by
  intro r hr hra
  exact h r (by rw [List.drop_eq_getElem_cons hk]; exact List.mem_cons_of_mem _ hr) hra
theorem beyond_here {rs : List Rt} {a : Int} {k : Nat} {nn : Int} (hk : k < rs.length) (h : Beyond rs a k nn) (hh : hasB rs[k].1 rs[k].2.1 a = true) : nn < rs[k].1 :=
  h rs[k] (by rw [List.drop_eq_getElem_cons hk]; exact List.mem_cons_self) hh
theorem lookL_take {rs : List Rt} {k : Nat} (hk : k < rs.length) (a : Int) : lookL (rs.take (k + 1)) a = if hasB rs[k].1 rs[k].2.1 a then rs[k].2.2 else lookL (rs.take k) a := by
  rw [List.take_succ_eq_append_getElem hk, lookL_snoc]

end Go.Proofs.YtfcknkanbcndjagGreatDoor

/- TRIES AS TREES: the least tree of where addresses go; its leaves in their order; looking in it. No Go here. -/
namespace Go.Proofs.YtfcknkanbcndjagGreatDoor

/-- A trie: leaves with Len, Bits, Hop; parts with Len, Bits and two halves. -/
inductive TT where
  | leaf (l b h : Int)
  | node (l b : Int) (lo hi : TT)

namespace TT
def len : TT → Int | .leaf l _ _ => l | .node l _ _ _ => l
def bits : TT → Int | .leaf _ b _ => b | .node _ b _ _ => b
def hop : TT → Int | .leaf _ _ h => h | .node _ _ _ _ => 0
def isLeaf : TT → Bool | .leaf _ _ _ => true | .node _ _ _ _ => false
def depth : TT → Nat | .leaf _ _ _ => 0 | .node _ _ lo hi => max lo.depth hi.depth + 1
def look : TT → Int → Int
  | .leaf l b h, a => if hasB l b a then h else -1
  | .node l b lo hi, a => if hasB l b a then (if hasB lo.len lo.bits a then lo.look a else hi.look a) else -1
/-- It is a trie of the prefix l, b in which no two leaves that are halves of one go alike. -/
def Whole : TT → Int → Int → Prop
  | .leaf l' b' _, l, b => l' = l ∧ b' = b
  | .node l' b' lo hi, l, b => l' = l ∧ b' = b ∧ 0 ≤ l ∧ l < 8 ∧ 0 ≤ b ∧ b < 256 ∧ ¬ (lo.isLeaf = true ∧ hi.isLeaf = true ∧ lo.hop = hi.hop) ∧ lo.Whole (l + 1) (b * 2) ∧ hi.Whole (l + 1) (b * 2 + 1)
end TT

/-- n addresses from o on go alike. -/
def Alk (f : Nat → Int) (o n : Nat) : Prop := ∀ j, j < n → f (o + j) = f o
instance (f : Nat → Int) (o n : Nat) : Decidable (Alk f o n) := by unfold Alk; infer_instance

/-- The trie of the prefix l, b, whose 2 ^ k addresses begin at o. -/
def tri (f : Nat → Int) : Nat → Int → Int → Nat → TT
  | 0, l, b, o => .leaf l b (f o)
  | k + 1, l, b, o => if Alk f o (2 ^ (k + 1)) then .leaf l b (f o) else .node l b (tri f k (l + 1) (b * 2) o) (tri f k (l + 1) (b * 2 + 1) (o + 2 ^ k))

theorem tri_alk {f : Nat → Int} {k : Nat} {l b : Int} {o : Nat} (h : Alk f o (2 ^ k)) : tri f k l b o = .leaf l b (f o) := by
  cases k with
  | zero => rfl
  | succ k => rw [tri, if_pos h]
theorem tri_not {f : Nat → Int} {k : Nat} {l b : Int} {o : Nat} (h : ¬ Alk f o (2 ^ (k + 1))) : tri f (k + 1) l b o = .node l b (tri f k (l + 1) (b * 2) o) (tri f k (l + 1) (b * 2 + 1) (o + 2 ^ k)) := by
  rw [tri, if_neg h]
theorem alk_one (f : Nat → Int) (o : Nat) : Alk f o (2 ^ 0) := by
  intro j hj
  have : j = 0 := by simpa using hj
  rw [this, Nat.add_zero]

/-- The prefix l, b has the 2 ^ k addresses from o on. -/
def SpT (k : Nat) (l b : Int) (o : Nat) : Prop := l + k = 8 ∧ okB l b = true ∧ (o : Int) = b * 2 ^ k

theorem SpT.root : SpT 8 0 0 0 := by refine ⟨by omega, by decide, by omega⟩
theorem SpT.pow {k : Nat} {l b : Int} {o : Nat} (h : SpT k l b o) : (8 - l).toNat = k := by have := h.1; omega
theorem SpT.first {k : Nat} {l b : Int} {o : Nat} (h : SpT k l b o) : firstI l b = o := by rw [first_is_ok h.2.1, h.pow, h.2.2]
theorem SpT.last {k : Nat} {l b : Int} {o : Nat} (h : SpT k l b o) : lastI l b + 1 = ((o + 2 ^ k : Nat) : Int) := by
  rw [last_is_ok h.2.1, h.pow, Int.natCast_add, h.2.2]; simp
theorem SpT.has {k : Nat} {l b : Int} {o : Nat} (h : SpT k l b o) (a : Int) : hasB l b a = true ↔ (o : Int) ≤ a ∧ a < ((o + 2 ^ k : Nat) : Int) := by
  rw [(span_has (a := a) h.2.1).2.2.2, h.first, ← h.last]; omega
theorem SpT.top {k : Nat} {l b : Int} {o : Nat} (h : SpT k l b o) : o + 2 ^ k ≤ 256 := by
  have h1 := (span_has (a := 0) h.2.1).2.2.1
  have h2 := h.last
  omega
theorem SpT.low {k : Nat} {l b : Int} {o : Nat} (h : SpT (k + 1) l b o) : SpT k (l + 1) (b * 2) o := by
  obtain ⟨h1, h2, h3⟩ := h
  obtain ⟨g0, g8, gb, gl⟩ := ok_iff.1 h2
  refine ⟨by omega, ok_iff.2 ⟨by omega, by omega, by omega, ?_⟩, ?_⟩
  · rw [show (l + 1).toNat = l.toNat + 1 by omega, Int.pow_succ]; omega
  · rw [h3, Int.pow_succ, Int.mul_assoc, Int.mul_comm 2]
theorem SpT.high {k : Nat} {l b : Int} {o : Nat} (h : SpT (k + 1) l b o) : SpT k (l + 1) (b * 2 + 1) (o + 2 ^ k) := by
  obtain ⟨h1, h2, h3⟩ := h
  obtain ⟨g0, g8, gb, gl⟩ := ok_iff.1 h2
  refine ⟨by omega, ok_iff.2 ⟨by omega, by omega, by omega, ?_⟩, ?_⟩
  · rw [show (l + 1).toNat = l.toNat + 1 by omega, Int.pow_succ]; omega
  · rw [Int.natCast_add, h3, Int.pow_succ, Int.add_mul, Int.mul_assoc, Int.mul_comm 2]; simp
theorem SpT.bd {k : Nat} {l b : Int} {o : Nat} (h : SpT k l b o) : 0 ≤ l ∧ l ≤ 8 ∧ 0 ≤ b ∧ b < 256 := by
  obtain ⟨h0, h8, hb, hl⟩ := ok_iff.1 h.2.1
  have := (pw_bd l h8).2
  omega

/-- Routes one beside the other, from s to below e. -/
def Chn : Int → List Rt → Int → Prop
  | s, [], e => s = e
  | s, r :: rs, e => okB r.1 r.2.1 = true ∧ firstI r.1 r.2.1 = s ∧ Chn (lastI r.1 r.2.1 + 1) rs e
theorem Chn.append : ∀ {A B : List Rt} {s m e : Int}, Chn s A m → Chn m B e → Chn s (A ++ B) e
  | [], B, s, m, e, h, k => by cases h; exact k
  | r :: A, B, s, m, e, h, k => ⟨h.1, h.2.1, Chn.append h.2.2 k⟩
/-- Of a row of routes: all are prefixes, none begins ahead of s. -/
theorem Chn.mem : ∀ {rs : List Rt} {s e : Int}, Chn s rs e → s ≤ e ∧ ∀ r ∈ rs, okB r.1 r.2.1 = true ∧ s ≤ firstI r.1 r.2.1 ∧ lastI r.1 r.2.1 < e
  | [], s, e, h => by cases h; exact ⟨Int.le_refl _, by simp⟩
  | r :: rs, s, e, h => by
    obtain ⟨h1, h2, h3⟩ := h
    obtain ⟨i1, i2⟩ := h3.mem
    obtain ⟨g0, g1, g2, _⟩ := span_has (a := 0) h1
    refine ⟨by omega, fun x hx => ?_⟩
    rcases List.mem_cons.1 hx with rfl | hx
    · exact ⟨h1, by omega, by omega⟩
    · obtain ⟨j1, j2, j3⟩ := i2 x hx
      exact ⟨j1, by omega, j3⟩
theorem Chn.srt : ∀ {rs : List Rt} {s e : Int}, Chn s rs e → rs.Pairwise (fun r s => lessB r.1 r.2.1 s.1 s.2.1 = true)
  | [], s, e, h => by simp
  | r :: rs, s, e, h => by
    obtain ⟨h1, h2, h3⟩ := h
    refine List.pairwise_cons.2 ⟨fun x hx => ?_, h3.srt⟩
    obtain ⟨_, j2, _⟩ := h3.mem.2 x hx
    obtain ⟨g0, g1, g2, _⟩ := span_has (a := 0) h1
    rw [less_iff]; omega
theorem Chn.length : ∀ {rs : List Rt} {s e : Int}, Chn s rs e → (rs.length : Int) ≤ e - s
  | [], s, e, h => by cases h; simp
  | r :: rs, s, e, h => by
    obtain ⟨h1, h2, h3⟩ := h
    have := h3.length
    obtain ⟨g0, g1, g2, g3⟩ := span_has (a := 0) h1
    simp; omega

attribute [irreducible] tri
/-- The trie of all addresses. -/
def triT (f : Nat → Int) : TT := tri f 8 0 0 0
theorem root_has (a : Int) : hasB 0 0 a = true ↔ 0 ≤ a ∧ a < 256 := by rw [SpT.root.has a]; simp
/-- A list of leaves is a table's, but that it may be too long. -/
theorem chkGo_ok : ∀ (rs : List Rt) (p : Option Rt), (∀ r ∈ rs, okB r.1 r.2.1 = true ∧ hopB r.2.2 = true) → rs.Pairwise (fun r s => lessB r.1 r.2.1 s.1 s.2.1 = true) → (∀ q, p = some q → ∀ r ∈ rs, lessB q.1 q.2.1 r.1 r.2.1 = true) → chkGo p rs = 0
  | [], _, _, _, _ => rfl
  | r :: rs, p, h1, h2, h3 => by
    have hf : fltL p r = 0 := by
      obtain ⟨a1, a2⟩ := h1 r (by simp)
      unfold fltL
      rw [if_neg (by simp [a1, a2])]
      cases p with
      | none => rfl
      | some q =>
        have hq := h3 q rfl r (by simp)
        have hs : sameB q r.1 r.2.1 = false := by
          cases e : sameB q r.1 r.2.1
          · rfl
          · have e' : q.1 = r.1 ∧ q.2.1 = r.2.1 := by simpa [sameB] using e
            rw [e'.1, e'.2, less_irr] at hq; cases hq
        simp [hs, hq]
    rw [chkGo, if_pos hf]
    obtain ⟨p1, p2⟩ := List.pairwise_cons.1 h2
    exact chkGo_ok rs (some r) (fun x hx => h1 x (by simp [hx])) p2 (fun q hq x hx => by cases hq; exact p1 x hx)
/-- Where an address goes is a hop. -/
theorem lookFrom_hop {a : Int} : ∀ (rs : List Rt) (x : Int), hopB x = true → (∀ r ∈ rs, hopB r.2.2 = true) → hopB (lookFrom x rs a) = true
  | [], x, hx, _ => hx
  | r :: rs, x, hx, h => by
    show hopB (lookFrom (if hasB r.1 r.2.1 a then r.2.2 else x) rs a) = true
    refine lookFrom_hop rs _ ?_ (fun s hs => h s (by simp [hs]))
    split
    · exact h r (by simp)
    · exact hx
theorem Tab.look_hop {rs : List Rt} (h : Tab rs) (a : Int) : hopB (lookL rs a) = true := lookFrom_hop rs (-1) (by decide) (fun r hr => (h.ok r hr).2)
theorem look_no {rs : List Rt} {a : Int} (h : ¬ (0 ≤ a ∧ a < 256)) : lookL rs a = -1 := lookL_none fun r _ => by
  cases e : hasB r.1 r.2.1 a
  · rfl
  · obtain ⟨_, h0, h1, _⟩ := has_iff.1 e
    exact absurd ⟨h0, h1⟩ h
/-- The table's own trie. -/
def trT (rs : List Rt) : TT := triT fun j => lookL rs j
end Go.Proofs.YtfcknkanbcndjagGreatDoor

/- TRIES IN MEMORY: a part stands in a block of five cells; what only grows keeps it. -/
namespace Go.Proofs.YtfcknkanbcndjagGreatDoor
open Go.RowKit

/-- In w the trie T stands at block q. -/
def Tr (w : World) : TT → Nat → Prop
  | .leaf l b h, q => w.heap[q]? = some (.cells #[iv l, iv b, iv h, .pointer none, .pointer none] 243 (0, 0))
  | .node l b lo hi, q => ∃ x y, w.heap[q]? = some (.cells #[iv l, iv b, iv 0, pv x, pv y] 243 (0, 0)) ∧ Tr w lo x ∧ Tr w hi y

theorem Tr.lt {w : World} {T : TT} {q : Nat} (h : Tr w T q) : q < w.heap.size := by
  cases T with
  | leaf l b h' => exact lt_of_block h
  | node l b lo hi => obtain ⟨x, y, e, _⟩ := h; exact lt_of_block e
theorem Tr.gr {w w' : World} (g : Gr w w') : ∀ {T : TT} {q : Nat}, Tr w T q → Tr w' T q
  | .leaf l b h', q, h => (Below.block g q (lt_of_block h)).trans h
  | .node l b lo hi, q, h => by
    obtain ⟨x, y, e, h1, h2⟩ := h
    exact ⟨x, y, (Below.block g q (lt_of_block e)).trans e, Tr.gr g h1, Tr.gr g h2⟩
theorem cell5 {w : World} {q : Nat} {a b c d e : Value} {t : TypeId} (h : w.heap[q]? = some (.cells #[a, b, c, d, e] t (0, 0))) :
    w.cell? ⟨q, 0, none⟩ = some a ∧ w.cell? ⟨q, 1, none⟩ = some b ∧ w.cell? ⟨q, 2, none⟩ = some c ∧ w.cell? ⟨q, 3, none⟩ = some d ∧ w.cell? ⟨q, 4, none⟩ = some e := by
  refine ⟨?_, ?_, ?_, ?_, ?_⟩ <;> simp [World.cell?, h]
theorem Tr.cells {w : World} {T : TT} {q : Nat} (h : Tr w T q) : w.cell? ⟨q, 0, none⟩ = some (iv T.len) ∧ w.cell? ⟨q, 1, none⟩ = some (iv T.bits) ∧ w.cell? ⟨q, 2, none⟩ = some (iv T.hop) := by
  cases T with
  | leaf l b h' => have := cell5 h; exact ⟨this.1, this.2.1, this.2.2.1⟩
  | node l b lo hi => obtain ⟨x, y, e, _⟩ := h; have := cell5 e; exact ⟨this.1, this.2.1, this.2.2.1⟩
theorem Tr.leafc {w : World} {l b h : Int} {q : Nat} (k : Tr w (.leaf l b h) q) : w.cell? ⟨q, 3, none⟩ = some (.pointer none) ∧ w.cell? ⟨q, 4, none⟩ = some (.pointer none) := by
  have := cell5 k; exact ⟨this.2.2.2.1, this.2.2.2.2⟩
theorem Tr.nodec {w : World} {l b : Int} {lo hi : TT} {q : Nat} (k : Tr w (.node l b lo hi) q) : ∃ x y, w.cell? ⟨q, 3, none⟩ = some (pv x) ∧ w.cell? ⟨q, 4, none⟩ = some (pv y) ∧ Tr w lo x ∧ Tr w hi y := by
  obtain ⟨x, y, e, h1, h2⟩ := k
  have := cell5 e
  exact ⟨x, y, this.2.2.2.1, this.2.2.2.2, h1, h2⟩

theorem pbox_gr (w : World) (l b : Int) : ∃ W, W = w.alloc (.cells #[iv l, iv b] 52) ∧ Gr w W ∧ W.cell? ⟨w.heap.size, 0, none⟩ = some (iv l) ∧ W.cell? ⟨w.heap.size, 1, none⟩ = some (iv b) ∧ w.heap.size < W.heap.size := by
  refine ⟨_, rfl, (Gr.refl w).alloc _, ?_, ?_, by simp⟩ <;> simp [go_sem]


end Go.Proofs.YtfcknkanbcndjagGreatDoor

/- CONTRACTS OF package trie: Leaf, alike. -/
namespace Go.Proofs.YtfcknkanbcndjagGreatDoor
open Go.RowKit
attribute [local go_sem] Ext.all Ext.cell Ext.frozen Ext.lt Ext.lt1 Ext.lt2 Ext.ne Ext.ne'
theorem leaf_any {w : World} {T : TT} {q : Nat} (h : Tr w T q) :
    Calls Tryz.prog 183 #[pv q] w fun e w' => e = .returned (.bool T.isLeaf) ∧ ∃ d : Ext w, w' = d.out := by
  cases T with
  | leaf l b hp =>
    obtain ⟨c3, c4⟩ := h.leafc
    clear h
    go_enter Tryz.func183, Tryz.ntmps183
    go_wp2
    go_ret
    exact ⟨rfl, ext_mk (Gr.refl _)⟩
  | node l b lo hi =>
    obtain ⟨x, y, c3, c4, _, _⟩ := h.nodec
    clear h
    go_enter Tryz.func183, Tryz.ntmps183
    go_wp2
    go_ret
    exact ⟨rfl, ext_mk (Gr.refl _)⟩
theorem leaf_as {w : World} {T : TT} {q : Nat} {v : Bool} (h : Tr w T q) (e : T.isLeaf = v) :
    Calls Tryz.prog 183 #[pv q] w fun e w' => e = .returned (.bool v) ∧ ∃ d : Ext w, w' = d.out := by
  subst e
  exact leaf_any h

/-- Cells of numbers. -/
def Nums (w : World) (g o n : Nat) (f : Nat → Int) : Prop := g < w.heap.size ∧ ∀ j : Nat, j < n → w.cell? ⟨g, o + j, none⟩ = some (iv (f (o + j)))
theorem Nums.gr {w w' : World} {g o n : Nat} {f : Nat → Int} (h : Nums w g o n f) (k : Gr w w') : Nums w' g o n f :=
  ⟨Nat.lt_of_lt_of_le h.1 (Below.size k), fun j hj => (Below.cell k (p := ⟨g, o + j, none⟩) h.1).trans (h.2 j hj)⟩
theorem Nums.low {w : World} {g o n m : Nat} {f : Nat → Int} (h : Nums w g o n f) (hm : m ≤ n) : Nums w g o m f := ⟨h.1, fun j hj => h.2 j (by omega)⟩
theorem Nums.high {w : World} {g o n m : Nat} {f : Nat → Int} (h : Nums w g o n f) (hm : m + m ≤ n) : Nums w g (o + m) m f :=
  ⟨h.1, fun j hj => by rw [Nat.add_assoc]; exact h.2 (m + j) (by omega)⟩

set_option maxRecDepth 20000 in
theorem alike_any (w : World) (g o n c : Nat) (f : Nat → Int) (H : Nums w g o n f) (h0 : 0 < n) (hm : n ≤ 256) :
    Calls Tryz.prog 184 #[.slice (some ⟨g, o, none⟩) n c] w fun e w' => e = .returned (.bool (decide (Alk f o n))) ∧ ∃ d : Ext w, w' = d.out := by
  obtain ⟨hg, HC⟩ := H
  have c0 := HC 0 h0
  rw [Nat.add_zero] at c0
  have HCh := hide HC
  clear HC
  go_enter Tryz.func184, Tryz.ntmps184
  go_wp2
  go_loopw [4, 7] (fun _ i wr => ∃ k : Nat, k ≤ n ∧ i = .int .i64 k ∧ Hid (∀ j : Nat, j < k → f (o + j) = f o) ∧ Gr w wr) (fun _ i _ => n - (intOf i).toNat)
  case atStart => exact ⟨0, by omega, rfl, (fun j hj => by omega), Gr.refl _⟩
  case round =>
    obtain ⟨k, hk, rfl, HE, gg⟩ := hrel
    obtain ⟨d, rfl⟩ := ext_mk gg
    by_cases hlt : k < n
    · have c1 := HCh.out k hlt
      by_cases he : f (o + k) = f o
      · have hb : (f (o + k) != f o) = false := by simpa using he
        have HX : Hid (∀ j : Nat, j < k + 1 → f (o + j) = f o) := fun j hj => by
          rcases Nat.lt_or_eq_of_le (Nat.le_of_lt_succ hj) with h | h
          · exact HE.out j h
          · rw [h]; exact he
        clear he
        go_wp2
        go_roundw
        case rel => exact ⟨k + 1, by omega, by go_num, HX, d.gr⟩
        case measure => simp [intOf]; omega
      · have hb : (f (o + k) != f o) = true := by simpa using he
        have HX : Hid (decide (Alk f o n) = false) := decide_eq_false fun q => he (q k hlt)
        clear he
        go_wp2
        go_ret
        exact ⟨ret_bool HX.out.symm, _, rfl⟩
    · have HX : Hid (decide (Alk f o n) = true) := decide_eq_true fun j hj => HE.out j (by omega)
      clear HE
      go_wp2
      go_ret
      exact ⟨ret_bool HX.out.symm, _, rfl⟩

end Go.Proofs.YtfcknkanbcndjagGreatDoor

/- AS FEW AS CAN BE, as numbers: what a part wishes, how few routes are enough, the table of as few as can be. No Go here. -/
namespace Go.Proofs.YtfcknkanbcndjagGreatDoor

def hopsR : List Int := [-1, 0, 1, 2, 3, 4, 5]
theorem hop_mem {h : Int} : hopB h = true ↔ h ∈ hopsR := by
  unfold hopB hopsR
  simp
  omega

/-- What two halves wish together. -/
def both (A B : Int → Bool) : Bool := hopsR.any fun g => A g && B g
def comb (A B : Int → Bool) (h : Int) : Bool := if both A B then A h && B h else A h || B h
/-- The wishes of a part. -/
def wish (f : Nat → Int) : Nat → Nat → Int → Bool
  | 0, o, h => decide (h = f o)
  | k + 1, o, h => if Alk f o (2 ^ (k + 1)) then decide (h = f o) else comb (wish f k o) (wish f k (o + 2 ^ k)) h
/-- How few routes are enough where a wish is met. -/
def few (f : Nat → Int) : Nat → Nat → Nat
  | 0, _ => 0
  | k + 1, o => few f k o + few f k (o + 2 ^ k) + (if both (wish f k o) (wish f k (o + 2 ^ k)) then 0 else 1)
def off (W : Int → Bool) (h : Int) : Nat := if W h then 0 else 1
/-- The least of the wishes. -/
def lowW (W : Int → Bool) (h : Int) : Int := (hopsR.find? W).getD h
/-- The hop to which all goes in a part, if it was h ahead of it. -/
def nxt (W : Int → Bool) (h : Int) : Int := if W h then h else lowW W h

theorem alk_low {f : Nat → Int} {o k : Nat} (h : Alk f o (2 ^ (k + 1))) : Alk f o (2 ^ k) := fun j hj => h j (by rw [Nat.pow_succ]; omega)
theorem alk_high {f : Nat → Int} {o k : Nat} (h : Alk f o (2 ^ (k + 1))) : Alk f (o + 2 ^ k) (2 ^ k) ∧ f (o + 2 ^ k) = f o := by
  have e : f (o + 2 ^ k) = f o := h (2 ^ k) (by rw [Nat.pow_succ]; have := Nat.pow_pos (n := k) (show 0 < 2 by decide); omega)
  refine ⟨fun j hj => ?_, e⟩
  rw [Nat.add_assoc, h (2 ^ k + j) (by rw [Nat.pow_succ]; omega), e]
theorem wish_alk {f : Nat → Int} {k o : Nat} (h : Alk f o (2 ^ k)) (x : Int) : wish f k o x = decide (x = f o) := by
  cases k with
  | zero => rfl
  | succ k => rw [wish, if_pos h]
theorem wish_not {f : Nat → Int} {k o : Nat} (h : ¬ Alk f o (2 ^ (k + 1))) (x : Int) : wish f (k + 1) o x = comb (wish f k o) (wish f k (o + 2 ^ k)) x := by rw [wish, if_neg h]
theorem both_iff {A B : Int → Bool} : both A B = true ↔ ∃ g ∈ hopsR, A g = true ∧ B g = true := by simp [both, List.any_eq_true]
/-- A part wishes what its halves do, also where all go alike. -/
theorem wish_rec {f : Nat → Int} (hf : ∀ j, f j ∈ hopsR) (k o : Nat) (x : Int) : wish f (k + 1) o x = comb (wish f k o) (wish f k (o + 2 ^ k)) x := by
  by_cases h : Alk f o (2 ^ (k + 1))
  · have hl := wish_alk (alk_low h)
    have hh := wish_alk (alk_high h).1
    rw [(alk_high h).2] at hh
    have hb : both (wish f k o) (wish f k (o + 2 ^ k)) = true := both_iff.2 ⟨f o, hf o, by rw [hl]; simp, by rw [hh]; simp⟩
    rw [wish_alk h, comb, if_pos hb, hl, hh]; simp
  · exact wish_not h x
theorem few_alk {f : Nat → Int} (hf : ∀ j, f j ∈ hopsR) : ∀ {k o : Nat}, Alk f o (2 ^ k) → few f k o = 0
  | 0, _, _ => rfl
  | k + 1, o, h => by
    have hl := wish_alk (alk_low h)
    have hh := wish_alk (alk_high h).1
    rw [(alk_high h).2] at hh
    have hb : both (wish f k o) (wish f k (o + 2 ^ k)) = true := both_iff.2 ⟨f o, hf o, by rw [hl]; simp, by rw [hh]; simp⟩
    rw [few, few_alk hf (alk_low h), few_alk hf (alk_high h).1, if_pos hb]
/-- Some hop is wished. -/
theorem wish_some {f : Nat → Int} (hf : ∀ j, f j ∈ hopsR) : ∀ (k o : Nat), ∃ g ∈ hopsR, wish f k o g = true
  | 0, o => ⟨f o, hf o, by simp [wish]⟩
  | k + 1, o => by
    by_cases hb : both (wish f k o) (wish f k (o + 2 ^ k)) = true
    · obtain ⟨g, hg, h1, h2⟩ := both_iff.1 hb
      exact ⟨g, hg, by rw [wish_rec hf, comb, if_pos hb, h1, h2]; rfl⟩
    · obtain ⟨g, hg, h1⟩ := wish_some hf k o
      exact ⟨g, hg, by rw [wish_rec hf, comb, if_neg hb, h1]; rfl⟩
/-- Only hops are wished. -/
theorem wish_mem {f : Nat → Int} (hf : ∀ j, f j ∈ hopsR) : ∀ (k o : Nat) {h : Int}, wish f k o h = true → h ∈ hopsR
  | 0, o, h, hw => by
    have : h = f o := by simpa [wish] using hw
    rw [this]; exact hf o
  | k + 1, o, h, hw => by
    rw [wish_rec hf, comb] at hw
    split at hw
    · simp only [Bool.and_eq_true] at hw
      exact wish_mem hf k o hw.1
    · simp only [Bool.or_eq_true] at hw
      rcases hw with hw | hw
      · exact wish_mem hf k o hw
      · exact wish_mem hf k _ hw
theorem lowW_is {W : Int → Bool} (h : ∃ g ∈ hopsR, W g = true) (x : Int) : W (lowW W x) = true ∧ lowW W x ∈ hopsR := by
  unfold lowW
  cases e : hopsR.find? W with
  | none =>
    obtain ⟨g, hg, hw⟩ := h
    exact absurd hw (by simpa using List.find?_eq_none.1 e g hg)
  | some g => exact ⟨List.find?_some e, List.mem_of_find?_eq_some e⟩
theorem nxt_is {W : Int → Bool} (h : ∃ g ∈ hopsR, W g = true) {x : Int} (hx : x ∈ hopsR) : W (nxt W x) = true ∧ nxt W x ∈ hopsR := by
  unfold nxt
  split
  · rename_i hw; exact ⟨hw, hx⟩
  · exact lowW_is h x

/-- What is enough, half by half. -/
theorem few_rec {f : Nat → Int} (hf : ∀ j, f j ∈ hopsR) (k o : Nat) {h : Int} (hw : wish f (k + 1) o h = true) : few f (k + 1) o = (few f k o + off (wish f k o) h) + (few f k (o + 2 ^ k) + off (wish f k (o + 2 ^ k)) h) := by
  rw [wish_rec hf, comb] at hw
  rw [few]
  unfold off
  by_cases hb : both (wish f k o) (wish f k (o + 2 ^ k)) = true
  · rw [if_pos hb] at hw
    simp only [Bool.and_eq_true] at hw
    simp only [if_pos hb, hw.1, hw.2, if_true]; omega
  · rw [if_neg hb] at hw
    rw [if_neg hb]
    cases h1 : wish f k o h <;> cases h2 : wish f k (o + 2 ^ k) h
    · simp [h1, h2] at hw
    · simp; omega
    · simp; omega
    · simp at *
      by_cases hm : h ∈ hopsR
      · exact absurd (both_iff.2 ⟨h, hm, h1, h2⟩) (by simpa using hb)
      · exact absurd (wish_mem hf k o h1) hm
/-- With a route of the part itself, or without one: no fewer. -/
theorem few_le {f : Nat → Int} (hf : ∀ j, f j ∈ hopsR) (k o : Nat) (h : Int) : few f (k + 1) o + off (wish f (k + 1) o) h ≤ (few f k o + off (wish f k o) h) + (few f k (o + 2 ^ k) + off (wish f k (o + 2 ^ k)) h) := by
  cases hw : wish f (k + 1) o h
  · have e : off (wish f (k + 1) o) h = 1 := by unfold off; rw [hw]; rfl
    rw [e]
    rw [wish_rec hf, comb] at hw
    rw [few]
    unfold off
    by_cases hb : both (wish f k o) (wish f k (o + 2 ^ k)) = true
    · rw [if_pos hb] at hw ⊢
      cases h1 : wish f k o h <;> cases h2 : wish f k (o + 2 ^ k) h <;> simp [h1, h2] at hw ⊢ <;> omega
    · rw [if_neg hb] at hw ⊢
      cases h1 : wish f k o h <;> cases h2 : wish f k (o + 2 ^ k) h <;> simp [h1, h2] at hw ⊢ <;> omega
  · have e : off (wish f (k + 1) o) h = 0 := by unfold off; rw [hw]; rfl
    rw [e, few_rec hf k o hw]
    exact Nat.le_refl _

/-- The routes of as few as can be, from the top on. -/
def leastR (f : Nat → Int) : Nat → Int → Int → Nat → Int → List Rt
  | 0, l, b, o, h => if wish f 0 o h then [] else [(l, b, lowW (wish f 0 o) h)]
  | k + 1, l, b, o, h =>
    (if wish f (k + 1) o h then [] else [(l, b, lowW (wish f (k + 1) o) h)]) ++
    (if Alk f o (2 ^ (k + 1)) then [] else leastR f k (l + 1) (b * 2) o (nxt (wish f (k + 1) o) h) ++ leastR f k (l + 1) (b * 2 + 1) (o + 2 ^ k) (nxt (wish f (k + 1) o) h))
theorem off_wish {W : Int → Bool} {h : Int} (hw : W h = true) : off W h = 0 := by unfold off; rw [hw]; rfl
theorem least_len {f : Nat → Int} (hf : ∀ j, f j ∈ hopsR) : ∀ (k : Nat) (l b : Int) (o : Nat) {h : Int}, h ∈ hopsR → (leastR f k l b o h).length = few f k o + off (wish f k o) h
  | 0, l, b, o, h, hh => by
    rw [leastR, few]; unfold off
    split <;> simp
  | k + 1, l, b, o, h, hh => by
    have hhere : (if wish f (k + 1) o h then ([] : List Rt) else [(l, b, lowW (wish f (k + 1) o) h)]).length = off (wish f (k + 1) o) h := by
      unfold off; split <;> simp
    rw [leastR, List.length_append, hhere]
    by_cases ha : Alk f o (2 ^ (k + 1))
    · rw [if_pos ha, few_alk hf ha]; simp
    · obtain ⟨n1, n2⟩ := nxt_is (wish_some hf (k + 1) o) hh
      rw [if_neg ha, List.length_append, least_len hf k _ _ _ n2, least_len hf k _ _ _ n2, few_rec hf k o n1]
      omega

end Go.Proofs.YtfcknkanbcndjagGreatDoor

/- AS FEW AS CAN BE: by these routes all go as they did; no sorted list of routes by which all go so has fewer; one less is not enough. No Go here. -/
namespace Go.Proofs.YtfcknkanbcndjagGreatDoor

theorem lookFrom_append (x : Int) (A B : List Rt) (a : Int) : lookFrom x (A ++ B) a = lookFrom (lookFrom x A a) B a := by simp [lookFrom]
theorem lookFrom_cons (x : Int) (r : Rt) (B : List Rt) (a : Int) : lookFrom x (r :: B) a = lookFrom (if hasB r.1 r.2.1 a then r.2.2 else x) B a := rfl
theorem lookFrom_nil (x a : Int) : lookFrom x [] a = x := rfl
theorem lookL_from (rs : List Rt) (a : Int) : lookL rs a = lookFrom (-1) rs a := rfl

/-- A route of a part: it stands in the prefix l, b. -/
structure Ins (l b : Int) (r : Rt) : Prop where
  ok : okB r.1 r.2.1 = true
  fst : firstI l b ≤ firstI r.1 r.2.1
  lst : lastI r.1 r.2.1 ≤ lastI l b
  len : l ≤ r.1
theorem Ins.has {l b : Int} {r : Rt} (h : Ins l b r) (ho : okB l b = true) {a : Int} (ha : hasB r.1 r.2.1 a = true) : hasB l b a = true := by
  have := (span_has (a := a) h.ok).2.2.2.1 ha
  have h1 := h.fst; have h2 := h.lst
  exact (span_has (a := a) ho).2.2.2.2 (by omega)
theorem Ins.low {k : Nat} {l b : Int} {o : Nat} {r : Rt} (hS : SpT (k + 1) l b o) (h : Ins (l + 1) (b * 2) r) : Ins l b r := by
  have e1 := hS.first; have e2 := hS.low.first; have e3 := hS.last; have e4 := hS.low.last
  have e5 : 2 ^ (k + 1) = 2 ^ k + 2 ^ k := by rw [Nat.pow_succ]; omega
  have e0 := Nat.pow_pos (n := k) (show 0 < 2 by decide)
  have h1 := h.fst; have h2 := h.lst; have h3 := h.len
  exact ⟨h.ok, by omega, by omega, by omega⟩
theorem Ins.high {k : Nat} {l b : Int} {o : Nat} {r : Rt} (hS : SpT (k + 1) l b o) (h : Ins (l + 1) (b * 2 + 1) r) : Ins l b r := by
  have e1 := hS.first; have e2 := hS.high.first; have e3 := hS.last; have e4 := hS.high.last
  have e5 : 2 ^ (k + 1) = 2 ^ k + 2 ^ k := by rw [Nat.pow_succ]; omega
  have e0 := Nat.pow_pos (n := k) (show 0 < 2 by decide)
  have h1 := h.fst; have h2 := h.lst; have h3 := h.len
  exact ⟨h.ok, by omega, by omega, by omega⟩

/-- All routes of the least table stand in their part, and go to hops. -/
theorem least_ins {f : Nat → Int} (hf : ∀ j, f j ∈ hopsR) : ∀ {k : Nat} {l b : Int} {o : Nat} {h : Int}, SpT k l b o → ∀ r ∈ leastR f k l b o h, Ins l b r ∧ hopB r.2.2 = true
  | 0, l, b, o, h, hS, r, hr => by
    rw [leastR] at hr
    split at hr
    · simp at hr
    · have : r = (l, b, lowW (wish f 0 o) h) := by simpa using hr
      subst this
      exact ⟨⟨hS.2.1, Int.le_refl _, Int.le_refl _, Int.le_refl _⟩, hop_mem.2 (lowW_is (wish_some hf 0 o) h).2⟩
  | k + 1, l, b, o, h, hS, r, hr => by
    rw [leastR] at hr
    rcases List.mem_append.1 hr with hr | hr
    · split at hr
      · simp at hr
      · have : r = (l, b, lowW (wish f (k + 1) o) h) := by simpa using hr
        subst this
        exact ⟨⟨hS.2.1, Int.le_refl _, Int.le_refl _, Int.le_refl _⟩, hop_mem.2 (lowW_is (wish_some hf (k + 1) o) h).2⟩
    · split at hr
      · simp at hr
      · rcases List.mem_append.1 hr with hr | hr
        · obtain ⟨h1, h2⟩ := least_ins hf hS.low r hr
          exact ⟨h1.low hS, h2⟩
        · obtain ⟨h1, h2⟩ := least_ins hf hS.high r hr
          exact ⟨h1.high hS, h2⟩
/-- They stand in order. -/
theorem least_srt {f : Nat → Int} (hf : ∀ j, f j ∈ hopsR) : ∀ {k : Nat} {l b : Int} {o : Nat} {h : Int}, SpT k l b o → (leastR f k l b o h).Pairwise (fun r s => lessB r.1 r.2.1 s.1 s.2.1 = true)
  | 0, l, b, o, h, hS => by
    rw [leastR]
    split <;> simp
  | k + 1, l, b, o, h, hS => by
    rw [leastR]
    have e1 := hS.first
    have e2 := hS.low.first
    have e3 := hS.low.last
    have e4 := hS.high.first
    have e0 := Nat.pow_pos (n := k) (show 0 < 2 by decide)
    refine List.pairwise_append.2 ⟨?_, ?_, ?_⟩
    · split <;> simp
    · split
      · simp
      · refine List.pairwise_append.2 ⟨least_srt hf hS.low, least_srt hf hS.high, fun r hr s hs => ?_⟩
        obtain ⟨h1, _⟩ := least_ins hf hS.low r hr
        obtain ⟨h2, _⟩ := least_ins hf hS.high s hs
        have g1 := h1.lst; have g2 := h2.fst
        have g3 := (span_has (a := 0) h1.ok).2.1
        rw [less_iff]; omega
    · intro r hr s hs
      split at hr
      · simp at hr
      · have : r = (l, b, lowW (wish f (k + 1) o) h) := by simpa using hr
        subst this
        split at hs
        · simp at hs
        · rcases List.mem_append.1 hs with hs | hs
          · obtain ⟨h2, _⟩ := least_ins hf hS.low s hs
            have g2 := h2.fst; have g3 := h2.len
            rw [less_iff]; simp only; omega
          · obtain ⟨h2, _⟩ := least_ins hf hS.high s hs
            have g2 := h2.fst; have g3 := h2.len
            rw [less_iff]; simp only; omega
/-- By them all go as they should. -/
theorem least_look {f : Nat → Int} (hf : ∀ j, f j ∈ hopsR) : ∀ {k : Nat} {l b : Int} {o : Nat} {h : Int}, SpT k l b o → ∀ a : Int, hasB l b a = true → lookFrom h (leastR f k l b o h) a = f a.toNat
  | k, l, b, o, h, hS, a, ha => by
    by_cases hk : Alk f o (2 ^ k)
    · have e : f a.toNat = f o := by
        have h2 := (hS.has a).1 ha
        have := hk (a.toNat - o) (by omega)
        rwa [show o + (a.toNat - o) = a.toNat by omega] at this
      have hl : leastR f k l b o h = if wish f k o h then [] else [(l, b, lowW (wish f k o) h)] := by
        cases k with
        | zero => rw [leastR]
        | succ k => rw [leastR, if_pos hk, List.append_nil]
      rw [hl, e]
      split
      · rename_i hw
        rw [wish_alk hk] at hw
        rw [lookFrom_nil]; simpa using hw
      · have hw := (lowW_is (wish_some hf k o) h).1
        rw [wish_alk hk] at hw
        rw [lookFrom_cons, lookFrom_nil, if_pos ha]
        simpa using hw
    · cases k with
      | zero => exact absurd (alk_one f o) hk
      | succ k =>
        rw [leastR, if_neg hk, lookFrom_append, lookFrom_append]
        have hn : lookFrom h (if wish f (k + 1) o h then [] else [(l, b, lowW (wish f (k + 1) o) h)]) a = nxt (wish f (k + 1) o) h := by
          unfold nxt
          split
          · rw [lookFrom_nil]
          · rw [lookFrom_cons, lookFrom_nil, if_pos ha]
        rw [hn]
        have h1 := (hS.has a).1 ha
        have e5 : 2 ^ (k + 1) = 2 ^ k + 2 ^ k := by rw [Nat.pow_succ]; omega
        cases hl : hasB (l + 1) (b * 2) a
        · have hr : hasB (l + 1) (b * 2 + 1) a = true := by
            rw [hS.high.has a]
            have : ¬ ((o : Int) ≤ a ∧ a < ((o + 2 ^ k : Nat) : Int)) := fun q => by rw [(hS.low.has a).2 q] at hl; cases hl
            omega
          rw [lookFrom_none (B := leastR f k (l + 1) (b * 2) o (nxt (wish f (k + 1) o) h)) (fun r hr => ?_)]
          · exact least_look hf hS.high a hr
          · cases e : hasB r.1 r.2.1 a
            · rfl
            · rw [(least_ins hf hS.low r hr).1.has hS.low.2.1 e] at hl; cases hl
        · rw [least_look hf hS.low a hl]
          refine lookFrom_none (fun r hr => ?_) _
          cases e : hasB r.1 r.2.1 a
          · rfl
          · have g1 := (hS.high.has a).1 ((least_ins hf hS.high r hr).1.has hS.high.2.1 e)
            have g2 := (hS.low.has a).1 hl
            omega

theorem lookFrom_filter {p : Rt → Bool} {a : Int} : ∀ (J : List Rt) (x : Int), (∀ r ∈ J, p r = false → hasB r.1 r.2.1 a = false) → lookFrom x (J.filter p) a = lookFrom x J a
  | [], x, _ => rfl
  | r :: J, x, h => by
    have ih := fun y => lookFrom_filter J y (fun s hs => h s (by simp [hs]))
    rw [List.filter_cons, lookFrom_cons]
    cases hp : p r
    · rw [if_neg (by simp), h r (by simp) hp]; exact ih x
    · rw [if_pos rfl, lookFrom_cons]; exact ih _
theorem filter_lens (p : Rt → Bool) : ∀ J : List Rt, (J.filter p).length + (J.filter (fun r => !p r)).length = J.length
  | [] => rfl
  | r :: J => by
    have ih := filter_lens p J
    rw [List.filter_cons, List.filter_cons]
    cases hp : p r <;> simp <;> omega
theorem off_le (W : Int → Bool) (h : Int) : off W h ≤ 1 := by unfold off; split <;> omega

/-- A route in a half, or in the other one. -/
theorem Ins.part {k : Nat} {l b : Int} {o : Nat} {r : Rt} (hS : SpT (k + 1) l b o) (h : Ins l b r) (hl : l < r.1) :
    (firstI r.1 r.2.1 < ((o + 2 ^ k : Nat) : Int) → Ins (l + 1) (b * 2) r) ∧ (¬ firstI r.1 r.2.1 < ((o + 2 ^ k : Nat) : Int) → Ins (l + 1) (b * 2 + 1) r) := by
  have e1 := hS.first; have e2 := hS.low.first; have e3 := hS.last; have e4 := hS.low.last
  have e6 := hS.high.first; have e7 := hS.high.last
  have e5 : 2 ^ (k + 1) = 2 ^ k + 2 ^ k := by rw [Nat.pow_succ]; omega
  have e0 := Nat.pow_pos (n := k) (show 0 < 2 by decide)
  have h1 := h.fst; have h2 := h.lst; have h3 := h.len
  refine ⟨fun hq => ⟨h.ok, by omega, ?_, by omega⟩, fun hq => ⟨h.ok, by omega, by omega, by omega⟩⟩
  obtain ⟨r0, r8, rb, rl, _, _⟩ := ok_pows h.ok
  have f1 := first_is_ok h.ok
  have f2 := last_is_ok h.ok
  have hk8 : l + (k + 1 : Nat) = 8 := hS.1
  obtain ⟨d, hd⟩ : ∃ d : Nat, k = d + (8 - r.1).toNat := ⟨k - (8 - r.1).toNat, by omega⟩
  have hp : (2 : Int) ^ k = 2 ^ d * 2 ^ (8 - r.1).toNat := by rw [hd, Int.pow_add]
  have hpos : (0 : Int) < 2 ^ (8 - r.1).toNat := Int.pow_pos (by decide)
  have ho : ((o + 2 ^ k : Nat) : Int) = (b * 2 + 1) * 2 ^ k := by rw [← hS.high.2.2]
  have hc : ((2 ^ k : Nat) : Int) = (2 : Int) ^ k := by simp
  have hmid : lastI (l + 1) (b * 2) + 1 = (b * 2 + 1) * 2 ^ d * 2 ^ (8 - r.1).toNat := by rw [e4, ho, hp, Int.mul_assoc]
  have hq2 : r.2.1 * 2 ^ (8 - r.1).toNat < (b * 2 + 1) * 2 ^ d * 2 ^ (8 - r.1).toNat := by
    rw [← f1, ← hmid, e4]; exact hq
  have hlt : r.2.1 < (b * 2 + 1) * 2 ^ d := Int.lt_of_mul_lt_mul_right hq2 (Int.le_of_lt hpos)
  have hle := Int.mul_le_mul_of_nonneg_right (show r.2.1 + 1 ≤ (b * 2 + 1) * 2 ^ d by omega) (Int.le_of_lt hpos)
  rw [Int.add_mul, Int.one_mul] at hle
  rw [f2]; omega

/-- No sorted list of routes in a part by which all go so has fewer. -/
theorem min_part {f : Nat → Int} (hf : ∀ j, f j ∈ hopsR) : ∀ (k : Nat) {l b : Int} {o : Nat} (I : List Rt) (h : Int), SpT k l b o → (∀ r ∈ I, Ins l b r) → I.Pairwise (fun r s => lessB r.1 r.2.1 s.1 s.2.1 = true) →
    (∀ a, hasB l b a = true → lookFrom h I a = f a.toNat) → few f k o + off (wish f k o) h ≤ I.length
  | 0, l, b, o, I, h, hS, hI, _, hL => by
    rw [few]
    cases I with
    | nil =>
      have := hL (o : Int) ((hS.has _).2 (by omega))
      rw [lookFrom_nil] at this
      have hw : wish f 0 o h = true := by rw [wish]; simpa using this
      rw [off_wish hw]; exact Nat.le_refl _
    | cons r I =>
      have := off_le (wish f 0 o) h
      simp only [List.length_cons]; omega
  | k + 1, l, b, o, I, h, hS, hI, hP, hL => by
    -- strictly inside
    have strict : ∀ (J : List Rt) (g : Int), (∀ r ∈ J, Ins l b r ∧ l < r.1) → J.Pairwise (fun r s => lessB r.1 r.2.1 s.1 s.2.1 = true) → (∀ a, hasB l b a = true → lookFrom g J a = f a.toNat) → few f (k + 1) o + off (wish f (k + 1) o) g ≤ J.length := by
      intro J g hJ hJP hJL
      have e0 := Nat.pow_pos (n := k) (show 0 < 2 by decide)
      have e5 : 2 ^ (k + 1) = 2 ^ k + 2 ^ k := by rw [Nat.pow_succ]; omega
      let p : Rt → Bool := fun r => decide (firstI r.1 r.2.1 < ((o + 2 ^ k : Nat) : Int))
      have hlo : ∀ r ∈ J, p r = true → Ins (l + 1) (b * 2) r := fun r hr hp => (Ins.part hS (hJ r hr).1 (hJ r hr).2).1 (of_decide_eq_true hp)
      have hhi : ∀ r ∈ J, p r = false → Ins (l + 1) (b * 2 + 1) r := fun r hr hp => (Ins.part hS (hJ r hr).1 (hJ r hr).2).2 (of_decide_eq_false hp)
      have i1 := min_part hf k (J.filter p) g hS.low (fun r hr => by rw [List.mem_filter] at hr; exact hlo r hr.1 hr.2) (hJP.filter p) (fun a ha => by
        rw [lookFrom_filter]
        · exact hJL a ((hS.has a).2 (by have := (hS.low.has a).1 ha; omega))
        · intro r hr hp
          cases e : hasB r.1 r.2.1 a
          · rfl
          · have g1 := (hS.high.has a).1 ((hhi r hr hp).has hS.high.2.1 e)
            have g2 := (hS.low.has a).1 ha
            omega)
      have i2 := min_part hf k (J.filter (fun r => !p r)) g hS.high (fun r hr => by rw [List.mem_filter] at hr; exact hhi r hr.1 (by simpa using hr.2)) (hJP.filter _) (fun a ha => by
        rw [lookFrom_filter]
        · exact hJL a ((hS.has a).2 (by have := (hS.high.has a).1 ha; omega))
        · intro r hr hp
          cases e : hasB r.1 r.2.1 a
          · rfl
          · have g1 := (hS.low.has a).1 ((hlo r hr (by simpa using hp)).has hS.low.2.1 e)
            have g2 := (hS.high.has a).1 ha
            omega)
      have i3 := filter_lens p J
      have i4 := few_le hf k o g
      omega
    -- a route of the part itself stands first
    have hone : ∀ r, Ins l b r → ¬ l < r.1 → r.1 = l ∧ r.2.1 = b := by
      intro r hr hn
      have e1 : r.1 = l := by have := hr.len; omega
      refine ⟨e1, ?_⟩
      have h1 := hr.fst; have h2 := hr.lst
      have e2 := first_is_ok hr.ok; have e3 := last_is_ok hr.ok
      have e4 := first_is_ok hS.2.1; have e6 := last_is_ok hS.2.1
      rw [e1] at e2 e3
      have e7 : firstI r.1 r.2.1 = firstI l b := by rw [e1] at h1 h2 ⊢; omega
      have hp : (0 : Int) < 2 ^ (8 - l).toNat := Int.pow_pos (by decide)
      rw [e1, e2, e4] at e7
      exact Int.eq_of_mul_eq_mul_right (by omega) e7
    have hnl : ∀ x, Ins l b x → lessB x.1 x.2.1 l b = false := by
      intro x hx
      have h1 := hx.fst; have h2 := hx.len
      cases e : lessB x.1 x.2.1 l b
      · rfl
      · rw [less_iff] at e; omega
    cases I with
    | nil => exact strict [] h (by simp) (by simp) hL
    | cons r I =>
      rw [List.pairwise_cons] at hP
      have tail : ∀ s ∈ I, Ins l b s ∧ l < s.1 := by
        intro s hs
        refine ⟨hI s (by simp [hs]), ?_⟩
        by_cases hq : l < s.1
        · exact hq
        · obtain ⟨q1, q2⟩ := hone s (hI s (by simp [hs])) hq
          have := hP.1 s hs
          rw [q1, q2, hnl r (hI r (by simp))] at this
          cases this
      by_cases hr : l < r.1
      · exact strict (r :: I) h (fun s hs => by
          rcases List.mem_cons.1 hs with rfl | hs
          · exact ⟨hI _ (by simp), hr⟩
          · exact tail s hs) (List.pairwise_cons.2 hP) hL
      · obtain ⟨q1, q2⟩ := hone r (hI r (by simp)) hr
        have := strict I r.2.2 tail hP.2 (fun a ha => by
          have := hL a ha
          rw [lookFrom_cons, q1, q2, if_pos ha] at this
          exact this)
        have := off_le (wish f (k + 1) o) h
        simp only [List.length_cons]; omega

/-- The table of as few as can be. -/
def leastT (f : Nat → Int) : List Rt := leastR f 8 0 0 0 (-1)
theorem mem_m1 : (-1 : Int) ∈ hopsR := by decide
theorem least_T_len {f : Nat → Int} (hf : ∀ j, f j ∈ hopsR) : (leastT f).length = few f 8 0 + off (wish f 8 0) (-1) := least_len hf 8 0 0 0 mem_m1
theorem least_T_look {f : Nat → Int} (hf : ∀ j, f j ∈ hopsR) (j : Nat) (hj : j < 256) : lookL (leastT f) j = f j := by
  rw [lookL_from, leastT, least_look hf SpT.root j ((root_has _).2 (by omega))]; simp
theorem ins_root {r : Rt} (h : okB r.1 r.2.1 = true) : Ins 0 0 r := by
  obtain ⟨g0, g1, g2, _⟩ := span_has (a := 0) h
  obtain ⟨h0, _⟩ := ok_iff.1 h
  have e1 : firstI 0 0 = 0 := by decide
  have e2 : lastI 0 0 = 255 := by decide
  exact ⟨h, by omega, by omega, h0⟩
/-- NO TABLE HAS FEWER. -/
theorem least_min {f : Nat → Int} (hf : ∀ j, f j ∈ hopsR) {rs : List Rt} (ho : ∀ r ∈ rs, okB r.1 r.2.1 = true) (hs : rs.Pairwise (fun r s => lessB r.1 r.2.1 s.1 s.2.1 = true)) (hl : ∀ j : Nat, j < 256 → lookL rs j = f j) : (leastT f).length ≤ rs.length := by
  rw [least_T_len hf]
  refine min_part hf 8 rs (-1) SpT.root (fun r hr => ins_root (ho r hr)) hs (fun a ha => ?_)
  obtain ⟨a0, a1⟩ := (root_has a).1 ha
  have := hl a.toNat (by omega)
  rw [show ((a.toNat : Nat) : Int) = a by omega] at this
  exact this
theorem least_T_ok {f : Nat → Int} (hf : ∀ j, f j ∈ hopsR) : (∀ r ∈ leastT f, okB r.1 r.2.1 = true ∧ hopB r.2.2 = true) ∧ (leastT f).Pairwise (fun r s => lessB r.1 r.2.1 s.1 s.2.1 = true) :=
  ⟨fun r hr => ⟨(least_ins hf SpT.root r hr).1.ok, (least_ins hf SpT.root r hr).2⟩, least_srt hf SpT.root⟩
theorem least_tab {f : Nat → Int} (hf : ∀ j, f j ∈ hopsR) (h : (leastT f).length ≤ 40) : Tab (leastT f) := ⟨(least_T_ok hf).1, (least_T_ok hf).2, h⟩
end Go.Proofs.YtfcknkanbcndjagGreatDoor

/- WISHES AS BITS: the program's sets of hops; the routes that it hands over, part by part. No Go here. -/
namespace Go.Proofs.YtfcknkanbcndjagGreatDoor

/-- A hop's place among the bits. -/
def hb (h : Int) : Nat := (h + 1).toNat
theorem hb_lt {h : Int} (hh : h ∈ hopsR) : hb h < 7 := by
  have := hop_mem.2 hh
  simp [hopB] at this
  unfold hb; omega
theorem hb_back {i : Nat} (hi : i < 7) : ((i : Int) - 1) ∈ hopsR ∧ hb ((i : Int) - 1) = i := by
  refine ⟨hop_mem.1 ?_, by unfold hb; omega⟩
  simp [hopB]; omega
theorem hb_inj {g h : Int} (hg : g ∈ hopsR) (hh : h ∈ hopsR) (e : hb g = hb h) : g = h := by
  have a := hop_mem.2 hg
  have b := hop_mem.2 hh
  simp [hopB] at a b
  unfold hb at e; omega

/-- The program's wishes of a part. -/
def wm : TT → Nat
  | .leaf _ _ h => 2 ^ hb h
  | .node _ _ lo hi => if wm lo &&& wm hi = 0 then wm lo ||| wm hi else wm lo &&& wm hi
/-- A set of hops, as bits. -/
structure Bits (W : Int → Bool) (m : Nat) : Prop where
  lt : m < 128
  bit : ∀ h ∈ hopsR, m.testBit (hb h) = W h
theorem bits_zero {m : Nat} (h : m < 128) (hz : ∀ i, i < 7 → m.testBit i = false) : m = 0 := by
  apply Nat.eq_of_testBit_eq
  intro i
  rw [Nat.zero_testBit]
  by_cases hi : i < 7
  · exact hz i hi
  · exact Nat.testBit_lt_two_pow (Nat.lt_of_lt_of_le h (by have : 2 ^ 7 ≤ 2 ^ i := Nat.pow_le_pow_right (by decide) (by omega); omega))
theorem Bits.and {A B : Int → Bool} {m n : Nat} (h : Bits A m) (k : Bits B n) : (m &&& n = 0) ↔ both A B = false := by
  have hl : m &&& n < 128 := Nat.lt_of_le_of_lt Nat.and_le_left h.lt
  constructor
  · intro e
    rw [Bool.eq_false_iff]
    intro hb'
    obtain ⟨g, hg, h1, h2⟩ := both_iff.1 hb'
    have := Nat.testBit_and m n (hb g)
    rw [e, h.bit g hg, k.bit g hg, h1, h2] at this
    simp at this
  · intro e
    refine bits_zero hl fun i hi => ?_
    obtain ⟨h1, h2⟩ := hb_back hi
    rw [Nat.testBit_and, ← h2, h.bit _ h1, k.bit _ h1]
    cases ha : A ((i : Int) - 1) <;> cases hb' : B ((i : Int) - 1) <;> try rfl
    exact absurd (both_iff.2 ⟨_, h1, ha, hb'⟩) (by rw [e]; simp)
theorem wm_tri {f : Nat → Int} (hf : ∀ j, f j ∈ hopsR) : ∀ (k : Nat) (l b : Int) (o : Nat), Bits (wish f k o) (wm (tri f k l b o))
  | k, l, b, o => by
    by_cases ha : Alk f o (2 ^ k)
    · rw [tri_alk ha, wm]
      have h7 := hb_lt (hf o)
      refine ⟨?_, fun h hh => ?_⟩
      · have : 2 ^ hb (f o) ≤ 2 ^ 6 := Nat.pow_le_pow_right (by decide) (by omega)
        omega
      · rw [wish_alk ha, Nat.testBit_two_pow]
        by_cases e : h = f o
        · subst e; simp
        · have : hb (f o) ≠ hb h := fun e' => e (hb_inj hh (hf o) e'.symm)
          simp [e, this]
    · cases k with
      | zero => exact absurd (alk_one f o) ha
      | succ k =>
        rw [tri_not ha, wm]
        have h1 := wm_tri hf k (l + 1) (b * 2) o
        have h2 := wm_tri hf k (l + 1) (b * 2 + 1) (o + 2 ^ k)
        have hz := h1.and h2
        split
        · rename_i e
          have hb' := hz.1 e
          refine ⟨Nat.or_lt_two_pow (n := 7) h1.lt h2.lt, fun h hh => ?_⟩
          rw [wish_rec hf, comb, hb', Nat.testBit_or, h1.bit h hh, h2.bit h hh]; simp
        · rename_i e
          have hb' : both (wish f k o) (wish f k (o + 2 ^ k)) = true := by
            rcases hbb : both (wish f k o) (wish f k (o + 2 ^ k)) with _ | _
            · exact absurd (hz.2 hbb) e
            · rfl
          refine ⟨Nat.lt_of_le_of_lt Nat.and_le_left h1.lt, fun h hh => ?_⟩
          rw [wish_rec hf, comb, hb', Nat.testBit_and, h1.bit h hh, h2.bit h hh]; simp
/-- The lowest bit. -/
def lowB (m : Nat) : Int := ((List.range 7).find? (fun i => m.testBit i)).getD 0 - (1 : Int)
/-- The routes that the program hands over. -/
def each : TT → Int → List Rt
  | .leaf l b g, h => if (wm (.leaf l b g)).testBit (hb h) then [] else [(l, b, lowB (wm (.leaf l b g)))]
  | .node l b lo hi, h =>
    (if (wm (.node l b lo hi)).testBit (hb h) then [] else [(l, b, lowB (wm (.node l b lo hi)))]) ++
      (each lo (if (wm (.node l b lo hi)).testBit (hb h) then h else lowB (wm (.node l b lo hi))) ++ each hi (if (wm (.node l b lo hi)).testBit (hb h) then h else lowB (wm (.node l b lo hi))))
theorem Bits.low {W : Int → Bool} {m : Nat} (h : Bits W m) (hs : ∃ g ∈ hopsR, W g = true) (x : Int) : lowB m = lowW W x := by
  have e : ∀ i : Nat, i < 7 → m.testBit i = W ((i : Int) - 1) := fun i hi => by
    obtain ⟨h1, h2⟩ := hb_back hi
    rw [← h.bit _ h1, h2]
  have e0 : m.testBit 0 = W (-1) := e 0 (by decide)
  have e1 : m.testBit 1 = W 0 := e 1 (by decide)
  have e2 : m.testBit 2 = W 1 := e 2 (by decide)
  have e3 : m.testBit 3 = W 2 := e 3 (by decide)
  have e4 : m.testBit 4 = W 3 := e 4 (by decide)
  have e5 : m.testBit 5 = W 4 := e 5 (by decide)
  have e6 : m.testBit 6 = W 5 := e 6 (by decide)
  unfold lowB lowW
  rw [show List.range 7 = [0, 1, 2, 3, 4, 5, 6] from rfl]
  unfold hopsR at hs ⊢
  simp only [List.find?, e0, e1, e2, e3, e4, e5, e6]
  cases h0 : W (-1)
  · cases h1 : W 0
    · cases h2 : W 1
      · cases h3 : W 2
        · cases h4 : W 3
          · cases h5 : W 4
            · cases h6 : W 5
              · obtain ⟨g, hg, hw⟩ := hs
                simp only [List.mem_cons, List.not_mem_nil, or_false] at hg
                rcases hg with rfl | rfl | rfl | rfl | rfl | rfl | rfl <;> simp_all
              · simp
            · simp
          · simp
        · simp
      · simp
    · simp
  · simp
theorem Bits.has {W : Int → Bool} {m : Nat} (h : Bits W m) {g : Int} (hg : g ∈ hopsR) : m.testBit (hb g) = W g := h.bit g hg
theorem Bits.pos {W : Int → Bool} {m : Nat} (h : Bits W m) (hs : ∃ g ∈ hopsR, W g = true) : m ≠ 0 := by
  obtain ⟨g, hg, hw⟩ := hs
  intro e
  have := h.bit g hg
  rw [e, hw] at this
  simp at this
/-- The program's routes are those of as few as can be. -/
theorem each_tri {f : Nat → Int} (hf : ∀ j, f j ∈ hopsR) : ∀ (k : Nat) (l b : Int) (o : Nat) (h : Int), h ∈ hopsR → each (tri f k l b o) h = leastR f k l b o h
  | k, l, b, o, h, hh => by
    have hB := wm_tri hf k l b o
    have hs := wish_some hf k o
    have hlow := hB.low hs h
    have hbit := hB.bit h hh
    have hnx := nxt_is hs hh
    unfold nxt at hnx
    by_cases ha : Alk f o (2 ^ k)
    · rw [tri_alk ha] at hB hlow hbit ⊢
      rw [each, hbit, hlow]
      cases k with
      | zero => rw [leastR]
      | succ k => rw [leastR, if_pos ha, List.append_nil]
    · cases k with
      | zero => exact absurd (alk_one f o) ha
      | succ k =>
        rw [tri_not ha] at hB hlow hbit ⊢
        rw [each, hbit, hlow, leastR, if_neg ha, each_tri hf k _ _ _ _ hnx.2, each_tri hf k _ _ _ _ hnx.2]
        rfl
theorem ctz_low : ∀ m : Nat, m < 128 → m ≠ 0 → lowB m ∈ hopsR := by decide
theorem each_T {f : Nat → Int} (hf : ∀ j, f j ∈ hopsR) : each (triT f) (-1) = leastT f := each_tri hf 8 0 0 0 (-1) mem_m1
/-- Trees whose hops are hops. -/
def HopT : TT → Prop
  | .leaf _ _ h => h ∈ hopsR
  | .node _ _ lo hi => HopT lo ∧ HopT hi
theorem hop_tri {f : Nat → Int} (hf : ∀ j, f j ∈ hopsR) : ∀ (k : Nat) (l b : Int) (o : Nat), HopT (tri f k l b o)
  | k, l, b, o => by
    by_cases ha : Alk f o (2 ^ k)
    · rw [tri_alk ha]; exact hf o
    · cases k with
      | zero => exact absurd (alk_one f o) ha
      | succ k => rw [tri_not ha]; exact ⟨hop_tri hf k _ _ _, hop_tri hf k _ _ _⟩
theorem or_pos {m n : Nat} (h : m ≠ 0) : m ||| n ≠ 0 := by
  intro e
  have : m ≤ m ||| n := Nat.left_le_or
  omega
theorem wm_bd : ∀ {T : TT}, HopT T → wm T < 128 ∧ wm T ≠ 0
  | .leaf l b h, hh => by
    have h7 := hb_lt hh
    have : 2 ^ hb h ≤ 2 ^ 6 := Nat.pow_le_pow_right (by decide) (by omega)
    have p : 0 < 2 ^ hb h := Nat.pow_pos (by decide)
    rw [wm]; omega
  | .node l b lo hi, hh => by
    obtain ⟨a1, a2⟩ := wm_bd hh.1
    obtain ⟨b1, b2⟩ := wm_bd hh.2
    rw [wm]
    split
    · exact ⟨Nat.or_lt_two_pow (n := 7) a1 b1, or_pos a2⟩
    · rename_i e
      exact ⟨Nat.lt_of_le_of_lt Nat.and_le_left a1, e⟩
end Go.Proofs.YtfcknkanbcndjagGreatDoor
