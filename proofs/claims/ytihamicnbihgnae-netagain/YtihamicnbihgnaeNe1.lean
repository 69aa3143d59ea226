/- THE PROGRAM'S Net IN MEMORY. -/
import Derived.Test.YtihamicnbihgnaeNe0
import Derived.Test.YtihamicnbihgnaeB1a
import Derived.Test.YtihamicnbihgnaeD7
import Derived.Test.YtihamicnbihgnaeD9
import Derived.Test.YtihamicnbihgnaeK2
namespace Go.Proofs.Ytihamicnbihgnae
open Go.RowKit

/-- The cells of a Net: its links, its nodes, the news. -/
def ntF (k : Nat) (q : Nat → Nat) (v : Value) : Nat → Value := fun i => if i = 0 then pv k else if i < 7 then pv (q (i - 1)) else v
/-- A Net at p: its links at k, its nodes at q 0 .. q 5, its news in v; c: what links cost; t: as numbers. Of the world B the blocks M are as they were, and none of M's is the Net's. -/
structure Ne (M : Nat → Prop) (B w : World) (p k : Nat) (q : Nat → Nat) (v : Value) (c : Nat → Nat → Nat) (t : Tn) : Prop where
  kp : Kp M B w
  bd : ∀ b, M b → b < B.heap.size
  blk : VArr w 39 8 p (ntF k q v)
  lk : KL w k c
  six : Six 77 w q (fun a => sel (t.nd a))
  nw : NwO 0 w v (newsL t.news)
  nop : ¬ M p
  nok : ¬ M k
  noq : ∀ a, a < 6 → ¬ M (q a)
  nov : ∀ b, v.ownBlock = some b → ¬ M b
section
variable {M : Nat → Prop} {B w w' : World} {p k : Nat} {q : Nat → Nat} {v : Value} {c : Nat → Nat → Nat} {t : Tn}
theorem Ne.ext (h : Ne M B w p k q v c t) (g : Gr w w') : Ne M B w' p k q v c t :=
  ⟨h.kp.ext g, h.bd, h.blk.gr g, h.lk.gr g, h.six.gr g, h.nw.gr g, h.nop, h.nok, h.noq, h.nov⟩
theorem Ne.links (h : Ne M B w p k q v c t) : w.cell? ⟨p, 0, none⟩ = some (pv k) := h.blk.cell (j := 0) (by omega)
theorem Ne.node (h : Ne M B w p k q v c t) {a : Nat} (ha : a < 6) : w.cell? ⟨p, 1 + a, none⟩ = some (pv (q a)) := by
  have := h.blk.cell (j := 1 + a) (by omega)
  unfold ntF at this
  rw [if_neg (by omega), if_pos (by omega), show 1 + a - 1 = a by omega] at this
  exact this
theorem Ne.news (h : Ne M B w p k q v c t) : w.cell? ⟨p, 7, none⟩ = some v := h.blk.cell (j := 7) (by omega)
theorem Ne.pk (h : Ne M B w p k q v c t) : p ≠ k := blk_ne h.blk h.lk (by decide)
theorem Ne.pq (h : Ne M B w p k q v c t) {a : Nat} (ha : a < 6) : p ≠ q a := blk_ne h.blk (h.six.at_ a ha) (by decide)
theorem Ne.kq (h : Ne M B w p k q v c t) {a : Nat} (ha : a < 6) : k ≠ q a := blk_ne h.lk (h.six.at_ a ha) (by decide)
theorem Ne.vq (h : Ne M B w p k q v c t) {b : Nat} (e : v.ownBlock = some b) : b ≠ p ∧ b ≠ k ∧ ∀ a, a < 6 → b ≠ q a :=
  ⟨h.nw.apart e h.blk (by decide), h.nw.apart e h.lk (by decide), fun a ha => h.nw.apart e (h.six.at_ a ha) (by decide)⟩
/-- One node has changed. -/
theorem Ne.put (h : Ne M B w p k q v c t) {a : Nat} (ha : a < 6) {m : Md} (hw : Wr (q a) w w') (hm : DAt w' (q a) (sel m)) : Ne M B w' p k q v c { t with nd := updW t.nd a m } := by
  refine ⟨h.kp.wr hw (h.noq a ha), h.bd, hw.varr h.blk (h.pq ha), (hw.block k h.lk.lt (h.kq ha)).trans h.lk, ?_, h.nw.keep (fun b e => hw.block b (h.nw.own_lt e) ((h.vq e).2.2 a ha)), h.nop, h.nok, h.noq, h.nov⟩
  have := h.six.put ha hw hm
  have e : updW (fun a => sel (t.nd a)) a (sel m) = fun x => sel (updW t.nd a m x) := by
    funext x
    by_cases q : x = a
    · rw [q, updW_same, updW_same]
    · rw [updW_ne _ _ q, updW_ne _ _ q]
  rw [e] at this
  exact this
/-- A link has changed. -/
theorem Ne.setLk (h : Ne M B w p k q v c t) {j : Nat} {u : Value} {c' : Nat → Nat → Nat} (hk : KL (w.setCell ⟨k, j, none⟩ u) k c') (f : Nat → Nat → Int) : Ne M B (w.setCell ⟨k, j, none⟩ u) p k q v c' { t with cst := f } :=
  ⟨h.kp.set h.nok _ _, h.bd, h.blk.other h.pk _ _, hk, h.six.keep (fun a ha => Below.heap_setCell w ⟨k, j, none⟩ u (q a) (fun e => h.kq ha e.symm)), h.nw.keep (fun b e => Below.heap_setCell w ⟨k, j, none⟩ u b (h.vq e).2.1), h.nop, h.nok, h.noq, h.nov⟩
/-- The news have changed: the row behind them, and the Net's own word of it. -/
theorem Ne.newsPut {v' : Value} {nl : List Nw} (h : Ne M B w p k q v c t) (g : w.grownBy w' v.ownBlock) (hn : NwO 0 w' v' (newsL nl)) (ho : v'.ownBlock = none ∨ v'.ownBlock = v.ownBlock ∨ v'.ownBlock = some w.heap.size) :
    Ne M B (w'.setCell ⟨p, 7, none⟩ v') p k q v' c { t with news := nl } := by
  have kb : ∀ {b : Nat}, b < w.heap.size → (∀ x, v.ownBlock = some x → x ≠ b) → w'.heap[b]? = w.heap[b]? := fun {b} hb hx => g.block b hb (fun e => hx b e.symm rfl)
  have hblk : VArr w' 39 8 p (ntF k q v) := (kb h.blk.lt (fun x e => (h.vq e).1)).trans h.blk
  have hlk : KL w' k c := (kb h.lk.lt (fun x e => (h.vq e).2.1)).trans h.lk
  have hs : Six 77 w' q (fun a => sel (t.nd a)) := h.six.keep (fun a ha => kb (h.six.at_ a ha).lt (fun x e => (h.vq e).2.2 a ha))
  have hp' : ∀ b, v'.ownBlock = some b → b ≠ p := fun b e => hn.apart e hblk (by decide)
  refine ⟨(h.kp.trans (Kp.grown g (fun b e => h.nov b e))).set h.nop _ _, h.bd, hblk.set fun i hi => ?_, ?_, hs.keep (fun a ha => Below.heap_setCell w' ⟨p, 7, none⟩ v' (q a) (fun e => h.pq ha e.symm)), hn.keep (fun b e => Below.heap_setCell w' ⟨p, 7, none⟩ v' b (hp' b e)), h.nop, h.nok, h.noq, fun b e hm => ?_⟩
  · unfold ntF
    by_cases e0 : i = 0
    · rw [if_pos e0, if_pos e0, if_neg (by omega)]
    · rw [if_neg e0, if_neg e0]
      by_cases e1 : i < 7
      · rw [if_pos e1, if_pos e1, if_neg (by omega)]
      · rw [if_neg e1, if_neg e1, if_pos (by omega)]
  · exact (Below.heap_setCell w' ⟨p, 7, none⟩ v' k (fun e => h.pk e.symm)).trans hlk
  · rcases ho with o | o | o
    · rw [o] at e; cases e
    · exact h.nov b (o ▸ e) hm
    · rw [o] at e
      have := h.bd b hm
      have := h.kp.size
      cases e
      omega
/-- The same Net, as it is now, and other blocks that are to stay. -/
theorem Ne.re (h : Ne M B w p k q v c t) {N : Nat → Prop} (hb : ∀ b, N b → b < w.heap.size) (h1 : ¬ N p) (h2 : ¬ N k) (h3 : ∀ a, a < 6 → ¬ N (q a)) (h4 : ∀ b, v.ownBlock = some b → ¬ N b) : Ne N w w p k q v c t :=
  ⟨Kp.refl _ _, hb, h.blk, h.lk, h.six, h.nw, h1, h2, h3, h4⟩
/-- And back. -/
theorem Ne.back {N : Nat → Prop} {v' : Value} {c' : Nat → Nat → Nat} {t' : Tn} (h : Ne M B w p k q v c t) (h' : Ne N w w' p k q v' c' t') (hMN : ∀ b, M b → N b) : Ne M B w' p k q v' c' t' :=
  ⟨h.kp.trans (h'.kp.mono fun b _ hm => hMN b hm), h.bd, h'.blk, h'.lk, h'.six, h'.nw, h.nop, h.nok, h.noq, fun b e hm => h'.nov b e (hMN b hm)⟩
/-- All stays where no block of the Net's is written. -/
theorem Ne.keep {N : Nat → Prop} (h : Ne M B w p k q v c t) (hk : Kp N w w') (hMN : ∀ b, M b → N b) (h1 : N p) (h2 : N k) (h3 : ∀ a, a < 6 → N (q a)) (h4 : ∀ b, v.ownBlock = some b → N b) : Ne M B w' p k q v c t :=
  ⟨h.kp.trans (hk.mono fun b _ hm => hMN b hm), h.bd, (hk.block p h.blk.lt h1).trans h.blk, (hk.block k h.lk.lt h2).trans h.lk, h.six.keep (fun a ha => hk.block (q a) (h.six.at_ a ha).lt (h3 a ha)), h.nw.keep (fun b e => hk.block b (h.nw.own_lt e) (h4 b e)), h.nop, h.nok, h.noq, h.nov⟩
end

end Go.Proofs.Ytihamicnbihgnae
