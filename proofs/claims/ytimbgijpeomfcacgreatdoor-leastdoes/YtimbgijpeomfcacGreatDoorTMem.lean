/- TRIES IN MEMORY: a part stands in a block of five cells; what only grows keeps it. -/
import Derived.Test.YtimbgijpeomfcacGreatDoorRuns
import Derived.Test.YtimbgijpeomfcacGreatDoorL2
import Derived.Test.YtimbgijpeomfcacGreatDoorPlainAll
namespace Go.Proofs.YtimbgijpeomfcacGreatDoor
open Go.RowKit

abbrev pv (q : Nat) : Value := .pointer (some ⟨q, 0, none⟩)
/-- In w the trie T stands at block q. -/
def Tr (w : World) : TT → Nat → Prop
  | .leaf l b h, q => w.heap[q]? = some (.cells #[iv l, iv b, iv h, .pointer none, .pointer none] 98 (0, 0))
  | .node l b lo hi, q => ∃ x y, w.heap[q]? = some (.cells #[iv l, iv b, iv 0, pv x, pv y] 98 (0, 0)) ∧ Tr w lo x ∧ Tr w hi y

theorem Tr.lt {w : World} {T : TT} {q : Nat} (h : Tr w T q) : q < w.heap.size := by
  cases T with
  | leaf l b h' => exact lt_of_block h
  | node l b lo hi => obtain ⟨x, y, e, _⟩ := h; exact lt_of_block e
theorem Tr.gr {w w' : World} (g : Gr w w') : ∀ {T : TT} {q : Nat}, Tr w T q → Tr w' T q
  | .leaf l b h', q, h => (Below.block g q (lt_of_block h)).trans h
  | .node l b lo hi, q, h => by
    obtain ⟨x, y, e, h1, h2⟩ := h
    exact ⟨x, y, (Below.block g q (lt_of_block e)).trans e, Tr.gr g h1, Tr.gr g h2⟩
theorem cell5 {w : World} {q : Nat} {a b c d e : Value} {t : TypeId} (h : w.heap[q]? = some (.cells #[a, b, c, d, e] t (0, 0))) :
    w.cell? ⟨q, 0, none⟩ = some a ∧ w.cell? ⟨q, 1, none⟩ = some b ∧ w.cell? ⟨q, 2, none⟩ = some c ∧ w.cell? ⟨q, 3, none⟩ = some d ∧ w.cell? ⟨q, 4, none⟩ = some e := by
  refine ⟨?_, ?_, ?_, ?_, ?_⟩ <;> simp [World.cell?, h]
theorem Tr.cells {w : World} {T : TT} {q : Nat} (h : Tr w T q) : w.cell? ⟨q, 0, none⟩ = some (iv T.len) ∧ w.cell? ⟨q, 1, none⟩ = some (iv T.bits) ∧ w.cell? ⟨q, 2, none⟩ = some (iv T.hop) := by
  cases T with
  | leaf l b h' => have := cell5 h; exact ⟨this.1, this.2.1, this.2.2.1⟩
  | node l b lo hi => obtain ⟨x, y, e, _⟩ := h; have := cell5 e; exact ⟨this.1, this.2.1, this.2.2.1⟩
theorem Tr.leafc {w : World} {l b h : Int} {q : Nat} (k : Tr w (.leaf l b h) q) : w.cell? ⟨q, 3, none⟩ = some (.pointer none) ∧ w.cell? ⟨q, 4, none⟩ = some (.pointer none) := by
  have := cell5 k; exact ⟨this.2.2.2.1, this.2.2.2.2⟩
theorem Tr.nodec {w : World} {l b : Int} {lo hi : TT} {q : Nat} (k : Tr w (.node l b lo hi) q) : ∃ x y, w.cell? ⟨q, 3, none⟩ = some (pv x) ∧ w.cell? ⟨q, 4, none⟩ = some (pv y) ∧ Tr w lo x ∧ Tr w hi y := by
  obtain ⟨x, y, e, h1, h2⟩ := k
  have := cell5 e
  exact ⟨x, y, this.2.2.2.1, this.2.2.2.2, h1, h2⟩

theorem pbox_gr (w : World) (l b : Int) : ∃ W, W = w.alloc (.cells #[iv l, iv b] 30) ∧ Gr w W ∧ W.cell? ⟨w.heap.size, 0, none⟩ = some (iv l) ∧ W.cell? ⟨w.heap.size, 1, none⟩ = some (iv b) ∧ w.heap.size < W.heap.size := by
  refine ⟨_, rfl, (Gr.refl w).alloc _, ?_, ?_, by simp⟩ <;> simp [go_sem]

/-- A world, by what is to be known of it. -/
theorem wp_gen {P : Program} {c : Code} {Q : Exit → Act → World → Prop} {a : Act} {w : World} (S : World → Prop) (hS : S w) (k : ∀ X, S X → c.wp P Q a X) : c.wp P Q a w := k w hS

end Go.Proofs.YtimbgijpeomfcacGreatDoor
