/- WHAT ALL TEXTS OF NUMBERS AND NODES IN MEMORY NAME. -/
import Derived.Test.YtihamicnbihgnaeRows
import Derived.Test.YtihamicnbihgnaeExt
namespace Go.Proofs.Ytihamicnbihgnae
open Go.RowKit

abbrev iv (x : Int) : Value := .int .i64 x
abbrev pv (q : Nat) : Value := .pointer (some ⟨q, 0, none⟩)
theorem wp_gen {P : Program} {c : Code} {Q : Exit → Act → World → Prop} {a : Act} {w : World} (S : World → Prop) (hS : S w) (k : ∀ X, S X → c.wp P Q a X) : c.wp P Q a w := k w hS
theorem bp_gen' {P : Program} {f : Func} {Q : Ending → World → Prop} {e : Exit} {a : Act} {w : World} (S : World → Prop) (hS : S w) (k : ∀ X, S X → bodyPost P f Q e a X) : bodyPost P f Q e a w := k w hS
theorem Try.info3 : (Try.prog.info? 3).map (fun i => (i.zero, i.size, i.bytes)) = some (some (iv 0), 1, 8) := by kernel_rfl
/-- M's blocks are as they were. -/
structure Kp (M : Nat → Prop) (w w' : World) : Prop where
  os : w'.os = w.os
  tape : w'.tape = w.tape
  output : w'.output = w.output
  size : w.heap.size ≤ w'.heap.size
  block : ∀ k, k < w.heap.size → M k → w'.heap[k]? = w.heap[k]?

theorem Kp.refl (M : Nat → Prop) (w : World) : Kp M w w := ⟨rfl, rfl, rfl, Nat.le_refl _, fun _ _ _ => rfl⟩
theorem Kp.trans {M : Nat → Prop} {a b c : World} (h : Kp M a b) (k : Kp M b c) : Kp M a c :=
  ⟨k.os.trans h.os, k.tape.trans h.tape, k.output.trans h.output, Nat.le_trans h.size k.size, fun i hi hm => (k.block i (Nat.lt_of_lt_of_le hi h.size) hm).trans (h.block i hi hm)⟩
theorem Kp.mono {M N : Nat → Prop} {a b : World} (h : Kp N a b) (hm : ∀ k, k < a.heap.size → M k → N k) : Kp M a b :=
  ⟨h.os, h.tape, h.output, h.size, fun i hi hM => h.block i hi (hm i hi hM)⟩
theorem Gr.kp {a b : World} (h : Gr a b) (M : Nat → Prop) : Kp M a b := ⟨h.os, h.tape, h.output, h.size, fun k hk _ => h.block k hk⟩
theorem Ext.kp {a : World} (d : Ext a) (M : Nat → Prop) : Kp M a d.out := d.gr.kp M
theorem Kp.below {M : Nat → Prop} {B : Nat} {a b : World} (h : Kp M a b) (hB : B ≤ a.heap.size) (hm : ∀ k, k < B → M k) : Below B a b :=
  ⟨h.os, h.tape, h.output, h.size, fun k hk => h.block k (Nat.lt_of_lt_of_le hk hB) (hm k hk)⟩
theorem Kp.grown {M : Nat → Prop} {a b : World} {row : Option Nat} (h : a.grownBy b row) (hr : ∀ k, row = some k → ¬ M k) : Kp M a b :=
  ⟨h.os, h.tape, h.output, h.size, fun k hk hm => h.block k hk (fun e => hr k e.symm hm)⟩

theorem Kp.ext {M : Nat → Prop} {B w w' : World} (h : Kp M B w) (g : Gr w w') : Kp M B w' := h.trans (g.kp M)
theorem Kp.set {M : Nat → Prop} {B w : World} (h : Kp M B w) {p : Nat} (hp : ¬ M p) (j : Nat) (v : Value) : Kp M B (w.setCell ⟨p, j, none⟩ v) := by
  refine ⟨h.os, h.tape, h.output, by have := h.size; simpa using this, fun k hk hm => ?_⟩
  have e : k ≠ p := fun e => hp (e ▸ hm)
  rw [Below.heap_setCell w ⟨p, j, none⟩ v k e]; exact h.block k hk hm
/-- Blocks of different kinds are different ones. -/
theorem blk_ne {w : World} {p q : Nat} {cs cs' : Array Value} {t t' : TypeId} {f f' : Nat × Nat} (h : w.heap[p]? = some (.cells cs t f)) (k : w.heap[q]? = some (.cells cs' t' f')) (ht : t ≠ t') : p ≠ q := by
  intro e
  subst e
  rw [h] at k
  simp only [Option.some.injEq, Obj.cells.injEq] at k
  exact ht k.2.1

end Go.Proofs.Ytihamicnbihgnae
