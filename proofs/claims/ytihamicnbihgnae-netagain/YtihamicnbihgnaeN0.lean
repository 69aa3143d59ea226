/- WHAT A CALL LEAVES AS IT WAS; small blocks of numbers. -/
import Derived.Test.YtihamicnbihgnaeNMem
namespace Go.Proofs.Ytihamicnbihgnae
open Go.RowKit
attribute [local go_sem] Ext.all Ext.cell Ext.frozen Ext.lt Ext.lt1 Ext.lt2 Ext.ne Ext.ne'

/-- All blocks but p's, and younger ones, are as they were. -/
structure Wr (p : Nat) (w w' : World) : Prop where
  os : w'.os = w.os
  tape : w'.tape = w.tape
  output : w'.output = w.output
  size : w.heap.size ≤ w'.heap.size
  block : ∀ k, k < w.heap.size → k ≠ p → w'.heap[k]? = w.heap[k]?
theorem Wr.refl (p : Nat) (w : World) : Wr p w w := ⟨rfl, rfl, rfl, Nat.le_refl _, fun _ _ _ => rfl⟩
theorem Wr.trans {p : Nat} {a b c : World} (h : Wr p a b) (k : Wr p b c) : Wr p a c :=
  ⟨k.os.trans h.os, k.tape.trans h.tape, k.output.trans h.output, Nat.le_trans h.size k.size, fun i hi hp => (k.block i (Nat.lt_of_lt_of_le hi h.size) hp).trans (h.block i hi hp)⟩
theorem Gr.wr {a b : World} (h : Gr a b) (p : Nat) : Wr p a b := ⟨h.os, h.tape, h.output, h.size, fun k hk _ => h.block k hk⟩
theorem Wr.set {p : Nat} {a b : World} (h : Wr p a b) (j : Nat) (v : Value) : Wr p a (b.setCell ⟨p, j, none⟩ v) :=
  ⟨h.os, h.tape, h.output, by have := h.size; simpa using this, fun k hk hp => by rw [heap_setCell_other b ⟨p, j, none⟩ k v hp]; exact h.block k hk hp⟩
theorem Wr.gr {p : Nat} {B a b : World} (h : Wr p a b) (g : Gr B a) (hp : B.heap.size ≤ p) : Gr B b :=
  ⟨h.os.trans g.os, h.tape.trans g.tape, h.output.trans g.output, Nat.le_trans g.size h.size, fun k hk => (h.block k (Nat.lt_of_lt_of_le hk g.size) (by omega)).trans (g.block k hk)⟩
theorem Wr.arr {p t n q : Nat} {a b : World} {g : Nat → Int} (h : Wr p a b) (k : ZArr a t n q g) (hq : q ≠ p) : ZArr b t n q g := (h.block q k.lt hq).trans k

def sdF (s d : Int) : Nat → Int := fun j => if j = 0 then s else d
def wayF (v : Int × Int × Int) : Nat → Int := fun j => if j = 0 then v.1 else if j = 1 then v.2.1 else v.2.2

theorem ZArr.put3 {w : World} {t p : Nat} {g : Nat → Int} (h : ZArr w t 3 p g) (a b c : Int) : ZArr (((w.setCell ⟨p, 0, none⟩ (iv a)).setCell ⟨p, 1, none⟩ (iv b)).setCell ⟨p, 2, none⟩ (iv c)) t 3 p (wayF (a, b, c)) := by
  refine ZArr.set (ZArr.set (ZArr.set h (g' := fun i => if i = 0 then a else g i) (fun _ _ => rfl)) (g' := fun i => if i = 1 then b else if i = 0 then a else g i) (fun _ _ => rfl)) fun i hi => ?_
  unfold wayF
  rcases (show i = 0 ∨ i = 1 ∨ i = 2 by omega) with rfl | rfl | rfl <;> rfl
theorem gr_put3 {w X : World} {p : Nat} (g : Gr w X) (hp : w.heap.size ≤ p) (a b c : Value) : Gr w (((X.setCell ⟨p, 0, none⟩ a).setCell ⟨p, 1, none⟩ b).setCell ⟨p, 2, none⟩ c) := ((g.setCell hp _).setCell hp _).setCell hp _
def nwF (f o z s d : Int) : Nat → Int := fun j => if j = 0 then f else if j = 1 then o else if j = 2 then z else if j = 3 then s else d

end Go.Proofs.Ytihamicnbihgnae
