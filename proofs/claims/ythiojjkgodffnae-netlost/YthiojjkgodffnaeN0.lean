import Derived.Test.YthiojjkgodffnaeRows
import Derived.Test.YthiojjkgodffnaeExt
import Derived.Test.YthiojjkgodffnaePlainAll
import Derived.OneCell
import Derived.Deep.RegionHeld3
import Derived.Deep.DeepCutAuto
import Derived.StillTailTactics
/- WHAT ALL TEXTS OF NUMBERS AND NODES IN MEMORY NAME. -/
namespace Go.Proofs.Ythiojjkgodffnae
open Go.RowKit

abbrev iv (x : Int) : Value := .int .i64 x
abbrev pv (q : Nat) : Value := .pointer (some ⟨q, 0, none⟩)
theorem wp_gen {P : Program} {c : Code} {Q : Exit → Act → World → Prop} {a : Act} {w : World} (S : World → Prop) (hS : S w) (k : ∀ X, S X → c.wp P Q a X) : c.wp P Q a w := k w hS
theorem bp_gen' {P : Program} {f : Func} {Q : Ending → World → Prop} {e : Exit} {a : Act} {w : World} (S : World → Prop) (hS : S w) (k : ∀ X, S X → bodyPost P f Q e a X) : bodyPost P f Q e a w := k w hS
theorem Try.info3 : (Try.prog.info? 3).map (fun i => (i.zero, i.size, i.bytes)) = some (some (iv 0), 1, 8) := by kernel_rfl
/-- M's blocks are as they were. -/
structure Kp (M : Nat → Prop) (w w' : World) : Prop where
  os : w'.os = w.os
  tape : w'.tape = w.tape
  output : w'.output = w.output
  size : w.heap.size ≤ w'.heap.size
  block : ∀ k, k < w.heap.size → M k → w'.heap[k]? = w.heap[k]?

theorem Kp.refl (M : Nat → Prop) (w : World) : Kp M w w := ⟨rfl, rfl, rfl, Nat.le_refl _, fun _ _ _ => rfl⟩
theorem Kp.trans {M : Nat → Prop} {a b c : World} (h : Kp M a b) (k : Kp M b c) : Kp M a c :=
  ⟨k.os.trans h.os, k.tape.trans h.tape, k.output.trans h.output, Nat.le_trans h.size k.size, fun i hi hm => (k.block i (Nat.lt_of_lt_of_le hi h.size) hm).trans (h.block i hi hm)⟩
theorem Kp.mono {M N : Nat → Prop} {a b : World} (h : Kp N a b) (hm : ∀ k, k < a.heap.size → M k → N k) : Kp M a b :=
  ⟨h.os, h.tape, h.output, h.size, fun i hi hM => h.block i hi (hm i hi hM)⟩
theorem Gr.kp {a b : World} (h : Gr a b) (M : Nat → Prop) : Kp M a b := ⟨h.os, h.tape, h.output, h.size, fun k hk _ => h.block k hk⟩
theorem Ext.kp {a : World} (d : Ext a) (M : Nat → Prop) : Kp M a d.out := d.gr.kp M
theorem Kp.below {M : Nat → Prop} {B : Nat} {a b : World} (h : Kp M a b) (hB : B ≤ a.heap.size) (hm : ∀ k, k < B → M k) : Below B a b :=
  ⟨h.os, h.tape, h.output, h.size, fun k hk => h.block k (Nat.lt_of_lt_of_le hk hB) (hm k hk)⟩
theorem Kp.grown {M : Nat → Prop} {a b : World} {row : Option Nat} (h : a.grownBy b row) (hr : ∀ k, row = some k → ¬ M k) : Kp M a b :=
  ⟨h.os, h.tape, h.output, h.size, fun k hk hm => h.block k hk (fun e => hr k e.symm hm)⟩

theorem Kp.ext {M : Nat → Prop} {B w w' : World} (h : Kp M B w) (g : Gr w w') : Kp M B w' := h.trans (g.kp M)
theorem Kp.set {M : Nat → Prop} {B w : World} (h : Kp M B w) {p : Nat} (hp : ¬ M p) (j : Nat) (v : Value) : Kp M B (w.setCell ⟨p, j, none⟩ v) := by
  refine ⟨h.os, h.tape, h.output, by have := h.size; simpa using this, fun k hk hm => ?_⟩
  have e : k ≠ p := fun e => hp (e ▸ hm)
  rw [Below.heap_setCell w ⟨p, j, none⟩ v k e]; exact h.block k hk hm
/-- Blocks of different kinds are different ones. -/
theorem blk_ne {w : World} {p q : Nat} {cs cs' : Array Value} {t t' : TypeId} {f f' : Nat × Nat} (h : w.heap[p]? = some (.cells cs t f)) (k : w.heap[q]? = some (.cells cs' t' f')) (ht : t ≠ t') : p ≠ q := by
  intro e
  subst e
  rw [h] at k
  simp only [Option.some.injEq, Obj.cells.injEq] at k
  exact ht k.2.1

end Go.Proofs.Ythiojjkgodffnae

/- A NODE IN MEMORY (handpostref.Mind): a block of 109 numbers. -/
namespace Go.Proofs.Ythiojjkgodffnae
open Go.RowKit


/-- n numbers, as cells. -/
def zcells (n : Nat) (g : Nat → Int) : Array Value := ((List.range n).map fun i => iv (g i)).toArray
/-- At block p there are n numbers. -/
def ZArr (w : World) (t : TypeId) (n p : Nat) (g : Nat → Int) : Prop := w.heap[p]? = some (.cells (zcells n g) t (0, 0))
theorem ZArr.lt {w : World} {t n p : Nat} {g : Nat → Int} (h : ZArr w t n p g) : p < w.heap.size := lt_of_block h
theorem ZArr.cell {w : World} {t n p : Nat} {g : Nat → Int} (h : ZArr w t n p g) {j : Nat} (hj : j < n) : w.cell? ⟨p, j, none⟩ = some (iv (g j)) := by
  unfold ZArr at h
  simp [World.cell?, h, zcells, hj]
theorem ZArr.free {w : World} {t n p : Nat} {g : Nat → Int} (h : ZArr w t n p g) (j : Nat) : w.frozen? ⟨p, j, none⟩ = false := by
  unfold ZArr at h
  simp [World.frozen?, h]
theorem ZArr.gr {w w' : World} {t n p : Nat} {g : Nat → Int} (h : ZArr w t n p g) (k : Gr w w') : ZArr w' t n p g := (Below.block k p (lt_of_block h)).trans h
theorem zcells_congr {n : Nat} {g g' : Nat → Int} (e : ∀ j, j < n → g j = g' j) : zcells n g = zcells n g' := by
  unfold zcells
  congr 1
  apply List.map_congr_left
  intro j hj
  rw [e j (List.mem_range.1 hj)]
theorem ZArr.congr {w : World} {t n p : Nat} {g g' : Nat → Int} (h : ZArr w t n p g) (e : ∀ j, j < n → g j = g' j) : ZArr w t n p g' := by
  unfold ZArr at h ⊢
  rw [← zcells_congr e]; exact h
theorem ZArr.set {w : World} {t n p : Nat} {g g' : Nat → Int} (h : ZArr w t n p g) {j : Nat} {v : Int} (e : ∀ i, i < n → g' i = if i = j then v else g i) : ZArr (w.setCell ⟨p, j, none⟩ (iv v)) t n p g' := by
  unfold ZArr at h ⊢
  have : (w.setCell ⟨p, j, none⟩ (iv v)).heap[p]? = some (.cells ((zcells n g).setIfInBounds j (iv v)) t (0, 0)) := by
    simp [World.setCell, Array.getElem?_modify, h]
  rw [this]
  congr 2
  apply Array.ext
  · simp [zcells]
  · intro i h1 h2
    have hi : i < n := by simpa [zcells] using h1
    rw [Array.getElem_setIfInBounds (by simpa [zcells] using hi)]
    simp only [zcells, List.getElem_toArray, List.getElem_map, List.getElem_range, e i hi]
    by_cases q : j = i
    · subst q; simp
    · rw [if_neg q, if_neg (fun x => q x.symm)]
theorem ZArr.other {w : World} {t n p q : Nat} {g : Nat → Int} (h : ZArr w t n p g) (hn : p ≠ q) (j : Nat) (v : Value) : ZArr (w.setCell ⟨q, j, none⟩ v) t n p g := by
  unfold ZArr
  rw [Below.heap_setCell w ⟨q, j, none⟩ v p hn]; exact h
theorem ZArr.new (w : World) (t n : Nat) (g : Nat → Int) : ZArr (w.alloc (.cells (zcells n g) t)) t n w.heap.size g := heap_alloc_new w _

/-- A node's numbers, one behind the other: itself, its costs, what was said, its ways, the bests. -/
def mdF (m : Md) (i : Nat) : Int :=
  if i = 0 then (m.me : Int)
  else if i < 7 then m.cost (i - 1)
  else if i < 79 then (if (i - 7) % 2 = 0 then (m.heard ((i - 7) / 12) ((i - 7) % 12 / 2)).1 else (m.heard ((i - 7) / 12) ((i - 7) % 12 / 2)).2)
  else if i < 97 then (if (i - 79) % 3 = 0 then (m.ways ((i - 79) / 3)).1 else if (i - 79) % 3 = 1 then (m.ways ((i - 79) / 3)).2.1 else (m.ways ((i - 79) / 3)).2.2)
  else (if (i - 97) % 2 = 0 then (m.bests ((i - 97) / 2)).1 else (m.bests ((i - 97) / 2)).2)
def NdAt (t : TypeId) (w : World) (p : Nat) (m : Md) : Prop := ZArr w t 109 p (mdF m)
/-- The program's Node (the reference's Mind lies alike). -/
abbrev DAt (w : World) (p : Nat) (m : Md) : Prop := NdAt 103 w p m
theorem NdAt.gr {t : TypeId} {w w' : World} {p : Nat} {m : Md} (h : NdAt t w p m) (k : Gr w w') : NdAt t w' p m := ZArr.gr h k
theorem NdAt.lt {t : TypeId} {w : World} {p : Nat} {m : Md} (h : NdAt t w p m) : p < w.heap.size := ZArr.lt h
theorem mdF_me (m : Md) : mdF m 0 = (m.me : Int) := by unfold mdF; rw [if_pos rfl]
theorem mdF_cost (m : Md) {j : Nat} (hj : j < 6) : mdF m (1 + j) = m.cost j := by
  unfold mdF
  rw [if_neg (by omega), if_pos (by omega), show 1 + j - 1 = j by omega]
theorem mdF_heard (m : Md) {f k : Nat} (hf : f < 6) (hk : k < 6) : mdF m (7 + f * 12 + k * 2) = (m.heard f k).1 ∧ mdF m (7 + f * 12 + k * 2 + 1) = (m.heard f k).2 := by
  constructor
  · unfold mdF
    rw [if_neg (by omega), if_neg (by omega), if_pos (by omega), if_pos (by omega), show (7 + f * 12 + k * 2 - 7) / 12 = f by omega, show (7 + f * 12 + k * 2 - 7) % 12 / 2 = k by omega]
  · unfold mdF
    rw [if_neg (by omega), if_neg (by omega), if_pos (by omega), if_neg (by omega), show (7 + f * 12 + k * 2 + 1 - 7) / 12 = f by omega, show (7 + f * 12 + k * 2 + 1 - 7) % 12 / 2 = k by omega]
theorem mdF_ways (m : Md) {k : Nat} (hk : k < 6) : mdF m (79 + k * 3) = (m.ways k).1 ∧ mdF m (79 + k * 3 + 1) = (m.ways k).2.1 ∧ mdF m (79 + k * 3 + 2) = (m.ways k).2.2 := by
  refine ⟨?_, ?_, ?_⟩
  · unfold mdF
    rw [if_neg (by omega), if_neg (by omega), if_neg (by omega), if_pos (by omega), if_pos (by omega), show (79 + k * 3 - 79) / 3 = k by omega]
  · unfold mdF
    rw [if_neg (by omega), if_neg (by omega), if_neg (by omega), if_pos (by omega), if_neg (by omega), if_pos (by omega), show (79 + k * 3 + 1 - 79) / 3 = k by omega]
  · unfold mdF
    rw [if_neg (by omega), if_neg (by omega), if_neg (by omega), if_pos (by omega), if_neg (by omega), if_neg (by omega), show (79 + k * 3 + 2 - 79) / 3 = k by omega]
theorem mdF_bests (m : Md) {k : Nat} (hk : k < 6) : mdF m (97 + k * 2) = (m.bests k).1 ∧ mdF m (97 + k * 2 + 1) = (m.bests k).2 := by
  constructor
  · unfold mdF
    rw [if_neg (by omega), if_neg (by omega), if_neg (by omega), if_neg (by omega), if_pos (by omega), show (97 + k * 2 - 97) / 2 = k by omega]
  · unfold mdF
    rw [if_neg (by omega), if_neg (by omega), if_neg (by omega), if_neg (by omega), if_neg (by omega), show (97 + k * 2 + 1 - 97) / 2 = k by omega]
theorem NdAt.me {t : TypeId} {w : World} {p : Nat} {m : Md} (h : NdAt t w p m) : w.cell? ⟨p, 0, none⟩ = some (iv m.me) := by
  have := ZArr.cell h (j := 0) (by omega)
  rw [mdF_me] at this; exact this
theorem NdAt.cost {t : TypeId} {w : World} {p : Nat} {m : Md} (h : NdAt t w p m) {j : Nat} (hj : j < 6) : w.cell? ⟨p, 1 + j, none⟩ = some (iv (m.cost j)) := by
  have := ZArr.cell h (j := 1 + j) (by omega)
  rw [mdF_cost m hj] at this; exact this
theorem NdAt.heard {t : TypeId} {w : World} {p : Nat} {m : Md} (h : NdAt t w p m) {f k : Nat} (hf : f < 6) (hk : k < 6) : w.cell? ⟨p, 7 + f * 12 + k * 2, none⟩ = some (iv (m.heard f k).1) ∧ w.cell? ⟨p, 7 + f * 12 + k * 2 + 1, none⟩ = some (iv (m.heard f k).2) := by
  have h1 := ZArr.cell h (j := 7 + f * 12 + k * 2) (by omega)
  have h2 := ZArr.cell h (j := 7 + f * 12 + k * 2 + 1) (by omega)
  rw [(mdF_heard m hf hk).1] at h1
  rw [(mdF_heard m hf hk).2] at h2
  exact ⟨h1, h2⟩
theorem NdAt.ways {t : TypeId} {w : World} {p : Nat} {m : Md} (h : NdAt t w p m) {k : Nat} (hk : k < 6) : w.cell? ⟨p, 79 + k * 3, none⟩ = some (iv (m.ways k).1) ∧ w.cell? ⟨p, 79 + k * 3 + 1, none⟩ = some (iv (m.ways k).2.1) ∧ w.cell? ⟨p, 79 + k * 3 + 2, none⟩ = some (iv (m.ways k).2.2) := by
  have h1 := ZArr.cell h (j := 79 + k * 3) (by omega)
  have h2 := ZArr.cell h (j := 79 + k * 3 + 1) (by omega)
  have h3 := ZArr.cell h (j := 79 + k * 3 + 2) (by omega)
  rw [(mdF_ways m hk).1] at h1
  rw [(mdF_ways m hk).2.1] at h2
  rw [(mdF_ways m hk).2.2] at h3
  exact ⟨h1, h2, h3⟩
theorem NdAt.bests {t : TypeId} {w : World} {p : Nat} {m : Md} (h : NdAt t w p m) {k : Nat} (hk : k < 6) : w.cell? ⟨p, 97 + k * 2, none⟩ = some (iv (m.bests k).1) ∧ w.cell? ⟨p, 97 + k * 2 + 1, none⟩ = some (iv (m.bests k).2) := by
  have h1 := ZArr.cell h (j := 97 + k * 2) (by omega)
  have h2 := ZArr.cell h (j := 97 + k * 2 + 1) (by omega)
  rw [(mdF_bests m hk).1] at h1
  rw [(mdF_bests m hk).2] at h2
  exact ⟨h1, h2⟩
/-- A store into the block, as a change of one field. -/
theorem NdAt.setCost {t : TypeId} {w : World} {p : Nat} {m : Md} (h : NdAt t w p m) {j : Nat} (hj : j < 6) (v : Int) : NdAt t (w.setCell ⟨p, 1 + j, none⟩ (iv v)) p { m with cost := updW m.cost j v } := by
  refine ZArr.set h fun i hi => ?_
  unfold mdF updW
  dsimp only
  by_cases e : i = 1 + j
  · subst e
    rw [if_neg (by omega), if_pos (by omega), if_pos rfl, if_pos (by omega)]
  · rw [if_neg e]
    by_cases e0 : i = 0
    · rw [if_pos e0, if_pos e0]
    · rw [if_neg e0, if_neg e0]
      by_cases e7 : i < 7
      · rw [if_pos e7, if_pos e7, if_neg (by omega)]
      · rw [if_neg e7, if_neg e7]
theorem NdAt.setHeard {t : TypeId} {w : World} {p : Nat} {m : Md} (h : NdAt t w p m) {f k : Nat} (hf : f < 6) (hk : k < 6) (s d : Int) : NdAt t ((w.setCell ⟨p, 7 + f * 12 + k * 2, none⟩ (iv s)).setCell ⟨p, 7 + f * 12 + k * 2 + 1, none⟩ (iv d)) p { m with heard := updW m.heard f (updW (m.heard f) k (s, d)) } := by
  refine ZArr.set (ZArr.set h (g' := fun i => if i = 7 + f * 12 + k * 2 then s else mdF m i) (fun _ _ => rfl)) fun i hi => ?_
  unfold mdF updW
  dsimp only
  by_cases e1 : i = 7 + f * 12 + k * 2 + 1
  · subst e1
    rw [if_pos rfl, if_neg (by omega), if_neg (by omega), if_pos (by omega), if_neg (by omega), if_pos (by omega), if_pos (by omega)]
  · rw [if_neg e1]
    by_cases e2 : i = 7 + f * 12 + k * 2
    · subst e2
      rw [if_pos rfl, if_neg (by omega), if_neg (by omega), if_pos (by omega), if_pos (by omega), if_pos (by omega), if_pos (by omega)]
    · rw [if_neg e2]
      by_cases e0 : i = 0
      · rw [if_pos e0, if_pos e0]
      · rw [if_neg e0, if_neg e0]
        by_cases e7 : i < 7
        · rw [if_pos e7, if_pos e7]
        · rw [if_neg e7, if_neg e7]
          by_cases e79 : i < 79
          · rw [if_pos e79, if_pos e79]
            by_cases ef : (i - 7) / 12 = f
            · rw [if_pos ef, if_neg (show ¬ (i - 7) % 12 / 2 = k by omega), ef]
            · rw [if_neg ef]
          · rw [if_neg e79, if_neg e79]
theorem NdAt.setWays {t : TypeId} {w : World} {p : Nat} {m : Md} (h : NdAt t w p m) {k : Nat} (hk : k < 6) (s d o : Int) : NdAt t (((w.setCell ⟨p, 79 + k * 3, none⟩ (iv s)).setCell ⟨p, 79 + k * 3 + 1, none⟩ (iv d)).setCell ⟨p, 79 + k * 3 + 2, none⟩ (iv o)) p { m with ways := updW m.ways k (s, d, o) } := by
  refine ZArr.set (ZArr.set (ZArr.set h (g' := fun i => if i = 79 + k * 3 then s else mdF m i) (fun _ _ => rfl)) (g' := fun i => if i = 79 + k * 3 + 1 then d else if i = 79 + k * 3 then s else mdF m i) (fun _ _ => rfl)) fun i hi => ?_
  unfold mdF updW
  dsimp only
  by_cases e2 : i = 79 + k * 3 + 2
  · subst e2
    rw [if_pos rfl, if_neg (by omega), if_neg (by omega), if_neg (by omega), if_pos (by omega), if_neg (by omega), if_neg (by omega), if_pos (by omega)]
  · rw [if_neg e2]
    by_cases e1 : i = 79 + k * 3 + 1
    · subst e1
      rw [if_pos rfl, if_neg (by omega), if_neg (by omega), if_neg (by omega), if_pos (by omega), if_neg (by omega), if_pos (by omega), if_pos (by omega)]
    · rw [if_neg e1]
      by_cases e3 : i = 79 + k * 3
      · subst e3
        rw [if_pos rfl, if_neg (by omega), if_neg (by omega), if_neg (by omega), if_pos (by omega), if_pos (by omega), if_pos (by omega)]
      · rw [if_neg e3]
        by_cases e0 : i = 0
        · rw [if_pos e0, if_pos e0]
        · rw [if_neg e0, if_neg e0]
          by_cases e7 : i < 7
          · rw [if_pos e7, if_pos e7]
          · rw [if_neg e7, if_neg e7]
            by_cases e79 : i < 79
            · rw [if_pos e79, if_pos e79]
            · rw [if_neg e79, if_neg e79]
              by_cases e97 : i < 97
              · rw [if_pos e97, if_pos e97, if_neg (show ¬ (i - 79) / 3 = k by omega)]
              · rw [if_neg e97, if_neg e97]
theorem NdAt.setBests {t : TypeId} {w : World} {p : Nat} {m : Md} (h : NdAt t w p m) {k : Nat} (hk : k < 6) (s d : Int) : NdAt t ((w.setCell ⟨p, 97 + k * 2, none⟩ (iv s)).setCell ⟨p, 97 + k * 2 + 1, none⟩ (iv d)) p { m with bests := updW m.bests k (s, d) } := by
  refine ZArr.set (ZArr.set h (g' := fun i => if i = 97 + k * 2 then s else mdF m i) (fun _ _ => rfl)) fun i hi => ?_
  unfold mdF updW
  dsimp only
  by_cases e1 : i = 97 + k * 2 + 1
  · subst e1
    rw [if_pos rfl, if_neg (by omega), if_neg (by omega), if_neg (by omega), if_neg (by omega), if_neg (by omega), if_pos (by omega)]
  · rw [if_neg e1]
    by_cases e2 : i = 97 + k * 2
    · subst e2
      rw [if_pos rfl, if_neg (by omega), if_neg (by omega), if_neg (by omega), if_neg (by omega), if_pos (by omega), if_pos (by omega)]
    · rw [if_neg e2]
      by_cases e0 : i = 0
      · rw [if_pos e0, if_pos e0]
      · rw [if_neg e0, if_neg e0]
        by_cases e7 : i < 7
        · rw [if_pos e7, if_pos e7]
        · rw [if_neg e7, if_neg e7]
          by_cases e79 : i < 79
          · rw [if_pos e79, if_pos e79]
          · rw [if_neg e79, if_neg e79]
            by_cases e97 : i < 97
            · rw [if_pos e97, if_pos e97]
            · rw [if_neg e97, if_neg e97, if_neg (show ¬ (i - 97) / 2 = k by omega)]
theorem NdAt.setAge {t : TypeId} {w : World} {p : Nat} {m : Md} (h : NdAt t w p m) {k : Nat} (hk : k < 6) (s : Int) : NdAt t (w.setCell ⟨p, 79 + k * 3, none⟩ (iv s)) p { m with ways := updW m.ways k (s, (m.ways k).2.1, (m.ways k).2.2) } := by
  refine ZArr.set h fun i hi => ?_
  by_cases e : i = 79 + k * 3
  · subst e
    rw [if_pos rfl, (mdF_ways _ hk).1]
    simp [updW]
  · rw [if_neg e]
    unfold mdF updW
    dsimp only
    by_cases e3 : 79 ≤ i ∧ i < 97
    · have a0 : ¬ i = 0 := by omega
      have a1 : ¬ i < 7 := by omega
      have a2 : ¬ i < 79 := by omega
      rw [if_neg a0, if_neg a1, if_neg a2, if_pos e3.2, if_neg a0, if_neg a1, if_neg a2, if_pos e3.2]
      by_cases e4 : (i - 79) / 3 = k
      · have a3 : ¬ (i - 79) % 3 = 0 := by omega
        rw [if_neg a3, if_neg a3, if_pos e4, e4]
      · rw [if_neg e4]
    · by_cases a0 : i = 0
      · rw [if_pos a0, if_pos a0]
      · by_cases a1 : i < 7
        · rw [if_neg a0, if_pos a1, if_neg a0, if_pos a1]
        · by_cases a2 : i < 79
          · rw [if_neg a0, if_neg a1, if_pos a2, if_neg a0, if_neg a1, if_pos a2]
          · have a3 : ¬ i < 97 := by omega
            rw [if_neg a0, if_neg a1, if_neg a2, if_neg a3, if_neg a0, if_neg a1, if_neg a2, if_neg a3]

end Go.Proofs.Ythiojjkgodffnae

/- WHAT A CALL LEAVES AS IT WAS; small blocks of numbers. -/
namespace Go.Proofs.Ythiojjkgodffnae
open Go.RowKit
attribute [local go_sem] Ext.all Ext.cell Ext.frozen Ext.lt Ext.lt1 Ext.lt2 Ext.ne Ext.ne'

/-- All blocks but p's, and younger ones, are as they were. -/
structure Wr (p : Nat) (w w' : World) : Prop where
  os : w'.os = w.os
  tape : w'.tape = w.tape
  output : w'.output = w.output
  size : w.heap.size ≤ w'.heap.size
  block : ∀ k, k < w.heap.size → k ≠ p → w'.heap[k]? = w.heap[k]?
theorem Wr.refl (p : Nat) (w : World) : Wr p w w := ⟨rfl, rfl, rfl, Nat.le_refl _, fun _ _ _ => rfl⟩
theorem Wr.trans {p : Nat} {a b c : World} (h : Wr p a b) (k : Wr p b c) : Wr p a c :=
  ⟨k.os.trans h.os, k.tape.trans h.tape, k.output.trans h.output, Nat.le_trans h.size k.size, fun i hi hp => (k.block i (Nat.lt_of_lt_of_le hi h.size) hp).trans (h.block i hi hp)⟩
theorem Gr.wr {a b : World} (h : Gr a b) (p : Nat) : Wr p a b := ⟨h.os, h.tape, h.output, h.size, fun k hk _ => h.block k hk⟩
theorem Wr.set {p : Nat} {a b : World} (h : Wr p a b) (j : Nat) (v : Value) : Wr p a (b.setCell ⟨p, j, none⟩ v) :=
  ⟨h.os, h.tape, h.output, by have := h.size; simpa using this, fun k hk hp => by rw [heap_setCell_other b ⟨p, j, none⟩ k v hp]; exact h.block k hk hp⟩
theorem Wr.gr {p : Nat} {B a b : World} (h : Wr p a b) (g : Gr B a) (hp : B.heap.size ≤ p) : Gr B b :=
  ⟨h.os.trans g.os, h.tape.trans g.tape, h.output.trans g.output, Nat.le_trans g.size h.size, fun k hk => (h.block k (Nat.lt_of_lt_of_le hk g.size) (by omega)).trans (g.block k hk)⟩
theorem Wr.arr {p t n q : Nat} {a b : World} {g : Nat → Int} (h : Wr p a b) (k : ZArr a t n q g) (hq : q ≠ p) : ZArr b t n q g := (h.block q k.lt hq).trans k

def sdF (s d : Int) : Nat → Int := fun j => if j = 0 then s else d
def wayF (v : Int × Int × Int) : Nat → Int := fun j => if j = 0 then v.1 else if j = 1 then v.2.1 else v.2.2

theorem ZArr.put3 {w : World} {t p : Nat} {g : Nat → Int} (h : ZArr w t 3 p g) (a b c : Int) : ZArr (((w.setCell ⟨p, 0, none⟩ (iv a)).setCell ⟨p, 1, none⟩ (iv b)).setCell ⟨p, 2, none⟩ (iv c)) t 3 p (wayF (a, b, c)) := by
  refine ZArr.set (ZArr.set (ZArr.set h (g' := fun i => if i = 0 then a else g i) (fun _ _ => rfl)) (g' := fun i => if i = 1 then b else if i = 0 then a else g i) (fun _ _ => rfl)) fun i hi => ?_
  unfold wayF
  rcases (show i = 0 ∨ i = 1 ∨ i = 2 by omega) with rfl | rfl | rfl <;> rfl
theorem gr_put3 {w X : World} {p : Nat} (g : Gr w X) (hp : w.heap.size ≤ p) (a b c : Value) : Gr w (((X.setCell ⟨p, 0, none⟩ a).setCell ⟨p, 1, none⟩ b).setCell ⟨p, 2, none⟩ c) := ((g.setCell hp _).setCell hp _).setCell hp _
def nwF (f o z s d : Int) : Nat → Int := fun j => if j = 0 then f else if j = 1 then o else if j = 2 then z else if j = 3 then s else d

end Go.Proofs.Ythiojjkgodffnae
