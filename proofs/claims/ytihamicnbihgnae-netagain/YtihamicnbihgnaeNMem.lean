/- A NODE IN MEMORY (handpostref.Mind): a block of 109 numbers. -/
import Derived.Test.YtihamicnbihgnaeRows
import Derived.Test.YtihamicnbihgnaeExt
import Derived.Test.YtihamicnbihgnaeIv
import Derived.Test.YtihamicnbihgnaePlainAll
import Derived.OneCell
import Derived.Deep.RegionHeld3
import Derived.Deep.DeepCutAuto
import Derived.StillTailTactics
namespace Go.Proofs.Ytihamicnbihgnae
open Go.RowKit


/-- n numbers, as cells. -/
def zcells (n : Nat) (g : Nat → Int) : Array Value := ((List.range n).map fun i => iv (g i)).toArray
/-- At block p there are n numbers. -/
def ZArr (w : World) (t : TypeId) (n p : Nat) (g : Nat → Int) : Prop := w.heap[p]? = some (.cells (zcells n g) t (0, 0))
theorem ZArr.lt {w : World} {t n p : Nat} {g : Nat → Int} (h : ZArr w t n p g) : p < w.heap.size := lt_of_block h
theorem ZArr.cell {w : World} {t n p : Nat} {g : Nat → Int} (h : ZArr w t n p g) {j : Nat} (hj : j < n) : w.cell? ⟨p, j, none⟩ = some (iv (g j)) := by
  unfold ZArr at h
  simp [World.cell?, h, zcells, hj]
theorem ZArr.free {w : World} {t n p : Nat} {g : Nat → Int} (h : ZArr w t n p g) (j : Nat) : w.frozen? ⟨p, j, none⟩ = false := by
  unfold ZArr at h
  simp [World.frozen?, h]
theorem ZArr.gr {w w' : World} {t n p : Nat} {g : Nat → Int} (h : ZArr w t n p g) (k : Gr w w') : ZArr w' t n p g := (Below.block k p (lt_of_block h)).trans h
theorem zcells_congr {n : Nat} {g g' : Nat → Int} (e : ∀ j, j < n → g j = g' j) : zcells n g = zcells n g' := by
  unfold zcells
  congr 1
  apply List.map_congr_left
  intro j hj
  rw [e j (List.mem_range.1 hj)]
theorem ZArr.congr {w : World} {t n p : Nat} {g g' : Nat → Int} (h : ZArr w t n p g) (e : ∀ j, j < n → g j = g' j) : ZArr w t n p g' := by
  unfold ZArr at h ⊢
  rw [← zcells_congr e]; exact h
theorem ZArr.set {w : World} {t n p : Nat} {g g' : Nat → Int} (h : ZArr w t n p g) {j : Nat} {v : Int} (e : ∀ i, i < n → g' i = if i = j then v else g i) : ZArr (w.setCell ⟨p, j, none⟩ (iv v)) t n p g' := by
  unfold ZArr at h ⊢
  have : (w.setCell ⟨p, j, none⟩ (iv v)).heap[p]? = some (.cells ((zcells n g).setIfInBounds j (iv v)) t (0, 0)) := by
    simp [World.setCell, Array.getElem?_modify, h]
  rw [this]
  congr 2
  apply Array.ext
  · simp [zcells]
  · intro i h1 h2
    have hi : i < n := by simpa [zcells] using h1
    rw [Array.getElem_setIfInBounds (by simpa [zcells] using hi)]
    simp only [zcells, List.getElem_toArray, List.getElem_map, List.getElem_range, e i hi]
    by_cases q : j = i
    · subst q; simp
    · rw [if_neg q, if_neg (fun x => q x.symm)]
theorem ZArr.other {w : World} {t n p q : Nat} {g : Nat → Int} (h : ZArr w t n p g) (hn : p ≠ q) (j : Nat) (v : Value) : ZArr (w.setCell ⟨q, j, none⟩ v) t n p g := by
  unfold ZArr
  rw [Below.heap_setCell w ⟨q, j, none⟩ v p hn]; exact h
theorem ZArr.new (w : World) (t n : Nat) (g : Nat → Int) : ZArr (w.alloc (.cells (zcells n g) t)) t n w.heap.size g := heap_alloc_new w _

/-- A node's numbers, one behind the other: itself, its costs, what was said, its ways, the bests. -/
def mdF (m : Md) (i : Nat) : Int :=
  if i = 0 then (m.me : Int)
  else if i < 7 then m.cost (i - 1)
  else if i < 79 then (if (i - 7) % 2 = 0 then (m.heard ((i - 7) / 12) ((i - 7) % 12 / 2)).1 else (m.heard ((i - 7) / 12) ((i - 7) % 12 / 2)).2)
  else if i < 97 then (if (i - 79) % 3 = 0 then (m.ways ((i - 79) / 3)).1 else if (i - 79) % 3 = 1 then (m.ways ((i - 79) / 3)).2.1 else (m.ways ((i - 79) / 3)).2.2)
  else (if (i - 97) % 2 = 0 then (m.bests ((i - 97) / 2)).1 else (m.bests ((i - 97) / 2)).2)
def NdAt (t : TypeId) (w : World) (p : Nat) (m : Md) : Prop := ZArr w t 109 p (mdF m)
/-- The program's Node (the reference's Mind lies alike). -/
abbrev DAt (w : World) (p : Nat) (m : Md) : Prop := NdAt 77 w p m
theorem NdAt.gr {t : TypeId} {w w' : World} {p : Nat} {m : Md} (h : NdAt t w p m) (k : Gr w w') : NdAt t w' p m := ZArr.gr h k
theorem NdAt.lt {t : TypeId} {w : World} {p : Nat} {m : Md} (h : NdAt t w p m) : p < w.heap.size := ZArr.lt h
theorem mdF_me (m : Md) : mdF m 0 = (m.me : Int) := by unfold mdF; rw [if_pos rfl]
theorem mdF_cost (m : Md) {j : Nat} (hj : j < 6) : mdF m (1 + j) = m.cost j := by
  unfold mdF
  rw [if_neg (by omega), if_pos (by omega), show 1 + j - 1 = j by omega]
theorem mdF_heard (m : Md) {f k : Nat} (hf : f < 6) (hk : k < 6) : mdF m (7 + f * 12 + k * 2) = (m.heard f k).1 ∧ mdF m (7 + f * 12 + k * 2 + 1) = (m.heard f k).2 := by
  constructor
  · unfold mdF
    rw [if_neg (by omega), if_neg (by omega), if_pos (by omega), if_pos (by omega), show (7 + f * 12 + k * 2 - 7) / 12 = f by omega, show (7 + f * 12 + k * 2 - 7) % 12 / 2 = k by omega]
  · unfold mdF
    rw [if_neg (by omega), if_neg (by omega), if_pos (by omega), if_neg (by omega), show (7 + f * 12 + k * 2 + 1 - 7) / 12 = f by omega, show (7 + f * 12 + k * 2 + 1 - 7) % 12 / 2 = k by omega]
theorem mdF_ways (m : Md) {k : Nat} (hk : k < 6) : mdF m (79 + k * 3) = (m.ways k).1 ∧ mdF m (79 + k * 3 + 1) = (m.ways k).2.1 ∧ mdF m (79 + k * 3 + 2) = (m.ways k).2.2 := by
  refine ⟨?_, ?_, ?_⟩
  · unfold mdF
    rw [if_neg (by omega), if_neg (by omega), if_neg (by omega), if_pos (by omega), if_pos (by omega), show (79 + k * 3 - 79) / 3 = k by omega]
  · unfold mdF
    rw [if_neg (by omega), if_neg (by omega), if_neg (by omega), if_pos (by omega), if_neg (by omega), if_pos (by omega), show (79 + k * 3 + 1 - 79) / 3 = k by omega]
  · unfold mdF
    rw [if_neg (by omega), if_neg (by omega), if_neg (by omega), if_pos (by omega), if_neg (by omega), if_neg (by omega), show (79 + k * 3 + 2 - 79) / 3 = k by omega]
theorem mdF_bests (m : Md) {k : Nat} (hk : k < 6) : mdF m (97 + k * 2) = (m.bests k).1 ∧ mdF m (97 + k * 2 + 1) = (m.bests k).2 := by
  constructor
  · unfold mdF
    rw [if_neg (by omega), if_neg (by omega), if_neg (by omega), if_neg (by omega), if_pos (by omega), show (97 + k * 2 - 97) / 2 = k by omega]
  · unfold mdF
    rw [if_neg (by omega), if_neg (by omega), if_neg (by omega), if_neg (by omega), if_neg (by omega), show (97 + k * 2 + 1 - 97) / 2 = k by omega]
theorem NdAt.me {t : TypeId} {w : World} {p : Nat} {m : Md} (h : NdAt t w p m) : w.cell? ⟨p, 0, none⟩ = some (iv m.me) := by
  have := ZArr.cell h (j := 0) (by omega)
  rw [mdF_me] at this; exact this
theorem NdAt.cost {t : TypeId} {w : World} {p : Nat} {m : Md} (h : NdAt t w p m) {j : Nat} (hj : j < 6) : w.cell? ⟨p, 1 + j, none⟩ = some (iv (m.cost j)) := by
  have := ZArr.cell h (j := 1 + j) (by omega)
  rw [mdF_cost m hj] at this; exact this
theorem NdAt.heard {t : TypeId} {w : World} {p : Nat} {m : Md} (h : NdAt t w p m) {f k : Nat} (hf : f < 6) (hk : k < 6) : w.cell? ⟨p, 7 + f * 12 + k * 2, none⟩ = some (iv (m.heard f k).1) ∧ w.cell? ⟨p, 7 + f * 12 + k * 2 + 1, none⟩ = some (iv (m.heard f k).2) := by
  have h1 := ZArr.cell h (j := 7 + f * 12 + k * 2) (by omega)
  have h2 := ZArr.cell h (j := 7 + f * 12 + k * 2 + 1) (by omega)
  rw [(mdF_heard m hf hk).1] at h1
  rw [(mdF_heard m hf hk).2] at h2
  exact ⟨h1, h2⟩
theorem NdAt.ways {t : TypeId} {w : World} {p : Nat} {m : Md} (h : NdAt t w p m) {k : Nat} (hk : k < 6) : w.cell? ⟨p, 79 + k * 3, none⟩ = some (iv (m.ways k).1) ∧ w.cell? ⟨p, 79 + k * 3 + 1, none⟩ = some (iv (m.ways k).2.1) ∧ w.cell? ⟨p, 79 + k * 3 + 2, none⟩ = some (iv (m.ways k).2.2) := by
  have h1 := ZArr.cell h (j := 79 + k * 3) (by omega)
  have h2 := ZArr.cell h (j := 79 + k * 3 + 1) (by omega)
  have h3 := ZArr.cell h (j := 79 + k * 3 + 2) (by omega)
  rw [(mdF_ways m hk).1] at h1
  rw [(mdF_ways m hk).2.1] at h2
  rw [(mdF_ways m hk).2.2] at h3
  exact ⟨h1, h2, h3⟩
theorem NdAt.bests {t : TypeId} {w : World} {p : Nat} {m : Md} (h : NdAt t w p m) {k : Nat} (hk : k < 6) : w.cell? ⟨p, 97 + k * 2, none⟩ = some (iv (m.bests k).1) ∧ w.cell? ⟨p, 97 + k * 2 + 1, none⟩ = some (iv (m.bests k).2) := by
  have h1 := ZArr.cell h (j := 97 + k * 2) (by omega)
  have h2 := ZArr.cell h (j := 97 + k * 2 + 1) (by omega)
  rw [(mdF_bests m hk).1] at h1
  rw [(mdF_bests m hk).2] at h2
  exact ⟨h1, h2⟩
/-- A store into the block, as a change of one field. -/
theorem NdAt.setCost {t : TypeId} {w : World} {p : Nat} {m : Md} (h : NdAt t w p m) {j : Nat} (hj : j < 6) (v : Int) : NdAt t (w.setCell ⟨p, 1 + j, none⟩ (iv v)) p { m with cost := updW m.cost j v } := by
  refine ZArr.set h fun i hi => ?_
  unfold mdF updW
  dsimp only
  by_cases e : i = 1 + j
  · subst e
    rw [if_neg (by omega), if_pos (by omega), if_pos rfl, if_pos (by omega)]
  · rw [if_neg e]
    by_cases e0 : i = 0
    · rw [if_pos e0, if_pos e0]
    · rw [if_neg e0, if_neg e0]
      by_cases e7 : i < 7
      · rw [if_pos e7, if_pos e7, if_neg (by omega)]
      · rw [if_neg e7, if_neg e7]
theorem NdAt.setHeard {t : TypeId} {w : World} {p : Nat} {m : Md} (h : NdAt t w p m) {f k : Nat} (hf : f < 6) (hk : k < 6) (s d : Int) : NdAt t ((w.setCell ⟨p, 7 + f * 12 + k * 2, none⟩ (iv s)).setCell ⟨p, 7 + f * 12 + k * 2 + 1, none⟩ (iv d)) p { m with heard := updW m.heard f (updW (m.heard f) k (s, d)) } := by
  refine ZArr.set (ZArr.set h (g' := fun i => if i = 7 + f * 12 + k * 2 then s else mdF m i) (fun _ _ => rfl)) fun i hi => ?_
  unfold mdF updW
  dsimp only
  by_cases e1 : i = 7 + f * 12 + k * 2 + 1
  · subst e1
    rw [if_pos rfl, if_neg (by omega), if_neg (by omega), if_pos (by omega), if_neg (by omega), if_pos (by omega), if_pos (by omega)]
  · rw [if_neg e1]
    by_cases e2 : i = 7 + f * 12 + k * 2
    · subst e2
      rw [if_pos rfl, if_neg (by omega), if_neg (by omega), if_pos (by omega), if_pos (by omega), if_pos (by omega), if_pos (by omega)]
    · rw [if_neg e2]
      by_cases e0 : i = 0
      · rw [if_pos e0, if_pos e0]
      · rw [if_neg e0, if_neg e0]
        by_cases e7 : i < 7
        · rw [if_pos e7, if_pos e7]
        · rw [if_neg e7, if_neg e7]
          by_cases e79 : i < 79
          · rw [if_pos e79, if_pos e79]
            by_cases ef : (i - 7) / 12 = f
            · rw [if_pos ef, if_neg (show ¬ (i - 7) % 12 / 2 = k by omega), ef]
            · rw [if_neg ef]
          · rw [if_neg e79, if_neg e79]
theorem NdAt.setWays {t : TypeId} {w : World} {p : Nat} {m : Md} (h : NdAt t w p m) {k : Nat} (hk : k < 6) (s d o : Int) : NdAt t (((w.setCell ⟨p, 79 + k * 3, none⟩ (iv s)).setCell ⟨p, 79 + k * 3 + 1, none⟩ (iv d)).setCell ⟨p, 79 + k * 3 + 2, none⟩ (iv o)) p { m with ways := updW m.ways k (s, d, o) } := by
  refine ZArr.set (ZArr.set (ZArr.set h (g' := fun i => if i = 79 + k * 3 then s else mdF m i) (fun _ _ => rfl)) (g' := fun i => if i = 79 + k * 3 + 1 then d else if i = 79 + k * 3 then s else mdF m i) (fun _ _ => rfl)) fun i hi => ?_
  unfold mdF updW
  dsimp only
  by_cases e2 : i = 79 + k * 3 + 2
  · subst e2
    rw [if_pos rfl, if_neg (by omega), if_neg (by omega), if_neg (by omega), if_pos (by omega), if_neg (by omega), if_neg (by omega), if_pos (by omega)]
  · rw [if_neg e2]
    by_cases e1 : i = 79 + k * 3 + 1
    · subst e1
      rw [if_pos rfl, if_neg (by omega), if_neg (by omega), if_neg (by omega), if_pos (by omega), if_neg (by omega), if_pos (by omega), if_pos (by omega)]
    · rw [if_neg e1]
      by_cases e3 : i = 79 + k * 3
      · subst e3
        rw [if_pos rfl, if_neg (by omega), if_neg (by omega), if_neg (by omega), if_pos (by omega), if_pos (by omega), if_pos (by omega)]
      · rw [if_neg e3]
        by_cases e0 : i = 0
        · rw [if_pos e0, if_pos e0]
        · rw [if_neg e0, if_neg e0]
          by_cases e7 : i < 7
          · rw [if_pos e7, if_pos e7]
          · rw [if_neg e7, if_neg e7]
            by_cases e79 : i < 79
            · rw [if_pos e79, if_pos e79]
            · rw [if_neg e79, if_neg e79]
              by_cases e97 : i < 97
              · rw [if_pos e97, if_pos e97, if_neg (show ¬ (i - 79) / 3 = k by omega)]
              · rw [if_neg e97, if_neg e97]
theorem NdAt.setBests {t : TypeId} {w : World} {p : Nat} {m : Md} (h : NdAt t w p m) {k : Nat} (hk : k < 6) (s d : Int) : NdAt t ((w.setCell ⟨p, 97 + k * 2, none⟩ (iv s)).setCell ⟨p, 97 + k * 2 + 1, none⟩ (iv d)) p { m with bests := updW m.bests k (s, d) } := by
  refine ZArr.set (ZArr.set h (g' := fun i => if i = 97 + k * 2 then s else mdF m i) (fun _ _ => rfl)) fun i hi => ?_
  unfold mdF updW
  dsimp only
  by_cases e1 : i = 97 + k * 2 + 1
  · subst e1
    rw [if_pos rfl, if_neg (by omega), if_neg (by omega), if_neg (by omega), if_neg (by omega), if_neg (by omega), if_pos (by omega)]
  · rw [if_neg e1]
    by_cases e2 : i = 97 + k * 2
    · subst e2
      rw [if_pos rfl, if_neg (by omega), if_neg (by omega), if_neg (by omega), if_neg (by omega), if_pos (by omega), if_pos (by omega)]
    · rw [if_neg e2]
      by_cases e0 : i = 0
      · rw [if_pos e0, if_pos e0]
      · rw [if_neg e0, if_neg e0]
        by_cases e7 : i < 7
        · rw [if_pos e7, if_pos e7]
        · rw [if_neg e7, if_neg e7]
          by_cases e79 : i < 79
          · rw [if_pos e79, if_pos e79]
          · rw [if_neg e79, if_neg e79]
            by_cases e97 : i < 97
            · rw [if_pos e97, if_pos e97]
            · rw [if_neg e97, if_neg e97, if_neg (show ¬ (i - 97) / 2 = k by omega)]
theorem NdAt.setAge {t : TypeId} {w : World} {p : Nat} {m : Md} (h : NdAt t w p m) {k : Nat} (hk : k < 6) (s : Int) : NdAt t (w.setCell ⟨p, 79 + k * 3, none⟩ (iv s)) p { m with ways := updW m.ways k (s, (m.ways k).2.1, (m.ways k).2.2) } := by
  refine ZArr.set h fun i hi => ?_
  by_cases e : i = 79 + k * 3
  · subst e
    rw [if_pos rfl, (mdF_ways _ hk).1]
    simp [updW]
  · rw [if_neg e]
    unfold mdF updW
    dsimp only
    by_cases e3 : 79 ≤ i ∧ i < 97
    · have a0 : ¬ i = 0 := by omega
      have a1 : ¬ i < 7 := by omega
      have a2 : ¬ i < 79 := by omega
      rw [if_neg a0, if_neg a1, if_neg a2, if_pos e3.2, if_neg a0, if_neg a1, if_neg a2, if_pos e3.2]
      by_cases e4 : (i - 79) / 3 = k
      · have a3 : ¬ (i - 79) % 3 = 0 := by omega
        rw [if_neg a3, if_neg a3, if_pos e4, e4]
      · rw [if_neg e4]
    · by_cases a0 : i = 0
      · rw [if_pos a0, if_pos a0]
      · by_cases a1 : i < 7
        · rw [if_neg a0, if_pos a1, if_neg a0, if_pos a1]
        · by_cases a2 : i < 79
          · rw [if_neg a0, if_neg a1, if_pos a2, if_neg a0, if_neg a1, if_pos a2]
          · have a3 : ¬ i < 97 := by omega
            rw [if_neg a0, if_neg a1, if_neg a2, if_neg a3, if_neg a0, if_neg a1, if_neg a2, if_neg a3]

end Go.Proofs.Ytihamicnbihgnae
