/- ROUTES IN MEMORY: what a slice of routes reads as; what a table is; what a call that writes a table leaves. -/
import Derived.Test.YtimbgijpeomfcacGreatDoorL1
import Derived.Test.YtimbgijpeomfcacGreatDoorPlainAll
import Derived.OneCell
namespace Go.Proofs.YtimbgijpeomfcacGreatDoor
open Go.RowKit

abbrev iv (x : Int) : Value := .int .i64 x

/-- A slice at 'ao' reads as these routes; its block is one of M. -/
def RowAt (w : World) (M : Nat → Prop) (ao : Option Addr) (rs : List Rt) : Prop :=
  rs = [] ∨ ∃ b o, ao = some ⟨b, o, none⟩ ∧ b < w.heap.size ∧ M b ∧ ∀ i (h : i < rs.length),
    w.cell? ⟨b, o + i * 3, none⟩ = some (iv rs[i].1) ∧ w.cell? ⟨b, o + i * 3 + 1, none⟩ = some (iv rs[i].2.1) ∧ w.cell? ⟨b, o + i * 3 + 2, none⟩ = some (iv rs[i].2.2)

theorem RowAt.nil (w : World) (M : Nat → Prop) (ao : Option Addr) : RowAt w M ao [] := .inl rfl

theorem RowAt.mono {w : World} {M N : Nat → Prop} {ao : Option Addr} {rs : List Rt} (h : RowAt w M ao rs) (hm : ∀ k, k < w.heap.size → M k → N k) : RowAt w N ao rs := by
  rcases h with h | ⟨b, o, ha, hb, hM, hc⟩
  · exact .inl h
  · exact .inr ⟨b, o, ha, hb, hm b hb hM, hc⟩

/-- M's blocks are as they were. -/
structure Kp (M : Nat → Prop) (w w' : World) : Prop where
  os : w'.os = w.os
  tape : w'.tape = w.tape
  output : w'.output = w.output
  size : w.heap.size ≤ w'.heap.size
  block : ∀ k, k < w.heap.size → M k → w'.heap[k]? = w.heap[k]?

theorem Kp.refl (M : Nat → Prop) (w : World) : Kp M w w := ⟨rfl, rfl, rfl, Nat.le_refl _, fun _ _ _ => rfl⟩
theorem Kp.trans {M : Nat → Prop} {a b c : World} (h : Kp M a b) (k : Kp M b c) : Kp M a c :=
  ⟨k.os.trans h.os, k.tape.trans h.tape, k.output.trans h.output, Nat.le_trans h.size k.size, fun i hi hm => (k.block i (Nat.lt_of_lt_of_le hi h.size) hm).trans (h.block i hi hm)⟩
theorem Kp.mono {M N : Nat → Prop} {a b : World} (h : Kp N a b) (hm : ∀ k, k < a.heap.size → M k → N k) : Kp M a b :=
  ⟨h.os, h.tape, h.output, h.size, fun i hi hM => h.block i hi (hm i hi hM)⟩
theorem Gr.kp {a b : World} (h : Gr a b) (M : Nat → Prop) : Kp M a b := ⟨h.os, h.tape, h.output, h.size, fun k hk _ => h.block k hk⟩
theorem Ext.kp {a : World} (d : Ext a) (M : Nat → Prop) : Kp M a d.out := d.gr.kp M
theorem Kp.below {M : Nat → Prop} {B : Nat} {a b : World} (h : Kp M a b) (hB : B ≤ a.heap.size) (hm : ∀ k, k < B → M k) : Below B a b :=
  ⟨h.os, h.tape, h.output, h.size, fun k hk => h.block k (Nat.lt_of_lt_of_le hk hB) (hm k hk)⟩
theorem Kp.grown {M : Nat → Prop} {a b : World} {row : Option Nat} (h : a.grownBy b row) (hr : ∀ k, row = some k → ¬ M k) : Kp M a b :=
  ⟨h.os, h.tape, h.output, h.size, fun k hk hm => h.block k hk (fun e => hr k e.symm hm)⟩

theorem RowAt.kept {w w' : World} {M : Nat → Prop} {ao : Option Addr} {rs : List Rt} (h : RowAt w M ao rs) (k : Kp M w w') : RowAt w' M ao rs := by
  rcases h with h | ⟨b, o, ha, hb, hM, hc⟩
  · exact .inl h
  · refine .inr ⟨b, o, ha, Nat.lt_of_lt_of_le hb k.size, hM, fun i hi => ?_⟩
    have e : ∀ q, w'.cell? ⟨b, q, none⟩ = w.cell? ⟨b, q, none⟩ := fun q => World.cell?_of_block (a := ⟨b, q, none⟩) (k.block b hb hM)
    rw [e, e, e]
    exact hc i hi
theorem RowAt.gr {w w' : World} {M : Nat → Prop} {ao : Option Addr} {rs : List Rt} (h : RowAt w M ao rs) (k : Gr w w') : RowAt w' M ao rs := h.kept (k.kp M)

/-- Cells of routes. -/
def cel (r : Rt) : List Value := [iv r.1, iv r.2.1, iv r.2.2]
def cels (rs : List Rt) : List Value := rs.flatMap cel

theorem cels_nil : cels [] = [] := rfl
theorem cels_cons (r : Rt) (rs : List Rt) : cels (r :: rs) = iv r.1 :: iv r.2.1 :: iv r.2.2 :: cels rs := rfl
theorem cels_append (a b : List Rt) : cels (a ++ b) = cels a ++ cels b := by simp [cels]
theorem cels_length : ∀ rs : List Rt, (cels rs).length = rs.length * 3
  | [] => rfl
  | r :: rs => by rw [cels_cons]; simp only [List.length_cons, cels_length rs]; omega
theorem cels_take : ∀ (rs : List Rt) (i : Nat), (cels rs).take (i * 3) = cels (rs.take i)
  | [], i => by simp [cels]
  | r :: rs, 0 => by simp [cels]
  | r :: rs, i + 1 => by
    rw [show (i + 1) * 3 = i * 3 + 1 + 1 + 1 by omega, cels_cons]
    simp only [List.take_succ_cons, cels_take rs i, cels_cons]
theorem cels_drop : ∀ (rs : List Rt) (i : Nat), (cels rs).drop (i * 3) = cels (rs.drop i)
  | [], i => by simp [cels]
  | r :: rs, 0 => by simp [cels]
  | r :: rs, i + 1 => by
    rw [show (i + 1) * 3 = i * 3 + 1 + 1 + 1 by omega, cels_cons]
    simp only [List.drop_succ_cons, cels_drop rs i]
theorem cels_one : ∀ (rs : List Rt), ∀ u ∈ cels rs, u.oneCell' = true
  | [], u, h => by cases h
  | r :: rs, u, h => by
    rw [cels_cons] at h
    simp only [List.mem_cons] at h
    rcases h with rfl | rfl | rfl | h
    · rfl
    · rfl
    · rfl
    · exact cels_one rs u h
theorem cels_at : ∀ (rs : List Rt) (i : Nat) (h : i < rs.length), (cels rs)[i * 3]? = some (iv rs[i].1) ∧ (cels rs)[i * 3 + 1]? = some (iv rs[i].2.1) ∧ (cels rs)[i * 3 + 2]? = some (iv rs[i].2.2)
  | r :: rs, 0, _ => by simp [cels_cons]
  | r :: rs, i + 1, h => by
    have ih := cels_at rs i (by simpa using h)
    rw [cels_cons, show (i + 1) * 3 = i * 3 + 1 + 1 + 1 by omega]
    refine ⟨?_, ?_, ?_⟩
    · simpa using ih.1
    · rw [show i * 3 + 1 + 1 + 1 + 1 = (i * 3 + 1) + 1 + 1 + 1 by omega]; simpa using ih.2.1
    · rw [show i * 3 + 1 + 1 + 1 + 2 = (i * 3 + 2) + 1 + 1 + 1 by omega]; simpa using ih.2.2
/-- Every cell of routes is one of a route's three. -/
theorem cels_cells {w : World} {b o : Nat} {rs : List Rt} (h : ∀ i (h : i < rs.length),
    w.cell? ⟨b, o + i * 3, none⟩ = some (iv rs[i].1) ∧ w.cell? ⟨b, o + i * 3 + 1, none⟩ = some (iv rs[i].2.1) ∧ w.cell? ⟨b, o + i * 3 + 2, none⟩ = some (iv rs[i].2.2)) :
    ∀ j u, (cels rs)[j]? = some u → w.cell? ⟨b, o + j, none⟩ = some u := by
  intro j u hj
  have hl : j < rs.length * 3 := by
    have := (List.getElem?_eq_some_iff.1 hj).1
    rwa [cels_length] at this
  have hi : j / 3 < rs.length := by omega
  have hc := h (j / 3) hi
  have ha := cels_at rs (j / 3) hi
  have h3 : j % 3 = 0 ∨ j % 3 = 1 ∨ j % 3 = 2 := by omega
  rcases h3 with h3 | h3 | h3
  · have e : j = j / 3 * 3 := by omega
    rw [e] at hj ⊢
    rw [ha.1] at hj
    rw [hc.1, hj]
  · have e : j = j / 3 * 3 + 1 := by omega
    rw [e] at hj ⊢
    rw [ha.2.1] at hj
    rw [← Nat.add_assoc, hc.2.1, hj]
  · have e : j = j / 3 * 3 + 2 := by omega
    rw [e] at hj ⊢
    rw [ha.2.2] at hj
    rw [← Nat.add_assoc, hc.2.2, hj]

/-- A row that the program owns, read. -/
theorem rowAt_own {w : World} {base : Nat} {M : Nat → Prop} {ao : Option Addr} {n c : Nat} {rs : List Rt} (h : w.ownsRow base 49 3 (.slice ao n c) n (cels rs)) (hM : ∀ a, ao = some a → M a.block) : RowAt w M ao rs ∧ rs.length = n ∧ n ≤ c ∧ c ≤ maxLen := by
  have hl : rs.length = n := by have := h.1; rw [cels_length] at this; omega
  obtain ⟨_, hh⟩ := h
  rcases hh with ⟨h1, h2⟩ | ⟨g, cap, cur, h1, hb, hg, hn, hc, hs, ht⟩
  · cases h1
    have : rs = [] := List.eq_nil_of_length_eq_zero hl
    subst this
    exact ⟨.inl rfl, rfl, Nat.le_refl _, by unfold maxLen; omega⟩
  · cases h1
    refine ⟨.inr ⟨g, 0, rfl, (Array.getElem?_eq_some_iff.1 hg).1, hM _ rfl, fun i hi => ?_⟩, hl, hn, hc⟩
    have e : ∀ j, j < n * 3 → w.cell? ⟨g, 0 + j, none⟩ = (cels rs)[j]? := by
      intro j hj
      rw [← ht, List.getElem?_take_of_lt hj]
      simp [World.cell?, hg]
    have ha := cels_at rs i hi
    rw [Nat.add_assoc, Nat.add_assoc, e _ (by omega), e _ (by omega), e _ (by omega)]
    exact ha

/-- A table: its one cell, its row; none of M's blocks is its own; M's blocks are there. -/
structure TabS (w : World) (M : Nat → Prop) (tb : Nat) (v : Value) (rs : List Rt) : Prop where
  cell : w.heap[tb]? = some (.cells #[v] 70 (0, 0))
  own : w.ownsRow 0 49 3 v rs.length (cels rs)
  notTb : ¬ M tb
  notRow : ∀ g, v.ownBlock = some g → ¬ M g
  bd : ∀ k, M k → k < w.heap.size

theorem TabS.kept {w w' : World} {M N : Nat → Prop} {tb : Nat} {v : Value} {rs : List Rt} (h : TabS w M tb v rs) (k : Kp N w w') (h1 : N tb) (h2 : ∀ g, v.ownBlock = some g → N g) : TabS w' M tb v rs := by
  have hlt := lt_of_block h.cell
  refine ⟨by rw [k.block tb hlt h1]; exact h.cell, ⟨h.own.1, ?_⟩, h.notTb, h.notRow, fun j hj => Nat.lt_of_lt_of_le (h.bd j hj) k.size⟩
  rcases h.own.2 with hn | ⟨g, cap, cur, rfl, hb, hgg, rest⟩
  · exact .inl hn
  · exact .inr ⟨g, cap, cur, rfl, hb, by rw [k.block g (lt_of_block hgg) (h2 g rfl)]; exact hgg, rest⟩
theorem TabS.gr {w w' : World} {M : Nat → Prop} {tb : Nat} {v : Value} {rs : List Rt} (h : TabS w M tb v rs) (k : Gr w w') : TabS w' M tb v rs :=
  h.kept (k.kp fun _ => True) trivial (fun _ _ => trivial)
theorem TabS.lt {w : World} {M : Nat → Prop} {tb : Nat} {v : Value} {rs : List Rt} (h : TabS w M tb v rs) : tb < w.heap.size := lt_of_block h.cell
/-- More to be kept: what has been made since. -/
theorem TabS.more {w w' : World} {M : Nat → Prop} {tb : Nat} {v : Value} {rs : List Rt} (h : TabS w M tb v rs) (k : Gr w w') : TabS w' (fun b => M b ∨ (w.heap.size ≤ b ∧ b < w'.heap.size)) tb v rs := by
  have h' := h.gr k
  refine ⟨h'.cell, h'.own, fun e => ?_, fun g hg e => ?_, fun j hj => ?_⟩
  · rcases e with e | e
    · exact h.notTb e
    · have := h.lt; omega
  · rcases e with e | e
    · exact h.notRow g hg e
    · have := (h.own.lt g hg).2; omega
  · rcases hj with hj | hj
    · exact h'.bd j hj
    · exact hj.2
/-- The row is not the table's own cell. -/
theorem TabS.ne {w : World} {M : Nat → Prop} {tb : Nat} {v : Value} {rs : List Rt} (h : TabS w M tb v rs) : v.ownBlock ≠ some tb := by
  intro e
  rcases h.own.2 with ⟨hn, _⟩ | ⟨g, cap, cur, hv, hb, hgg, rest⟩
  · rw [hn] at e; cases e
  · rw [hv] at e
    simp only [Value.ownBlock, Option.some.injEq] at e
    rw [e, h.cell] at hgg
    simp at hgg
theorem TabS.cell0 {w : World} {M : Nat → Prop} {tb : Nat} {v : Value} {rs : List Rt} (h : TabS w M tb v rs) : w.cell? ⟨tb, 0, none⟩ = some v := cell_of_one h.cell
theorem TabS.free0 {w : World} {M : Nat → Prop} {tb : Nat} {v : Value} {rs : List Rt} (h : TabS w M tb v rs) : w.frozen? ⟨tb, 0, none⟩ = false := free_of_one h.cell
/-- The table's slice, as it is read. -/
theorem TabS.shape {w : World} {M : Nat → Prop} {tb : Nat} {v : Value} {rs : List Rt} (h : TabS w M tb v rs) : ∃ ao c, v = .slice ao rs.length c ∧ RowAt w (fun _ => True) ao rs := by
  have ho := h.own
  rcases ho.2 with ⟨rfl, hn⟩ | ⟨g, cap, cur, rfl, hb, hgg, rest⟩
  · have : rs = [] := List.eq_nil_of_length_eq_zero hn
    subst this
    exact ⟨none, 0, rfl, .inl rfl⟩
  · exact ⟨_, _, rfl, (rowAt_own ho (fun _ _ => trivial)).1⟩
/-- A new table. -/
theorem TabS.new (w : World) (M : Nat → Prop) (hM : ∀ k, M k → k < w.heap.size) : TabS (w.alloc (.cells #[.slice none 0 0] 70)) M w.heap.size (.slice none 0 0) [] :=
  ⟨heap_alloc_new w _, World.ownsRow_nil _ _ _ _, fun e => by have := hM _ e; omega, fun g hg => (by cases hg), fun k hk => by have := hM k hk; simp; omega⟩
/-- The row has been moved or written; the table's cell is stored. -/
theorem TabS.store {w w2 : World} {M : Nat → Prop} {tb n' : Nat} {v v' : Value} {rs rs' : List Rt} (h : TabS w M tb v rs) (hg : w.grownBy w2 v.ownBlock) (ho : w2.ownsRow 0 49 3 v' n' (cels rs')) (hn : rs'.length = n') (hv : v'.ownBlock = v.ownBlock ∨ ∀ k, v'.ownBlock = some k → w.heap.size ≤ k) :
    (w2.cell? ⟨tb, 0, none⟩ = some v ∧ w2.frozen? ⟨tb, 0, none⟩ = false) ∧ TabS (w2.setCell ⟨tb, 0, none⟩ v') M tb v' rs' ∧ Kp M w (w2.setCell ⟨tb, 0, none⟩ v') := by
  have hb : w2.heap[tb]? = some (.cells #[v] 70 (0, 0)) := by rw [hg.block tb h.lt (fun e => h.ne e.symm)]; exact h.cell
  have hne : v'.ownBlock ≠ some tb := by
    intro e
    rcases hv with hv | hv
    · exact h.ne (hv ▸ e)
    · have := hv tb e; have := h.lt; omega
  subst hn
  refine ⟨⟨cell_of_one hb, free_of_one hb⟩, ⟨one_setCell hb, ownsRow_setCell_other ho hne v', h.notTb, ?_, ?_⟩, ?_⟩
  · intro g e hMg
    rcases hv with hv | hv
    · exact h.notRow g (hv ▸ e) hMg
    · have := hv g e; have := h.bd g hMg; omega
  · intro k hk
    have := h.bd k hk; have := hg.size
    simp; omega
  · refine ⟨hg.os, hg.tape, hg.output, by have := hg.size; simpa using this, fun k hk hMk => ?_⟩
    rw [heap_setCell_other w2 ⟨tb, 0, none⟩ k v' (fun e => h.notTb (by have e' : k = tb := e; rw [← e']; exact hMk))]
    exact hg.block k hk (fun e => h.notRow k e.symm hMk)

end Go.Proofs.YtimbgijpeomfcacGreatDoor
