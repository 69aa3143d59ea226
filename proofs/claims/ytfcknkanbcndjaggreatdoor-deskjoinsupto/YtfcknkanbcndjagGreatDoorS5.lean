import Derived.Test.YtfcknkanbcndjagGreatDoorRows
import Derived.Test.YtfcknkanbcndjagGreatDoorTPlain
import Derived.Test.YtfcknkanbcndjagGreatDoorL1
import Derived.OneCell
import Derived.Lib.AppendZerosOnto
import Derived.Lib.Overlaps
import Derived.Laws.Externs
import Derived.Laws.CopyOwn
import Derived.Deep.RegionLaw
/- WHAT ALL TEXTS OF NUMBERS AND NODES IN MEMORY NAME. -/
namespace Go.Proofs.YtfcknkanbcndjagGreatDoor
open Go.RowKit

abbrev iv (x : Int) : Value := .int .i64 x
abbrev pv (q : Nat) : Value := .pointer (some ⟨q, 0, none⟩)
theorem wp_gen {P : Program} {c : Code} {Q : Exit → Act → World → Prop} {a : Act} {w : World} (S : World → Prop) (hS : S w) (k : ∀ X, S X → c.wp P Q a X) : c.wp P Q a w := k w hS
theorem bp_gen' {P : Program} {f : Func} {Q : Ending → World → Prop} {e : Exit} {a : Act} {w : World} (S : World → Prop) (hS : S w) (k : ∀ X, S X → bodyPost P f Q e a X) : bodyPost P f Q e a w := k w hS
theorem Tryz.info3 : (Tryz.prog.info? 3).map (fun i => (i.zero, i.size, i.bytes)) = some (some (iv 0), 1, 8) := by kernel_rfl
/-- M's blocks are as they were. -/
structure Kp (M : Nat → Prop) (w w' : World) : Prop where
  os : w'.os = w.os
  tape : w'.tape = w.tape
  output : w'.output = w.output
  size : w.heap.size ≤ w'.heap.size
  block : ∀ k, k < w.heap.size → M k → w'.heap[k]? = w.heap[k]?

theorem Kp.refl (M : Nat → Prop) (w : World) : Kp M w w := ⟨rfl, rfl, rfl, Nat.le_refl _, fun _ _ _ => rfl⟩
theorem Kp.trans {M : Nat → Prop} {a b c : World} (h : Kp M a b) (k : Kp M b c) : Kp M a c :=
  ⟨k.os.trans h.os, k.tape.trans h.tape, k.output.trans h.output, Nat.le_trans h.size k.size, fun i hi hm => (k.block i (Nat.lt_of_lt_of_le hi h.size) hm).trans (h.block i hi hm)⟩
theorem Kp.mono {M N : Nat → Prop} {a b : World} (h : Kp N a b) (hm : ∀ k, k < a.heap.size → M k → N k) : Kp M a b :=
  ⟨h.os, h.tape, h.output, h.size, fun i hi hM => h.block i hi (hm i hi hM)⟩
theorem Gr.kp {a b : World} (h : Gr a b) (M : Nat → Prop) : Kp M a b := ⟨h.os, h.tape, h.output, h.size, fun k hk _ => h.block k hk⟩
theorem Kp.below {M : Nat → Prop} {B : Nat} {a b : World} (h : Kp M a b) (hB : B ≤ a.heap.size) (hm : ∀ k, k < B → M k) : Below B a b :=
  ⟨h.os, h.tape, h.output, h.size, fun k hk => h.block k (Nat.lt_of_lt_of_le hk hB) (hm k hk)⟩
theorem Kp.grown {M : Nat → Prop} {a b : World} {row : Option Nat} (h : a.grownBy b row) (hr : ∀ k, row = some k → ¬ M k) : Kp M a b :=
  ⟨h.os, h.tape, h.output, h.size, fun k hk hm => h.block k hk (fun e => hr k e.symm hm)⟩

theorem Kp.ext {M : Nat → Prop} {B w w' : World} (h : Kp M B w) (g : Gr w w') : Kp M B w' := h.trans (g.kp M)
theorem Kp.set {M : Nat → Prop} {B w : World} (h : Kp M B w) {p : Nat} (hp : ¬ M p) (j : Nat) (v : Value) : Kp M B (w.setCell ⟨p, j, none⟩ v) := by
  refine ⟨h.os, h.tape, h.output, by have := h.size; simpa using this, fun k hk hm => ?_⟩
  have e : k ≠ p := fun e => hp (e ▸ hm)
  rw [Below.heap_setCell w ⟨p, j, none⟩ v k e]; exact h.block k hk hm
/-- Blocks of different kinds are different ones. -/
theorem blk_ne {w : World} {p q : Nat} {cs cs' : Array Value} {t t' : TypeId} {f f' : Nat × Nat} (h : w.heap[p]? = some (.cells cs t f)) (k : w.heap[q]? = some (.cells cs' t' f')) (ht : t ≠ t') : p ≠ q := by
  intro e
  subst e
  rw [h] at k
  simp only [Option.some.injEq, Obj.cells.injEq] at k
  exact ht k.2.1

end Go.Proofs.YtfcknkanbcndjagGreatDoor

/- ROUTES IN MEMORY: what a slice of routes reads as; what a table is; what a call that writes a table leaves. -/
namespace Go.Proofs.YtfcknkanbcndjagGreatDoor
open Go.RowKit

/-- A slice at 'ao' reads as these routes; its block is one of M. -/
def RowAt (w : World) (M : Nat → Prop) (ao : Option Addr) (rs : List Rt) : Prop :=
  rs = [] ∨ ∃ b o, ao = some ⟨b, o, none⟩ ∧ b < w.heap.size ∧ M b ∧ ∀ i (h : i < rs.length),
    w.cell? ⟨b, o + i * 3, none⟩ = some (iv rs[i].1) ∧ w.cell? ⟨b, o + i * 3 + 1, none⟩ = some (iv rs[i].2.1) ∧ w.cell? ⟨b, o + i * 3 + 2, none⟩ = some (iv rs[i].2.2)

theorem RowAt.mono {w : World} {M N : Nat → Prop} {ao : Option Addr} {rs : List Rt} (h : RowAt w M ao rs) (hm : ∀ k, k < w.heap.size → M k → N k) : RowAt w N ao rs := by
  rcases h with h | ⟨b, o, ha, hb, hM, hc⟩
  · exact .inl h
  · exact .inr ⟨b, o, ha, hb, hm b hb hM, hc⟩

theorem RowAt.kept {w w' : World} {M : Nat → Prop} {ao : Option Addr} {rs : List Rt} (h : RowAt w M ao rs) (k : Kp M w w') : RowAt w' M ao rs := by
  rcases h with h | ⟨b, o, ha, hb, hM, hc⟩
  · exact .inl h
  · refine .inr ⟨b, o, ha, Nat.lt_of_lt_of_le hb k.size, hM, fun i hi => ?_⟩
    have e : ∀ q, w'.cell? ⟨b, q, none⟩ = w.cell? ⟨b, q, none⟩ := fun q => World.cell?_of_block (a := ⟨b, q, none⟩) (k.block b hb hM)
    rw [e, e, e]
    exact hc i hi
theorem RowAt.gr {w w' : World} {M : Nat → Prop} {ao : Option Addr} {rs : List Rt} (h : RowAt w M ao rs) (k : Gr w w') : RowAt w' M ao rs := h.kept (k.kp M)

/-- Cells of routes. -/
def cel (r : Rt) : List Value := [iv r.1, iv r.2.1, iv r.2.2]
def cels (rs : List Rt) : List Value := rs.flatMap cel

theorem cels_cons (r : Rt) (rs : List Rt) : cels (r :: rs) = iv r.1 :: iv r.2.1 :: iv r.2.2 :: cels rs := rfl
theorem cels_append (a b : List Rt) : cels (a ++ b) = cels a ++ cels b := by simp [cels]
theorem cels_length : ∀ rs : List Rt, (cels rs).length = rs.length * 3
  | [] => rfl
  | r :: rs => by rw [cels_cons]; simp only [List.length_cons, cels_length rs]; omega
theorem cels_take : ∀ (rs : List Rt) (i : Nat), (cels rs).take (i * 3) = cels (rs.take i)
  | [], i => by simp [cels]
  | r :: rs, 0 => by simp [cels]
  | r :: rs, i + 1 => by
    rw [show (i + 1) * 3 = i * 3 + 1 + 1 + 1 by omega, cels_cons]
    simp only [List.take_succ_cons, cels_take rs i, cels_cons]
theorem cels_drop : ∀ (rs : List Rt) (i : Nat), (cels rs).drop (i * 3) = cels (rs.drop i)
  | [], i => by simp [cels]
  | r :: rs, 0 => by simp [cels]
  | r :: rs, i + 1 => by
    rw [show (i + 1) * 3 = i * 3 + 1 + 1 + 1 by omega, cels_cons]
    simp only [List.drop_succ_cons, cels_drop rs i]
theorem cels_one : ∀ (rs : List Rt), ∀ u ∈ cels rs, u.oneCell' = true
  | [], u, h => by cases h
  | r :: rs, u, h => by
    rw [cels_cons] at h
    simp only [List.mem_cons] at h
    rcases h with rfl | rfl | rfl | h
    · rfl
    · rfl
    · rfl
    · exact cels_one rs u h
theorem cels_at : ∀ (rs : List Rt) (i : Nat) (h : i < rs.length), (cels rs)[i * 3]? = some (iv rs[i].1) ∧ (cels rs)[i * 3 + 1]? = some (iv rs[i].2.1) ∧ (cels rs)[i * 3 + 2]? = some (iv rs[i].2.2)
  | r :: rs, 0, _ => by simp [cels_cons]
  | r :: rs, i + 1, h => by
    have ih := cels_at rs i (by simpa using h)
    rw [cels_cons, show (i + 1) * 3 = i * 3 + 1 + 1 + 1 by omega]
    refine ⟨?_, ?_, ?_⟩
    · simpa using ih.1
    · rw [show i * 3 + 1 + 1 + 1 + 1 = (i * 3 + 1) + 1 + 1 + 1 by omega]; simpa using ih.2.1
    · rw [show i * 3 + 1 + 1 + 1 + 2 = (i * 3 + 2) + 1 + 1 + 1 by omega]; simpa using ih.2.2
/-- Every cell of routes is one of a route's three. -/
theorem cels_cells {w : World} {b o : Nat} {rs : List Rt} (h : ∀ i (h : i < rs.length),
    w.cell? ⟨b, o + i * 3, none⟩ = some (iv rs[i].1) ∧ w.cell? ⟨b, o + i * 3 + 1, none⟩ = some (iv rs[i].2.1) ∧ w.cell? ⟨b, o + i * 3 + 2, none⟩ = some (iv rs[i].2.2)) :
    ∀ j u, (cels rs)[j]? = some u → w.cell? ⟨b, o + j, none⟩ = some u := by
  intro j u hj
  have hl : j < rs.length * 3 := by
    have := (List.getElem?_eq_some_iff.1 hj).1
    rwa [cels_length] at this
  have hi : j / 3 < rs.length := by omega
  have hc := h (j / 3) hi
  have ha := cels_at rs (j / 3) hi
  have h3 : j % 3 = 0 ∨ j % 3 = 1 ∨ j % 3 = 2 := by omega
  rcases h3 with h3 | h3 | h3
  · have e : j = j / 3 * 3 := by omega
    rw [e] at hj ⊢
    rw [ha.1] at hj
    rw [hc.1, hj]
  · have e : j = j / 3 * 3 + 1 := by omega
    rw [e] at hj ⊢
    rw [ha.2.1] at hj
    rw [← Nat.add_assoc, hc.2.1, hj]
  · have e : j = j / 3 * 3 + 2 := by omega
    rw [e] at hj ⊢
    rw [ha.2.2] at hj
    rw [← Nat.add_assoc, hc.2.2, hj]

/-- A row that the program owns, read. -/
theorem rowAt_own {w : World} {base : Nat} {M : Nat → Prop} {ao : Option Addr} {n c : Nat} {rs : List Rt} (h : w.ownsRow base 133 3 (.slice ao n c) n (cels rs)) (hM : ∀ a, ao = some a → M a.block) : RowAt w M ao rs ∧ rs.length = n ∧ n ≤ c ∧ c ≤ maxLen := by
  have hl : rs.length = n := by have := h.1; rw [cels_length] at this; omega
  obtain ⟨_, hh⟩ := h
  rcases hh with ⟨h1, h2⟩ | ⟨g, cap, cur, h1, hb, hg, hn, hc, hs, ht⟩
  · cases h1
    have : rs = [] := List.eq_nil_of_length_eq_zero hl
    subst this
    exact ⟨.inl rfl, rfl, Nat.le_refl _, by unfold maxLen; omega⟩
  · cases h1
    refine ⟨.inr ⟨g, 0, rfl, (Array.getElem?_eq_some_iff.1 hg).1, hM _ rfl, fun i hi => ?_⟩, hl, hn, hc⟩
    have e : ∀ j, j < n * 3 → w.cell? ⟨g, 0 + j, none⟩ = (cels rs)[j]? := by
      intro j hj
      rw [← ht, List.getElem?_take_of_lt hj]
      simp [World.cell?, hg]
    have ha := cels_at rs i hi
    rw [Nat.add_assoc, Nat.add_assoc, e _ (by omega), e _ (by omega), e _ (by omega)]
    exact ha

/-- A table: its one cell, its row; none of M's blocks is its own; M's blocks are there. -/
structure TabS (w : World) (M : Nat → Prop) (tb : Nat) (v : Value) (rs : List Rt) : Prop where
  cell : w.heap[tb]? = some (.cells #[v] 171 (0, 0))
  own : w.ownsRow 0 133 3 v rs.length (cels rs)
  notTb : ¬ M tb
  notRow : ∀ g, v.ownBlock = some g → ¬ M g
  bd : ∀ k, M k → k < w.heap.size

theorem TabS.kept {w w' : World} {M N : Nat → Prop} {tb : Nat} {v : Value} {rs : List Rt} (h : TabS w M tb v rs) (k : Kp N w w') (h1 : N tb) (h2 : ∀ g, v.ownBlock = some g → N g) : TabS w' M tb v rs := by
  have hlt := lt_of_block h.cell
  refine ⟨by rw [k.block tb hlt h1]; exact h.cell, ⟨h.own.1, ?_⟩, h.notTb, h.notRow, fun j hj => Nat.lt_of_lt_of_le (h.bd j hj) k.size⟩
  rcases h.own.2 with hn | ⟨g, cap, cur, rfl, hb, hgg, rest⟩
  · exact .inl hn
  · exact .inr ⟨g, cap, cur, rfl, hb, by rw [k.block g (lt_of_block hgg) (h2 g rfl)]; exact hgg, rest⟩
theorem TabS.gr {w w' : World} {M : Nat → Prop} {tb : Nat} {v : Value} {rs : List Rt} (h : TabS w M tb v rs) (k : Gr w w') : TabS w' M tb v rs :=
  h.kept (k.kp fun _ => True) trivial (fun _ _ => trivial)
theorem TabS.lt {w : World} {M : Nat → Prop} {tb : Nat} {v : Value} {rs : List Rt} (h : TabS w M tb v rs) : tb < w.heap.size := lt_of_block h.cell
/-- The row is not the table's own cell. -/
theorem TabS.ne {w : World} {M : Nat → Prop} {tb : Nat} {v : Value} {rs : List Rt} (h : TabS w M tb v rs) : v.ownBlock ≠ some tb := by
  intro e
  rcases h.own.2 with ⟨hn, _⟩ | ⟨g, cap, cur, hv, hb, hgg, rest⟩
  · rw [hn] at e; cases e
  · rw [hv] at e
    simp only [Value.ownBlock, Option.some.injEq] at e
    rw [e, h.cell] at hgg
    simp at hgg
theorem TabS.cell0 {w : World} {M : Nat → Prop} {tb : Nat} {v : Value} {rs : List Rt} (h : TabS w M tb v rs) : w.cell? ⟨tb, 0, none⟩ = some v := cell_of_one h.cell
/-- The table's slice, as it is read. -/
theorem TabS.shape {w : World} {M : Nat → Prop} {tb : Nat} {v : Value} {rs : List Rt} (h : TabS w M tb v rs) : ∃ ao c, v = .slice ao rs.length c ∧ RowAt w (fun _ => True) ao rs := by
  have ho := h.own
  rcases ho.2 with ⟨rfl, hn⟩ | ⟨g, cap, cur, rfl, hb, hgg, rest⟩
  · have : rs = [] := List.eq_nil_of_length_eq_zero hn
    subst this
    exact ⟨none, 0, rfl, .inl rfl⟩
  · exact ⟨_, _, rfl, (rowAt_own ho (fun _ _ => trivial)).1⟩
/-- A new table. -/
theorem TabS.new (w : World) (M : Nat → Prop) (hM : ∀ k, M k → k < w.heap.size) : TabS (w.alloc (.cells #[.slice none 0 0] 171)) M w.heap.size (.slice none 0 0) [] :=
  ⟨heap_alloc_new w _, World.ownsRow_nil _ _ _ _, fun e => by have := hM _ e; omega, fun g hg => (by cases hg), fun k hk => by have := hM k hk; simp; omega⟩
/-- The row has been moved or written; the table's cell is stored. -/
theorem TabS.store {w w2 : World} {M : Nat → Prop} {tb n' : Nat} {v v' : Value} {rs rs' : List Rt} (h : TabS w M tb v rs) (hg : w.grownBy w2 v.ownBlock) (ho : w2.ownsRow 0 133 3 v' n' (cels rs')) (hn : rs'.length = n') (hv : v'.ownBlock = v.ownBlock ∨ ∀ k, v'.ownBlock = some k → w.heap.size ≤ k) :
    (w2.cell? ⟨tb, 0, none⟩ = some v ∧ w2.frozen? ⟨tb, 0, none⟩ = false) ∧ TabS (w2.setCell ⟨tb, 0, none⟩ v') M tb v' rs' ∧ Kp M w (w2.setCell ⟨tb, 0, none⟩ v') := by
  have hb : w2.heap[tb]? = some (.cells #[v] 171 (0, 0)) := by rw [hg.block tb h.lt (fun e => h.ne e.symm)]; exact h.cell
  have hne : v'.ownBlock ≠ some tb := by
    intro e
    rcases hv with hv | hv
    · exact h.ne (hv ▸ e)
    · have := hv tb e; have := h.lt; omega
  subst hn
  refine ⟨⟨cell_of_one hb, free_of_one hb⟩, ⟨one_setCell hb, ownsRow_setCell_other ho hne v', h.notTb, ?_, ?_⟩, ?_⟩
  · intro g e hMg
    rcases hv with hv | hv
    · exact h.notRow g (hv ▸ e) hMg
    · have := hv g e; have := h.bd g hMg; omega
  · intro k hk
    have := h.bd k hk; have := hg.size
    simp; omega
  · refine ⟨hg.os, hg.tape, hg.output, by have := hg.size; simpa using this, fun k hk hMk => ?_⟩
    rw [heap_setCell_other w2 ⟨tb, 0, none⟩ k v' (fun e => h.notTb (by have e' : k = tb := e; rw [← e']; exact hMk))]
    exact hg.block k hk (fun e => h.notRow k e.symm hMk)

end Go.Proofs.YtfcknkanbcndjagGreatDoor

/- CONTRACTS OF package table that only read: held, Look, Get, List, All, place. -/
namespace Go.Proofs.YtfcknkanbcndjagGreatDoor
open Go.RowKit
attribute [local go_sem] Ext.all Ext.cell Ext.frozen Ext.lt Ext.lt1 Ext.lt2 Ext.ne Ext.ne'
theorem held_any (w : World) (tb : Nat) (v : Value) (hc : w.cell? ⟨tb, 0, none⟩ = some v) :
    Calls Tryz.prog 62 #[.pointer (some ⟨tb, 0, none⟩)] w fun e w' => e = .returned v ∧ w' = w := by
  go_enter Tryz.func62, Tryz.ntmps62
  go_wp2
  go_ret
  exact ⟨rfl, rfl⟩

theorem look_any (w : World) (M : Nat → Prop) (tb : Nat) (ao : Option Addr) (n c : Nat) (rs : List Rt) (a : Int) (hc : w.cell? ⟨tb, 0, none⟩ = some (.slice ao n c)) (H : RowAt w M ao rs) (hn : rs.length = n) (hm : n ≤ 1000) :
    Calls Tryz.prog 34 #[.pointer (some ⟨tb, 0, none⟩), .int .i64 a] w fun e w' => e = .returned (.int .i64 (lookL rs a)) ∧ ∃ d : Ext w, w' = d.out := by
  go_enter Tryz.func34, Tryz.ntmps34
  go_wp2_with (go_at_call 62; refine (held_any w tb _ hc).mono ?_; rintro e w1 ⟨rfl, hw1⟩; subst hw1)
  go_loopw [6] (fun i wr => ∃ (k : Nat) (j : Int), (k : Int) - 1 ≤ j ∧ j ≤ (k : Int) - 1 ∧ k ≤ n ∧ i = .int .i64 j ∧ Hid (lookL (rs.take k) a = lookL rs a) ∧ Gr w1 wr) (fun i _ => (intOf i + 1).toNat)
  case atStart => exact ⟨n, _, by omega, by omega, Nat.le_refl _, rfl, by unfold Hid; rw [List.take_of_length_le (by omega)], Gr.refl _⟩
  case round =>
    obtain ⟨k, j, hj1, hj2, hk, rfl, HL, g⟩ := hrel
    obtain ⟨d, rfl⟩ := ext_mk g
    clear hc
    by_cases h0 : k = 0
    · subst h0
      have hj : j = -1 := by omega
      subst hj
      have hr : -1 = lookL rs a := HL.out
      clear H
      go_wp2
      go_ret
      exact ⟨ret_int hr, _, rfl⟩
    · obtain ⟨m, rfl⟩ : ∃ m, k = m + 1 := ⟨k - 1, by omega⟩
      have hj : j = (m : Int) := by omega
      subst hj
      have hkr : m < rs.length := by omega
      rcases H with rfl | ⟨b, o, rfl, hb, hM, hcs⟩
      · simp at hn; omega
      obtain ⟨c1, c2, c3⟩ := hcs m hkr
      have HS : Hid (lookL (rs.take (m + 1)) a = if hasB rs[m].1 rs[m].2.1 a then rs[m].2.2 else lookL (rs.take m) a) := by unfold Hid; rw [List.take_succ_eq_append_getElem hkr, lookL_snoc]
      clear hcs
      generalize rs[m] = r at c1 c2 c3 HS
      obtain ⟨rl, rb, rh⟩ := r
      simp only at c1 c2 c3 HS
      cases hh : hasB rl rb a
      · have HR : Hid (lookL (rs.take m) a = lookL rs a) := by unfold Hid; have := HS.out; rw [hh] at this; simp at this; rw [← this]; exact HL.out
        have HH : Hid (hasB rl rb a = false) := hh
        clear hh HS HL
        go_wp2_with (go_at_call 63; with_reducible refine (Calls.ext_of (has_is HH.out _)).mono ?_; rintro e _ ⟨rfl, d1, rfl⟩)
        go_roundw
        case rel => exact ⟨m, _, by omega, by omega, by omega, rfl, HR, d1.gr⟩
        case measure => simp [intOf]
      · have HR : Hid (rh = lookL rs a) := by unfold Hid; have := HS.out; rw [hh] at this; simp at this; rw [← this]; exact HL.out
        have HH : Hid (hasB rl rb a = true) := hh
        clear hh HS HL
        go_wp2_with (go_at_call 63; with_reducible refine (Calls.ext_of (has_is HH.out _)).mono ?_; rintro e _ ⟨rfl, d1, rfl⟩)
        go_ret
        exact ⟨ret_int HR.out, _, rfl⟩

/-- Is the route at i not ahead of p? (The closure that place hands to the search.) -/
theorem place1_any (w : World) (M : Nat → Prop) (rb pb : Nat) (ao : Option Addr) (n c : Nat) (rs : List Rt) (l b : Int) (i : Nat) (hrb : w.cell? ⟨rb, 0, none⟩ = some (.slice ao n c)) (hp0 : w.cell? ⟨pb, 0, none⟩ = some (iv l)) (hp1 : w.cell? ⟨pb, 1, none⟩ = some (iv b))
    (hr : rb < w.heap.size) (hpb : pb < w.heap.size) (H : RowAt w M ao rs) (hn : rs.length = n) (hi : i < n) (v : Bool) (hv : Hid ((rs[i]?.map fun r => lessB r.1 r.2.1 l b) = some v)) :
    Calls Tryz.prog 154 #[.int .i64 i, .pointer (some ⟨rb, 0, none⟩), .pointer (some ⟨pb, 0, none⟩)] w fun e w' => e = .returned (.bool (!v)) ∧ ∃ d : Ext w, w' = d.out := by
  rcases H with rfl | ⟨rbk, o, rfl, hb, hM, hcs⟩
  · simp at hn; omega
  have hir : i < rs.length := by omega
  obtain ⟨c1, c2, c3⟩ := hcs i hir
  have HV : Hid (lessB rs[i].1 rs[i].2.1 l b = v) := by unfold Hid; have := hv.out; rw [List.getElem?_eq_getElem hir] at this; simpa using this
  clear hcs hv
  generalize rs[i] = r at c1 c2 c3 HV
  obtain ⟨rl, rbb, rh⟩ := r
  simp only at c1 c2 c3 HV
  go_enter Tryz.func154, Tryz.ntmps154
  go_wp2
  refine wp_region_ext (by kernel_rfl) (by kernel_rfl) ?_
  repeat (go_big_quiet_step ((go_at_call 152; with_reducible exact Calls.ext_of (less_is HV.out _))))
  refine wpQuiet_nil ?_
  rintro _ ⟨d1, rfl⟩
  go_wp2
  go_ret
  exact ⟨rfl, _, rfl⟩

end Go.Proofs.YtfcknkanbcndjagGreatDoor

/- CONTRACTS: sort.Search at the closure of place; place; Get; Hop; IsHop; New. -/
namespace Go.Proofs.YtfcknkanbcndjagGreatDoor
open Go.RowKit
attribute [local go_sem] Ext.all Ext.cell Ext.frozen Ext.lt Ext.lt1 Ext.lt2 Ext.ne Ext.ne'
theorem search_any (w : World) (rb pb n cnt : Nat) (p : Nat → Bool) (hm : n ≤ 1000)
    (hf : ∀ (d : Ext w) (i : Nat), i < n → Calls Tryz.prog 154 #[.int .i64 i, .pointer (some ⟨rb, 0, none⟩), .pointer (some ⟨pb, 0, none⟩)] d.out fun e w' => e = .returned (.bool (p i)) ∧ ∃ d' : Ext d.out, w' = d'.out)
    (hc : cnt ≤ n) (h0 : ∀ t, t < cnt → p t = false) (h1 : ∀ t, cnt ≤ t → t < n → p t = true) :
    Calls Tryz.prog 153 #[.int .i64 n, .func (.func 154) #[] #[.pointer (some ⟨rb, 0, none⟩), .pointer (some ⟨pb, 0, none⟩)]] w fun e w' => e = .returned (.int .i64 cnt) ∧ ∃ d : Ext w, w' = d.out := by
  have HF : Hid _ := hf
  have H0 : Hid _ := h0
  have H1 : Hid _ := h1
  clear hf h0 h1
  go_enter Tryz.func153, Tryz.ntmps153
  go_wp2
  go_loopw [5, 6] (fun s5 s6 wr => ∃ (lo hi : Nat), s5 = .int .i64 lo ∧ s6 = .int .i64 hi ∧ lo ≤ cnt ∧ cnt ≤ hi ∧ hi ≤ n ∧ Gr w wr) (fun s5 s6 _ => (intOf s6 - intOf s5).toNat)
  case atStart => exact ⟨0, n, rfl, rfl, Nat.zero_le _, hc, Nat.le_refl _, Gr.refl _⟩
  case round =>
    obtain ⟨lo, hi, rfl, rfl, hlc, hch, hin, g⟩ := hrel
    obtain ⟨d, rfl⟩ := ext_mk g
    by_cases hlt : lo < hi
    · have hcl := HF.out d ((lo + hi) / 2) (by omega)
      rw [show (((lo + hi) / 2 : Nat) : Int) = ((lo : Int) + (hi : Int)) / 2 by omega] at hcl
      cases hp : p ((lo + hi) / 2) <;> rw [hp] at hcl
      · have hlo : (lo + hi) / 2 < cnt := by
          rcases Nat.lt_or_ge ((lo + hi) / 2) cnt with h | h
          · exact h
          · rw [H1.out _ h (by omega)] at hp; cases hp
        clear hp
        have HC : Hid _ := hcl
        clear hcl
        go_wp2_with (go_at_call 154; refine (Calls.ext_of HC.out).mono ?_; rintro e _ ⟨rfl, d1, rfl⟩)
        go_roundw
        case rel => exact ⟨(lo + hi) / 2 + 1, hi, by go_num, rfl, by omega, hch, hin, d1.gr⟩
        case measure => simp [intOf]; omega
      · have hlo : cnt ≤ (lo + hi) / 2 := by
          rcases Nat.lt_or_ge ((lo + hi) / 2) cnt with h | h
          · rw [H0.out _ h] at hp; cases hp
          · exact h
        clear hp
        have HC : Hid _ := hcl
        clear hcl
        go_wp2_with (go_at_call 154; refine (Calls.ext_of HC.out).mono ?_; rintro e _ ⟨rfl, d1, rfl⟩)
        go_roundw
        case rel => exact ⟨lo, (lo + hi) / 2, rfl, by go_num, hlc, by omega, by omega, d1.gr⟩
        case measure => simp [intOf]; omega
    · have : lo = cnt := by omega
      subst this
      go_wp2
      go_ret
      exact ⟨rfl, _, rfl⟩

theorem boxes (w : World) (l b : Int) (v : Value) : ∃ W, W = (w.alloc (.cells #[iv l, iv b] 52)).alloc (.cells #[v] 108) ∧ Gr w W ∧ W.cell? ⟨w.heap.size + 1, 0, none⟩ = some v ∧ W.cell? ⟨w.heap.size, 0, none⟩ = some (iv l) ∧ W.cell? ⟨w.heap.size, 1, none⟩ = some (iv b) ∧ w.heap.size + 1 < W.heap.size ∧ w.heap.size < W.heap.size := by
  refine ⟨_, rfl, ((Gr.refl w).alloc _).alloc _, ?_, ?_, ?_, ?_, ?_⟩ <;> simp [go_sem] <;> omega

theorem place_any (w : World) (M : Nat → Prop) (tb : Nat) (ao : Option Addr) (n c : Nat) (rs : List Rt) (l b : Int) (hc : w.cell? ⟨tb, 0, none⟩ = some (.slice ao n c)) (htb : tb < w.heap.size) (H : RowAt w M ao rs) (hn : rs.length = n) (hT : Tab rs) :
    Calls Tryz.prog 117 #[.pointer (some ⟨tb, 0, none⟩), pfx l b] w fun e w' => e = .returned (.tuple #[.int .i64 (plc rs l b), .bool (fnd rs l b)]) ∧ ∃ d : Ext w, w' = d.out := by
  have hc1 : ∀ o, (w.alloc o).cell? ⟨tb, 0, none⟩ = some (.slice ao n c) := fun o => (Ext.cell ⟨w.alloc o, (Gr.refl w).alloc o⟩ tb 0 htb).trans hc
  obtain ⟨W, hW, g0, b0, b1, b2, s1, s0⟩ := boxes w l b (.slice ao n c)
  have HW : Hid (W = _) := hW
  clear hW
  have hle := plc_le rs l b
  have hm : n ≤ 1000 := by have := hT.len; omega
  have HP : Hid (∀ t (ht : t < rs.length), (t < plc rs l b → ltB rs[t] l b = true) ∧ (plc rs l b ≤ t → ltB rs[t] l b = false)) := plc_lt hT l b
  have hrow := H.gr g0
  have HS : Hid (Calls Tryz.prog 153 #[.int .i64 n, .func (.func 154) #[] #[.pointer (some ⟨w.heap.size + 1, 0, none⟩), .pointer (some ⟨w.heap.size, 0, none⟩)]] W fun e w' => e = .returned (.int .i64 (plc rs l b)) ∧ ∃ d : Ext W, w' = d.out) := by
    refine search_any W _ _ n (plc rs l b) (fun i => !((rs[i]?.map fun r => lessB r.1 r.2.1 l b).getD true)) hm ?_ (by omega) ?_ ?_
    · intro d i hi
      have hir : i < rs.length := by omega
      refine place1_any d.out M _ _ ao n c rs l b i ?_ ?_ ?_ ?_ ?_ (hrow.gr d.gr) hn hi _ (by unfold Hid; rw [List.getElem?_eq_getElem hir]; simp)
      · rw [d.cell _ _ s1]; exact b0
      · rw [d.cell _ _ s0]; exact b1
      · rw [d.cell _ _ s0]; exact b2
      · exact d.lt _ s1
      · exact d.lt _ s0
    · intro t ht
      have hir : t < rs.length := by omega
      have := (HP.out t hir).1 ht
      simp only [List.getElem?_eq_getElem hir, Option.map_some, Option.getD_some]
      unfold ltB at this; rw [this]; rfl
    · intro t ht htn
      have hir : t < rs.length := by omega
      have := (HP.out t hir).2 ht
      simp only [List.getElem?_eq_getElem hir, Option.map_some, Option.getD_some]
      unfold ltB at this; rw [this]; rfl
  clear HP
  have HF : Hid (fnd rs l b = (rs[plc rs l b]?).any (fun r => sameB r l b)) := rfl
  generalize plc rs l b = k at *
  generalize fnd rs l b = f at *
  by_cases hk : k < n
  · have hd : decide ((k : Int) < (n : Int)) = true := by simpa using hk
    have hkr : k < rs.length := by omega
    rcases hrow with rfl | ⟨rbk, o, rfl, hb, hM, hcs⟩
    · simp at hn; omega
    obtain ⟨c1, c2, c3⟩ := hcs k hkr
    have HV : Hid (f = (rs[k].1 == l && rs[k].2.1 == b)) := by unfold Hid; have := HF.out; rw [List.getElem?_eq_getElem hkr] at this; rw [this]; simp [sameB]; rw [Bool.eq_iff_iff]; simp
    clear hcs HF
    generalize rs[k] = r at *
    obtain ⟨rl, rbb, rh⟩ := r
    simp only at c1 c2 c3
    have e3 : ((rl == l) = false ∧ f = false) ∨ ((rl == l) = true ∧ (rbb == b) = false ∧ f = false) ∨ ((rl == l) = true ∧ (rbb == b) = true ∧ f = true) := by
      have := HV.out
      simp only at this
      cases h1 : rl == l <;> cases h2 : rbb == b <;> simp [this, h1, h2]
    rcases e3 with ⟨e1, rfl⟩ | ⟨e1, e2, rfl⟩ | ⟨e1, e2, rfl⟩
    all_goals
      go_enter Tryz.func117, Tryz.ntmps117
      go_wp2_with (first | (go_at_call 62; refine (held_any _ tb _ (hc1 _)).mono ?_; rintro e w1 ⟨rfl, hw1⟩; subst hw1) | (go_at_call 153; rw [← HW.out]; refine HS.out.mono ?_; rintro e _ ⟨rfl, d1, rfl⟩))
      go_quiet (fail)
      go_wp2
      go_ret2
      exact ⟨rfl, ext_mk ((g0.ext d1).drewN _)⟩
  · have hd : decide ((k : Int) < (n : Int)) = false := by simp; omega
    have hf : f = false := by have := HF.out; rw [List.getElem?_eq_none (by omega)] at this; simpa using this
    subst hf
    clear HF
    go_enter Tryz.func117, Tryz.ntmps117
    go_wp2_with (first | (go_at_call 62; refine (held_any _ tb _ (hc1 _)).mono ?_; rintro e w1 ⟨rfl, hw1⟩; subst hw1) | (go_at_call 153; rw [← HW.out]; refine HS.out.mono ?_; rintro e _ ⟨rfl, d1, rfl⟩))
    go_quiet (fail)
    go_wp2
    go_ret2
    exact ⟨rfl, ext_mk ((g0.ext d1).drewN _)⟩

theorem hop_any (h : Int) (w : World) : Calls Tryz.prog 116 #[.int .i64 h] w fun e w' => e = .returned (.bool (hopB h)) ∧ ∃ d : Ext w, w' = d.out := by
  have e3 : ((h == -1) = true ∧ hopB h = true) ∨ ((h == -1) = false ∧ decide (0 ≤ h) = false ∧ hopB h = false) ∨ ((h == -1) = false ∧ decide (0 ≤ h) = true ∧ hopB h = decide (h < 6)) := by
    unfold hopB
    by_cases h1 : h = -1
    · exact .inl (by simp [h1])
    · by_cases h2 : 0 ≤ h
      · exact .inr (.inr (by simp [h1, h2]))
      · exact .inr (.inl (by simp [h1, h2]))
  rcases e3 with ⟨e1, e⟩ | ⟨e1, e2, e⟩ | ⟨e1, e2, e⟩
  all_goals
    rw [e]; clear e
    go_enter Tryz.func116, Tryz.ntmps116
    go_wp2
    go_ret
    exact ⟨rfl, ext_mk (Gr.refl _)⟩
theorem hop_is {h : Int} {v : Bool} (e : hopB h = v) (w : World) : Calls Tryz.prog 116 #[.int .i64 h] w fun e w' => e = .returned (.bool v) ∧ ∃ d : Ext w, w' = d.out := by subst e; exact hop_any h w

theorem isHop_any (h : Int) (w : World) : Calls Tryz.prog 105 #[.int .i64 h] w fun e w' => e = .returned (.bool (hopB h)) ∧ ∃ d : Ext w, w' = d.out := by
  have e3 : ((h == -1) = true ∧ hopB h = true) ∨ ((h == -1) = false ∧ decide (0 ≤ h) = false ∧ hopB h = false) ∨ ((h == -1) = false ∧ decide (0 ≤ h) = true ∧ hopB h = decide (h < 6)) := by
    unfold hopB
    by_cases h1 : h = -1
    · exact .inl (by simp [h1])
    · by_cases h2 : 0 ≤ h
      · exact .inr (.inr (by simp [h1, h2]))
      · exact .inr (.inl (by simp [h1, h2]))
  rcases e3 with ⟨e1, e⟩ | ⟨e1, e2, e⟩ | ⟨e1, e2, e⟩
  all_goals
    rw [e]; clear e
    go_enter Tryz.func105, Tryz.ntmps105
    go_wp2
    go_ret
    exact ⟨rfl, ext_mk (Gr.refl _)⟩
theorem isHop_is {h : Int} {v : Bool} (e : hopB h = v) (w : World) : Calls Tryz.prog 105 #[.int .i64 h] w fun e w' => e = .returned (.bool v) ∧ ∃ d : Ext w, w' = d.out := by subst e; exact isHop_any h w

/-- A new table. -/
theorem new_any (w : World) : Calls Tryz.prog 47 #[] w fun e w' => e = .returned (.pointer (some ⟨w.heap.size, 0, none⟩)) ∧ w' = w.alloc (.cells #[.slice none 0 0] 171) := by
  go_enter Tryz.func47, Tryz.ntmps47
  go_wp2
  go_ret
  exact ⟨rfl, rfl⟩

end Go.Proofs.YtfcknkanbcndjagGreatDoor

/- BUILTINS ON ROWS OF ROUTES (three cells each): append from a row, copy, clear; as run equations and as steps of a walk. -/
namespace Go.Proofs.YtfcknkanbcndjagGreatDoor
open Go.RowKit

theorem Tryz.info133 : (Tryz.prog.info? 133).map (fun i => (i.zero, i.size, i.bytes)) = some (some (.agg #[iv 0, iv 0, iv 0]), 3, 24) := by kernel_rfl
theorem Tryz.size133 : (Tryz.prog.info? 133).map (·.size) = some 3 := by kernel_rfl

theorem run_copy_row3 {P : Program} (w : World) (dT sT ty elem : TypeId) (g o dLen dCap : Nat) (a : Addr) (sLen sCap : Nat) (cur : Array Value) (t : TypeId) (cs : List Value)
    (hu : P.underlying dT = some (.slice elem)) (hs : (P.info? elem).map (·.size) = some 3)
    (hg : w.heap[g]? = some (.cells cur t (0, 0))) (hn : cs.length = Nat.min sLen dLen * 3)
    (hsrc : ∀ j v, cs[j]? = some v → w.cell? (a.add j) = some v) (hfit : o + cs.length ≤ cur.size) (h1 : ∀ v ∈ cs, v.oneCell' = true) :
    (Builtin.copy_ #[dT, sT] ty #[.slice (some ⟨g, o, none⟩) dLen dCap, .slice (some a) sLen sCap]).run P w =
      .ok (goInt (Nat.min sLen dLen)) (w.setRow g (cur.toList.take o ++ cs ++ cur.toList.drop (o + cs.length)).toArray) := by
  have hl := run_loadCells_list (P := P) w a cs hsrc
  have hst := run_storeCells_at P g o t cs 0 cur w hg (by simpa using hfit) h1
  cases hq : P.info? elem with
  | none => simp [hq] at hs
  | some i =>
    have hi : i.size = 3 := by simpa [hq] using hs
    simp [Builtin.copy_, run_underlying hu, Builtin.lenOf, Builtin.firstCells, sizeOf, typeInfo, hq, hi, ← hn, hl, hst]

theorem run_clear_row3 {P : Program} (w : World) (t e ty : TypeId) (z : Value) (ht : P.underlying t = some (.slice e)) (hv : ∀ w, (zeroValue e).run P w = .ok z w) (zs : List Value) (hz : (Builtin.zeroCells z.cells 1).toList = zs) (h1 : ∀ v ∈ zs, v.oneCell' = true)
    (g o c : Nat) (cur : Array Value) (te : TypeId) (hg : w.heap[g]? = some (.cells cur te (0, 0))) (hfit : o + zs.length ≤ cur.size) :
    (Builtin.clear_ #[t] ty #[.slice (some ⟨g, o, none⟩) 1 c]).run P w = .ok (.tuple #[]) (w.setRow g (cur.toList.take o ++ zs ++ cur.toList.drop (o + zs.length)).toArray) := by
  have hst := run_storeCells_at P g o te zs 0 cur w hg (by simpa using hfit) h1
  simp only [Nat.add_zero] at hst
  simp [Builtin.clear_, run_underlying ht, hv, hz, hst]

/-- An append whose run is known, as one step of a region that draws. -/
theorem step_append_eqR {P : Program} {ops : Array Oper} {o : Oper} {a : Act} {w : World} {K : Act → World → Prop} {Q : Exit → Act → World → Prop} {E : Prop}
    (hg : o.guard = none) (d x : Operand) (dT sT : TypeId) (hop : o.op = Op.call { callee := Callee.builtin Builtin.append, args := #[d, x], argTypes := #[dT, sT] })
    (v u : Value) (hd : a.eval d = v) (hx : a.eval x = u) {v' : Value} {w' : World} (hr : (Builtin.append_ #[dT, sT] o.type #[v, u]).run P w = .ok v' w') (hK : K (a.put o.dst v') w') :
    if Region.wanted o (yielded ops a.tmps) = true then Oper.wp P o a w K Q else E := by
  have hw : Region.wanted o (yielded ops a.tmps) = true := by simp [Region.wanted, hg]
  rw [if_pos hw]
  unfold Oper.wp
  simp [execOp, hop, resolve, invoke, builtin, hd, hx, hr, Result.andThen]
  exact hK
theorem step_copy_eq {P : Program} {ops : Array Oper} {o : Oper} {a : Act} {w : World} {K : Act → World → Prop} {Q : Exit → Act → World → Prop} {E : Prop}
    (hg : o.guard = none) (d x : Operand) (dT sT : TypeId) (hop : o.op = Op.call { callee := Callee.builtin Builtin.copy, args := #[d, x], argTypes := #[dT, sT] })
    (v u : Value) (hd : a.eval d = v) (hx : a.eval x = u) {v' : Value} {w' : World} (hr : (Builtin.copy_ #[dT, sT] o.type #[v, u]).run P w = .ok v' w') (hK : K (a.put o.dst v') w') :
    if Region.wanted o (yielded ops a.tmps) = true then Oper.wp P o a w K Q else E := by
  have hw : Region.wanted o (yielded ops a.tmps) = true := by simp [Region.wanted, hg]
  rw [if_pos hw]
  unfold Oper.wp
  simp [execOp, hop, resolve, invoke, builtin, hd, hx, hr, Result.andThen]
  exact hK
/-- 'append(nil, l...)': a new row, or nil. -/
theorem run_append_new (w : World) (M : Nat → Prop) (ty : TypeId) (ao : Option Addr) (n c : Nat) (rs : List Rt) (H : RowAt w M ao rs) (hn : rs.length = n) (hm : n ≤ 1000000) :
    ∃ v' w', (Builtin.append_ #[108, 108] ty #[.slice none 0 0, .slice ao n c]).run Tryz.prog w = .ok v' w' ∧ w'.ownsRow w.heap.size 133 3 v' n (cels rs) ∧ w.grownBy w' none := by
  obtain ⟨i0, hi, hz0, hz1, hz2⟩ := info_parts Tryz.info133
  cases ao with
  | none =>
    have h0 : rs = [] := by
      rcases H with h | ⟨b, o, h, _⟩
      · exact h
      · cases h
    subst h0
    have : n = 0 := by simpa using hn.symm
    subst this
    refine ⟨.slice none 0 0, w, ?_, World.ownsRow_nil _ _ _ _, World.grownBy.refl _ _⟩
    simp [Builtin.append_, run_underlying Tryz.underlying108, sizeOf, typeInfo, hi, Builtin.lenOf, Builtin.firstCells]
  | some a =>
    have hc : ∀ j u, (cels rs)[j]? = some u → w.cell? (a.add j) = some u := by
      rcases H with h | ⟨b, o, h, _, _, hcs⟩
      · subst h; intro j u hj; simp [cels] at hj
      · cases h
        intro j u hj
        rw [Addr.add_lit]
        exact cels_cells hcs j u hj
    obtain ⟨v', w', h1, h2, h3, _⟩ := run_append_own (P := Tryz.prog) w w.heap.size 108 ty 133 i0 _ 3 24 Tryz.underlying108 hi hz0 hz1 hz2 (by rfl) (by decide) (.slice none 0 0) 0 [] (World.ownsRow_nil _ _ _ _)
      a n c (cels rs) (by rw [cels_length, hn]) hc (cels_one rs) (by unfold maxLen; omega) (by omega) (Nat.le_refl _)
    simp only [Nat.zero_add, List.nil_append] at h2
    exact ⟨v', w', h1, h2, h3⟩

end Go.Proofs.YtfcknkanbcndjagGreatDoor

/- CONTRACTS: (*Table).List, (*Table).All. -/
namespace Go.Proofs.YtfcknkanbcndjagGreatDoor
open Go.RowKit
attribute [local go_sem] Ext.all Ext.cell Ext.frozen Ext.lt Ext.lt1 Ext.lt2 Ext.ne Ext.ne'
theorem ownR_shape {w : World} {base e size n : Nat} {v : Value} {xs : List Value} (h : w.ownsRow base e size v n xs) : ∃ ao c, v = .slice ao n c ∧ ∀ a, ao = some a → base ≤ a.block := by
  rcases h.2 with ⟨rfl, rfl⟩ | ⟨g, cap, cur, rfl, hb, _⟩
  · exact ⟨none, 0, rfl, fun a h => by cases h⟩
  · exact ⟨_, _, rfl, fun a h => by cases h; exact hb⟩

/-- What is owned stays owned behind new blocks. -/
theorem ownR_gr {w w' : World} {base e size n : Nat} {v : Value} {xs : List Value} (h : w.ownsRow base e size v n xs) (g : Gr w w') : w'.ownsRow base e size v n xs := by
  refine ⟨h.1, ?_⟩
  rcases h.2 with hn | ⟨b, cap, cur, rfl, hb, hgg, rest⟩
  · exact .inl hn
  · exact .inr ⟨b, cap, cur, rfl, hb, by rw [g.block b (lt_of_block hgg)]; exact hgg, rest⟩

theorem list_any (w : World) (M : Nat → Prop) (tb : Nat) (ao : Option Addr) (n c : Nat) (rs : List Rt) (hc : w.cell? ⟨tb, 0, none⟩ = some (.slice ao n c)) (H : RowAt w M ao rs) (hn : rs.length = n) (hm : n ≤ 1000) :
    Calls Tryz.prog 60 #[.pointer (some ⟨tb, 0, none⟩)] w fun e w' => ∃ ao' c', e = .returned (.slice ao' n c') ∧ RowAt w' (fun k => w.heap.size ≤ k) ao' rs ∧ ∃ d : Ext w, w' = d.out := by
  obtain ⟨v', w2, hr, hown, hgr⟩ := run_append_new w M 108 ao n c rs H hn (by omega)
  obtain ⟨ao', c', rfl, hb⟩ := ownR_shape hown
  have hrow := (rowAt_own (M := fun k => w.heap.size ≤ k) hown hb).1
  have gr : Gr w w2 := (Gr.refl _).grown hgr (fun k h => by cases h)
  have HR : Hid _ := hr
  clear hr hown hgr hb
  obtain ⟨d, rfl⟩ := ext_mk gr
  go_enter Tryz.func60, Tryz.ntmps60
  go_wp2_with (first | (go_at_call 62; refine (held_any _ tb _ hc).mono ?_; rintro e w1 ⟨rfl, hw1⟩; subst hw1) | (at_builtin; refine Lib.wpList_append_run _ rfl _ _ _ _ rfl _ _ rfl rfl _ _ HR.out ?_))
  go_ret
  exact ⟨_, _, rfl, hrow, _, rfl⟩


/-- Of the first k addresses where they go; of the others 0. -/
def hopsL (rs : List Rt) (k : Nat) : List Value := (List.range 256).map fun j => if j < k then iv (lookL rs j) else iv 0
theorem hopsL_set (rs : List Rt) (k : Nat) (_hk : k < 256) : (hopsL rs k).set k (iv (lookL rs k)) = hopsL rs (k + 1) := by
  apply List.ext_getElem
  · simp [hopsL]
  · intro j h1 h2
    simp only [hopsL, List.getElem_set, List.getElem_map, List.getElem_range]
    by_cases e : k = j
    · subst e; simp
    · rw [if_neg e]
      by_cases h : j < k
      · rw [if_pos h, if_pos (by omega)]
      · rw [if_neg h, if_neg (by omega)]
theorem made_hops (rs : List Rt) : (madeCells #[Value.int .i64 0] 256).toList = hopsL rs 0 := by
  rw [toList_madeCells_one]
  simp [hopsL, List.map_const']
theorem hopsL_next (rs : List Rt) (k : Nat) (hk : k < 256) : (hopsL rs k)[k]? = some (iv 0) := by
  simp [hopsL, hk]
theorem hopsL_at (rs : List Rt) (j : Nat) (hj : j < 256) : (hopsL rs 256)[j]? = some (iv (lookL rs j)) := by
  simp [hopsL, hj]

set_option maxRecDepth 20000 in
theorem all_any (w : World) (M : Nat → Prop) (tb : Nat) (ao : Option Addr) (n c : Nat) (rs : List Rt) (hc : w.cell? ⟨tb, 0, none⟩ = some (.slice ao n c)) (htb : tb < w.heap.size) (H : RowAt w M ao rs) (hn : rs.length = n) (hm : n ≤ 1000) :
    Calls Tryz.prog 151 #[.pointer (some ⟨tb, 0, none⟩)] w fun e w' => ∃ g, e = .returned (.slice (some ⟨g, 0, none⟩) 256 256) ∧ w.heap.size ≤ g ∧ g < w'.heap.size ∧ (∀ j : Nat, j < 256 → w'.cell? ⟨g, j, none⟩ = some (iv (lookL rs j))) ∧ ∃ d : Ext w, w' = d.out := by
  obtain ⟨i0, hi, hz0, hz1, hz2⟩ := info_parts Tryz.info3
  go_enter Tryz.func151, Tryz.ntmps151
  go_wp2_with (at_make; refine wpList_make_full _ rfl _ _ 34 rfl w.heap.size 3 i0 (.int .i64 0) 1 Tryz.underlying34 hi hz0 hz1 _ _ _ _ 256 rfl rfl rfl rfl ?b2 ?b3 (Nat.le_refl _) ?_)
  case b2 => rw [hz2]; decide
  case b3 => unfold maxLen; decide
  intro w0 hown0 hgrow0
  have gr0 : Gr w w0 := (Gr.refl _).grown hgrow0 (fun k h => by cases h)
  clear hgrow0
  have hown1 : w0.ownsRow w.heap.size 3 1 (.slice (some ⟨w.heap.size, 0, none⟩) 256 256) 256 (hopsL rs 0) := by
    rw [made_hops rs] at hown0; exact hown0
  clear hown0
  obtain ⟨G, hG⟩ : ∃ G, G = w.heap.size := ⟨_, rfl⟩
  rw [← hG] at hown1 ⊢
  have HG : Hid (G = w.heap.size) := hG
  clear hG
  go_wp2
  go_loopw [4, 8] (fun _ i wr => ∃ k : Nat, k ≤ 256 ∧ i = .int .i64 k ∧ Hid (wr.ownsRow G 3 1 (.slice (some ⟨G, 0, none⟩) 256 256) 256 (hopsL rs k)) ∧ Gr w wr) (fun _ i _ => 256 - (intOf i).toNat)
  case atStart => exact ⟨0, by omega, rfl, hown1, gr0⟩
  case round =>
    clear hown1
    obtain ⟨k, hk, rfl, hown, g⟩ := hrel
    obtain ⟨d, rfl⟩ := ext_mk g
    by_cases hlt : k < 256
    · have HC : Hid (Calls Tryz.prog 34 #[.pointer (some ⟨tb, 0, none⟩), .int .i64 k] d.out fun e w' => e = .returned (.int .i64 (lookL rs k)) ∧ ∃ d' : Ext d.out, w' = d'.out) :=
        look_any d.out M tb ao n c rs k ((d.cell tb 0 htb).trans hc) (H.gr d.gr) hn hm
      clear hc H
      go_wp2_with (go_at_call 34; refine HC.out.mono ?_; rintro e _ ⟨rfl, d1, rfl⟩; have hown2 := hide (ownR_gr hown.out d1.gr); have hce := (hown2.out.cellAt k (by omega)).trans (hopsL_next rs k hlt); have hfz := hown2.out.frozenAt k)
      have hst := hown2.out.stored k (iv (lookL rs k))
      rw [hopsL_set rs k hlt] at hst
      go_roundw
      case rel => exact ⟨k + 1, by omega, by go_num, hst.1, (d.gr.ext d1).grown hst.2 (fun x hx => by cases hx; exact Nat.le_of_eq HG.out.symm)⟩
      case measure => simp [intOf]; omega
    · have : k = 256 := by omega
      subst this
      have hw := hown.out
      clear hc H
      go_wp2
      go_ret
      exact ⟨G, rfl, Nat.le_of_eq HG.out.symm, (hw.lt G rfl).2, fun j hj => (hw.cellAt j (by omega)).trans (hopsL_at rs j hj), d, rfl⟩

end Go.Proofs.YtfcknkanbcndjagGreatDoor

/- CONTRACTS: slices.Delete and slices.Insert at a row of routes: one route is taken out; one is put in. -/
namespace Go.Proofs.YtfcknkanbcndjagGreatDoor
open Go.RowKit
attribute [local go_sem] Ext.all Ext.cell Ext.frozen Ext.lt Ext.lt1 Ext.lt2 Ext.ne Ext.ne'
/-- A row whose first cells are these routes. -/
structure RowIs (w : World) (g n cap : Nat) (cur : Array Value) (rs : List Rt) : Prop where
  block : w.heap[g]? = some (.cells cur 133 (0, 0))
  len : rs.length = n
  le : n ≤ cap
  max : cap ≤ maxLen
  size : cur.size = cap * 3
  take : cur.toList.take (n * 3) = cels rs

theorem RowIs.cell {w : World} {g n cap : Nat} {cur : Array Value} {rs : List Rt} (h : RowIs w g n cap cur rs) (j : Nat) (u : Value) (hj : (cels rs)[j]? = some u) : w.cell? ⟨g, j, none⟩ = some u := by
  have hl : j < n * 3 := by
    have := (List.getElem?_eq_some_iff.1 hj).1
    rwa [cels_length, h.len] at this
  rw [← h.take, List.getElem?_take_of_lt hl] at hj
  simp [World.cell?, h.block]
  simpa using hj

theorem take_parts {α : Type} (a b c : List α) (k : Nat) (h : a.length + b.length = k) : (a ++ b ++ c).take k = a ++ b := by
  rw [← h, ← List.length_append]; exact List.take_left

theorem zeros3 : (Builtin.zeroCells (Value.agg #[iv 0, iv 0, iv 0]).cells 1).toList = [iv 0, iv 0, iv 0] := by kernel_rfl
theorem zero_run (w : World) : (zeroValue 133).run Tryz.prog w = .ok (.agg #[iv 0, iv 0, iv 0]) w := by
  obtain ⟨i0, hi, hz0, hz1, hz2⟩ := info_parts Tryz.info133
  simp [zeroValue, typeInfo, hi, hz0]

set_option maxRecDepth 20000 in
theorem delete_any (w : World) (g n cap i j : Nat) (cur : Array Value) (rs : List Rt) (h : RowIs w g n cap cur rs) (hj1 : j = i + 1) (hj2 : j ≤ n) (hm : n ≤ 1000) :
    Calls Tryz.prog 118 #[.slice (some ⟨g, 0, none⟩) n cap, .int .i64 i, .int .i64 j] w fun e w' => e = .returned (.slice (some ⟨g, 0, none⟩) (n - 1) cap) ∧ ∃ cur', w' = w.drew.setRow g cur' ∧ RowIs w' g (n - 1) cap cur' (rs.take i ++ rs.drop j) := by
  obtain ⟨i0, hi0, hz0, hz1, hz2⟩ := info_parts Tryz.info133
  have hmax : cap ≤ 9223372036854775807 := h.max
  have hcap := h.le
  have hlt : i < j := by omega
  have HJ : Hid (j = i + 1) := hj1
  clear hj1
  have hic : i ≤ cap := by omega
  have hjc : j ≤ cap := by omega
  have hne : ¬ (i = j) := by omega
  have hkn : i + (n - j) = n - 1 := by have := HJ.out; omega
  -- behind the append
  obtain ⟨cur1, hcur1⟩ : ∃ cur1 : Array Value, cur1 = (cur.toList.take (i * 3) ++ cels (rs.drop j) ++ cur.toList.drop (i * 3 + (cels (rs.drop j)).length)).toArray := ⟨_, rfl⟩
  have hdl : (cels (rs.drop j)).length = (n - j) * 3 := by rw [cels_length, List.length_drop, h.len]
  have hsz := h.size
  have hsz1 : cur1.size = cap * 3 := by
    rw [hcur1]; simp only [List.size_toArray, List.length_append, List.length_take, List.length_drop, Array.length_toList, hdl]; omega
  obtain ⟨A, hA, hsrc⟩ : ∃ A : Addr, (if cap = j then some (⟨g, 0, none⟩ : Addr) else some ⟨g, j * 3, none⟩) = some A ∧ Hid (∀ t u, (cels (rs.drop j))[t]? = some u → w.drew.cell? (A.add t) = some u) := by
    by_cases hc : cap = j
    · refine ⟨⟨g, 0, none⟩, by simp [hc], fun t u hu => ?_⟩
      have : cels (rs.drop j) = [] := List.eq_nil_of_length_eq_zero (by rw [hdl]; omega)
      rw [this] at hu; simp at hu
    · refine ⟨⟨g, j * 3, none⟩, by simp [hc], fun t u hu => ?_⟩
      rw [Addr.add_lit]
      show w.cell? _ = _
      refine h.cell _ _ ?_
      rw [← cels_drop, List.getElem?_drop] at hu
      exact hu
  have hrun : Hid (∀ ty, (Builtin.append_ #[108, 108] ty #[.slice (some ⟨g, 0, none⟩) i cap, .slice (some A) (n - j) (cap - j)]).run Tryz.prog w.drew = .ok (.slice (some ⟨g, 0, none⟩) (i + (n - j)) cap) (w.drew.setRow g cur1)) := fun ty => by
    have := run_append_room (P := Tryz.prog) w.drew 108 ty 133 i0 Tryz.underlying108 hi0 g i cap cur h.block A (n - j) (cap - j) (cels (rs.drop j)) (by rw [hz1, hdl]) hsrc.out (cels_one _) (by omega) (by rw [hz1, hdl]; omega)
    rw [hz1, ← hcur1] at this
    exact this
  obtain ⟨W1, hW1⟩ : ∃ W1, W1 = w.drew.setRow g cur1 := ⟨_, rfl⟩
  have hb1 : W1.heap[g]? = some (.cells cur1 133 (0, 0)) := by rw [hW1]; exact setRow_heap _ g cur cur1 _ _ h.block
  obtain ⟨cur2, hcur2⟩ : ∃ cur2 : Array Value, cur2 = (cur1.toList.take ((n - 1) * 3) ++ [iv 0, iv 0, iv 0] ++ cur1.toList.drop ((n - 1) * 3 + 3)).toArray := ⟨_, rfl⟩
  have hcl : ∀ ty c, (Builtin.clear_ #[108] ty #[.slice (some ⟨g, (n - 1) * 3, none⟩) 1 c]).run Tryz.prog W1 = .ok (.tuple #[]) (W1.setRow g cur2) := fun ty c => by
    have := run_clear_row3 (P := Tryz.prog) W1 108 133 ty _ Tryz.underlying108 zero_run _ zeros3 (by intro v hv; simp at hv; rw [hv]; rfl) g ((n - 1) * 3) c cur1 _ hb1 (by simp; omega)
    simp only [List.length_cons, List.length_nil] at this
    rw [this, hcur2]
  have hend : RowIs (w.drew.setRow g cur2) g (n - 1) cap cur2 (rs.take i ++ rs.drop j) := by
    have hl : (rs.take i).length = i := by rw [List.length_take, h.len]; omega
    refine ⟨setRow_heap _ g cur cur2 _ _ h.block, by rw [List.length_append, List.length_drop, h.len, hl]; omega, by omega, h.max, ?_, ?_⟩
    · rw [hcur2]; simp only [List.size_toArray, List.length_append, List.length_take, List.length_drop, Array.length_toList, List.length_cons, List.length_nil]; omega
    · have e1 : cur.toList.take (i * 3) = cels (rs.take i) := by
        rw [← cels_take, ← h.take, List.take_take]; congr 1; omega
      have e2 : cur1.toList.take ((n - 1) * 3) = cels (rs.take i ++ rs.drop j) := by
        rw [hcur1, e1, cels_append]
        exact take_parts _ _ _ _ (by rw [cels_length, cels_length, hl, List.length_drop, h.len]; omega)
      rw [hcur2, e2]
      show ((cels (rs.take i ++ rs.drop j) ++ [iv 0, iv 0, iv 0] ++ cur1.toList.drop _).take ((n - 1) * 3)) = _
      rw [List.append_assoc]
      have : (cels (rs.take i ++ rs.drop j)).length = (n - 1) * 3 := by rw [cels_length, List.length_append, hl, List.length_drop, h.len]; omega
      rw [← this]; exact List.take_left
  have HE : Hid _ := hend
  have HW : Hid (W1 = w.drew.setRow g cur1) := hW1
  have h1n : ¬ (cap = n - 1) := by have := HJ.out; omega
  have hnn : n - (n - 1) = 1 := by have := HJ.out; omega
  clear hend hW1 hcur2 hcur1 hb1 h hdl
  have hpn : n - 1 ≤ n := by omega
  have hpc : n - 1 ≤ cap := by omega
  generalize n - 1 = p at *
  go_enter Tryz.func118, Tryz.ntmps118
  go_wp2_with fail
  go_region_law (refine step_append_eqR rfl _ _ 108 108 rfl _ _ (by simp [Act.eval, Act.put]) (by simp [Act.eval, Act.put]) (hrun.out _) ?_; rw [← HW.out, hkn])
  go_wp2
  go_ret
  refine ⟨rfl, cur2, ?_, ?_⟩
  · rw [HW.out, setRow_setRow]
  · rw [HW.out, setRow_setRow]; exact HE.out

end Go.Proofs.YtfcknkanbcndjagGreatDoor

/- CONTRACT: slices.Insert at a row of routes that the program owns: one route is put in. -/
namespace Go.Proofs.YtfcknkanbcndjagGreatDoor
open Go.RowKit
attribute [local go_sem] Ext.all Ext.cell Ext.frozen Ext.lt Ext.lt1 Ext.lt2 Ext.ne Ext.ne'
theorem RowIs.own {w : World} {g n cap : Nat} {cur : Array Value} {rs : List Rt} (h : RowIs w g n cap cur rs) : w.ownsRow 0 133 3 (.slice (some ⟨g, 0, none⟩) n cap) n (cels rs) :=
  ⟨by rw [cels_length, h.len], .inr ⟨g, cap, cur, rfl, Nat.zero_le _, h.block, h.le, h.max, h.size, h.take⟩⟩
theorem ownR_base {w : World} {base e size n : Nat} {v : Value} {xs : List Value} (h : w.ownsRow base e size v n xs) : w.ownsRow 0 e size v n xs := by
  refine ⟨h.1, ?_⟩
  rcases h.2 with hn | ⟨g, cap, cur, rfl, hb, rest⟩
  · exact .inl hn
  · exact .inr ⟨g, cap, cur, rfl, Nat.zero_le _, rest⟩
theorem own_rowIs {w : World} {v : Value} {n : Nat} {rs : List Rt} (h : w.ownsRow 0 133 3 v n (cels rs)) : (v = .slice none 0 0 ∧ n = 0 ∧ rs = []) ∨ ∃ g cap cur, v = .slice (some ⟨g, 0, none⟩) n cap ∧ RowIs w g n cap cur rs := by
  have hl : rs.length = n := by have := h.1; rw [cels_length] at this; omega
  rcases h.2 with ⟨rfl, rfl⟩ | ⟨g, cap, cur, rfl, hb, hg, hn, hc, hs, ht⟩
  · exact .inl ⟨rfl, rfl, List.eq_nil_of_length_eq_zero hl⟩
  · exact .inr ⟨g, cap, cur, rfl, hg, hl, hn, hc, hs, ht⟩

/-- What is left behind: the row in its place, or in a new one. -/
def Moved (w w' : World) (v v' : Value) : Prop := w.grownBy w' v.ownBlock ∧ (v'.ownBlock = v.ownBlock ∨ ∀ k, v'.ownBlock = some k → w.heap.size ≤ k)

theorem moved_setRow {w : World} {g n m cap cap' : Nat} (cur : Array Value) : Moved w (w.drew.setRow g cur) (.slice (some ⟨g, 0, none⟩) n cap) (.slice (some ⟨g, 0, none⟩) m cap') :=
  ⟨⟨rfl, rfl, rfl, by simp, fun k _ hk => setRow_other w.drew g k _ (fun e => hk (by simp [Value.ownBlock, e]))⟩, .inl rfl⟩

/-- 'append(s, r)' at a row that is owned. -/
theorem app_one (w : World) (v : Value) (n vb : Nat) (rs : List Rt) (x : Rt) (ty : TypeId) (h : w.ownsRow 0 133 3 v n (cels rs)) (hv : w.heap[vb]? = some (.cells #[iv x.1, iv x.2.1, iv x.2.2] 133 (0, 0))) (hm : n ≤ 1000) :
    ∃ v' w', (Builtin.append_ #[108, 108] ty #[v, .slice (some ⟨vb, 0, none⟩) 1 1]).run Tryz.prog w = .ok v' w' ∧ w'.ownsRow 0 133 3 v' (n + 1) (cels (rs ++ [x])) ∧ Moved w w' v v' ∧ ∃ ao c, v' = .slice ao (n + 1) c := by
  obtain ⟨i0, hi, hz0, hz1, hz2⟩ := info_parts Tryz.info133
  have hnews : ∀ j u, (cels [x])[j]? = some u → w.cell? ((⟨vb, 0, none⟩ : Addr).add j) = some u := by
    intro j u hj
    rw [Addr.add_lit, Nat.zero_add]
    simp only [World.cell?, hv]
    have : j = 0 ∨ j = 1 ∨ j = 2 := by
      have := (List.getElem?_eq_some_iff.1 hj).1
      simp [cels_length] at this; omega
    rcases this with rfl | rfl | rfl <;> simpa [cels_cons] using hj
  rcases own_rowIs h with ⟨rfl, rfl, rfl⟩ | ⟨g, cap, cur, rfl, hR⟩
  · obtain ⟨v', w', h1, h2, h3, _⟩ := run_append_own (P := Tryz.prog) w w.heap.size 108 ty 133 i0 _ 3 24 Tryz.underlying108 hi hz0 hz1 hz2 (by rfl) (by decide) (.slice none 0 0) 0 [] (World.ownsRow_nil _ _ _ _)
      ⟨vb, 0, none⟩ 1 1 (cels [x]) (by rw [cels_length]; rfl) hnews (cels_one _) (by unfold maxLen; omega) (by omega) (Nat.le_refl _)
    obtain ⟨ao, c, hs, _⟩ := ownR_shape h2
    exact ⟨v', w', h1, by have := ownR_base h2; simpa using this, ⟨h3, .inr fun k hk => (h2.lt k hk).1⟩, ao, c, hs⟩
  · by_cases hroom : n + 1 ≤ cap
    · have hr := run_append_room (P := Tryz.prog) w 108 ty 133 i0 Tryz.underlying108 hi g n cap cur hR.block ⟨vb, 0, none⟩ 1 1 (cels [x]) (by rw [cels_length, hz1]; rfl) hnews (cels_one _) hroom (by rw [hz1, cels_length, hR.size]; simp; omega)
      rw [hz1] at hr
      refine ⟨_, _, hr, ?_, ⟨⟨rfl, rfl, rfl, by simp, fun k _ hk => setRow_other w g k _ (fun e => hk (by simp [Value.ownBlock, e]))⟩, .inl rfl⟩, _, _, rfl⟩
      have : RowIs (w.setRow g (cur.toList.take (n * 3) ++ cels [x] ++ cur.toList.drop (n * 3 + (cels [x]).length)).toArray) g (n + 1) cap (cur.toList.take (n * 3) ++ cels [x] ++ cur.toList.drop (n * 3 + (cels [x]).length)).toArray (rs ++ [x]) := by
        refine ⟨setRow_heap _ g cur _ _ _ hR.block, by simp [hR.len], hroom, hR.max, ?_, ?_⟩
        · have := hR.size
          simp only [List.size_toArray, List.length_append, List.length_take, List.length_drop, Array.length_toList, cels_length, List.length_cons, List.length_nil]; omega
        · rw [hR.take, cels_append]
          exact take_parts _ _ _ _ (by rw [cels_length, cels_length, hR.len]; simp; omega)
      exact this.own
    · have hr := run_append_grow (P := Tryz.prog) w 108 ty 133 i0 _ Tryz.underlying108 hi hz0 ⟨g, 0, none⟩ n cap (cels rs) (by rw [cels_length, hR.len, hz1]) (fun j u hj => by rw [Addr.add_lit, Nat.zero_add]; exact hR.cell j u hj)
        ⟨vb, 0, none⟩ 1 1 (cels [x]) (by rw [cels_length, hz1]; rfl) hnews (by omega) (by omega) (by rw [hz2]; exact growslice_fits (by omega) (by omega))
      have hge := grownCap_ge w (n + 1) cap 133
      have hcm : grownCap w (n + 1) cap 133 ≤ maxLen := grownCap_le_maxLen w (n + 1) cap 133 (by unfold maxLen; omega)
      refine ⟨_, _, hr, ?_, ⟨⟨rfl, rfl, rfl, by simp, fun k hk hr => (World.grownBy_alloc w.drew _ _).block k hk hr⟩, .inr fun k hk => by simp [Value.ownBlock] at hk; omega⟩, _, _, rfl⟩
      refine ⟨by rw [cels_length]; simp [hR.len], .inr ⟨w.heap.size, _, _, rfl, Nat.zero_le _, heap_alloc_new w.drew _, hge, hcm, ?_, ?_⟩⟩
      · simp only [Array.size_append, List.size_toArray, size_zeroCells, cels_length, hR.len]
        show n * 3 + 1 * 3 + (grownCap w (n + 1) cap 133 - (n + 1)) * 3 = grownCap w (n + 1) cap 133 * 3
        omega
      · rw [cels_append]
        simp only [Array.toList_append]
        exact take_parts _ _ _ _ (by simp only [cels_length, hR.len]; simp; omega)

set_option maxRecDepth 20000 in
/-- At the end. -/
theorem insert_end (w : World) (v : Value) (n vb : Nat) (rs : List Rt) (x : Rt) (h : w.ownsRow 0 133 3 v n (cels rs)) (hv : w.heap[vb]? = some (.cells #[iv x.1, iv x.2.1, iv x.2.2] 133 (0, 0))) (hm : n ≤ 1000) :
    Calls Tryz.prog 119 #[v, .int .i64 n, .slice (some ⟨vb, 0, none⟩) 1 1] w fun e w' => ∃ ao c, e = .returned (.slice ao (n + 1) c) ∧ w'.ownsRow 0 133 3 (.slice ao (n + 1) c) (n + 1) (cels (rs ++ [x])) ∧ Moved w w' v (.slice ao (n + 1) c) := by
  obtain ⟨v', w', hr, h1, h2, ao, c, rfl⟩ := app_one w v n vb rs x 108 h hv hm
  have HR : Hid _ := hr
  have H1 : Hid _ := h1
  clear hr h1 hv
  rcases own_rowIs h with ⟨rfl, rfl, rfl⟩ | ⟨g, cap, cur, rfl, hR⟩
  · clear h
    go_enter Tryz.func119, Tryz.ntmps119
    go_wp2_with (at_builtin; refine Lib.wpList_append_run _ rfl _ _ _ _ rfl _ _ rfl rfl _ _ HR.out ?_)
    go_ret
    exact ⟨_, _, rfl, H1.out, h2⟩
  · have hmax : cap ≤ 9223372036854775807 := hR.max
    have hcap := hR.le
    clear h hR
    go_enter Tryz.func119, Tryz.ntmps119
    go_wp2_with (at_builtin; refine Lib.wpList_append_run _ rfl _ _ _ _ rfl _ _ rfl rfl _ _ HR.out ?_)
    all_goals (go_ret; exact ⟨_, _, rfl, H1.out, h2⟩)

end Go.Proofs.YtfcknkanbcndjagGreatDoor
