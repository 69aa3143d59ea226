/- A TRIP IN MEMORY: a variable of three cells (nodes, cost, end) whose list is the call's own. -/
import Derived.Test.YtfcknkanbcndjagGreatDoorTw17
import Derived.Test.YtfcknkanbcndjagGreatDoorNe1
namespace Go.Proofs.YtfcknkanbcndjagGreatDoor
open Go.RowKit
attribute [local go_sem] Ext.all Ext.cell Ext.frozen Ext.lt Ext.lt1 Ext.lt2 Ext.ne Ext.ne'
/-- What a call that tells a trip leaves. -/
def TripO (w w' : World) (ee : Ending) (l : List Nat) (kk e : Int) : Prop := ∃ ao cp, ee = .returned (.agg #[.slice ao l.length cp, iv kk, iv e]) ∧ (NmAt w' ao l ∧ (∀ b o, ao = some ⟨b, o, none⟩ → w.heap.size ≤ b) ∧ l.length ≤ cp) ∧ Gr w w'
def trF (v : Value) (k e : Int) : Nat → Value := fun i => if i = 0 then v else if i = 1 then iv k else iv e
/-- In wr, which has grown out of w: the trip at X, the result's place R, both of the type T; its list is younger than w. -/
structure Tv (T : TypeId) (w wr : World) (R X : Nat) (v : Value) (out : List Nat) (k e : Int) : Prop where
  gr : Gr w wr
  x : VArr wr T 3 X (trF v k e)
  r : ∃ g, VArr wr T 3 R g
  own : OwM w wr v out
  hX : w.heap.size ≤ X
  hR : w.heap.size ≤ R
  ne : R ≠ X
section
variable {T : TypeId} {w wr wr' : World} {R X : Nat} {v : Value} {out : List Nat} {k e : Int}
theorem Tv.ext (h : Tv T w wr R X v out k e) (g : Gr wr wr') : Tv T w wr' R X v out k e := by
  obtain ⟨r, hr⟩ := h.r
  exact ⟨h.gr.trans g, h.x.gr g, ⟨r, hr.gr g⟩, h.own.gr g, h.hX, h.hR, h.ne⟩
theorem OwM.ne_blk {B : World} (h : OwM B wr v out) (hT : T ≠ 3) {g : Nat → Value} {n b : Nat} (hb : VArr wr T n b g) : v.ownBlock ≠ some b := by
  intro q
  rcases h.2 with ⟨hn, _⟩ | ⟨y, cap, cur, hv, _, hgg, _⟩
  · rw [hn] at q; cases q
  · rw [hv] at q
    simp only [Value.ownBlock, Option.some.injEq] at q
    subst q
    exact blk_ne hgg hb hT.symm rfl
theorem Tv.setX (h : Tv T w wr R X v out k e) (hT : T ≠ 3) {j : Nat} {u : Value} {k' e' : Int} (_hj : j = 1 ∨ j = 2) (hu : ∀ i, i < 3 → trF v k' e' i = if i = j then u else trF v k e i) : Tv T w (wr.setCell ⟨X, j, none⟩ u) R X v out k' e' := by
  obtain ⟨r, hr⟩ := h.r
  exact ⟨h.gr.setCell h.hX _, h.x.set hu, ⟨r, hr.other h.ne _ _⟩, ownsRow_setCell_other h.own (h.own.ne_blk hT h.x) u, h.hX, h.hR, h.ne⟩
theorem Tv.setK (h : Tv T w wr R X v out k e) (hT : T ≠ 3) (k' : Int) : Tv T w (wr.setCell ⟨X, 1, none⟩ (iv k')) R X v out k' e :=
  h.setX hT (.inl rfl) (fun i hi => by rcases (show i = 0 ∨ i = 1 ∨ i = 2 by omega) with rfl | rfl | rfl <;> rfl)
theorem Tv.setE (h : Tv T w wr R X v out k e) (hT : T ≠ 3) (e' : Int) : Tv T w (wr.setCell ⟨X, 2, none⟩ (iv e')) R X v out k e' :=
  h.setX hT (.inr rfl) (fun i hi => by rcases (show i = 0 ∨ i = 1 ∨ i = 2 by omega) with rfl | rfl | rfl <;> rfl)
theorem Tv.cells (h : Tv T w wr R X v out k e) : wr.cell? ⟨X, 0, none⟩ = some v ∧ wr.cell? ⟨X, 1, none⟩ = some (iv k) ∧ wr.cell? ⟨X, 2, none⟩ = some (iv e) :=
  ⟨h.x.cell (j := 0) (by omega), h.x.cell (j := 1) (by omega), h.x.cell (j := 2) (by omega)⟩
theorem Tv.free (h : Tv T w wr R X v out k e) : wr.frozen? ⟨X, 0, none⟩ = false ∧ wr.frozen? ⟨X, 1, none⟩ = false ∧ wr.frozen? ⟨X, 2, none⟩ = false := ⟨h.x.free 0, h.x.free 1, h.x.free 2⟩
/-- A node is put behind the others. -/
theorem Tv.app (h : Tv T w wr R X v out k e) (hT : T ≠ 3) (ty : TypeId) (x : Nat) (hm : out.length ≤ 1000) :
    ∃ v' w', (Builtin.append_ #[34, 34] ty #[v, .slice (some ⟨wr.heap.size, 0, none⟩) 1 1]).run Tryz.prog (wr.alloc (.cells #[iv (x : Int)] 3)) = .ok v' w' ∧ Tv T w (w'.setCell ⟨X, 0, none⟩ v') R X v' (out ++ [x]) k e ∧ w'.cell? ⟨X, 0, none⟩ = some v ∧ w'.frozen? ⟨X, 0, none⟩ = false ∧ X < w'.heap.size := by
  obtain ⟨i0, hi, hz0, hz1, hz2⟩ := info_parts Tryz.info3
  have g0 : Gr wr (wr.alloc (.cells #[iv (x : Int)] 3)) := (Gr.refl wr).alloc _
  have hY := h.ext g0
  obtain ⟨v', w', h1, h2, h3, _⟩ := run_append_own (P := Tryz.prog) _ w.heap.size 34 ty 3 i0 _ 1 8 Tryz.underlying34 hi hz0 hz1 hz2 (by rfl) (by decide) v out.length (out.map fun (n : Nat) => iv (n : Int)) hY.own
      ⟨wr.heap.size, 0, none⟩ 1 1 [iv (x : Int)] rfl
      (fun j u hj => by
        have hl : j < 1 := (List.getElem?_eq_some_iff.1 hj).1
        have : j = 0 := by omega
        subst this; simp at hj; subst hj; simp [Addr.add, go_sem])
      (by simp [Value.oneCell']) (by unfold maxLen; omega) (by omega) (by have := Below.size h.gr; simp; omega)
  obtain ⟨r, hr⟩ := hY.r
  have kb : ∀ {b : Nat} {g : Nat → Value}, VArr (wr.alloc (.cells #[iv (x : Int)] 3)) T 3 b g → VArr w' T 3 b g := fun {b g} hb => (h3.block b hb.lt (fun q => hY.own.ne_blk hT hb q.symm)).trans hb
  have hx' := kb hY.x
  have ho : OwM w w' v' (out ++ [x]) := by
    unfold OwM
    rw [List.map_append, List.length_append]
    exact h2
  refine ⟨v', w', h1, ⟨((h.gr.trans g0).grown h3 (fun b hb => (h.own.lt b hb).1)).setCell h.hX _, hx'.set (fun i hi => by rcases (show i = 0 ∨ i = 1 ∨ i = 2 by omega) with rfl | rfl | rfl <;> rfl), ⟨r, (kb hr).other h.ne _ _⟩, ownsRow_setCell_other ho (ho.ne_blk hT hx') v', h.hX, h.hR, h.ne⟩, hx'.cell (j := 0) (by omega), hx'.free 0, hx'.lt⟩
/-- The trip is copied to the result's place. -/
theorem Tv.ret (h : Tv T w wr R X v out k e) (hT : T ≠ 3) : VArr (((wr.setCell ⟨R, 0, none⟩ v).setCell ⟨R, 1, none⟩ (iv k)).setCell ⟨R, 2, none⟩ (iv e)) T 3 R (trF v k e) ∧ (∀ ao cp, v = .slice ao out.length cp → NmAt (((wr.setCell ⟨R, 0, none⟩ v).setCell ⟨R, 1, none⟩ (iv k)).setCell ⟨R, 2, none⟩ (iv e)) ao out ∧ (∀ b o, ao = some ⟨b, o, none⟩ → w.heap.size ≤ b) ∧ out.length ≤ cp) ∧ Gr w (((wr.setCell ⟨R, 0, none⟩ v).setCell ⟨R, 1, none⟩ (iv k)).setCell ⟨R, 2, none⟩ (iv e)) := by
  obtain ⟨r, hr⟩ := h.r
  have ho := h.own.ne_blk hT hr
  have O3 : OwM w (((wr.setCell ⟨R, 0, none⟩ v).setCell ⟨R, 1, none⟩ (iv k)).setCell ⟨R, 2, none⟩ (iv e)) v out :=
    ownsRow_setCell_other (ownsRow_setCell_other (ownsRow_setCell_other h.own ho _) ho _) ho _
  have v1 : VArr (wr.setCell ⟨R, 0, none⟩ v) T 3 R (fun i => if i = 0 then v else r i) := hr.set (fun i _ => rfl)
  have v2 : VArr ((wr.setCell ⟨R, 0, none⟩ v).setCell ⟨R, 1, none⟩ (iv k)) T 3 R (fun i => if i = 1 then iv k else if i = 0 then v else r i) := v1.set (fun i _ => rfl)
  have hN : ∀ ao cp, v = .slice ao out.length cp → NmAt (((wr.setCell ⟨R, 0, none⟩ v).setCell ⟨R, 1, none⟩ (iv k)).setCell ⟨R, 2, none⟩ (iv e)) ao out ∧ (∀ b o, ao = some ⟨b, o, none⟩ → w.heap.size ≤ b) ∧ out.length ≤ cp := fun ao cp q => by
    obtain ⟨ao', cp', hv, hn⟩ := O3.shape
    have hy : ∀ b o, ao = some ⟨b, o, none⟩ → w.heap.size ≤ b := fun b o ha => by
      rcases h.own.2 with ⟨h0, _⟩ | ⟨g, cap, cur, h0, hb, _⟩
      · rw [q, ha] at h0; cases h0
      · rw [q, ha] at h0; cases h0; exact hb
    have hc : out.length ≤ cp := by
      rcases h.own.2 with ⟨h0, h1⟩ | ⟨g, cap, cur, h0, _, _, h1, _⟩
      · omega
      · rw [q] at h0; cases h0; exact h1
    rw [q] at hv hn
    cases hv
    rw [q]
    exact ⟨hn, hy, hc⟩
  refine ⟨v2.set (fun i hi => ?_), hN, ((h.gr.setCell h.hR _).setCell h.hR _).setCell h.hR _⟩
  rcases (show i = 0 ∨ i = 1 ∨ i = 2 by omega) with rfl | rfl | rfl <;> rfl
end
theorem Tv.start (T : TypeId) (w : World) : Tv T w ((w.alloc (.cells #[.slice none 0 0, iv 0, iv 0] T)).alloc (.cells #[.slice none 0 0, iv 0, iv (-1)] T)) w.heap.size (w.heap.size + 1) (.slice none 0 0) [] 0 (-1) := by
  have g1 : Gr w (w.alloc (.cells #[.slice none 0 0, iv 0, iv 0] T)) := (Gr.refl w).alloc _
  have hb := heap_alloc_new (w.alloc (.cells #[.slice none 0 0, iv 0, iv 0] T)) (.cells #[.slice none 0 0, iv 0, iv (-1)] T)
  have hs : (w.alloc (.cells #[.slice none 0 0, iv 0, iv 0] T)).heap.size = w.heap.size + 1 := by simp
  rw [hs] at hb
  have h0 : VArr (w.alloc (.cells #[.slice none 0 0, iv 0, iv 0] T)) T 3 w.heap.size (trF (.slice none 0 0) 0 0) := heap_alloc_new w _
  exact ⟨g1.alloc _, hb, ⟨_, h0.gr ((Gr.refl _).alloc _)⟩, OwM.nil _ _, by omega, Nat.le_refl _, by omega⟩
/-- All cells that the copy of a trip to the result's place reads and writes. -/
theorem Tv.facts {T : TypeId} {w wr : World} {R X : Nat} {v : Value} {out : List Nat} {k e : Int} (h : Tv T w wr R X v out k e) : (wr.cell? ⟨X, 0, none⟩ = some v ∧ wr.cell? ⟨X, 1, none⟩ = some (iv k) ∧ wr.cell? ⟨X, 2, none⟩ = some (iv e)) ∧ (∃ a b c, wr.cell? ⟨R, 0, none⟩ = some a ∧ wr.cell? ⟨R, 1, none⟩ = some b ∧ wr.cell? ⟨R, 2, none⟩ = some c) ∧ (wr.frozen? ⟨R, 0, none⟩ = false ∧ wr.frozen? ⟨R, 1, none⟩ = false ∧ wr.frozen? ⟨R, 2, none⟩ = false) ∧ R < wr.heap.size ∧ X < wr.heap.size := by
  obtain ⟨g, hr⟩ := h.r
  exact ⟨h.cells, ⟨_, _, _, hr.cell (j := 0) (by omega), hr.cell (j := 1) (by omega), hr.cell (j := 2) (by omega)⟩, ⟨hr.free 0, hr.free 1, hr.free 2⟩, hr.lt, h.x.lt⟩
/-- A trip read off the result's place. -/
theorem VArr.three {w : World} {T : TypeId} {R : Nat} {v : Value} {k e : Int} (h : VArr w T 3 R (trF v k e)) : w.cell? ⟨R, 0, none⟩ = some v ∧ w.cell? ⟨R, 1, none⟩ = some (iv k) ∧ w.cell? ⟨R, 2, none⟩ = some (iv e) :=
  ⟨h.cell (j := 0) (by omega), h.cell (j := 1) (by omega), h.cell (j := 2) (by omega)⟩

end Go.Proofs.YtfcknkanbcndjagGreatDoor
