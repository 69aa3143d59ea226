import Derived.Test.YtfcknkanbcndjagGreatDoorFb2
import Derived.Test.YtfcknkanbcndjagGreatDoorDkMem
/- A WALK IN MEMORY: a Post's pointer and six tables. -/
namespace Go.Proofs.YtfcknkanbcndjagGreatDoor
open Go.RowKit

/-- The cells of a Walk: its Post, its tables. -/
def wkF (P : Nat) (tb : Nat → Nat) : Nat → Value := fun i => if i = 0 then pv P else pv (tb (i - 1))
/-- The own blocks of a Walk. -/
def ownW (X : Nat) (tb : Nat → Nat) (z : Nat → Value) (b : Nat) : Prop := b = X ∨ ∃ x, x < 6 ∧ ownB (tb x) (z x) b
/-- A Walk at X over the Post P, whose own blocks are S: the routes of each node's table are fs. -/
def Wq (w : World) (X P : Nat) (S : Nat → Prop) (fs : Nat → List Rt) : Prop :=
  ∃ tb z, VArr w 78 7 X (wkF P tb) ∧ (∀ x, x < 6 → TabS w (fun _ => False) (tb x) (z x) (fs x)) ∧ S = ownW X tb z
section
variable {w w' : World} {X P : Nat} {S : Nat → Prop} {fs : Nat → List Rt} {N : Nat → Prop}
theorem Wq.gr (H : Wq w X P S fs) (g : Gr w w') : Wq w' X P S fs := by
  obtain ⟨tb, z, h1, h2, e⟩ := H
  exact ⟨tb, z, h1.gr g, fun x hx => (h2 x hx).gr g, e⟩
/-- Its Post's place. -/
theorem Wq.post (H : Wq w X P S fs) : w.cell? ⟨X, 0, none⟩ = some (pv P) ∧ X < w.heap.size := by
  obtain ⟨tb, z, h1, h2, e⟩ := H
  exact ⟨h1.cell (j := 0) (by omega), h1.lt⟩
/-- One of its tables, asked for an address. -/
theorem Wq.look (H : Wq w X P S fs) {x : Nat} (hx : x < 6) (hT : Tab (fs x)) (a : Int) : ∃ tb, w.cell? ⟨X, 1 + x, none⟩ = some (pv tb) ∧ ∀ Y, Gr w Y → Calls Tryz.prog 34 #[pv tb, iv a] Y fun e w' => e = .returned (iv (lookL (fs x) a)) ∧ Gr Y w' := by
  obtain ⟨tb, z, h1, h2, e⟩ := H
  refine ⟨tb x, ?_, fun Y g => ?_⟩
  · have := h1.cell (j := 1 + x) (by omega)
    unfold wkF at this
    rw [if_neg (by omega), show 1 + x - 1 = x by omega] at this
    exact this
  · exact (look_is ((h2 x hx).gr g) (by have := hT.len; omega) rfl ⟨Y, Gr.refl Y⟩).mono fun _ _ ⟨he, d, hd⟩ => ⟨he, by rw [hd]; exact d.gr⟩
end
section
variable {M : Nat → Prop} {B w : World} {P : Nat} {S : Nat → Prop} {c : Nat → Nat → Nat} {t : Tn} {n : Nat} {rs : List Rt}
/-- The links of a Post's Net: three pointers away. -/
theorem Pq.links (H : Pq M B w P S c t n rs) : ∃ p k, P < w.heap.size ∧ p < w.heap.size ∧ k < w.heap.size ∧ w.cell? ⟨P, 0, none⟩ = some (pv p) ∧ w.cell? ⟨p, 0, none⟩ = some (pv k) ∧ ∀ Y, Gr w Y → KL Y k c := by
  obtain ⟨p, k, q, v, tb, u, h, e⟩ := H
  exact ⟨p, k, lt_of_block h.blk, h.net.h.blk.lt, h.net.h.lk.lt, (cells2 h.blk).1, h.net.h.links, fun Y g => h.net.h.lk.gr g⟩
end

end Go.Proofs.YtfcknkanbcndjagGreatDoor

/- CONTRACT OF package walk: New. -/
namespace Go.Proofs.YtfcknkanbcndjagGreatDoor
open Go.RowKit
attribute [local go_sem] Ext.all Ext.cell Ext.frozen Ext.lt Ext.lt1 Ext.lt2 Ext.ne Ext.ne'
/-- A node's table, small or full. -/
def tabL (t : Tn) (rs : List Rt) (sm : Bool) (x : Nat) : List Rt := if sm then lstL (fullL t (x : Int) rs) else fullL t (x : Int) rs
theorem tabL_look {t : Tn} {c : Nat → Nat → Nat} (A : TnA t c) {rs : List Rt} (h : Tab rs) (sm : Bool) (x : Nat) (a : Int) : Tab (tabL t rs sm x) ∧ lookL (tabL t rs sm x) a = letH t rs a x := by
  unfold tabL letH
  cases sm
  · exact ⟨full_tab A x h, rfl⟩
  · exact ⟨lst_tab (full_tab A x h), lst_lookI (full_tab A x h) a⟩
/-- The walk's cells as far as they are set. -/
def wkG (P : Nat) (tb : Nat → Nat) (n : Nat) : Nat → Value := fun i => if i = 0 then pv P else if i ≤ n then pv (tb (i - 1)) else .pointer none
section
variable {M : Nat → Prop} {B w w' : World} {P : Nat} {S : Nat → Prop} {c : Nat → Nat → Nat} {t : Tn} {n : Nat} {rs : List Rt}
theorem Pq.tab (H : Pq M B w P S c t n rs) (h64 : Tab64 w) (sm : Bool) {x : Nat} (hx : x < 6) : Calls Tryz.prog (if sm then 31 else 32) #[pv P, iv (x : Int)] w fun e w' => ∃ ub z, e = .returned (pv ub) ∧ TabS w' (fun k => k < w.heap.size) ub z (tabL t rs sm x) ∧ Gr w w' := by
  obtain ⟨p, k, q, v, tb, u, h, e⟩ := H
  have hn : isN (x : Int) := ⟨by omega, by omega⟩
  cases sm
  · exact fibFull_po h hn
  · exact fibSmall_po h h64 hn
set_option maxRecDepth 20000 in
set_option maxHeartbeats 16000000 in
theorem walkNew_any (H : Pq M B w P S c t n rs) (h64 : Tab64 w) (sm : Bool) : Calls Tryz.prog 12 #[pv P, .bool sm] w fun e w' => ∃ X SW, e = .returned (pv X) ∧ Wq w' X P SW (tabL t rs sm) ∧ Gr w w' ∧ ∀ b, SW b → w.heap.size ≤ b := by
  have HT := hide (fun (V : World) (g : Gr w V) (x : Nat) (hx : x < 6) => (H.gr g).tab (h64.gr g) sm hx)
  clear H h64
  generalize tabL t rs sm = fs at *
  have B0 : Hid (VArr (w.alloc (.cells #[pv P, .pointer none, .pointer none, .pointer none, .pointer none, .pointer none, .pointer none] 78)) 78 7 w.heap.size (wkG P (fun _ => 0) 0)) := heap_alloc_new w _
  cases sm
  all_goals
    simp only [if_true, if_false, Bool.false_eq_true] at HT
    go_enter Tryz.func12, Tryz.ntmps12
    go_wp2_with fail
    go_loopw [13, 6] (fun v10 _ wr => ∃ (i : Nat) (tb : Nat → Nat) (z : Nat → Value), i ≤ 6 ∧ v10 = .int .i64 (i : Int) ∧ Hid (VArr wr 78 7 w.heap.size (wkG P tb i)) ∧ Hid (∀ x, x < i → TabS wr (fun b => b ≤ w.heap.size) (tb x) (z x) (fs x)) ∧ Hid (Gr w wr)) (fun v10 _ _ => (6 - intOf v10).toNat)
    case atStart => exact ⟨0, fun _ => 0, fun _ => .pointer none, by omega, rfl, B0, fun x hx => absurd hx (by omega), (Gr.refl w).alloc _⟩
    case round =>
      clear B0
      obtain ⟨i, tb, z, hi6, rfl, BX, TS, GW⟩ := hrel
      have hX := BX.out.lt
      by_cases hi : i < 6
      · have hii : decide ((i : Int) < 6) = true := decide_eq_true (by omega)
        have hi0 : (i : Int) < 6 := by omega
        have wi : IntKind.i64.wrap ((i : Int) + 1) = (i : Int) + 1 := by rw [IntKind.wrap_i64]; omega
        have HC := hide (HT.out wr.drew GW.out.drew i hi)
        have HST : Hid (∀ (V : World) (ub : Nat) (y : Value), Gr wr V → TabS V (fun k => k < wr.heap.size) ub y (fs i) → (V.cell? ⟨w.heap.size, 1 + i, none⟩ = some (.pointer none) ∧ V.frozen? ⟨w.heap.size, 1 + i, none⟩ = false ∧ w.heap.size < V.heap.size) ∧ VArr (V.setCell ⟨w.heap.size, 1 + i, none⟩ (pv ub)) 78 7 w.heap.size (wkG P (fun x => if x = i then ub else tb x) (i + 1)) ∧ (∀ x, x < i + 1 → TabS (V.setCell ⟨w.heap.size, 1 + i, none⟩ (pv ub)) (fun b => b ≤ w.heap.size) (if x = i then ub else tb x) (if x = i then y else z x) (fs x)) ∧ Gr w (V.setCell ⟨w.heap.size, 1 + i, none⟩ (pv ub))) := fun V ub y g hU => by
          have hV := BX.out.gr g
          have hs := Below.size g
          have c0 := hV.cell (j := 1 + i) (by omega)
          have e0 : wkG P tb i (1 + i) = .pointer none := by unfold wkG; rw [if_neg (by omega), if_neg (by omega)]
          rw [e0] at c0
          have hk : Kp (fun b => b ≠ w.heap.size) V (V.setCell ⟨w.heap.size, 1 + i, none⟩ (pv ub)) := (Kp.refl _ _).set (fun h => h rfl) _ _
          refine ⟨⟨c0, hV.free _, hV.lt⟩, hV.set (fun j hj => ?_), fun x hx => ?_, (GW.out.trans g).setCell (Nat.le_refl _) _⟩
          · unfold wkG
            by_cases e1 : j = 0
            · rw [if_pos e1, if_pos e1, if_neg (by omega)]
            · rw [if_neg e1, if_neg e1]
              by_cases e2 : j = 1 + i
              · rw [if_pos e2, if_pos (by omega)]
                show pv (if j - 1 = i then ub else tb (j - 1)) = _
                rw [if_pos (by omega)]
              · rw [if_neg e2]
                by_cases e3 : j ≤ i
                · rw [if_pos (by omega), if_pos e3]
                  show pv (if j - 1 = i then ub else tb (j - 1)) = _
                  rw [if_neg (by omega)]
                · rw [if_neg (by omega), if_neg e3]
          · by_cases e : x = i
            · subst e
              rw [if_pos rfl, if_pos rfl]
              have h1 := hU.kept hk (fun e => hU.notTb (by omega)) (fun g hg e => hU.notRow g hg (by omega))
              exact ⟨h1.cell, h1.own, fun e => h1.notTb (by omega), fun g hg e => h1.notRow g hg (by omega), fun b hb => h1.bd b (by omega)⟩
            · rw [if_neg e, if_neg e]
              have h0 := (TS.out x (by omega)).gr g
              exact h0.kept hk (fun e => h0.notTb (by omega)) (fun g hg e => h0.notRow g hg (by omega))
        first
          | (go_upto_region 8 with (fail)
             go_region_with (go_at_call 31; refine HC.out.mono ?_; rintro e w2 ⟨ub, y, rfl, t2, g2'⟩; obtain ⟨⟨q0, q1, q2⟩, v2, ts2, gr2⟩ := HST.out w2 ub y (((Gr.refl wr).drew).trans g2') t2; have V2 := hide v2; have TS2 := hide ts2; have GR2 := hide gr2; clear v2 ts2 gr2 t2 g2'))
          | (go_upto_region 9 with (fail)
             go_region_with (go_at_call 32; refine HC.out.mono ?_; rintro e w2 ⟨ub, y, rfl, t2, g2'⟩; obtain ⟨⟨q0, q1, q2⟩, v2, ts2, gr2⟩ := HST.out w2 ub y (((Gr.refl wr).drew).trans g2') t2; have V2 := hide v2; have TS2 := hide ts2; have GR2 := hide gr2; clear v2 ts2 gr2 t2 g2'))
        all_goals
          go_wp2_with fail
          go_roundw
          case rel => exact ⟨i + 1, _, _, by omega, by congr 1, V2, TS2, GR2⟩
          case measure => simp [intOf]; omega
      · have hii : decide ((i : Int) < 6) = false := decide_eq_false (by omega)
        have e6 : i = 6 := by omega
        have HE : Hid (∃ SW, Wq wr w.heap.size P SW fs ∧ ∀ b, SW b → w.heap.size ≤ b) := by
          subst e6
          refine ⟨_, ⟨tb, z, BX.out.congr (fun j hj => ?_), fun x hx => ?_, rfl⟩, ?_⟩
          · unfold wkG wkF
            by_cases e1 : j = 0
            · rw [if_pos e1, if_pos e1]
            · rw [if_neg e1, if_neg e1, if_pos (by omega)]
          · have h0 := TS.out x hx
            exact ⟨h0.cell, h0.own, fun e => e, fun _ _ e => e, fun _ e => absurd e id⟩
          · rintro b (rfl | ⟨x, hx, hb⟩)
            · exact Nat.le_refl _
            · have h0 := TS.out x hx
              rcases hb with rfl | hb
              · have := h0.notTb; omega
              · have := h0.notRow b hb; omega
        go_wp2_with fail
        go_ret
        obtain ⟨SW, h1, h2⟩ := HE.out
        exact ⟨_, SW, rfl, h1, GW.out, h2⟩
end

end Go.Proofs.YtfcknkanbcndjagGreatDoor
