import Derived.Test.YtcgflhjgllpohagGreatDoorK3
import Derived.Test.YtcgflhjgllpohagGreatDoorK2
import Derived.Test.YtcgflhjgllpohagGreatDoorD2
import Derived.Test.YtcgflhjgllpohagGreatDoorD7
import Derived.Test.YtcgflhjgllpohagGreatDoorD8
import Derived.Lib.AppendZerosOnto
import Derived.Laws.Externs
import Derived.Laws.CopyOwn
import Derived.Deep.RegionLaw
/- CONTRACT OF handpostlaw.far: of all nodes how far they are, as an array. -/
namespace Go.Proofs.YtcgflhjgllpohagGreatDoor
open Go.RowKit
attribute [local go_sem] Ext.all Ext.cell Ext.frozen Ext.lt Ext.lt1 Ext.lt2 Ext.ne Ext.ne'
theorem run_idx6 (g : Nat → Nat) {j : Nat} (hj : j < 6) (w : World) : (Instr.index 41 (.agg (ncells 6 g)) (.int .i64 j)).run Tryz.prog w = .ok (iv (g j)) w := by
  rcases six hj with rfl | rfl | rfl | rfl | rfl | rfl <;> kernel_rfl
theorem NArr.set2 {w : World} {t n p : Nat} {g g' : Nat → Nat} (h : NArr w t n p g) {j v : Nat} {u : Value} (e : ∀ i, i < n → g' i = if i = j then v else g i) : NArr ((w.setCell ⟨p, j, none⟩ u).setCell ⟨p, j, none⟩ (iv v)) t n p g' := by
  have h1 := NArr.set (g' := g') h e
  unfold NArr at h h1 ⊢
  have a : (w.setCell ⟨p, j, none⟩ (iv v)).heap[p]? = some (.cells ((ncells n g).setIfInBounds j (iv v)) t (0, 0)) := by
    simp [World.setCell, Array.getElem?_modify, h]
  have b : (w.setCell ⟨p, j, none⟩ u).heap[p]? = some (.cells ((ncells n g).setIfInBounds j u) t (0, 0)) := by
    simp [World.setCell, Array.getElem?_modify, h]
  have c : ((w.setCell ⟨p, j, none⟩ u).setCell ⟨p, j, none⟩ (iv v)).heap[p]? = some (.cells (((ncells n g).setIfInBounds j u).setIfInBounds j (iv v)) t (0, 0)) := by
    simp [World.setCell, Array.getElem?_modify, h]
  rw [c]
  rw [a] at h1
  rw [← h1]
  congr 2
  simp
theorem NArr.all6 {w : World} {t p : Nat} {g : Nat → Nat} (h : NArr w t 6 p g) : w.cell? ⟨p, 0, none⟩ = some (iv (g 0)) ∧ w.cell? ⟨p, 1, none⟩ = some (iv (g 1)) ∧ w.cell? ⟨p, 2, none⟩ = some (iv (g 2)) ∧ w.cell? ⟨p, 3, none⟩ = some (iv (g 3)) ∧ w.cell? ⟨p, 4, none⟩ = some (iv (g 4)) ∧ w.cell? ⟨p, 5, none⟩ = some (iv (g 5)) :=
  ⟨h.cell (by decide), h.cell (by decide), h.cell (by decide), h.cell (by decide), h.cell (by decide), h.cell (by decide)⟩
abbrev nput (w : World) (p : Nat) (g : Nat → Nat) : World := (((((w.setCell ⟨p, 0, none⟩ (iv (g 0))).setCell ⟨p, 1, none⟩ (iv (g 1))).setCell ⟨p, 2, none⟩ (iv (g 2))).setCell ⟨p, 3, none⟩ (iv (g 3))).setCell ⟨p, 4, none⟩ (iv (g 4))).setCell ⟨p, 5, none⟩ (iv (g 5))
def updn (g : Nat → Nat) (j v : Nat) : Nat → Nat := fun i => if i = j then v else g i
theorem NArr.put {w : World} {t p : Nat} {g : Nat → Nat} (h : NArr w t 6 p g) (G : Nat → Nat) : NArr (nput w p G) t 6 p G := by
  have k0 := h.set (g' := updn g 0 (G 0)) (fun _ _ => rfl)
  have k1 := k0.set (g' := updn (updn g 0 (G 0)) 1 (G 1)) (fun _ _ => rfl)
  have k2 := k1.set (g' := updn (updn (updn g 0 (G 0)) 1 (G 1)) 2 (G 2)) (fun _ _ => rfl)
  have k3 := k2.set (g' := updn (updn (updn (updn g 0 (G 0)) 1 (G 1)) 2 (G 2)) 3 (G 3)) (fun _ _ => rfl)
  have k4 := k3.set (g' := updn (updn (updn (updn (updn g 0 (G 0)) 1 (G 1)) 2 (G 2)) 3 (G 3)) 4 (G 4)) (fun _ _ => rfl)
  have k5 := k4.set (g' := updn (updn (updn (updn (updn (updn g 0 (G 0)) 1 (G 1)) 2 (G 2)) 3 (G 3)) 4 (G 4)) 5 (G 5)) (fun _ _ => rfl)
  refine k5.congr fun j hj => ?_
  rcases six hj with rfl | rfl | rfl | rfl | rfl | rfl <;> rfl
theorem gr_nput {w X : World} {p : Nat} (g : Gr w X) (hp : w.heap.size ≤ p) (G : Nat → Nat) : Gr w (nput X p G) :=
  (((((g.setCell hp _).setCell hp _).setCell hp _).setCell hp _).setCell hp _).setCell hp _

set_option maxRecDepth 20000 in
set_option maxHeartbeats 4000000 in
theorem lfar_any {w : World} {p : Nat} {c : Nat → Nat → Nat} (H : KL w p c) (hc : Lk c) (f : Int) :
    Calls Tryz.prog 13 #[pv p, iv f] w fun e w' => e = .returned (.agg (ncells 6 (dst c f))) ∧ Gr w w' := by
  have hp := H.lt
  have HF := hide (fun (wX : World) (gX : Gr w wX) => far_any (H.gr gX) hc f)
  clear H hc
  generalize dst c f = G at *
  have N0 := hide (NArr.new w 41 6 fun _ => 0)
  have HF1 := hide (HF.out _ ((Gr.refl w).alloc (.cells (ncells 6 fun _ => 0) 41)))
  go_enter Tryz.func13, Tryz.ntmps13
  go_upto_region 3 with (first | (go_at_call 27; refine HF1.out.mono ?_; rintro e w1 ⟨g, rfl, n1, lg, g1⟩))
  refine wp_gen (fun Y => Hid (NArr Y 41 6 w.heap.size (fun _ => 0)) ∧ Hid (NArr Y 41 6 g G) ∧ Hid (NArr Y 41 6 w1.heap.size (fun _ => 0)) ∧ Gr w Y) ⟨(N0.out.gr g1).gr ((Gr.refl _).alloc _), n1.gr ((Gr.refl _).alloc _), NArr.new w1 41 6 (fun _ => 0), (((Gr.refl _).alloc _).trans g1).alloc _⟩ ?_
  rintro Y ⟨YR, YG, YQ, gY⟩
  have e1 : w.heap.size ≠ w1.heap.size := by
    have h1 := n1.lt
    have h2 := lg
    simp at h2
    omega
  have e2 : g ≠ w1.heap.size := by have := n1.lt; omega
  have e3 : w.heap.size ≤ w1.heap.size := by have := Below.size g1; simp at this; omega
  clear N0 n1 g1 HF HF1 lg
  generalize w1.heap.size = q at *
  go_wp2_with fail
  go_loopw [7] (fun v7 wr => ∃ k : Nat, k ≤ 6 ∧ v7 = .int .i64 k ∧ Hid (NArr wr 41 6 w.heap.size (fun _ => 0)) ∧ Hid (NArr wr 41 6 g G) ∧ Hid (NArr wr 41 6 q (fun j => if j < k then G j else 0)) ∧ Gr w wr) (fun v7 _ => 6 - (intOf v7).toNat)
  case atStart => exact ⟨0, by omega, rfl, YR, YG, YQ.out.congr (fun j _ => by simp), gY⟩
  case round =>
    obtain ⟨k, hk, rfl, kR, kG, kQ, gk⟩ := hrel
    clear YR YG YQ gY
    by_cases hlt : k < 6
    · have hki : (k : Int) < 6 := by omega
      have cg := kG.out.cell hlt
      have cq := kQ.out.cell hlt
      have fz := kQ.out.free k
      have lq := kQ.out.lt
      have lg := kG.out.lt
      have HR := hide ((kR.out.other e1 k (iv (-1))).other e1 k (iv (G k)))
      have HG := hide ((kG.out.other e2 k (iv (-1))).other e2 k (iv (G k)))
      have HQ : Hid (NArr ((wr.setCell ⟨q, k, none⟩ (iv (-1))).setCell ⟨q, k, none⟩ (iv (G k))) 41 6 q (fun j => if j < k + 1 then G j else 0)) := kQ.out.set2 fun i _ => by
        by_cases e : i = k
        · subst e; rw [if_pos (by omega), if_pos rfl]
        · rw [if_neg e]
          by_cases e2 : i < k
          · rw [if_pos (by omega), if_pos e2]
          · rw [if_neg (by omega), if_neg e2]
      have HW := hide ((gk.setCell (p := ⟨q, k, none⟩) e3 (iv (-1))).setCell (p := ⟨q, k, none⟩) e3 (iv (G k)))
      clear kR kG kQ
      go_wp2_with fail
      go_roundw
      case rel => exact ⟨k + 1, by omega, by go_num, HR, HG, HQ, HW.out⟩
      case measure => simp [intOf]; omega
    · have hki : ¬ (k : Int) < 6 := by omega
      have og : NArr wr 41 6 q G := kQ.out.congr fun j hj => by rw [if_pos (by omega)]
      obtain ⟨a0, a1, a2, a3, a4, a5⟩ := og.all6
      obtain ⟨b0, b1, b2, b3, b4, b5⟩ := kR.out.all6
      have fr := kR.out.free
      have HR := hide (kR.out.put G)
      have HG := hide (gr_nput gk (Nat.le_refl _) G)
      clear kR kG kQ og
      go_wp2_with fail
      refine bp_gen' (fun V => NArr V 41 6 w.heap.size G ∧ Gr w V) ⟨HR.out, HG.out⟩ ?_
      rintro V ⟨vR, gV⟩
      clear a0 a1 a2 a3 a4 a5 b0 b1 b2 b3 b4 b5 fr
      obtain ⟨b0, b1, b2, b3, b4, b5⟩ := vR.all6
      exact bodyPost_ret (v := .agg (ncells 6 G)) (by simp [results, Tryz.results13, go_sem, *]; rfl) rfl ⟨rfl, gV⟩

end Go.Proofs.YtcgflhjgllpohagGreatDoor

/- CONTRACT OF handpostref.SameInts, at two lists that are the same. -/
namespace Go.Proofs.YtcgflhjgllpohagGreatDoor
open Go.RowKit
attribute [local go_sem] Ext.all Ext.cell Ext.frozen Ext.lt Ext.lt1 Ext.lt2 Ext.ne Ext.ne'
theorem NArr.numAt {w : World} {t n p : Nat} {g : Nat → Nat} (h : NArr w t n p g) : NumAt w (some ⟨p, 0, none⟩) ((List.range n).map g) := by
  refine .inr ⟨p, 0, rfl, h.lt, fun i hi => ?_⟩
  have hi' : i < n := by simpa using hi
  rw [Nat.zero_add, h.cell hi']
  simp
set_option maxHeartbeats 1000000 in
theorem sameInts_eq (w : World) (ao bo : Option Addr) (n k k' : Nat) (l : List Nat) (H : NumAt w ao l) (K : NumAt w bo l) (hn : l.length = n) (hm : n ≤ 1000) :
    Calls Tryz.prog 15 #[.slice ao n k, .slice bo n k'] w fun e w' => e = .returned (.bool true) ∧ Gr w w' := by
  go_enter Tryz.func15, Tryz.ntmps15
  go_wp2_with fail
  go_loopw [5] (fun i wr => ∃ k : Nat, k ≤ n ∧ i = .int .i64 k ∧ Gr w wr) (fun i _ => n - (intOf i).toNat)
  case atStart => exact ⟨0, by omega, rfl, Gr.refl _⟩
  case round =>
    obtain ⟨k, hk, rfl, gg⟩ := hrel
    obtain ⟨d, rfl⟩ := ext_mk gg
    by_cases hlt : k < n
    · have hkl : k < l.length := by omega
      rcases H with rfl | ⟨b, o, rfl, hb, hcs⟩
      · simp at hkl
      rcases K with rfl | ⟨b', o', rfl, hb', hcs'⟩
      · simp at hkl
      have c1 := hcs k hkl
      have c2 := hcs' k hkl
      clear hcs hcs'
      generalize l[k] = x at *
      have hkb : (k : Int) < (n : Int) := by omega
      have hb : ((x : Int) != (x : Int)) = false := by simp
      go_wp2_with fail
      refine wp_region_ext_of (by kernel_rfl) (by kernel_rfl) ?_
      repeat (go_big_quiet_step (fail))
      refine wpQuiet_nil ?_
      rintro _ ⟨d1, rfl⟩
      go_wp2_with fail
      go_roundw
      case rel => exact ⟨k + 1, by omega, by go_num, d1.gr⟩
      case measure => simp [intOf]; omega
    · go_wp2_with fail
      go_ret
      exact ⟨rfl, d.gr⟩

end Go.Proofs.YtcgflhjgllpohagGreatDoor

/- CONTRACT OF handpostref.IsNode. -/
namespace Go.Proofs.YtcgflhjgllpohagGreatDoor
open Go.RowKit
attribute [local go_sem] Ext.all Ext.cell Ext.frozen Ext.lt Ext.lt1 Ext.lt2 Ext.ne Ext.ne'
theorem isNode_is {k : Int} {v : Bool} (h : decide (0 ≤ k ∧ k < 6) = v) (w : World) : Calls Tryz.prog 7 #[iv k] w fun e w' => e = .returned (.bool v) ∧ w' = w := by
  subst h
  by_cases e : 0 ≤ k
  · have e1 : decide (0 ≤ k ∧ k < 6) = decide (k < 6) := by simp [e]
    rw [e1]
    clear e1
    go_enter Tryz.func7, Tryz.ntmps7
    go_wp2
    go_ret
    exact ⟨rfl, rfl⟩
  · have e1 : decide (0 ≤ k ∧ k < 6) = false := by simp [e]
    have e2 : decide (0 ≤ k) = false := decide_eq_false e
    rw [e1]
    clear e1 e
    go_enter Tryz.func7, Tryz.ntmps7
    go_wp2
    go_ret
    exact ⟨rfl, rfl⟩

theorem isNode_ext {k : Int} {v : Bool} (h : decide (0 ≤ k ∧ k < 6) = v) {B : World} (x : Ext B) : Calls Tryz.prog 7 #[iv k] x.out fun e w' => e = .returned (.bool v) ∧ ∃ m : Ext B, w' = m.out :=
  (isNode_is h x.out).mono fun _ _ ⟨he, hw⟩ => ⟨he, x, hw⟩

end Go.Proofs.YtcgflhjgllpohagGreatDoor

/- WHAT BOTH THE PROGRAM'S Net AND THE REFERENCE'S Town NAME: news as numbers in memory, frames. -/
namespace Go.Proofs.YtcgflhjgllpohagGreatDoor
open Go.RowKit

def newsL (l : List Nw) : List Nws := l.map fun x => ((x.f : Int), (x.g : Int), (x.to : Int), x.s, x.d)
theorem newsL_len (l : List Nw) : (newsL l).length = l.length := List.length_map _
theorem newsL_app (a b : List Nw) : newsL (a ++ b) = newsL a ++ newsL b := List.map_append
theorem NwO.own_lt {lo : Nat} {w : World} {v : Value} {l : List Nws} (h : NwO lo w v l) {b : Nat} (e : v.ownBlock = some b) : b < w.heap.size := by
  rcases h.2 with ⟨rfl, _⟩ | ⟨g, cap, cur, rfl, hb, hgg, _⟩
  · cases e
  · cases e; exact lt_of_block hgg
theorem NwO.apart {lo : Nat} {w : World} {v : Value} {l : List Nws} (h : NwO lo w v l) {b : Nat} (e : v.ownBlock = some b) {t : TypeId} {cs : Array Value} {fr : Nat × Nat} {k : Nat} (hk : w.heap[k]? = some (.cells cs t fr)) (ht : t ≠ 80) : b ≠ k := by
  rcases h.2 with ⟨rfl, _⟩ | ⟨g, cap, cur, rfl, hb, hgg, _⟩
  · cases e
  · cases e
    exact blk_ne hgg hk (fun q => ht q.symm)
theorem tell_news {t : Tn} {a b : Nat} (hme : (t.nd a).me = a) : newsL (tellT t a b) = tellL (t.nd a) (b : Int) 6 := by
  unfold newsL tellT
  simp [List.range, List.range.loop, tellL, hme]
theorem Wr.kp {M : Nat → Prop} {p : Nat} {w w' : World} (h : Wr p w w') (hp : ¬ M p) : Kp M w w' := ⟨h.os, h.tape, h.output, h.size, fun k hk hm => h.block k hk (fun e => hp (e ▸ hm))⟩
theorem Kp.wr {M : Nat → Prop} {B w w' : World} {p : Nat} (h : Kp M B w) (k : Wr p w w') (hp : ¬ M p) : Kp M B w' := h.trans (k.kp hp)
/-- A call of a Go function whose contract is known, as one step of a region that draws. -/
theorem step_call2 {P : Program} {ops : Array Oper} {oo : Oper} {a : Act} {w : World} {K : Act → World → Prop} {Q : Exit → Act → World → Prop} {E : Prop}
    (hg : oo.guard = none) (f : FuncId) (args : Array Value) (he : (execOp a.eval oo).run P w = .ok (.enter f args) w)
    {R : Value → World → Prop} (hC : Calls P f args w fun e w' => ∃ r, e = .returned r ∧ R r w') (hK : ∀ r w', R r w' → K (a.put oo.dst r) w') :
    if Region.wanted oo (yielded ops a.tmps) = true then Oper.wp P oo a w K Q else E := by
  have hw : Region.wanted oo (yielded ops a.tmps) = true := by simp [Region.wanted, hg]
  rw [if_pos hw]
  unfold Oper.wp
  rw [he, Oper.upon_enter]
  refine hC.mono fun e w' ⟨r, he, hr⟩ => ?_
  subst he
  exact hK r w' hr

end Go.Proofs.YtcgflhjgllpohagGreatDoor

/- THE PROGRAM'S Net IN MEMORY. -/
namespace Go.Proofs.YtcgflhjgllpohagGreatDoor
open Go.RowKit

/-- The cells of a Net: its links, its nodes, the news. -/
def ntF (k : Nat) (q : Nat → Nat) (v : Value) : Nat → Value := fun i => if i = 0 then pv k else if i < 7 then pv (q (i - 1)) else v
/-- A Net at p: its links at k, its nodes at q 0 .. q 5, its news in v; c: what links cost; t: as numbers. Of the world B the blocks M are as they were, and none of M's is the Net's. -/
structure Ne (M : Nat → Prop) (B w : World) (p k : Nat) (q : Nat → Nat) (v : Value) (c : Nat → Nat → Nat) (t : Tn) : Prop where
  kp : Kp M B w
  bd : ∀ b, M b → b < B.heap.size
  blk : VArr w 48 8 p (ntF k q v)
  lk : KL w k c
  six : Six 92 w q (fun a => sel (t.nd a))
  nw : NwO 0 w v (newsL t.news)
  nop : ¬ M p
  nok : ¬ M k
  noq : ∀ a, a < 6 → ¬ M (q a)
  nov : ∀ b, v.ownBlock = some b → ¬ M b
section
variable {M : Nat → Prop} {B w w' : World} {p k : Nat} {q : Nat → Nat} {v : Value} {c : Nat → Nat → Nat} {t : Tn}
theorem Ne.ext (h : Ne M B w p k q v c t) (g : Gr w w') : Ne M B w' p k q v c t :=
  ⟨h.kp.ext g, h.bd, h.blk.gr g, h.lk.gr g, h.six.gr g, h.nw.gr g, h.nop, h.nok, h.noq, h.nov⟩
theorem Ne.links (h : Ne M B w p k q v c t) : w.cell? ⟨p, 0, none⟩ = some (pv k) := h.blk.cell (j := 0) (by omega)
theorem Ne.node (h : Ne M B w p k q v c t) {a : Nat} (ha : a < 6) : w.cell? ⟨p, 1 + a, none⟩ = some (pv (q a)) := by
  have := h.blk.cell (j := 1 + a) (by omega)
  unfold ntF at this
  rw [if_neg (by omega), if_pos (by omega), show 1 + a - 1 = a by omega] at this
  exact this
theorem Ne.news (h : Ne M B w p k q v c t) : w.cell? ⟨p, 7, none⟩ = some v := h.blk.cell (j := 7) (by omega)
theorem Ne.pk (h : Ne M B w p k q v c t) : p ≠ k := blk_ne h.blk h.lk (by decide)
theorem Ne.pq (h : Ne M B w p k q v c t) {a : Nat} (ha : a < 6) : p ≠ q a := blk_ne h.blk (h.six.at_ a ha) (by decide)
theorem Ne.kq (h : Ne M B w p k q v c t) {a : Nat} (ha : a < 6) : k ≠ q a := blk_ne h.lk (h.six.at_ a ha) (by decide)
theorem Ne.vq (h : Ne M B w p k q v c t) {b : Nat} (e : v.ownBlock = some b) : b ≠ p ∧ b ≠ k ∧ ∀ a, a < 6 → b ≠ q a :=
  ⟨h.nw.apart e h.blk (by decide), h.nw.apart e h.lk (by decide), fun a ha => h.nw.apart e (h.six.at_ a ha) (by decide)⟩
/-- One node has changed. -/
theorem Ne.put (h : Ne M B w p k q v c t) {a : Nat} (ha : a < 6) {m : Md} (hw : Wr (q a) w w') (hm : DAt w' (q a) (sel m)) : Ne M B w' p k q v c { t with nd := updW t.nd a m } := by
  refine ⟨h.kp.wr hw (h.noq a ha), h.bd, hw.varr h.blk (h.pq ha), (hw.block k h.lk.lt (h.kq ha)).trans h.lk, ?_, h.nw.keep (fun b e => hw.block b (h.nw.own_lt e) ((h.vq e).2.2 a ha)), h.nop, h.nok, h.noq, h.nov⟩
  have := h.six.put ha hw hm
  have e : updW (fun a => sel (t.nd a)) a (sel m) = fun x => sel (updW t.nd a m x) := by
    funext x
    by_cases q : x = a
    · rw [q, updW_same, updW_same]
    · rw [updW_ne _ _ q, updW_ne _ _ q]
  rw [e] at this
  exact this
/-- A link has changed. -/
theorem Ne.setLk (h : Ne M B w p k q v c t) {j : Nat} {u : Value} {c' : Nat → Nat → Nat} (hk : KL (w.setCell ⟨k, j, none⟩ u) k c') (f : Nat → Nat → Int) : Ne M B (w.setCell ⟨k, j, none⟩ u) p k q v c' { t with cst := f } :=
  ⟨h.kp.set h.nok _ _, h.bd, h.blk.other h.pk _ _, hk, h.six.keep (fun a ha => Below.heap_setCell w ⟨k, j, none⟩ u (q a) (fun e => h.kq ha e.symm)), h.nw.keep (fun b e => Below.heap_setCell w ⟨k, j, none⟩ u b (h.vq e).2.1), h.nop, h.nok, h.noq, h.nov⟩
/-- The news have changed: the row behind them, and the Net's own word of it. -/
theorem Ne.newsPut {v' : Value} {nl : List Nw} (h : Ne M B w p k q v c t) (g : w.grownBy w' v.ownBlock) (hn : NwO 0 w' v' (newsL nl)) (ho : v'.ownBlock = none ∨ v'.ownBlock = v.ownBlock ∨ v'.ownBlock = some w.heap.size) :
    Ne M B (w'.setCell ⟨p, 7, none⟩ v') p k q v' c { t with news := nl } := by
  have kb : ∀ {b : Nat}, b < w.heap.size → (∀ x, v.ownBlock = some x → x ≠ b) → w'.heap[b]? = w.heap[b]? := fun {b} hb hx => g.block b hb (fun e => hx b e.symm rfl)
  have hblk : VArr w' 48 8 p (ntF k q v) := (kb h.blk.lt (fun x e => (h.vq e).1)).trans h.blk
  have hlk : KL w' k c := (kb h.lk.lt (fun x e => (h.vq e).2.1)).trans h.lk
  have hs : Six 92 w' q (fun a => sel (t.nd a)) := h.six.keep (fun a ha => kb (h.six.at_ a ha).lt (fun x e => (h.vq e).2.2 a ha))
  have hp' : ∀ b, v'.ownBlock = some b → b ≠ p := fun b e => hn.apart e hblk (by decide)
  refine ⟨(h.kp.trans (Kp.grown g (fun b e => h.nov b e))).set h.nop _ _, h.bd, hblk.set fun i hi => ?_, ?_, hs.keep (fun a ha => Below.heap_setCell w' ⟨p, 7, none⟩ v' (q a) (fun e => h.pq ha e.symm)), hn.keep (fun b e => Below.heap_setCell w' ⟨p, 7, none⟩ v' b (hp' b e)), h.nop, h.nok, h.noq, fun b e hm => ?_⟩
  · unfold ntF
    by_cases e0 : i = 0
    · rw [if_pos e0, if_pos e0, if_neg (by omega)]
    · rw [if_neg e0, if_neg e0]
      by_cases e1 : i < 7
      · rw [if_pos e1, if_pos e1, if_neg (by omega)]
      · rw [if_neg e1, if_neg e1, if_pos (by omega)]
  · exact (Below.heap_setCell w' ⟨p, 7, none⟩ v' k (fun e => h.pk e.symm)).trans hlk
  · rcases ho with o | o | o
    · rw [o] at e; cases e
    · exact h.nov b (o ▸ e) hm
    · rw [o] at e
      have := h.bd b hm
      have := h.kp.size
      cases e
      omega
/-- The same Net, as it is now, and other blocks that are to stay. -/
theorem Ne.re (h : Ne M B w p k q v c t) {N : Nat → Prop} (hb : ∀ b, N b → b < w.heap.size) (h1 : ¬ N p) (h2 : ¬ N k) (h3 : ∀ a, a < 6 → ¬ N (q a)) (h4 : ∀ b, v.ownBlock = some b → ¬ N b) : Ne N w w p k q v c t :=
  ⟨Kp.refl _ _, hb, h.blk, h.lk, h.six, h.nw, h1, h2, h3, h4⟩
/-- And back. -/
theorem Ne.back {N : Nat → Prop} {v' : Value} {c' : Nat → Nat → Nat} {t' : Tn} (h : Ne M B w p k q v c t) (h' : Ne N w w' p k q v' c' t') (hMN : ∀ b, M b → N b) : Ne M B w' p k q v' c' t' :=
  ⟨h.kp.trans (h'.kp.mono fun b _ hm => hMN b hm), h.bd, h'.blk, h'.lk, h'.six, h'.nw, h.nop, h.nok, h.noq, fun b e hm => h'.nov b e (hMN b hm)⟩
/-- All stays where no block of the Net's is written. -/
theorem Ne.keep {N : Nat → Prop} (h : Ne M B w p k q v c t) (hk : Kp N w w') (hMN : ∀ b, M b → N b) (h1 : N p) (h2 : N k) (h3 : ∀ a, a < 6 → N (q a)) (h4 : ∀ b, v.ownBlock = some b → N b) : Ne M B w' p k q v c t :=
  ⟨h.kp.trans (hk.mono fun b _ hm => hMN b hm), h.bd, (hk.block p h.blk.lt h1).trans h.blk, (hk.block k h.lk.lt h2).trans h.lk, h.six.keep (fun a ha => hk.block (q a) (h.six.at_ a ha).lt (h3 a ha)), h.nw.keep (fun b e => hk.block b (h.nw.own_lt e) (h4 b e)), h.nop, h.nok, h.noq, h.nov⟩
end

end Go.Proofs.YtcgflhjgllpohagGreatDoor

/- THE PROGRAM'S Net: New. -/
namespace Go.Proofs.YtcgflhjgllpohagGreatDoor
open Go.RowKit
attribute [local go_sem] Ext.all Ext.cell Ext.frozen Ext.lt Ext.lt1 Ext.lt2 Ext.ne Ext.ne'
/-- The cells of a Net that is being made: the first j nodes are there. -/
def ntF2 (k : Nat) (q : Nat → Nat) (j : Nat) : Nat → Value := fun i => if i = 0 then pv k else if i < 7 then (if i - 1 < j then pv (q (i - 1)) else .pointer none) else .slice none 0 0

set_option maxRecDepth 20000 in
set_option maxHeartbeats 8000000 in
theorem netNew_ok (w : World) (M : Nat → Prop) (hM : ∀ b, M b → b < w.heap.size) : Calls Tryz.prog 30 #[] w fun e w' => ∃ p k q, e = .returned (pv p) ∧ Ne M w w' p k q (.slice none 0 0) (fun _ _ => 0) newT ∧ Gr w w' ∧ w.heap.size ≤ p ∧ w.heap.size ≤ k ∧ ∀ a, a < 6 → w.heap.size ≤ q a := by
  have HK := hide (knew_any w)
  have HM := hide hM
  clear hM
  go_enter Tryz.func30, Tryz.ntmps30
  go_upto_region 2 with (go_at_call 57; with_reducible refine HK.out.mono ?_; rintro e V1 ⟨rfl, K1', g1', hs1⟩; have K1 := hide K1'; have G1 := hide g1'; clear K1' g1')
  have N0 : Hid (VArr (V1.alloc (.cells (vcells 8 (ntF2 w.heap.size (fun _ => 0) 0)) 48)) 48 8 V1.heap.size (ntF2 w.heap.size (fun _ => 0) 0)) := VArr.new V1 48 8 _
  refine wp_gen (fun V => Hid (VArr V 48 8 V1.heap.size (ntF2 w.heap.size (fun _ => 0) 0)) ∧ Hid (KL V w.heap.size (fun _ _ => 0)) ∧ Hid (Gr w V)) ⟨N0.out, K1.out.gr ((Gr.refl _).alloc _), G1.out.alloc _⟩ ?_
  clear N0 K1 G1 HK
  generalize hp : V1.heap.size = p at *
  generalize hk : w.heap.size = k at *
  have hkp : k < p := by omega
  have HP := hide hk
  clear hp hk hs1
  rintro V ⟨M0, K0, g0⟩
  have hkw : w.heap.size ≤ k := by have := HP.out; omega
  go_wp2_with fail
  go_loopw [6] (fun v6 wr => ∃ (j : Nat) (q : Nat → Nat), j ≤ 6 ∧ v6 = .int .i64 (j : Int) ∧ Hid (VArr wr 48 8 p (ntF2 k q j)) ∧ Hid (KL wr k (fun _ _ => 0)) ∧ Hid (∀ a, a < j → DAt wr (q a) (sel (newM a)) ∧ w.heap.size ≤ q a ∧ q a ≠ p ∧ ∀ b, b < j → a ≠ b → q a ≠ q b) ∧ Hid (Gr w wr)) (fun v6 _ => (6 - intOf v6).toNat)
  case atStart => exact ⟨0, fun _ => 0, by omega, rfl, M0, K0, fun a ha => by omega, g0⟩
  case round =>
    clear M0 K0 g0
    obtain ⟨j, q, hj6, rfl, M0, K0, Q0, g0⟩ := hrel
    by_cases hj : j < 6
    · have hji : decide ((j : Int) < 6) = true := decide_eq_true (by omega)
      have hj0 : (j : Int) < 6 := by omega
      have wj : IntKind.i64.wrap ((j : Int) + 1) = (j : Int) + 1 := by rw [IntKind.wrap_i64]; omega
      have HN := hide (nnew_ok hj wr.drew)
      have fz := VArr.free M0.out
      have q0 := VArr.cell M0.out (j := 1 + j) (by omega)
      have hp := VArr.lt M0.out
      go_upto_region 5 with (fail)
      go_region_with (go_at_call 58; with_reducible refine HN.out.mono ?_; rintro e V1 ⟨rfl, N1', g1'⟩; have N1 := hide N1'; have G1 := hide ((Gr.refl wr).drewTo g1'); clear N1' g1'; have hp2 := VArr.lt (M0.out.gr G1.out); have fz2 := VArr.free (M0.out.gr G1.out); have r0 := VArr.cell (M0.out.gr G1.out) (j := 1 + j) (by omega))
      all_goals
        have SM : Hid (VArr (V1.setCell ⟨p, 1 + j, none⟩ (pv wr.heap.size)) 48 8 p (ntF2 k (updW q j wr.heap.size) (j + 1))) := (M0.out.gr G1.out).set (fun i hi => by
          unfold ntF2
          by_cases e1 : i = 0
          · rw [if_pos e1, if_pos e1, if_neg (by omega)]
          · rw [if_neg e1, if_neg e1]
            by_cases e2 : i < 7
            · rw [if_pos e2, if_pos e2]
              by_cases e3 : i = 1 + j
              · rw [if_pos e3, if_pos (by omega), show i - 1 = j by omega, updW_same]
              · rw [if_neg e3]
                by_cases e4 : i - 1 < j
                · rw [if_pos e4, if_pos (by omega), updW_ne _ _ (by omega)]
                · rw [if_neg e4, if_neg (by omega)]
            · rw [if_neg e2, if_neg e2, if_neg (by omega)])
        have hkp2 : wr.heap.size ≠ p := by omega
        have hs := Below.size g0.out
        have SK : Hid (KL (V1.setCell ⟨p, 1 + j, none⟩ (pv wr.heap.size)) k (fun _ _ => 0)) := NArr.other (K0.out.gr G1.out) (by omega) _ _
        have SQ : Hid (∀ a, a < j + 1 → DAt (V1.setCell ⟨p, 1 + j, none⟩ (pv wr.heap.size)) (updW q j wr.heap.size a) (sel (newM a)) ∧ w.heap.size ≤ updW q j wr.heap.size a ∧ updW q j wr.heap.size a ≠ p ∧ ∀ b, b < j + 1 → a ≠ b → updW q j wr.heap.size a ≠ updW q j wr.heap.size b) := fun a ha => by
          have lt : ∀ b, b < j → q b < wr.heap.size := fun b hb => (Q0.out b hb).1.lt
          by_cases e : a = j
          · subst e
            rw [updW_same]
            refine ⟨ZArr.other (N1.out) hkp2 _ _, by omega, hkp2, fun b hb hne => ?_⟩
            rw [updW_ne _ _ (fun x => hne x.symm)]
            have := lt b (by omega)
            omega
          · rw [updW_ne _ _ e]
            obtain ⟨h1, h2, h3, h4⟩ := Q0.out a (by omega)
            refine ⟨ZArr.other (h1.gr G1.out) h3 _ _, h2, h3, fun b hb hne => ?_⟩
            by_cases e2 : b = j
            · subst e2
              rw [updW_same]
              have := lt a (by omega)
              omega
            · rw [updW_ne _ _ e2]; exact h4 b (by omega) hne
        have SG := hide ((g0.out.trans G1.out).setCell (p := ⟨p, 1 + j, none⟩) (show w.heap.size ≤ p by omega) (pv wr.heap.size))
        go_wp2_with fail
        go_roundw
        case rel => exact ⟨j + 1, _, by omega, by congr 1, SM, SK, SQ, SG⟩
        case measure => simp [intOf]; omega
    · have hji : decide ((j : Int) < 6) = false := decide_eq_false (by omega)
      have ej : j = 6 := by omega
      subst ej
      have SB : Hid (VArr wr 48 8 p (ntF k q (.slice none 0 0))) := M0.out.congr (fun i hi => by
        unfold ntF2 ntF
        by_cases e1 : i = 0
        · rw [if_pos e1, if_pos e1]
        · rw [if_neg e1, if_neg e1]
          by_cases e2 : i < 7
          · rw [if_pos e2, if_pos e2, if_pos (by omega)]
          · rw [if_neg e2, if_neg e2])
      go_wp2_with fail
      have hwk := HP.out
      go_ret
      have no : ∀ b, w.heap.size ≤ b → ¬ M b := fun b hb hm => by have := HM.out b hm; omega
      have hm : ∀ b, M b → b < w.heap.size := fun b hb => by have := HM.out b hb; omega
      refine ⟨p, k, q, rfl, ⟨g0.out.kp M, hm, SB.out, K0.out, ⟨fun a ha => (Q0.out a ha).1, fun a b ha hb hne => (Q0.out a ha).2.2.2 b hb hne⟩, NwO.nil _ _, no _ (by omega), no _ (by omega), fun a ha => no _ (Q0.out a ha).2.1, fun b e => by cases e⟩, g0.out, by omega, by omega, fun a ha => (Q0.out a ha).2.1⟩

end Go.Proofs.YtcgflhjgllpohagGreatDoor

/- THE PROGRAM'S Net: Way, Best, News. -/
namespace Go.Proofs.YtcgflhjgllpohagGreatDoor
open Go.RowKit
theorem nil_eq (w : World) : (binOp .eql 46 (.slice none 0 0) (.slice none 0 0)).run Tryz.prog w = .ok (.bool true) w := by kernel_rfl
theorem nil_ne (a : Addr) (n c : Nat) (w : World) : (binOp .eql 46 (.slice (some a) n c) (.slice none 0 0)).run Tryz.prog w = .ok (.bool false) w := by kernel_rfl
attribute [local go_sem] nil_eq nil_ne
attribute [local go_sem] Ext.all Ext.cell Ext.frozen Ext.lt Ext.lt1 Ext.lt2 Ext.ne Ext.ne'
/-- The Net's Way and Best. -/
def wayTn (t : Tn) (a k : Int) : Int × Int × Int := if 0 ≤ a ∧ a < 6 then wayOf (t.nd a.toNat) k else (0, 200, -1)
def bestTn (t : Tn) (a k : Int) : Int × Int := if 0 ≤ a ∧ a < 6 then bestOf (sel (t.nd a.toNat)) k else (0, 200)
section
variable {M : Nat → Prop} {B w : World} {p k : Nat} {q : Nat → Nat} {v : Value} {c : Nat → Nat → Nat} {t : Tn}
set_option maxRecDepth 20000 in
set_option maxHeartbeats 8000000 in
theorem netWay_any (H : Ne M B w p k q v c t) (a z : Int) :
    Calls Tryz.prog 41 #[pv p, iv a, iv z] w fun e w' => e = .returned (wayV (wayTn t a z)) ∧ ∃ d : Ext w, w' = d.out := by
  have hp := H.blk.lt
  by_cases e : 0 ≤ a ∧ a < 6
  · have B1 : Hid (decide (0 ≤ a ∧ a < 6) = true) := decide_eq_true e
    obtain ⟨x, rfl⟩ : ∃ x : Nat, a = (x : Int) := ⟨a.toNat, by omega⟩
    have hx : x < 6 := by omega
    have hxi : (x : Int) < 6 := by omega
    have c0 := H.node hx
    have HV : Hid (wayTn t x z = wayOf (sel (t.nd x)) z) := by unfold Hid wayTn; rw [if_pos e, Int.toNat_natCast]; rfl
    have HW := hide (fun (X : World) (g : Gr w X) => nway_any ((H.six.at_ x hx).gr g) z)
    generalize wayOf (sel (t.nd x)) z = vv at *
    obtain ⟨s, d, h⟩ := vv
    simp only [wayV] at HW
    clear H e
    go_enter Tryz.func41, Tryz.ntmps41
    go_wp2_with (first | (go_at_call 24; with_reducible refine (lnode_is B1.out _).mono ?_; rintro e w1 ⟨rfl, hw1⟩; subst hw1) | (go_at_call 65; with_reducible refine (HW.out _ ((Gr.refl _).alloc _)).mono ?_; rintro e _ ⟨rfl, d1, rfl⟩))
    refine bodyPost_ret (v := .agg #[iv s, iv d, iv h]) (by simp [results, Tryz.results41, go_sem]) rfl ⟨by rw [HV.out]; rfl, ext_mk ?_⟩
    exact (((((Gr.refl _).alloc _).trans d1.gr).setCell (by simp) _).setCell (by simp) _).setCell (by simp) _
  · have B1 : Hid (decide (0 ≤ a ∧ a < 6) = false) := decide_eq_false e
    have HV : Hid (wayTn t a z = (0, 200, -1)) := by unfold Hid wayTn; rw [if_neg e]
    clear H e
    go_enter Tryz.func41, Tryz.ntmps41
    go_wp2_with (go_at_call 24; with_reducible refine (lnode_is B1.out _).mono ?_; rintro e w1 ⟨rfl, hw1⟩; subst hw1)
    refine bodyPost_ret (v := .agg #[iv 0, iv 200, iv (-1)]) (by simp [results, Tryz.results41, go_sem]) rfl ⟨by rw [HV.out]; rfl, ext_mk ?_⟩
    first
      | exact (Gr.refl _).alloc _
      | exact (((((Gr.refl _).alloc _).setCell (by simp) _).setCell (by simp) _).setCell (by simp) _)
/-- A copy of the news, in new memory. -/
theorem clone_run {w : World} {g n cap : Nat} {cur : Array Value} {l : List Nws} (hg : w.heap[g]? = some (.cells cur 80 (0, 0))) (hn : l.length = n) (ht : cur.toList.take (n * 5) = celn l) (hm : n ≤ 1000) (ty : TypeId) :
    ∃ v' w', (Builtin.append_ #[46, 46] ty #[.slice (some ⟨w.heap.size, 0, none⟩) 0 0, .slice (some ⟨g, 0, none⟩) n cap]).run Tryz.prog (w.alloc (.cells #[] 80)) = .ok v' w' ∧ OwnN w w' v' l ∧ Gr w w' := by
  obtain ⟨i0, hi, hz0, hz1, hz2⟩ := info_parts Tryz.info80
  have hO : (w.alloc (.cells #[] 80)).ownsRow w.heap.size 80 5 (.slice (some ⟨w.heap.size, 0, none⟩) 0 0) 0 [] := ⟨rfl, .inr ⟨w.heap.size, 0, #[], rfl, Nat.le_refl _, heap_alloc_new w _, Nat.le_refl _, by unfold maxLen; omega, rfl, rfl⟩⟩
  have hlt := lt_of_block hg
  obtain ⟨v', w', h1, h2, h3, _⟩ := run_append_own (P := Tryz.prog) (w.alloc (.cells #[] 80)) w.heap.size 46 ty 80 i0 _ 5 40 Tryz.underlying46 hi hz0 hz1 hz2 (by rfl) (by decide) _ 0 [] hO
      ⟨g, 0, none⟩ n cap (celn l) (by rw [celn_length, hn]) (fun j u hj => by
        have hl : j < n * 5 := by
          have := (List.getElem?_eq_some_iff.1 hj).1
          rwa [celn_length, hn] at this
        rw [← ht, List.getElem?_take_of_lt hl] at hj
        rw [Addr.add_lit]
        have : (w.alloc (.cells #[] 80)).heap[g]? = some (.cells cur 80 (0, 0)) := (Below.block ((Gr.refl w).alloc _) g hlt).trans hg
        simp [World.cell?, this]
        simpa using hj) (celn_one l) (by unfold maxLen; omega) (by omega) (by simp)
  refine ⟨v', w', h1, ?_, ((Gr.refl w).alloc _).grown h3 (fun k hk => by cases hk; exact Nat.le_refl _)⟩
  unfold OwnN
  rw [hn]
  simpa using h2
end

end Go.Proofs.YtcgflhjgllpohagGreatDoor

/- THE PROGRAM'S Net: there; slices.Delete at a row of news; take. -/
namespace Go.Proofs.YtcgflhjgllpohagGreatDoor
open Go.RowKit
attribute [local go_sem] Ext.all Ext.cell Ext.frozen Ext.lt Ext.lt1 Ext.lt2 Ext.ne Ext.ne'
theorem celn_take : ∀ (l : List Nws) (i : Nat), (celn l).take (i * 5) = celn (l.take i)
  | [], i => by simp [celn]
  | x :: l, 0 => by simp [celn]
  | x :: l, i + 1 => by
    rw [show (i + 1) * 5 = i * 5 + 1 + 1 + 1 + 1 + 1 by omega, celn_cons]
    simp only [List.take_succ_cons, celn_take l i, celn_cons]
theorem celn_drop : ∀ (l : List Nws) (i : Nat), (celn l).drop (i * 5) = celn (l.drop i)
  | [], i => by simp [celn]
  | x :: l, 0 => by simp [celn]
  | x :: l, i + 1 => by
    rw [show (i + 1) * 5 = i * 5 + 1 + 1 + 1 + 1 + 1 by omega, celn_cons]
    simp only [List.drop_succ_cons, celn_drop l i]
theorem run_clear_row5 {P : Program} (w : World) (t e ty : TypeId) (z : Value) (ht : P.underlying t = some (.slice e)) (hv : ∀ w, (zeroValue e).run P w = .ok z w) (zs : List Value) (hz : (Builtin.zeroCells z.cells 1).toList = zs) (h1 : ∀ v ∈ zs, v.oneCell' = true)
    (g o c : Nat) (cur : Array Value) (te : TypeId) (hg : w.heap[g]? = some (.cells cur te (0, 0))) (hfit : o + zs.length ≤ cur.size) :
    (Builtin.clear_ #[t] ty #[.slice (some ⟨g, o, none⟩) 1 c]).run P w = .ok (.tuple #[]) (w.setRow g (cur.toList.take o ++ zs ++ cur.toList.drop (o + zs.length)).toArray) := by
  have hst := run_storeCells_at P g o te zs 0 cur w hg (by simpa using hfit) h1
  simp only [Nat.add_zero] at hst
  simp [Builtin.clear_, run_underlying ht, hv, hz, hst]
/-- A row whose first cells are these news. -/
structure NRow (w : World) (g n cap : Nat) (cur : Array Value) (l : List Nws) : Prop where
  block : w.heap[g]? = some (.cells cur 80 (0, 0))
  len : l.length = n
  le : n ≤ cap
  max : cap ≤ maxLen
  size : cur.size = cap * 5
  take : cur.toList.take (n * 5) = celn l
theorem NRow.cell {w : World} {g n cap : Nat} {cur : Array Value} {l : List Nws} (h : NRow w g n cap cur l) (j : Nat) (u : Value) (hj : (celn l)[j]? = some u) : w.cell? ⟨g, j, none⟩ = some u := by
  have hl : j < n * 5 := by
    have := (List.getElem?_eq_some_iff.1 hj).1
    rwa [celn_length, h.len] at this
  rw [← h.take, List.getElem?_take_of_lt hl] at hj
  simp [World.cell?, h.block]
  simpa using hj
theorem NRow.own {w : World} {g n cap : Nat} {cur : Array Value} {l : List Nws} (h : NRow w g n cap cur l) : NwO 0 w (.slice (some ⟨g, 0, none⟩) n cap) l := by
  unfold NwO
  rw [h.len]
  exact ⟨by rw [celn_length, h.len], .inr ⟨g, cap, cur, rfl, Nat.zero_le _, h.block, h.le, h.max, h.size, h.take⟩⟩
theorem take_two {α : Type} (a b c : List α) (k : Nat) (h : a.length + b.length = k) : (a ++ b ++ c).take k = a ++ b := by
  rw [← h, ← List.length_append]; exact List.take_left
theorem zeros5 : (Builtin.zeroCells (Value.agg #[iv 0, iv 0, iv 0, iv 0, iv 0]).cells 1).toList = [iv 0, iv 0, iv 0, iv 0, iv 0] := by kernel_rfl
theorem zero_news (w : World) : (zeroValue 80).run Tryz.prog w = .ok (.agg #[iv 0, iv 0, iv 0, iv 0, iv 0]) w := by
  obtain ⟨i0, hi, hz0, hz1, hz2⟩ := info_parts Tryz.info80
  simp [zeroValue, typeInfo, hi, hz0]

set_option maxRecDepth 20000 in
set_option maxHeartbeats 8000000 in
theorem deleteN_any (w : World) (g n cap i j : Nat) (cur : Array Value) (l : List Nws) (h : NRow w g n cap cur l) (hj1 : j = i + 1) (hj2 : j ≤ n) (hm : n ≤ 1000) :
    Calls Tryz.prog 80 #[.slice (some ⟨g, 0, none⟩) n cap, .int .i64 i, .int .i64 j] w fun e w' => e = .returned (.slice (some ⟨g, 0, none⟩) (n - 1) cap) ∧ ∃ cur', w' = w.drew.setRow g cur' ∧ NRow w' g (n - 1) cap cur' (l.take i ++ l.drop j) := by
  obtain ⟨i0, hi0, hz0, hz1, hz2⟩ := info_parts Tryz.info80
  have hmax : cap ≤ 9223372036854775807 := h.max
  have hcap := h.le
  have hlt : i < j := by omega
  have HJ : Hid (j = i + 1) := hj1
  clear hj1
  have hic : i ≤ cap := by omega
  have hjc : j ≤ cap := by omega
  have hne : ¬ (i = j) := by omega
  have hkn : i + (n - j) = n - 1 := by have := HJ.out; omega
  -- behind the append
  obtain ⟨cur1, hcur1⟩ : ∃ cur1 : Array Value, cur1 = (cur.toList.take (i * 5) ++ celn (l.drop j) ++ cur.toList.drop (i * 5 + (celn (l.drop j)).length)).toArray := ⟨_, rfl⟩
  have hdl : (celn (l.drop j)).length = (n - j) * 5 := by rw [celn_length, List.length_drop, h.len]
  have hsz := h.size
  have hsz1 : cur1.size = cap * 5 := by
    rw [hcur1]; simp only [List.size_toArray, List.length_append, List.length_take, List.length_drop, Array.length_toList, hdl]; omega
  obtain ⟨A, hA, hsrc⟩ : ∃ A : Addr, (if cap = j then some (⟨g, 0, none⟩ : Addr) else some ⟨g, j * 5, none⟩) = some A ∧ Hid (∀ t u, (celn (l.drop j))[t]? = some u → w.drew.cell? (A.add t) = some u) := by
    by_cases hc : cap = j
    · refine ⟨⟨g, 0, none⟩, by simp [hc], fun t u hu => ?_⟩
      have : celn (l.drop j) = [] := List.eq_nil_of_length_eq_zero (by rw [hdl]; omega)
      rw [this] at hu; simp at hu
    · refine ⟨⟨g, j * 5, none⟩, by simp [hc], fun t u hu => ?_⟩
      rw [Addr.add_lit]
      show w.cell? _ = _
      refine h.cell _ _ ?_
      rw [← celn_drop, List.getElem?_drop] at hu
      exact hu
  have hrun : Hid (∀ ty, (Builtin.append_ #[46, 46] ty #[.slice (some ⟨g, 0, none⟩) i cap, .slice (some A) (n - j) (cap - j)]).run Tryz.prog w.drew = .ok (.slice (some ⟨g, 0, none⟩) (i + (n - j)) cap) (w.drew.setRow g cur1)) := fun ty => by
    have := run_append_room (P := Tryz.prog) w.drew 46 ty 80 i0 Tryz.underlying46 hi0 g i cap cur h.block A (n - j) (cap - j) (celn (l.drop j)) (by rw [hz1, hdl]) hsrc.out (celn_one _) (by omega) (by rw [hz1, hdl]; omega)
    rw [hz1, ← hcur1] at this
    exact this
  obtain ⟨W1, hW1⟩ : ∃ W1, W1 = w.drew.setRow g cur1 := ⟨_, rfl⟩
  have hb1 : W1.heap[g]? = some (.cells cur1 80 (0, 0)) := by rw [hW1]; exact setRow_heap _ g cur cur1 _ _ h.block
  obtain ⟨cur2, hcur2⟩ : ∃ cur2 : Array Value, cur2 = (cur1.toList.take ((n - 1) * 5) ++ [iv 0, iv 0, iv 0, iv 0, iv 0] ++ cur1.toList.drop ((n - 1) * 5 + 5)).toArray := ⟨_, rfl⟩
  have hcl : ∀ ty c, (Builtin.clear_ #[46] ty #[.slice (some ⟨g, (n - 1) * 5, none⟩) 1 c]).run Tryz.prog W1 = .ok (.tuple #[]) (W1.setRow g cur2) := fun ty c => by
    have := run_clear_row5 (P := Tryz.prog) W1 46 80 ty _ Tryz.underlying46 zero_news _ zeros5 (by intro v hv; simp at hv; rw [hv]; rfl) g ((n - 1) * 5) c cur1 _ hb1 (by simp; omega)
    simp only [List.length_cons, List.length_nil] at this
    rw [this, hcur2]
  have hend : NRow (w.drew.setRow g cur2) g (n - 1) cap cur2 (l.take i ++ l.drop j) := by
    have hl : (l.take i).length = i := by rw [List.length_take, h.len]; omega
    refine ⟨setRow_heap _ g cur cur2 _ _ h.block, by rw [List.length_append, List.length_drop, h.len, hl]; omega, by omega, h.max, ?_, ?_⟩
    · rw [hcur2]; simp only [List.size_toArray, List.length_append, List.length_take, List.length_drop, Array.length_toList, List.length_cons, List.length_nil]; omega
    · have e1 : cur.toList.take (i * 5) = celn (l.take i) := by
        rw [← celn_take, ← h.take, List.take_take]; congr 1; omega
      have e2 : cur1.toList.take ((n - 1) * 5) = celn (l.take i ++ l.drop j) := by
        rw [hcur1, e1, celn_append]
        exact take_two _ _ _ _ (by rw [celn_length, celn_length, hl, List.length_drop, h.len]; omega)
      rw [hcur2, e2]
      show ((celn (l.take i ++ l.drop j) ++ [iv 0, iv 0, iv 0, iv 0, iv 0] ++ cur1.toList.drop _).take ((n - 1) * 5)) = _
      rw [List.append_assoc]
      have : (celn (l.take i ++ l.drop j)).length = (n - 1) * 5 := by rw [celn_length, List.length_append, hl, List.length_drop, h.len]; omega
      rw [← this]; exact List.take_left
  have HE := hide hend
  have HW : Hid (W1 = w.drew.setRow g cur1) := hW1
  have h1n : ¬ (cap = n - 1) := by have := HJ.out; omega
  have hnn : n - (n - 1) = 1 := by have := HJ.out; omega
  clear hend hW1 hcur2 hcur1 hb1 h hdl
  have hpn : n - 1 ≤ n := by omega
  have hpc : n - 1 ≤ cap := by omega
  generalize n - 1 = p at *
  go_enter Tryz.func80, Tryz.ntmps80
  go_wp2_with fail
  go_region_law (refine step_append_eq rfl _ _ 46 46 rfl _ _ (by simp [Act.eval, Act.put]) (by simp [Act.eval, Act.put]) (hrun.out _) ?_; rw [← HW.out, hkn])
  go_wp2
  go_ret
  refine ⟨rfl, cur2, ?_, ?_⟩
  · rw [HW.out, setRow_setRow]
  · rw [HW.out, setRow_setRow]; exact HE.out

section
variable {M : Nat → Prop} {B w : World} {p k : Nat} {q : Nat → Nat} {v : Value} {c : Nat → Nat → Nat} {t : Tn}
set_option maxRecDepth 20000 in
theorem there_is (H : Ne M B w p k q v c t) (n : Int) {r : Bool} (hr : decide (0 ≤ n ∧ n < (t.news.length : Int)) = r) : Calls Tryz.prog 79 #[pv p, iv n] w fun e w' => e = .returned (.bool r) ∧ w' = w := by
  have hp := H.blk.lt
  have c0 := H.news
  obtain ⟨ao, cv, hv, _, _, _⟩ := H.nw.shape
  rw [newsL_len] at hv
  subst hv
  clear H
  subst hr
  by_cases h1 : 0 ≤ n
  · have hd : decide (0 ≤ n) = true := by simpa using h1
    have ho : decide (0 ≤ n ∧ n < (t.news.length : Int)) = decide (n < (t.news.length : Int)) := by congr 1; simp only [eq_iff_iff]; omega
    rw [ho]; clear ho
    go_enter Tryz.func79, Tryz.ntmps79
    go_wp2
    go_ret
    exact ⟨rfl, rfl⟩
  · have hd : decide (0 ≤ n) = false := by simpa using h1
    have ho : decide (0 ≤ n ∧ n < (t.news.length : Int)) = false := decide_eq_false (by omega)
    rw [ho]; clear ho
    go_enter Tryz.func79, Tryz.ntmps79
    go_wp2
    go_ret
    exact ⟨rfl, rfl⟩
end

end Go.Proofs.YtcgflhjgllpohagGreatDoor

/- THE PROGRAM'S Net: take. -/
namespace Go.Proofs.YtcgflhjgllpohagGreatDoor
open Go.RowKit
attribute [local go_sem] Ext.all Ext.cell Ext.frozen Ext.lt Ext.lt1 Ext.lt2 Ext.ne Ext.ne'
/-- News as a value; as five numbers. -/
def nwV (x : Nw) : Value := .agg #[iv (x.f : Int), iv (x.g : Int), iv (x.to : Int), iv x.s, iv x.d]
def nsF (x : Nw) : Nat → Int := fun i => if i = 0 then (x.f : Int) else if i = 1 then (x.g : Int) else if i = 2 then (x.to : Int) else if i = 3 then x.s else x.d
theorem nsF_cells {w : World} {X : Nat} {x : Nw} (h : ZArr w 80 5 X (nsF x)) : w.cell? ⟨X, 0, none⟩ = some (iv (x.f : Int)) ∧ w.cell? ⟨X, 1, none⟩ = some (iv (x.g : Int)) ∧ w.cell? ⟨X, 2, none⟩ = some (iv (x.to : Int)) ∧ w.cell? ⟨X, 3, none⟩ = some (iv x.s) ∧ w.cell? ⟨X, 4, none⟩ = some (iv x.d) :=
  ⟨h.cell (j := 0) (by omega), h.cell (j := 1) (by omega), h.cell (j := 2) (by omega), h.cell (j := 3) (by omega), h.cell (j := 4) (by omega)⟩
/-- Five numbers put anew. -/
abbrev put5 (U : World) (X : Nat) (x : Nw) : World := ((((U.setCell ⟨X, 0, none⟩ (iv (x.f : Int))).setCell ⟨X, 1, none⟩ (iv (x.g : Int))).setCell ⟨X, 2, none⟩ (iv (x.to : Int))).setCell ⟨X, 3, none⟩ (iv x.s)).setCell ⟨X, 4, none⟩ (iv x.d)
theorem put5_at {U : World} {t X : Nat} {g : Nat → Int} (h : ZArr U t 5 X g) (x : Nw) : ZArr (put5 U X x) t 5 X (nsF x) := by
  refine ((((h.set (g' := fun i => if i = 0 then (x.f : Int) else g i) (fun _ _ => rfl)).set (g' := fun i => if i = 0 then (x.f : Int) else if i = 1 then (x.g : Int) else g i) ?_).set (g' := fun i => if i = 0 then (x.f : Int) else if i = 1 then (x.g : Int) else if i = 2 then (x.to : Int) else g i) ?_).set (g' := fun i => if i = 0 then (x.f : Int) else if i = 1 then (x.g : Int) else if i = 2 then (x.to : Int) else if i = 3 then x.s else g i) ?_).set ?_
  all_goals
    intro i hi
    rcases (show i = 0 ∨ i = 1 ∨ i = 2 ∨ i = 3 ∨ i = 4 by omega) with rfl | rfl | rfl | rfl | rfl <;> rfl
theorem put5_wr (U : World) (X : Nat) (x : Nw) : Wr X U (put5 U X x) := (((((Wr.refl X U).set _ _).set _ _).set _ _).set _ _).set _ _
theorem NRow.gr {w w' : World} {g n cap : Nat} {cur : Array Value} {l : List Nws} (h : NRow w g n cap cur l) (k : Gr w w') : NRow w' g n cap cur l := ⟨(Below.block k g (lt_of_block h.block)).trans h.block, h.len, h.le, h.max, h.size, h.take⟩
section
variable {M : Nat → Prop} {B w w' : World} {p k : Nat} {q : Nat → Nat} {v : Value} {c : Nat → Nat → Nat} {t : Tn}
/-- A block that is not the Net's is written. -/
theorem Ne.aside (h : Ne M B w p k q v c t) {X : Nat} (hw : Wr X w w') (h1 : p ≠ X) (h2 : k ≠ X) (h3 : ∀ a, a < 6 → q a ≠ X) (h4 : ∀ b, v.ownBlock = some b → b ≠ X) (hM : ¬ M X) : Ne M B w' p k q v c t :=
  h.keep (N := fun b => b ≠ X) ⟨hw.os, hw.tape, hw.output, hw.size, hw.block⟩ (fun _ hb e => hM (e ▸ hb)) h1 h2 h3 h4
/-- One that is younger. -/
theorem Ne.young (h : Ne M B w p k q v c t) {V W : World} {v' : Value} {c' : Nat → Nat → Nat} {t' : Tn} (h' : Ne M B V p k q v' c' t') (hv : ∀ b, v'.ownBlock = some b → b < w.heap.size) {X : Nat} (hX : w.heap.size ≤ X) (hw : Wr X V W) : Ne M B W p k q v' c' t' :=
  h'.aside hw (fun e => by have := h.blk.lt; omega) (fun e => by have := h.lk.lt; omega) (fun a ha e => by have := (h.six.at_ a ha).lt; omega) (fun b e1 e2 => by have := hv b e1; omega) (fun hm => by have := h.bd X hm; have := h.kp.size; omega)
theorem grown_row (w : World) (g : Nat) (cs : Array Value) : w.grownBy (w.drew.setRow g cs) (some g) :=
  ⟨rfl, rfl, rfl, by simp, fun k _ hk => setRow_other _ g k cs (fun e => hk (by rw [e]))⟩
set_option maxRecDepth 20000 in
set_option maxHeartbeats 8000000 in
theorem take_none (H : Ne M B w p k q v c t) {n : Int} (hn : ¬ (0 ≤ n ∧ n < (t.news.length : Int))) :
    Calls Tryz.prog 55 #[pv p, iv n] w fun e w' => e = .returned (.tuple #[.agg #[iv 0, iv 0, iv 0, iv 0, iv 0], iv 6]) ∧ Gr w w' := by
  have HT := hide (there_is (H.ext ((Gr.refl w).alloc (.cells #[iv 0, iv 0, iv 0, iv 0, iv 0] 80))) n (decide_eq_false hn))
  clear H hn
  go_enter Tryz.func55, Tryz.ntmps55
  go_wp2_with (go_at_call 79; with_reducible refine HT.out.mono ?_; rintro e w1 ⟨rfl, hw1⟩; have hw2 := hw1.symm; clear hw1; subst hw2)
  refine bodyPost_ret (v := .tuple #[.agg #[iv 0, iv 0, iv 0, iv 0, iv 0], iv 6]) (by simp [results, Tryz.results55, go_sem]) rfl ⟨rfl, ?_⟩
  first
    | exact (Gr.refl _).alloc _
    | exact ((((((Gr.refl _).alloc _).setCell (by simp) _).setCell (by simp) _).setCell (by simp) _).setCell (by simp) _).setCell (by simp) _
set_option maxRecDepth 20000 in
set_option maxHeartbeats 8000000 in
theorem take_ok (H : Ne M B w p k q v c t) (hl : t.news.length ≤ 40) {n : Nat} (hn : n < t.news.length) {x : Nw} (hx : t.news[n] = x) :
    Calls Tryz.prog 55 #[pv p, iv (n : Int)] w fun e w' => ∃ v', e = .returned (.tuple #[nwV x, iv 0]) ∧ Ne M B w' p k q v' c { t with news := dropAt t.news n } := by
  have hni : (n : Int) < (t.news.length : Int) := by omega
  have g0 : Gr w (w.alloc (.cells #[iv 0, iv 0, iv 0, iv 0, iv 0] 80)) := (Gr.refl w).alloc _
  have HT := hide (there_is (H.ext g0) (n : Int) (decide_eq_true ⟨by omega, hni⟩))
  have hp := H.blk.lt
  have c0 := H.news
  have hlen := newsL_len t.news
  obtain ⟨g, cap, cur, hv, R0⟩ : ∃ g cap cur, v = .slice (some ⟨g, 0, none⟩) t.news.length cap ∧ NRow w g t.news.length cap cur (newsL t.news) := by
    rcases H.nw.2 with ⟨_, h0⟩ | ⟨g, cap, cur, hv, hb, hg, hn', hc, hs, ht⟩
    · exfalso; omega
    · rw [hlen] at hv ht hn'
      exact ⟨g, cap, cur, hv, ⟨hg, hlen, hn', hc, hs, ht⟩⟩
  subst hv
  have hg := lt_of_block R0.block
  have hgp : g ≠ p := (H.vq (b := g) rfl).1
  have hcn := celn_at (newsL t.news) n (by omega)
  have hx5 : (newsL t.news)[n]'(by omega) = ((x.f : Int), (x.g : Int), (x.to : Int), x.s, x.d) := by
    unfold newsL
    rw [List.getElem_map, hx]
  rw [hx5] at hcn
  obtain ⟨a0, a1, a2, a3, a4⟩ := hcn
  have d0 := R0.cell _ _ a0
  have d1 := R0.cell _ _ a1
  have d2 := R0.cell _ _ a2
  have d3 := R0.cell _ _ a3
  have d4 := R0.cell _ _ a4
  simp only at d0 d1 d2 d3 d4
  clear a0 a1 a2 a3 a4 hx5
  have hfz := H.blk.free
  have wn : IntKind.i64.wrap ((n : Int) + 1) = (n : Int) + 1 := by rw [IntKind.wrap_i64]; omega
  have HH := hide H
  have HX := hide hx
  have HR := hide R0
  have HL := hide hl
  clear H hx R0 hl g0
  go_enter Tryz.func55, Tryz.ntmps55
  go_upto_region 4 with (go_at_call 79; with_reducible refine HT.out.mono ?_; rintro e w1 ⟨rfl, hw1⟩; have hw2 := hw1.symm; clear hw1; subst hw2)
  refine wp_gen (fun V => Hid (Ne M B V p k q (.slice (some ⟨g, 0, none⟩) t.news.length cap) c t) ∧ Hid (NRow V g t.news.length cap cur (newsL t.news)) ∧ Hid (ZArr V 80 5 w.heap.size (fun _ => 0)) ∧ Hid (ZArr V 80 5 (w.heap.size + 1) (nsF x))) ⟨HH.out.ext (((Gr.refl w).alloc _).alloc _), HR.out.gr (((Gr.refl w).alloc _).alloc _), ZArr.gr (show ZArr _ 80 5 w.heap.size (fun _ => 0) from heap_alloc_new w _) ((Gr.refl _).alloc _), by
    have := heap_alloc_new (w.alloc (.cells #[iv 0, iv 0, iv 0, iv 0, iv 0] 80)) (.cells #[iv (x.f : Int), iv (x.g : Int), iv (x.to : Int), iv x.s, iv x.d] 80)
    have e : (w.alloc (.cells #[iv 0, iv 0, iv 0, iv 0, iv 0] 80)).heap.size = w.heap.size + 1 := by simp
    rw [e] at this
    exact this⟩ ?_
  have LT : Hid (p < w.heap.size ∧ g < w.heap.size) := ⟨hp, hg⟩
  clear HT c0 hp hg d0 d1 d2 d3 d4 hfz
  have HY : Hid (∀ {V W : World} {v' : Value} {c' : Nat → Nat → Nat} {t' : Tn}, Ne M B V p k q v' c' t' → (∀ b, v'.ownBlock = some b → b < w.heap.size) → Wr w.heap.size V W → Ne M B W p k q v' c' t') := fun h1 h2 h3 => HH.out.young h1 h2 (Nat.le_refl _) h3
  clear HH HR
  generalize w.heap.size = X at *
  rintro V ⟨H1, R1, Z1, Z2⟩
  have hp : p < V.heap.size := H1.out.blk.lt
  have c0 := H1.out.news
  have HD := deleteN_any V g t.news.length cap n (n + 1) cur (newsL t.news) R1.out rfl hn (by have := HL.out; omega)
  have e1 : ((n + 1 : Nat) : Int) = (n : Int) + 1 := by omega
  rw [e1] at HD
  have HDE : Hid (Calls Tryz.prog 80 #[.slice (some ⟨g, 0, none⟩) t.news.length cap, iv (n : Int), iv ((n : Int) + 1)] V fun e W => e = .returned (.slice (some ⟨g, 0, none⟩) (t.news.length - 1) cap) ∧ Ne M B (W.setCell ⟨p, 7, none⟩ (.slice (some ⟨g, 0, none⟩) (t.news.length - 1) cap)) p k q (.slice (some ⟨g, 0, none⟩) (t.news.length - 1) cap) c { t with news := dropAt t.news n } ∧ ZArr W 80 5 X (fun _ => 0) ∧ ZArr W 80 5 (X + 1) (nsF x) ∧ W.cell? ⟨p, 7, none⟩ = some (.slice (some ⟨g, 0, none⟩) t.news.length cap) ∧ W.frozen? ⟨p, 7, none⟩ = false ∧ p < W.heap.size) := HD.mono fun e W ⟨he, cur', hW, R2⟩ => by
    obtain ⟨hl1, hl2⟩ := LT.out
    have kept : ∀ b, b ≠ g → W.heap[b]? = V.heap[b]? := fun b hb => by rw [hW]; exact setRow_other V.drew g b cur' hb
    have hbp : VArr W 48 8 p (ntF k q (.slice (some ⟨g, 0, none⟩) t.news.length cap)) := (kept p hgp.symm).trans H1.out.blk
    refine ⟨he, ?_, (kept X (by omega)).trans Z1.out, (kept (X + 1) (by omega)).trans Z2.out, ?_, hbp.free 7, hbp.lt⟩
    · refine H1.out.newsPut (by rw [hW]; exact grown_row V g cur') ?_ (.inr (.inl rfl))
      have := R2.own
      have e2 : newsL (dropAt t.news n) = (newsL t.news).take n ++ (newsL t.news).drop (n + 1) := by
        unfold dropAt newsL
        rw [List.map_append, List.map_take, List.map_drop]
      rw [e2]; exact this
    · exact hbp.cell (j := 7) (by omega)
  clear HD e1 R1
  go_upto_region 5 with (go_at_call 80; with_reducible refine HDE.out.mono ?_; rintro e W ⟨rfl, H2', z1', z2', f1, f2, f3⟩; have H2 := hide H2'; have Z3 := hide z1'; have Z4 := hide z2'; clear H2' z1' z2')
  have ZX : Hid (p ≠ X ∧ p ≠ X + 1) := by have := LT.out; exact ⟨by omega, by omega⟩
  refine wp_gen (fun V => Hid (Ne M B V p k q (.slice (some ⟨g, 0, none⟩) (t.news.length - 1) cap) c { t with news := dropAt t.news n }) ∧ Hid (ZArr V 80 5 X (fun _ => 0)) ∧ Hid (ZArr V 80 5 (X + 1) (nsF x))) ⟨H2.out, Z3.out.other (fun e => ZX.out.1 e.symm) _ _, Z4.out.other (fun e => ZX.out.2 e.symm) _ _⟩ ?_
  clear H2 Z3 Z4 f1 f2 f3 HDE Z1 Z2 H1 c0 hp
  rintro U ⟨H3, Z1, Z2⟩
  obtain ⟨y0, y1, y2, y3, y4⟩ := nsF_cells Z2.out
  have fz := Z1.out.free
  have x0 := Z1.out.cell (j := 0) (by omega)
  have x1 := Z1.out.cell (j := 1) (by omega)
  have x2 := Z1.out.cell (j := 2) (by omega)
  have x3 := Z1.out.cell (j := 3) (by omega)
  have x4 := Z1.out.cell (j := 4) (by omega)
  have hX := Z1.out.lt
  have hX1 := Z2.out.lt
  go_wp2_with fail
  refine bp_gen' (fun Y => Hid (ZArr Y 80 5 X (nsF x)) ∧ Hid (Ne M B Y p k q (.slice (some ⟨g, 0, none⟩) (t.news.length - 1) cap) c { t with news := dropAt t.news n })) ⟨put5_at Z1.out x, HY.out H3.out (fun b e => by cases e; exact LT.out.2) (put5_wr U X x)⟩ ?_
  clear y0 y1 y2 y3 y4 x0 x1 x2 x3 x4 fz hX hX1 Z1 Z2 H3
  rintro Y ⟨ZY, NY⟩
  obtain ⟨y0, y1, y2, y3, y4⟩ := nsF_cells ZY.out
  have hX := ZY.out.lt
  refine bodyPost_ret (v := .tuple #[.agg #[iv (x.f : Int), iv (x.g : Int), iv (x.to : Int), iv x.s, iv x.d], iv 0]) (by simp [results, Tryz.results55, go_sem, y0, y1, y2, y3, y4]) rfl ⟨_, rfl, NY.out⟩
end

end Go.Proofs.YtcgflhjgllpohagGreatDoor

/- THE PROGRAM'S Net: hear. -/
namespace Go.Proofs.YtcgflhjgllpohagGreatDoor
open Go.RowKit
attribute [local go_sem] Ext.all Ext.cell Ext.frozen Ext.lt Ext.lt1 Ext.lt2 Ext.ne Ext.ne'
section
variable {M : Nat → Prop} {B w w' : World} {p k : Nat} {q : Nat → Nat} {v : Value} {c : Nat → Nat → Nat} {t : Tn}
/-- What the node says, as the Net's own word. -/
theorem hear_step (A : TnA t c) {y : Nw} (hy : y ∈ t.news) : hcode (t.nd y.g) y.f y.to y.s y.d = (hearC t y).2 ∧ { t with nd := updW t.nd y.g (hrM (t.nd y.g) y.f y.to y.s y.d) } = (hearC t y).1 := by
  obtain ⟨h1, h2, h3, h4, h5, h6, h7, _⟩ := A.ok.news y hy
  have hme := A.s.tc.me y.g h2
  have ok : hrOk (t.nd y.g) y.f y.to y.s y.d := ⟨⟨⟨by omega, by omega⟩, by rw [hme]; omega⟩, ⟨by omega, by omega⟩, h5, h6, h7⟩
  unfold hcode hrM hearC
  rw [Int.toNat_natCast, Int.toNat_natCast, if_pos ok]
  by_cases e : (t.nd y.g).cost y.f = 0
  · rw [if_pos e, if_pos e, if_neg (fun x => x.2 e)]
    exact ⟨rfl, by rw [updW_id _ _ _ rfl]⟩
  · rw [if_neg e, if_neg e, if_pos ⟨ok, e⟩]
    exact ⟨rfl, rfl⟩
theorem nodeHear (H : Ne M B w p k q v c t) (A : TnA t c) {y : Nw} (hy : y ∈ t.news) {t' : Tn} (hnd : t'.nd = t.nd) (H' : Ne M B w p k q v c t') :
    Calls Tryz.prog 42 #[pv (q y.g), nwV y] w fun e w' => e = .returned (iv (hearC t y).2) ∧ Ne M B w' p k q v c { t' with nd := (hearC t y).1.nd } ∧ Wr (q y.g) w w' := by
  obtain ⟨h1, h2, h3, h4, h5, h6, h7, _⟩ := A.ok.news y hy
  obtain ⟨e1, e2⟩ := hear_step A hy
  refine (nhearN (H.six.at_ y.g h2) (A.s.z y.g h2) (y.f : Int) (y.g : Int) (y.to : Int) y.s y.d).mono fun e w' ⟨he, hm, hw⟩ => ⟨by rw [he, e1], ?_, hw⟩
  have := H'.put h2 hw hm
  rw [hnd] at this
  rw [← e2]
  exact this
end
set_option maxRecDepth 20000 in
set_option maxHeartbeats 8000000 in
theorem hear_none {M : Nat → Prop} {B w : World} {p k : Nat} {q : Nat → Nat} {v : Value} {c : Nat → Nat → Nat} {t : Tn} (H : Ne M B w p k q v c t) {n : Int} (hn : ¬ (0 ≤ n ∧ n < (t.news.length : Int))) :
    Calls Tryz.prog 54 #[pv p, iv n] w fun e w' => e = .returned (iv 6) ∧ Gr w w' := by
  have HT := hide (take_none H hn)
  clear H hn
  go_enter Tryz.func54, Tryz.ntmps54
  go_wp2_with (go_at_call 55; with_reducible refine HT.out.mono ?_; rintro e V ⟨rfl, G1'⟩; have G1 := hide G1'; clear G1')
  go_ret
  exact ⟨rfl, by first | exact G1.out.alloc _ | exact (((((G1.out.alloc _).setCell (by have := Below.size G1.out; simp; omega) _).setCell (by have := Below.size G1.out; simp; omega) _).setCell (by have := Below.size G1.out; simp; omega) _).setCell (by have := Below.size G1.out; simp; omega) _).setCell (by have := Below.size G1.out; simp; omega) _⟩
set_option maxRecDepth 20000 in
set_option maxHeartbeats 8000000 in
theorem hear_ok' {M : Nat → Prop} {B w : World} {p k : Nat} {q : Nat → Nat} {v : Value} {c : Nat → Nat → Nat} {t : Tn} (H : Ne M B w p k q v c t) (A : TnA t c) (hl : t.news.length ≤ 40) {n : Nat} (hn : n < t.news.length) {x : Nw} (hx : t.news[n] = x) :
    Calls Tryz.prog 54 #[pv p, iv (n : Int)] w fun e w' => ∃ v', e = .returned (iv (hearC { t with news := dropAt t.news n } x).2) ∧ Ne M B w' p k q v' c (hearC { t with news := dropAt t.news n } x).1 := by
  have hm : x ∈ t.news := by rw [← hx]; exact List.getElem_mem hn
  have HT := hide (take_ok H hl hn hx)
  simp only [nwV] at HT
  obtain ⟨h1, h2, h3, h4, h5, h6, h7, _⟩ := A.ok.news x hm
  have hg6 : (x.g : Int) < 6 := by omega
  have E1 : (hearC { t with news := dropAt t.news n } x).2 = (hearC t x).2 := by unfold hearC; dsimp only; split <;> rfl
  have E2 : (hearC { t with news := dropAt t.news n } x).1 = { t with news := dropAt t.news n, nd := (hearC t x).1.nd } := by unfold hearC hearT; dsimp only; split <;> rfl
  rw [E1, E2]
  have HC : Hid (∀ (V : World) (v' : Value), Ne M B V p k q v' c { t with news := dropAt t.news n } → Calls Tryz.prog 42 #[pv (q x.g), nwV x] V fun e w' => e = .returned (iv (hearC t x).2) ∧ Ne M B w' p k q v' c { t with news := dropAt t.news n, nd := (hearC t x).1.nd } ∧ Wr (q x.g) V w') := fun V v' h => by
    obtain ⟨e1, e2⟩ := hear_step A hm
    refine (nhearN (h.six.at_ x.g h2) (A.s.z x.g h2) (x.f : Int) (x.g : Int) (x.to : Int) x.s x.d).mono fun e w' ⟨he, hm, hw⟩ => ⟨by rw [he, e1], ?_, hw⟩
    have := h.put h2 hw hm
    rw [← e2]
    exact this
  clear H A hx hm E1 E2 h1 h3 h4 h5 h6 h7
  generalize (hearC t x).2 = r at *
  generalize (hearC t x).1.nd = nd' at *
  go_enter Tryz.func54, Tryz.ntmps54
  go_upto_region 4 with (go_at_call 55; with_reducible refine HT.out.mono ?_; rintro e V ⟨v', rfl, H1'⟩; have H1 := hide H1'; clear H1')
  refine wp_gen (fun W => Hid (Ne M B W p k q v' c { t with news := dropAt t.news n }) ∧ Hid (ZArr W 80 5 V.heap.size (nsF x))) ⟨H1.out.ext ((Gr.refl _).alloc _), (show ZArr _ 80 5 V.heap.size (nsF x) from heap_alloc_new V _)⟩ ?_
  clear H1
  generalize V.heap.size = X at *
  rintro W ⟨H1, Z1⟩
  obtain ⟨y0, y1, y2, y3, y4⟩ := nsF_cells Z1.out
  have hX := Z1.out.lt
  have hp := H1.out.blk.lt
  have n0 := H1.out.node h2
  have HCW := hide (HC.out _ _ (H1.out.ext (Gr.refl W).drew))
  have hXq : Hid (X ≠ q x.g) := blk_ne Z1.out (H1.out.six.at_ x.g h2) (by decide)
  simp only [nwV] at HCW
  clear HC HT
  go_region_held3 (fun W => W.cell? ⟨p, 1 + x.g, none⟩ = some (pv (q x.g)) ∧ W.cell? ⟨X, 0, none⟩ = some (iv (x.f : Int)) ∧ W.cell? ⟨X, 1, none⟩ = some (iv (x.g : Int)) ∧ W.cell? ⟨X, 2, none⟩ = some (iv (x.to : Int)) ∧ W.cell? ⟨X, 3, none⟩ = some (iv x.s) ∧ W.cell? ⟨X, 4, none⟩ = some (iv x.d)) (first | exact ⟨n0, y0, y1, y2, y3, y4⟩ | exact ⟨H2.out.node h2, nsF_cells Z2.out⟩ | go_keep) (first | (go_at_call 42; with_reducible refine HCW.out.mono ?_; rintro e V2 ⟨rfl, H2', W2'⟩; have H2 := hide H2'; have Z2 := hide (W2'.arr (Z1.out.gr (Gr.refl W).drew) hXq.out); clear H2' W2'))
  all_goals
    go_wp2_with fail
    go_ret
    exact ⟨_, rfl, H2.out⟩

end Go.Proofs.YtcgflhjgllpohagGreatDoor
