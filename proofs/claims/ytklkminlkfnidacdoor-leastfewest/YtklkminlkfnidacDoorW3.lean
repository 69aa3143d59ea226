/- CONTRACTS OF package least: tableOf, countOf, Of, Count. -/
import Derived.Test.YtklkminlkfnidacDoorW2
import Derived.Test.YtklkminlkfnidacDoorT7
import Derived.Test.YtklkminlkfnidacDoorS11
namespace Go.Proofs.YtklkminlkfnidacDoor
open Go.RowKit
attribute [local go_sem] Ext.all Ext.cell Ext.frozen Ext.lt Ext.lt1 Ext.lt2 Ext.ne Ext.ne'

/-- 'append(l, x...)', l a list of the call's own: what else was there stays. -/
theorem run_app2 {B w : World} {v : Value} {rs xs : List Rt} {M : Nat → Prop} {ao : Option Addr} {m c : Nat} (ty : TypeId) (hO : Own B w v rs) (g : Gr B w) (H : RowAt w M ao xs) (hl : xs.length = m) (h0 : 0 < m) (hm : rs.length + m ≤ 2000) :
    ∃ v' w', (Builtin.append_ #[22, 22] ty #[v, .slice ao m c]).run Tryd.prog w = .ok v' w' ∧ Own B w' v' (rs ++ xs) ∧ Gr B w' ∧ w.grownBy w' v.ownBlock := by
  obtain ⟨i0, hi, hz0, hz1, hz2⟩ := info_parts Tryd.info45
  rcases H with h | ⟨b, o, rfl, _, _, hcs⟩
  · subst h; simp at hl; omega
  · obtain ⟨v', w', h1, h2, h3, _⟩ := run_append_own (P := Tryd.prog) w B.heap.size 22 ty 45 i0 _ 3 24 Tryd.underlying22 hi hz0 hz1 hz2 (by rfl) (by decide) v rs.length (cels rs) hO
      ⟨b, o, none⟩ m c (cels xs) (by rw [cels_length, hl]) (fun j u hj => by rw [Addr.add_lit]; exact cels_cells hcs j u hj) (cels_one xs) (by unfold maxLen; omega) (by omega) (Below.size g)
    refine ⟨v', w', h1, ?_, g.grown h3 (fun k hk => (hO.lt k hk).1), h3⟩
    unfold Own
    rw [cels_append, List.length_append, hl]
    exact h2

/-- A variable that holds a list of routes of the call's own. -/
def BoxL (A X : World) (bx : Nat) (xs : List Rt) : Prop := Gr A X ∧ A.heap.size ≤ bx ∧ ∃ v, X.heap[bx]? = some (.cells #[v] 22 (0, 0)) ∧ Own A X v xs
theorem BoxL.gr {A X Y : World} {bx : Nat} {xs : List Rt} (h : BoxL A X bx xs) (g : Gr X Y) : BoxL A Y bx xs := by
  obtain ⟨h1, h2, v, h3, h4⟩ := h
  exact ⟨h1.trans g, h2, v, (Below.block g bx (lt_of_block h3)).trans h3, h4.gr g⟩
theorem own_ne {A X : World} {bx : Nat} {xs : List Rt} {v u : Value} (h : Own A X v xs) (hb : X.heap[bx]? = some (.cells #[u] 22 (0, 0))) : v.ownBlock ≠ some bx := by
  intro e
  rcases h.2 with ⟨hn, _⟩ | ⟨g, cap, cur, hv, _, hgg, rest⟩
  · rw [hn] at e; cases e
  · rw [hv] at e
    simp only [Value.ownBlock, Option.some.injEq] at e
    rw [e, hb] at hgg
    simp at hgg

set_option maxRecDepth 20000 in
theorem take_table {A X : World} {bx : Nat} {xs : List Rt} (l b h : Int) (hX : BoxL A X bx xs) (hm : xs.length ≤ 1000) :
    Calls Tryd.prog 52 #[rtV l b h, pv bx] X fun e w' => e = .returned (.tuple #[]) ∧ BoxL A w' bx (xs ++ [(l, b, h)]) := by
  obtain ⟨gX, hbx, v, hc, hO⟩ := hX
  have hlt := lt_of_block hc
  have c0 : X.cell? ⟨bx, 0, none⟩ = some v := cell_of_one hc
  have f0 : X.frozen? ⟨bx, 0, none⟩ = false := free_of_one hc
  obtain ⟨Y, hY⟩ : ∃ Y, Y = (X.alloc (.cells #[iv l, iv b, iv h] 45)).alloc (.cells #[iv l, iv b, iv h] 45) := ⟨_, rfl⟩
  have gXY : Gr X Y := by rw [hY]; exact ((Gr.refl X).alloc _).alloc _
  have hrow : RowAt Y (fun _ => True) (some ⟨X.heap.size + 1, 0, none⟩) [(l, b, h)] := by
    refine .inr ⟨X.heap.size + 1, 0, rfl, by rw [hY]; simp, trivial, fun i hi => ?_⟩
    have : i = 0 := by simpa using hi
    subst this
    rw [hY]
    refine ⟨?_, ?_, ?_⟩ <;> simp [go_sem]
  have OY := hO.gr gXY
  have hcY : Y.heap[bx]? = some (.cells #[v] 22 (0, 0)) := (Below.block gXY bx hlt).trans hc
  obtain ⟨v', w', hrun, hown, hgr, hgb⟩ := run_app2 (m := 1) (c := 1) 22 OY (gX.trans gXY) hrow rfl (by decide) (by omega)
  have hcw : w'.heap[bx]? = some (.cells #[v] 22 (0, 0)) := by
    rw [hgb.block bx (lt_of_block hcY) (fun e => own_ne OY hcY e.symm)]; exact hcY
  have d0 : w'.cell? ⟨bx, 0, none⟩ = some v := cell_of_one hcw
  have d1 : w'.frozen? ⟨bx, 0, none⟩ = false := free_of_one hcw
  have HB : Hid (BoxL A (w'.setCell ⟨bx, 0, none⟩ v') bx (xs ++ [(l, b, h)])) :=
    ⟨hgr.setCell hbx v', hbx, v', one_setCell hcw, ownsRow_setCell_other hown (own_ne hown hcw) v'⟩
  obtain ⟨ao', c', hv', _⟩ := hown.shape
  subst hv'
  rw [show (xs ++ [(l, b, h)]).length = xs.length + 1 by simp] at HB hrun
  have HR := hide hrun
  have HY := hide hY
  clear hrun hY hown hgr hgb hcw hcY OY hrow hO gX hc
  go_enter Tryd.func52, Tryd.ntmps52
  go_wp2_with (at_builtin; refine Lib.wpList_append_run _ rfl _ _ _ _ rfl _ _ rfl rfl _ _ (by rw [← HY.out]; exact HR.out) ?_)
  go_end0
  exact ⟨rfl, HB.out⟩

/-- A variable that counts. -/
def BoxN (A X : World) (bx : Nat) (xs : List Rt) : Prop := Gr A X ∧ A.heap.size ≤ bx ∧ X.heap[bx]? = some (.cells #[iv xs.length] 3 (0, 0))
theorem BoxN.gr {A X Y : World} {bx : Nat} {xs : List Rt} (h : BoxN A X bx xs) (g : Gr X Y) : BoxN A Y bx xs := by
  obtain ⟨h1, h2, h3⟩ := h
  exact ⟨h1.trans g, h2, (Below.block g bx (lt_of_block h3)).trans h3⟩
theorem take_count {A X : World} {bx : Nat} {xs : List Rt} (l b h : Int) (hX : BoxN A X bx xs) (hm : xs.length ≤ 1000) :
    Calls Tryd.prog 53 #[rtV l b h, pv bx] X fun e w' => e = .returned (.tuple #[]) ∧ BoxN A w' bx (xs ++ [(l, b, h)]) := by
  obtain ⟨gX, hbx, hc⟩ := hX
  have hlt := lt_of_block hc
  have c0 : X.cell? ⟨bx, 0, none⟩ = some (iv xs.length) := cell_of_one hc
  have f0 : X.frozen? ⟨bx, 0, none⟩ = false := free_of_one hc
  have HB : Hid (BoxN A ((X.setCell ⟨bx, 0, none⟩ (iv (xs.length + 1))).alloc (.cells #[iv l, iv b, iv h] 45)) bx (xs ++ [(l, b, h)])) := by
    refine BoxN.gr (X := X.setCell ⟨bx, 0, none⟩ (iv (xs.length + 1))) ⟨gX.setCell hbx _, hbx, ?_⟩ ((Gr.refl _).alloc _)
    rw [one_setCell hc]
    simp
  generalize xs.length = n at *
  clear hc
  go_enter Tryd.func53, Tryd.ntmps53
  go_wp2
  go_end0
  exact ⟨rfl, HB.out⟩

theorem taker_table (A : World) (bx : Nat) : Taker A 52 #[pv bx] (fun xs w => BoxL A w bx xs) where
  enters := enters_of Tryd.func52 (by kernel_rfl) rfl
  base := fun h => h.1
  gr := fun h g => h.gr g
  take := fun l b h hI hm => take_table l b h hI hm
theorem taker_count (A : World) (bx : Nat) : Taker A 53 #[pv bx] (fun xs w => BoxN A w bx xs) where
  enters := enters_of Tryd.func53 (by kernel_rfl) rfl
  base := fun h => h.1
  gr := fun h g => h.gr g
  take := fun l b h hI hm => take_count l b h hI hm

/-- The routes of a trie of a table. -/
theorem countOf_any {A : World} {T : TT} {q n : Nat} (h64 : Tab64 A) (hT : Tr A T q) (hH : HopT T) (hn : (each T (-1)).length = n) (hm : n ≤ 1000) :
    Calls Tryd.prog 29 #[pv q] A fun e w' => e = .returned (iv n) ∧ Gr A w' := by
  have hs : BoxN A (A.alloc (.cells #[iv 0] 3)) A.heap.size [] := ⟨(Gr.refl A).alloc _, Nat.le_refl _, heap_alloc_new A _⟩
  obtain ⟨X, hX⟩ : ∃ X, X = A.alloc (.cells #[iv 0] 3) := ⟨_, rfl⟩
  rw [← hX] at hs
  have HE := hide (show Calls Tryd.prog 51 #[pv q, iv (-1), .func (.func 53) #[] #[pv A.heap.size]] X fun e w' => e = .returned (.tuple #[]) ∧ BoxN A w' A.heap.size (each T (-1)) from
    each_any (taker_count A A.heap.size) h64 T q [] ⟨X, hs.1⟩ (-1) hT hH mem_m1 hs (by simp; omega))
  have HX := hide hX
  clear hX hs
  go_enter Tryd.func29, Tryd.ntmps29
  go_wp2_with (go_at_call 51; rw [← HX.out]; refine HE.out.mono ?_; rintro e w2 ⟨rfl, hB⟩; have c0 := cell_of_one hB.2.2; rw [hn] at c0)
  go_ret
  exact ⟨rfl, hB.1⟩

theorem tableOf_any {A : World} {T : TT} {q : Nat} {xs : List Rt} (h64 : Tab64 A) (hT : Tr A T q) (hH : HopT T) (hx : each T (-1) = xs) (hm : xs.length ≤ 1000) (hc : chkL xs = 0) :
    Calls Tryd.prog 28 #[pv q] A fun e w' => ∃ tb v, e = .returned (.tuple #[pv tb, .bool true]) ∧ TabS w' (fun k => k < A.heap.size) tb v xs ∧ Gr A w' := by
  have hs : BoxL A (A.alloc (.cells #[.slice none 0 0] 22)) A.heap.size [] :=
    ⟨(Gr.refl A).alloc _, Nat.le_refl _, _, heap_alloc_new A _, Own.nil _ _⟩
  obtain ⟨X, hX⟩ : ∃ X, X = A.alloc (.cells #[.slice none 0 0] 22) := ⟨_, rfl⟩
  rw [← hX] at hs
  subst hx
  have HE := hide (show Calls Tryd.prog 51 #[pv q, iv (-1), .func (.func 52) #[] #[pv A.heap.size]] X fun e w' => e = .returned (.tuple #[]) ∧ BoxL A w' A.heap.size (each T (-1)) from
    each_any (taker_table A A.heap.size) h64 T q [] ⟨X, hs.1⟩ (-1) hT hH mem_m1 hs (by simp; omega))
  generalize each T (-1) = xs at *
  have HX := hide hX
  clear hX hs
  have HOf := hide (fun (w : World) ao c (H : RowAt w (fun k => A.heap.size ≤ k) ao xs) => of_any w _ ao xs.length c xs H rfl hc)
  go_enter Tryd.func28, Tryd.ntmps28
  go_wp2_with (first
    | (go_at_call 51; rw [← HX.out]; refine HE.out.mono ?_; rintro e w2 ⟨rfl, hB⟩; obtain ⟨g2, _, v, hb, hO⟩ := hB; obtain ⟨ao, c, hv, _, hR⟩ := hO.shape; subst hv; have c0 := cell_of_one hb; clear hb)
    | (go_at_call 19; refine (HOf.out w2 ao c hR).mono ?_; rintro e _ ⟨tb, u, rfl, hS, d, rfl⟩)
    | fail)
  go_ret2
  have hsz := Below.size g2
  refine ⟨tb, u, rfl, ⟨hS.cell, hS.own, fun e => hS.notTb (by omega), fun g hg e => hS.notRow g hg (by omega), fun k hk => hS.bd k (by omega)⟩, g2.ext d⟩

/-- Where addresses go by these routes: hops all. -/
theorem Tab.hops {rs : List Rt} (h : Tab rs) (j : Nat) : lookL rs j ∈ hopsR := hop_mem.1 (h.look_hop j)
/-- The table of as few routes as can be. -/
def lstL (rs : List Rt) : List Rt := leastT fun j => lookL rs j
theorem lst_each {rs : List Rt} (h : Tab rs) : each (trT rs) (-1) = lstL rs := each_T h.hops
theorem lst_le {rs : List Rt} (h : Tab rs) : (lstL rs).length ≤ rs.length := least_min h.hops (fun r hr => (h.ok r hr).1) h.srt (fun _ _ => rfl)
theorem lst_tab {rs : List Rt} (h : Tab rs) : Tab (lstL rs) := least_tab h.hops (Nat.le_trans (lst_le h) h.len)
theorem tab_chk {rs : List Rt} (h : Tab rs) : chkL rs = 0 := by
  unfold chkL
  rw [if_neg (by have := h.len; omega)]
  exact chkGo_ok rs none h.ok h.srt (fun q hq => by cases hq)
theorem hopT_tr {rs : List Rt} (h : Tab rs) : HopT (trT rs) := hop_tri h.hops 8 0 0 0
/-- least.Count of a table. -/
theorem lcount_is {B : World} {M : Nat → Prop} {tb n : Nat} {v : Value} {rs : List Rt} (h64 : Tab64 B) (hS : TabS B M tb v rs) (hT : Tab rs) (hn : (lstL rs).length = n) (wX : World) (gX : Gr B wX) :
    Calls Tryd.prog 10 #[pv tb] wX fun e w' => e = .returned (iv n) ∧ Gr wX w' := by
  have hlen := hT.len
  have hl := lst_le hT
  have HT := hide (tof_is hS (by omega) wX gX)
  have HC := hide (fun (A : World) q (gA : Gr wX A) (hTr : Tr A (trT rs) q) => countOf_any (n := n) (h64.gr (gX.trans gA)) hTr (hopT_tr hT) (by rw [lst_each hT]; exact hn) (by omega))
  clear hS
  go_enter Tryd.func10, Tryd.ntmps10
  go_wp2_with (first
    | (go_at_call 17; refine HT.out.mono ?_; rintro e w2 ⟨q, rfl, tr, g2⟩)
    | (go_at_call 29; refine (HC.out w2 q g2 tr).mono ?_; rintro e w3 ⟨rfl, g3⟩)
    | fail)
  go_ret
  exact ⟨rfl, g2.trans g3⟩
/-- least.Of of a table. -/
theorem lof_is {B : World} {M : Nat → Prop} {tb : Nat} {v : Value} {rs : List Rt} (h64 : Tab64 B) (hS : TabS B M tb v rs) (hT : Tab rs) (wX : World) (gX : Gr B wX) :
    Calls Tryd.prog 9 #[pv tb] wX fun e w' => ∃ ub u, e = .returned (.tuple #[pv ub, .bool true]) ∧ TabS w' (fun k => k < wX.heap.size) ub u (lstL rs) ∧ Gr wX w' := by
  have hlen := hT.len
  have hl := lst_le hT
  have HT := hide (tof_is hS (by omega) wX gX)
  have HC := hide (fun (A : World) q (gA : Gr wX A) (hTr : Tr A (trT rs) q) => tableOf_any (h64.gr (gX.trans gA)) hTr (hopT_tr hT) (lst_each hT) (by omega) (tab_chk (lst_tab hT)))
  clear hS
  go_enter Tryd.func9, Tryd.ntmps9
  go_wp2_with (first
    | (go_at_call 17; refine HT.out.mono ?_; rintro e w2 ⟨q, rfl, tr, g2⟩)
    | (go_at_call 28; refine (HC.out w2 q g2 tr).mono ?_; rintro e w3 ⟨ub, u, rfl, hU, g3⟩)
    | fail)
  go_ret2
  have hsz := Below.size g2
  exact ⟨ub, u, rfl, ⟨hU.cell, hU.own, fun e => hU.notTb (by omega), fun g hg e => hU.notRow g hg (by omega), fun k hk => hU.bd k (by omega)⟩, g2.trans g3⟩

end Go.Proofs.YtklkminlkfnidacDoor
