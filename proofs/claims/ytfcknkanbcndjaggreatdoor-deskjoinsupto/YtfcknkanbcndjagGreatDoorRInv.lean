import Derived.Test.YtfcknkanbcndjagGreatDoorW2
import Derived.Test.YtfcknkanbcndjagGreatDoorLPlain2
import Derived.Test.YtfcknkanbcndjagGreatDoorE1
import Derived.Test.YtfcknkanbcndjagGreatDoorS5
import Derived.Deep.RegionHeld3
import Derived.Deep.DeepCutAuto
import Derived.Shelf.Small.Bits
import Derived.Lib.ReflectliteSwap
import Derived.Laws.Externs
import Derived.WalkKit
import Derived.Shelf.GgSortFunc.SmallK
import Derived.RegionTactic
import Derived.Orders
/- CONTRACTS OF package least: tableOf, countOf, Of, Count. -/
namespace Go.Proofs.YtfcknkanbcndjagGreatDoor
open Go.RowKit
attribute [local go_sem] Ext.all Ext.cell Ext.frozen Ext.lt Ext.lt1 Ext.lt2 Ext.ne Ext.ne'
/-- 'append(l, x...)', l a list of the call's own: what else was there stays. -/
theorem run_app2 {B w : World} {v : Value} {rs xs : List Rt} {M : Nat → Prop} {ao : Option Addr} {m c : Nat} (ty : TypeId) (hO : Own B w v rs) (g : Gr B w) (H : RowAt w M ao xs) (hl : xs.length = m) (h0 : 0 < m) (hm : rs.length + m ≤ 2000) :
    ∃ v' w', (Builtin.append_ #[108, 108] ty #[v, .slice ao m c]).run Tryz.prog w = .ok v' w' ∧ Own B w' v' (rs ++ xs) ∧ Gr B w' ∧ w.grownBy w' v.ownBlock := by
  obtain ⟨i0, hi, hz0, hz1, hz2⟩ := info_parts Tryz.info133
  rcases H with h | ⟨b, o, rfl, _, _, hcs⟩
  · subst h; simp at hl; omega
  · obtain ⟨v', w', h1, h2, h3, _⟩ := run_append_own (P := Tryz.prog) w B.heap.size 108 ty 133 i0 _ 3 24 Tryz.underlying108 hi hz0 hz1 hz2 (by rfl) (by decide) v rs.length (cels rs) hO
      ⟨b, o, none⟩ m c (cels xs) (by rw [cels_length, hl]) (fun j u hj => by rw [Addr.add_lit]; exact cels_cells hcs j u hj) (cels_one xs) (by unfold maxLen; omega) (by omega) (Below.size g)
    refine ⟨v', w', h1, ?_, g.grown h3 (fun k hk => (hO.lt k hk).1), h3⟩
    unfold Own
    rw [cels_append, List.length_append, hl]
    exact h2

/-- A variable that holds a list of routes of the call's own. -/
def BoxL (A X : World) (bx : Nat) (xs : List Rt) : Prop := Gr A X ∧ A.heap.size ≤ bx ∧ ∃ v, X.heap[bx]? = some (.cells #[v] 108 (0, 0)) ∧ Own A X v xs
theorem BoxL.gr {A X Y : World} {bx : Nat} {xs : List Rt} (h : BoxL A X bx xs) (g : Gr X Y) : BoxL A Y bx xs := by
  obtain ⟨h1, h2, v, h3, h4⟩ := h
  exact ⟨h1.trans g, h2, v, (Below.block g bx (lt_of_block h3)).trans h3, h4.gr g⟩
theorem own_ne {A X : World} {bx : Nat} {xs : List Rt} {v u : Value} (h : Own A X v xs) (hb : X.heap[bx]? = some (.cells #[u] 108 (0, 0))) : v.ownBlock ≠ some bx := by
  intro e
  rcases h.2 with ⟨hn, _⟩ | ⟨g, cap, cur, hv, _, hgg, rest⟩
  · rw [hn] at e; cases e
  · rw [hv] at e
    simp only [Value.ownBlock, Option.some.injEq] at e
    rw [e, hb] at hgg
    simp at hgg

set_option maxRecDepth 20000 in
theorem take_table {A X : World} {bx : Nat} {xs : List Rt} (l b h : Int) (hX : BoxL A X bx xs) (hm : xs.length ≤ 1000) :
    Calls Tryz.prog 149 #[rtV l b h, pv bx] X fun e w' => e = .returned (.tuple #[]) ∧ BoxL A w' bx (xs ++ [(l, b, h)]) := by
  obtain ⟨gX, hbx, v, hc, hO⟩ := hX
  have hlt := lt_of_block hc
  have c0 : X.cell? ⟨bx, 0, none⟩ = some v := cell_of_one hc
  have f0 : X.frozen? ⟨bx, 0, none⟩ = false := free_of_one hc
  obtain ⟨Y, hY⟩ : ∃ Y, Y = (X.alloc (.cells #[iv l, iv b, iv h] 133)).alloc (.cells #[iv l, iv b, iv h] 133) := ⟨_, rfl⟩
  have gXY : Gr X Y := by rw [hY]; exact ((Gr.refl X).alloc _).alloc _
  have hrow : RowAt Y (fun _ => True) (some ⟨X.heap.size + 1, 0, none⟩) [(l, b, h)] := by
    refine .inr ⟨X.heap.size + 1, 0, rfl, by rw [hY]; simp, trivial, fun i hi => ?_⟩
    have : i = 0 := by simpa using hi
    subst this
    rw [hY]
    refine ⟨?_, ?_, ?_⟩ <;> simp [go_sem]
  have OY := hO.gr gXY
  have hcY : Y.heap[bx]? = some (.cells #[v] 108 (0, 0)) := (Below.block gXY bx hlt).trans hc
  obtain ⟨v', w', hrun, hown, hgr, hgb⟩ := run_app2 (m := 1) (c := 1) 108 OY (gX.trans gXY) hrow rfl (by decide) (by omega)
  have hcw : w'.heap[bx]? = some (.cells #[v] 108 (0, 0)) := by
    rw [hgb.block bx (lt_of_block hcY) (fun e => own_ne OY hcY e.symm)]; exact hcY
  have d0 : w'.cell? ⟨bx, 0, none⟩ = some v := cell_of_one hcw
  have d1 : w'.frozen? ⟨bx, 0, none⟩ = false := free_of_one hcw
  have HB : Hid (BoxL A (w'.setCell ⟨bx, 0, none⟩ v') bx (xs ++ [(l, b, h)])) :=
    ⟨hgr.setCell hbx v', hbx, v', one_setCell hcw, ownsRow_setCell_other hown (own_ne hown hcw) v'⟩
  obtain ⟨ao', c', hv', _⟩ := hown.shape
  subst hv'
  rw [show (xs ++ [(l, b, h)]).length = xs.length + 1 by simp] at HB hrun
  have HR := hide hrun
  have HY := hide hY
  clear hrun hY hown hgr hgb hcw hcY OY hrow hO gX hc
  go_enter Tryz.func149, Tryz.ntmps149
  go_wp2_with (at_builtin; refine Lib.wpList_append_run _ rfl _ _ _ _ rfl _ _ rfl rfl _ _ (by rw [← HY.out]; exact HR.out) ?_)
  go_end0
  exact ⟨rfl, HB.out⟩

theorem taker_table (A : World) (bx : Nat) : Taker A 149 #[pv bx] (fun xs w => BoxL A w bx xs) where
  enters := enters_of Tryz.func149 (by kernel_rfl) rfl
  base := fun h => h.1
  gr := fun h g => h.gr g
  take := fun l b h hI hm => take_table l b h hI hm
theorem tableOf_any {A : World} {T : TT} {q : Nat} {xs : List Rt} (h64 : Tab64 A) (hT : Tr A T q) (hH : HopT T) (hx : each T (-1) = xs) (hm : xs.length ≤ 1000) (hc : chkL xs = 0) :
    Calls Tryz.prog 111 #[pv q] A fun e w' => ∃ tb v, e = .returned (.tuple #[pv tb, .bool true]) ∧ TabS w' (fun k => k < A.heap.size) tb v xs ∧ Gr A w' := by
  have hs : BoxL A (A.alloc (.cells #[.slice none 0 0] 108)) A.heap.size [] :=
    ⟨(Gr.refl A).alloc _, Nat.le_refl _, _, heap_alloc_new A _, Own.nil _ _⟩
  obtain ⟨X, hX⟩ : ∃ X, X = A.alloc (.cells #[.slice none 0 0] 108) := ⟨_, rfl⟩
  rw [← hX] at hs
  subst hx
  have HE := hide (show Calls Tryz.prog 148 #[pv q, iv (-1), .func (.func 149) #[] #[pv A.heap.size]] X fun e w' => e = .returned (.tuple #[]) ∧ BoxL A w' A.heap.size (each T (-1)) from
    each_any (taker_table A A.heap.size) h64 T q [] ⟨X, hs.1⟩ (-1) hT hH mem_m1 hs (by simp; omega))
  generalize each T (-1) = xs at *
  have HX := hide hX
  clear hX hs
  have HOf := hide (fun (w : World) ao c (H : RowAt w (fun k => A.heap.size ≤ k) ao xs) => of_any w _ ao xs.length c xs H rfl hc)
  go_enter Tryz.func111, Tryz.ntmps111
  go_wp2_with (first
    | (go_at_call 148; rw [← HX.out]; refine HE.out.mono ?_; rintro e w2 ⟨rfl, hB⟩; obtain ⟨g2, _, v, hb, hO⟩ := hB; obtain ⟨ao, c, hv, _, hR⟩ := hO.shape; subst hv; have c0 := cell_of_one hb; clear hb)
    | (go_at_call 61; refine (HOf.out w2 ao c hR).mono ?_; rintro e _ ⟨tb, u, rfl, hS, d, rfl⟩)
    | fail)
  go_ret2
  have hsz := Below.size g2
  refine ⟨tb, u, rfl, ⟨hS.cell, hS.own, fun e => hS.notTb (by omega), fun g hg e => hS.notRow g hg (by omega), fun k hk => hS.bd k (by omega)⟩, g2.ext d⟩

/-- Where addresses go by these routes: hops all. -/
theorem Tab.hops {rs : List Rt} (h : Tab rs) (j : Nat) : lookL rs j ∈ hopsR := hop_mem.1 (h.look_hop j)
/-- The table of as few routes as can be. -/
def lstL (rs : List Rt) : List Rt := leastT fun j => lookL rs j
theorem lst_each {rs : List Rt} (h : Tab rs) : each (trT rs) (-1) = lstL rs := each_T h.hops
theorem lst_le {rs : List Rt} (h : Tab rs) : (lstL rs).length ≤ rs.length := least_min h.hops (fun r hr => (h.ok r hr).1) h.srt (fun _ _ => rfl)
theorem lst_tab {rs : List Rt} (h : Tab rs) : Tab (lstL rs) := least_tab h.hops (Nat.le_trans (lst_le h) h.len)
theorem tab_chk {rs : List Rt} (h : Tab rs) : chkL rs = 0 := by
  unfold chkL
  rw [if_neg (by have := h.len; omega)]
  exact chkGo_ok rs none h.ok h.srt (fun q hq => by cases hq)
theorem hopT_tr {rs : List Rt} (h : Tab rs) : HopT (trT rs) := hop_tri h.hops 8 0 0 0
/-- least.Of of a table. -/
theorem lof_is {B : World} {M : Nat → Prop} {tb : Nat} {v : Value} {rs : List Rt} (h64 : Tab64 B) (hS : TabS B M tb v rs) (hT : Tab rs) (wX : World) (gX : Gr B wX) :
    Calls Tryz.prog 59 #[pv tb] wX fun e w' => ∃ ub u, e = .returned (.tuple #[pv ub, .bool true]) ∧ TabS w' (fun k => k < wX.heap.size) ub u (lstL rs) ∧ Gr wX w' := by
  have hlen := hT.len
  have hl := lst_le hT
  have HT := hide (tof_is hS (by omega) wX gX)
  have HC := hide (fun (A : World) q (gA : Gr wX A) (hTr : Tr A (trT rs) q) => tableOf_any (h64.gr (gX.trans gA)) hTr (hopT_tr hT) (lst_each hT) (by omega) (tab_chk (lst_tab hT)))
  clear hS
  go_enter Tryz.func59, Tryz.ntmps59
  go_wp2_with (first
    | (go_at_call 112; refine HT.out.mono ?_; rintro e w2 ⟨q, rfl, tr, g2⟩)
    | (go_at_call 111; refine (HC.out w2 q g2 tr).mono ?_; rintro e w3 ⟨ub, u, rfl, hU, g3⟩)
    | fail)
  go_ret2
  have hsz := Below.size g2
  exact ⟨ub, u, rfl, ⟨hU.cell, hU.own, fun e => hU.notTb (by omega), fun g hg e => hU.notRow g hg (by omega), fun k hk => hU.bd k (by omega)⟩, g2.trans g3⟩

end Go.Proofs.YtfcknkanbcndjagGreatDoor

/- CONTRACT OF handpostlaw.leastBegun. -/
namespace Go.Proofs.YtfcknkanbcndjagGreatDoor
open Go.RowKit
attribute [local go_sem] Ext.all Ext.cell Ext.frozen Ext.lt Ext.lt1 Ext.lt2 Ext.ne Ext.ne'
theorem lst_look {rs : List Rt} (h : Tab rs) (j : Nat) (hj : j < 256) : lookL (lstL rs) j = lookL rs j := least_T_look h.hops j hj
end Go.Proofs.YtfcknkanbcndjagGreatDoor

/- FOR THE LAWS OF LAYER 4: a table in a world, asked in whatever world has grown out of it. -/
namespace Go.Proofs.YtfcknkanbcndjagGreatDoor
open Go.RowKit
attribute [local go_sem] Ext.all Ext.cell Ext.frozen Ext.lt Ext.lt1 Ext.lt2 Ext.ne Ext.ne'
/-- In B a table of these routes stands at tb. -/
def Is (B : World) (tb : Nat) (rs : List Rt) : Prop := ∃ M v, TabS B M tb v rs
theorem Is.list {B : World} {tb : Nat} {rs : List Rt} (h : Is B tb rs) (hT : Tab rs) :
    Calls Tryz.prog 60 #[pv tb] B fun e w' => ∃ ao c, e = .returned (.slice ao rs.length c) ∧ RowAt w' (fun k => B.heap.size ≤ k) ao rs ∧ Gr B w' := by
  obtain ⟨M, v, hS⟩ := h
  refine (list_is hS (by have := hT.len; omega)).mono ?_
  rintro e _ ⟨ao, c, rfl, hR, d, rfl⟩
  exact ⟨ao, c, rfl, hR, d.gr⟩
theorem lst_lookI {rs : List Rt} (h : Tab rs) (a : Int) : lookL (lstL rs) a = lookL rs a := by
  by_cases ha : 0 ≤ a ∧ a < 256
  · obtain ⟨j, rfl⟩ : ∃ j : Nat, a = j := ⟨a.toNat, by omega⟩
    exact lst_look h j (by omega)
  · rw [look_no ha, look_no ha]

end Go.Proofs.YtfcknkanbcndjagGreatDoor

/- FOR THE LAWS OF LAYER 4: Look. -/
namespace Go.Proofs.YtfcknkanbcndjagGreatDoor
open Go.RowKit

end Go.Proofs.YtfcknkanbcndjagGreatDoor

/- CONTRACT OF handpostref.alike. -/
namespace Go.Proofs.YtfcknkanbcndjagGreatDoor
open Go.RowKit
attribute [local go_sem] Ext.all Ext.cell Ext.frozen Ext.lt Ext.lt1 Ext.lt2 Ext.ne Ext.ne'
set_option maxRecDepth 20000 in
theorem ralike_any (w : World) (g o n c : Nat) (f : Nat → Int) (H : Nums w g o n f) (h0 : 0 < n) (hm : n ≤ 256) :
    Calls Tryz.prog 176 #[.slice (some ⟨g, o, none⟩) n c] w fun e w' => e = .returned (.bool (decide (Alk f o n))) ∧ ∃ d : Ext w, w' = d.out := by
  obtain ⟨hg, HC⟩ := H
  have c0 := HC 0 h0
  rw [Nat.add_zero] at c0
  have HCh := hide HC
  clear HC
  go_enter Tryz.func176, Tryz.ntmps176
  go_wp2
  go_loopw [3] (fun i wr => ∃ k : Nat, 1 ≤ k ∧ k ≤ n ∧ i = .int .i64 k ∧ Hid (∀ j : Nat, j < k → f (o + j) = f o) ∧ Gr w wr) (fun i _ => n - (intOf i).toNat)
  case atStart => exact ⟨1, by omega, by omega, rfl, (fun j hj => by rw [show j = 0 by omega, Nat.add_zero]), Gr.refl _⟩
  case round =>
    obtain ⟨k, hk1, hk, rfl, HE, gg⟩ := hrel
    obtain ⟨d, rfl⟩ := ext_mk gg
    by_cases hlt : k < n
    · have c1 := HCh.out k hlt
      by_cases he : f (o + k) = f o
      · have hb : (f (o + k) != f o) = false := by simpa using he
        have HX : Hid (∀ j : Nat, j < k + 1 → f (o + j) = f o) := fun j hj => by
          rcases Nat.lt_or_eq_of_le (Nat.le_of_lt_succ hj) with h | h
          · exact HE.out j h
          · rw [h]; exact he
        clear he
        go_wp2_with fail
        refine wp_region_ext_of (by kernel_rfl) (by kernel_rfl) ?_
        repeat (go_big_quiet_step (fail))
        refine wpQuiet_nil ?_
        rintro _ ⟨d1, rfl⟩
        go_wp2
        go_roundw
        case rel => exact ⟨k + 1, by omega, by omega, by go_num, HX, d1.gr⟩
        case measure => simp [intOf]; omega
      · have hb : (f (o + k) != f o) = true := by simpa using he
        have HX : Hid (decide (Alk f o n) = false) := decide_eq_false fun q => he (q k hlt)
        clear he
        go_wp2_with fail
        refine wp_region_ext_of (by kernel_rfl) (by kernel_rfl) ?_
        repeat (go_big_quiet_step (fail))
        refine wpQuiet_nil ?_
        rintro _ ⟨d1, rfl⟩
        go_wp2
        go_ret
        exact ⟨ret_bool HX.out.symm, _, rfl⟩
    · have HX : Hid (decide (Alk f o n) = true) := decide_eq_true fun j hj => HE.out j (by omega)
      clear HE
      go_wp2
      go_ret
      exact ⟨ret_bool HX.out.symm, _, rfl⟩

end Go.Proofs.YtfcknkanbcndjagGreatDoor

/- FOR handpostref.wishes: an array of seven bools in memory; its contract where all go alike. -/
namespace Go.Proofs.YtfcknkanbcndjagGreatDoor
open Go.RowKit
attribute [local go_sem] Ext.all Ext.cell Ext.frozen Ext.lt Ext.lt1 Ext.lt2 Ext.ne Ext.ne'
abbrev bcells (g : Nat → Bool) : Array Value := #[.bool (g 0), .bool (g 1), .bool (g 2), .bool (g 3), .bool (g 4), .bool (g 5), .bool (g 6)]
/-- Seven bools at block p. -/
def BArr (w : World) (p : Nat) (g : Nat → Bool) : Prop := w.heap[p]? = some (.cells (bcells g) 235 (0, 0))
theorem BArr.lt {w : World} {p : Nat} {g : Nat → Bool} (h : BArr w p g) : p < w.heap.size := lt_of_block h
theorem seven {j : Nat} (h : j < 7) : j = 0 ∨ j = 1 ∨ j = 2 ∨ j = 3 ∨ j = 4 ∨ j = 5 ∨ j = 6 := by omega
theorem BArr.cell {w : World} {p : Nat} {g : Nat → Bool} (h : BArr w p g) {j : Nat} (hj : j < 7) : w.cell? ⟨p, j, none⟩ = some (.bool (g j)) := by
  unfold BArr at h
  rcases seven hj with rfl | rfl | rfl | rfl | rfl | rfl | rfl <;> simp [World.cell?, h]
theorem BArr.free {w : World} {p : Nat} {g : Nat → Bool} (h : BArr w p g) (j : Nat) : w.frozen? ⟨p, j, none⟩ = false := by
  unfold BArr at h
  simp [World.frozen?, h]
theorem BArr.all7 {w : World} {p : Nat} {g : Nat → Bool} (h : BArr w p g) : w.cell? ⟨p, 0, none⟩ = some (.bool (g 0)) ∧ w.cell? ⟨p, 1, none⟩ = some (.bool (g 1)) ∧ w.cell? ⟨p, 2, none⟩ = some (.bool (g 2)) ∧ w.cell? ⟨p, 3, none⟩ = some (.bool (g 3)) ∧ w.cell? ⟨p, 4, none⟩ = some (.bool (g 4)) ∧ w.cell? ⟨p, 5, none⟩ = some (.bool (g 5)) ∧ w.cell? ⟨p, 6, none⟩ = some (.bool (g 6)) :=
  ⟨h.cell (by decide), h.cell (by decide), h.cell (by decide), h.cell (by decide), h.cell (by decide), h.cell (by decide), h.cell (by decide)⟩
theorem BArr.gr {w w' : World} {p : Nat} {g : Nat → Bool} (h : BArr w p g) (k : Gr w w') : BArr w' p g := (Below.block k p (lt_of_block h)).trans h
theorem arr_set {w : World} {p j : Nat} {cs : Array Value} {t : TypeId} {v : Value} (h : w.heap[p]? = some (.cells cs t (0, 0))) : (w.setCell ⟨p, j, none⟩ v).heap[p]? = some (.cells (cs.setIfInBounds j v) t (0, 0)) := by
  simp [World.setCell, Array.getElem?_modify, h]
theorem BArr.set {w : World} {p : Nat} {g g' : Nat → Bool} (h : BArr w p g) {j : Nat} (hj : j < 7) {v : Bool} (e : ∀ i, g' i = if i = j then v else g i) : BArr (w.setCell ⟨p, j, none⟩ (.bool v)) p g' := by
  unfold BArr
  rw [arr_set h]
  unfold bcells
  rcases seven hj with rfl | rfl | rfl | rfl | rfl | rfl | rfl <;> simp [e]
theorem BArr.other {w : World} {p q : Nat} {g : Nat → Bool} (h : BArr w p g) (hn : p ≠ q) (j : Nat) (v : Value) : BArr (w.setCell ⟨q, j, none⟩ v) p g := by
  unfold BArr
  rw [Below.heap_setCell w ⟨q, j, none⟩ v p hn]; exact h
abbrev put7 (w : World) (p : Nat) (g : Nat → Bool) : World := ((((((w.setCell ⟨p, 0, none⟩ (.bool (g 0))).setCell ⟨p, 1, none⟩ (.bool (g 1))).setCell ⟨p, 2, none⟩ (.bool (g 2))).setCell ⟨p, 3, none⟩ (.bool (g 3))).setCell ⟨p, 4, none⟩ (.bool (g 4))).setCell ⟨p, 5, none⟩ (.bool (g 5))).setCell ⟨p, 6, none⟩ (.bool (g 6))
theorem BArr.set7 {w : World} {p : Nat} {g : Nat → Bool} (h : BArr w p g) (G : Nat → Bool) : BArr (put7 w p G) p G := by
  have k0 := arr_set (j := 0) (v := .bool (G 0)) h
  have k1 := arr_set (j := 1) (v := .bool (G 1)) k0
  have k2 := arr_set (j := 2) (v := .bool (G 2)) k1
  have k3 := arr_set (j := 3) (v := .bool (G 3)) k2
  have k4 := arr_set (j := 4) (v := .bool (G 4)) k3
  have k5 := arr_set (j := 5) (v := .bool (G 5)) k4
  have k6 := arr_set (j := 6) (v := .bool (G 6)) k5
  clear k0 k1 k2 k3 k4 k5
  unfold BArr put7
  rw [k6]
  simp [bcells]
theorem gr_set7 {w X : World} {p : Nat} (g : Gr w X) (hp : w.heap.size ≤ p) (G : Nat → Bool) : Gr w (put7 X p G) :=
  ((((((g.setCell hp _).setCell hp _).setCell hp _).setCell hp _).setCell hp _).setCell hp _).setCell hp _
/-- The same as wp_gen, at the end. -/
theorem bp_gen {P : Program} {f : Func} {Q : Ending → World → Prop} {e : Exit} {a : Act} {w : World} (S : World → Prop) (hS : S w) (k : ∀ X, S X → bodyPost P f Q e a X) : bodyPost P f Q e a w := k w hS
/-- Wishes, by a hop's number and one. -/
def wg (W : Int → Bool) (j : Nat) : Bool := W ((j : Int) - 1)
def anyG (A B : Nat → Bool) : Nat → Bool
  | 0 => false
  | k + 1 => anyG A B k || (A k && B k)
theorem any_both (U V : Int → Bool) : anyG (wg U) (wg V) 7 = both U V := by
  simp [anyG, wg, both, hopsR, Bool.or_assoc]

theorem wg_alk {f : Nat → Int} {k o j : Nat} (h : Alk f o (2 ^ k)) (hj : f o + 1 = (j : Int)) (i : Nat) : wg (wish f k o) i = if i = j then true else false := by
  unfold wg
  rw [wish_alk h]
  by_cases e : i = j
  · rw [if_pos e]; simp; omega
  · rw [if_neg e]; simp; omega
theorem boxes7 (w : World) : ∃ X, X = (w.alloc (.cells (bcells fun _ => false) 235)).alloc (.cells (bcells fun _ => false) 235) ∧ Gr w X ∧ BArr X w.heap.size (fun _ => false) ∧ BArr X (w.heap.size + 1) (fun _ => false) := by
  refine ⟨_, rfl, ((Gr.refl w).alloc _).alloc _, ?_, ?_⟩
  · exact (Below.block ((Gr.refl _).alloc _) w.heap.size (by simp)).trans (heap_alloc_new w _)
  · have := heap_alloc_new (w.alloc (.cells (bcells fun _ => false) 235)) (.cells (bcells fun _ => false) 235)
    simpa [BArr] using this

set_option maxRecDepth 20000 in
set_option maxHeartbeats 2000000 in
theorem wishes_leaf (f : Nat → Int) (hf : ∀ j, f j ∈ hopsR) (g : Nat) (k : Nat) (o n c : Nat) (w : World) (hn : 2 ^ k = n) (hm : n ≤ 256) (H : Nums w g o n f) (hk : Alk f o n) :
    Calls Tryz.prog 175 #[.slice (some ⟨g, o, none⟩) n c] w fun e w' => e = .returned (.agg (bcells (wg (wish f k o)))) ∧ Gr w w' := by
  have h0 : 0 < n := by rw [← hn]; exact Nat.pow_pos (by decide)
  have hfo : -1 ≤ f o ∧ f o < 6 := by have := hop_mem.2 (hf o); simp [hopB] at this; omega
  obtain ⟨j, hj⟩ : ∃ j : Nat, f o + 1 = (j : Int) := ⟨(f o + 1).toNat, by omega⟩
  have hj7 : j < 7 := by omega
  have HG := hide (fun i => wg_alk (show Alk f o (2 ^ k) by rw [hn]; exact hk) hj i)
  obtain ⟨X, hX, gX, r0, p0⟩ := boxes7 w
  have hP : w.heap.size < w.heap.size + 1 := by omega
  have H' := H.gr gX
  have c0 := H'.2 0 h0
  rw [Nat.add_zero] at c0
  have hgX := H'.1
  have HA := hide (ralike_any X g o n c f H' h0 hm)
  rw [decide_eq_true hk] at HA
  generalize wg (wish f k o) = G at *
  have HX := hide hX
  clear hX H H' hk hn
  go_enter Tryz.func175, Tryz.ntmps175
  go_upto_region 3 with (first
    | (go_at_call 176; rw [← HX.out]; refine HA.out.mono ?_; rintro e _ ⟨rfl, d1, rfl⟩))
  refine wp_gen (fun Y => Gr X Y) d1.gr ?_
  intro Y gY
  have r1 := r0.gr gY
  have p1 := p0.gr gY
  rw [← Below.cell gY (p := ⟨g, o, none⟩) hgX] at c0
  have gWY := gX.trans gY
  clear r0 p0 HX HA
  have fz := p1.free j
  have cj := p1.cell hj7
  have hj0 : (0 : Int) ≤ (j : Int) := by omega
  have hj8 : (j : Int) < 7 := by omega
  go_upto_region 4 with (fail)
  refine wp_gen (fun Z => BArr Z (w.heap.size + 1) G ∧ BArr Z w.heap.size (fun _ => false) ∧ Gr w Z) ⟨p1.set hj7 HG.out, r1.other (by omega) _ _, gWY.setCell (by simp) _⟩ ?_
  rintro Z ⟨pZ, rZ, gZ⟩
  clear r1 p1 fz cj c0 HG
  obtain ⟨a0, a1, a2, a3, a4, a5, a6⟩ := pZ.all7
  obtain ⟨b0, b1, b2, b3, b4, b5, b6⟩ := rZ.all7
  have fr := rZ.free
  go_wp2
  refine bp_gen (fun V => BArr V w.heap.size G ∧ Gr w V) ⟨rZ.set7 G, gr_set7 gZ (Nat.le_refl _) G⟩ ?_
  rintro V ⟨vR, gV⟩
  clear a0 a1 a2 a3 a4 a5 a6 b0 b1 b2 b3 b4 b5 b6 fr
  obtain ⟨b0, b1, b2, b3, b4, b5, b6⟩ := vR.all7
  exact bodyPost_ret (v := .agg (bcells G)) (by simp [results, Tryz.results175, go_sem, *]) rfl ⟨rfl, gV⟩


end Go.Proofs.YtfcknkanbcndjagGreatDoor

/- A REGION THAT DRAWS ITS ORDER, BY AN INVARIANT: each operation is shown once, whatever has come up ahead of it. No Go here. -/
namespace Go.Proofs.YtfcknkanbcndjagGreatDoor

def bsOf (n : Nat) (b : Nat → Bool) : List Bool := (List.range n).map b
def updB (b : Nat → Bool) (i : Nat) : Nat → Bool := fun j => if j = i then true else b j
def left (n : Nat) (b : Nat → Bool) : Nat := (List.range n).countP fun i => !b i
theorem left_upd (b : Nat → Bool) : ∀ (n i : Nat), i < n → b i = false → left n (updB b i) + 1 = left n b
  | 0, i, h, _ => by omega
  | n + 1, i, h, hb => by
    unfold left
    rw [List.range_succ, List.countP_append, List.countP_append]
    by_cases e : i = n
    · subst e
      have : (List.range i).countP (fun j => !updB b i j) = (List.range i).countP (fun j => !b j) := by
        apply List.countP_congr
        intro j hj
        have := List.mem_range.1 hj
        simp [updB, show j ≠ i by omega]
      rw [this]
      simp [updB, hb]
    · have := left_upd b n i (by omega) hb
      unfold left at this
      have e2 : updB b i n = b n := by simp [updB, show n ≠ i by omega]
      simp only [List.countP_cons, List.countP_nil, e2]
      omega
theorem left_zero {b : Nat → Bool} {n : Nat} (h : left n b = 0) : ∀ i, i < n → b i = true := by
  intro i hi
  have := List.countP_eq_zero.1 h i (List.mem_range.2 hi)
  simpa using this
/-- What an operation waits for stands ahead of it in the text; of that, what 'need' names binds. -/
def chkO (need : Nat → List Nat) (n : Nat) (ops : Array Oper) : Bool :=
  (List.range n).all fun i => match ops[i]? with
    | none => false
    | some o => (need i).all (fun j => o.after.toList.any (fun e => Region.binds .any e && e.on == j)) && o.after.toList.all (fun e => decide (e.on < i))
theorem bs_get {n i : Nat} {b : Nat → Bool} (h : i < n) (d : Bool) : (bsOf n b).toArray.getD i d = b i := by
  unfold bsOf
  simp [Array.getD, h]
theorem bs_set {n i : Nat} {b : Nat → Bool} : (bsOf n b).toArray.setIfInBounds i true = (bsOf n (updB b i)).toArray := by
  unfold bsOf
  rw [List.setIfInBounds_toArray]
  congr 1
  apply List.ext_getElem
  · simp
  · intro j h1 h2
    rw [List.getElem_set]
    simp only [List.getElem_map, List.getElem_range, updB]
    by_cases e : i = j
    · simp [e]
    · simp [e, show j ≠ i by omega]

theorem wpAny_inv {P : Program} {ops : Array Oper} {Q : Exit → Act → World → Prop} (n : Nat) (need : Nat → List Nat) (hneed : ∀ i j, j ∈ need i → j < n) (hn : ops.size = n) (hb : chkO need n ops = true)
    (Inv : (Nat → Bool) → Act → World → Prop)
    (step : ∀ i, i < n → ∀ b a w, Inv b a w → b i = false → (∀ j ∈ need i, b j = true) → wpOp P ops Q i (Inv (updB b i)) a w)
    (fin : ∀ b a w, Inv b a w → (∀ i, i < n → b i = true) → Q .normal a w) :
    ∀ (fuel : Nat) (b : Nat → Bool) (a : Act) (w : World), left n b ≤ fuel → Inv b a w → wpAny P .any ops Q fuel (bsOf n b).toArray a w := by
  have key : ∀ b, (∀ i ∈ Region.ready .any ops (bsOf n b).toArray, i < n ∧ b i = false ∧ ∀ j ∈ need i, b j = true) ∧ (Region.ready .any ops (bsOf n b).toArray = [] → ∀ i, i < n → b i = true) := by
    intro b
    have hops : ∀ i, i < n → ∃ o, ops[i]? = some o ∧ (∀ j ∈ need i, ∃ e ∈ o.after, Region.binds .any e = true ∧ e.on = j) ∧ ∀ e ∈ o.after, e.on < i := by
      intro i hi
      have h := List.all_eq_true.1 hb i (List.mem_range.2 hi)
      cases ho : ops[i]? with
      | none => rw [ho] at h; cases h
      | some o =>
        rw [ho] at h
        simp only [Bool.and_eq_true, List.all_eq_true, List.any_eq_true, Array.mem_toList_iff, decide_eq_true_eq, beq_iff_eq] at h
        exact ⟨o, rfl, h.1, h.2⟩
    refine ⟨fun i hi => ?_, fun hr i => ?_⟩
    · unfold Region.ready at hi
      obtain ⟨h1, h2⟩ := List.mem_filter.1 hi
      have hin : i < n := by rw [← hn]; exact List.mem_range.1 h1
      obtain ⟨o, ho, hd, _⟩ := hops i hin
      rw [Bool.and_eq_true, ho, bs_get hin] at h2
      simp only [Option.map_some, Option.getD_some, Array.all_eq_true_iff_forall_mem] at h2
      refine ⟨hin, by simpa using h2.1, fun j hj => ?_⟩
      obtain ⟨e, he, hbd, rfl⟩ := hd j hj
      have := h2.2 e he
      rw [hbd, bs_get (hneed i _ hj)] at this
      simpa using this
    · induction i using Nat.strongRecOn with
      | _ i ih =>
        intro hi
        cases hbi : b i with
        | true => rfl
        | false =>
          exfalso
          obtain ⟨o, ho, _, hlt⟩ := hops i hi
          have : i ∈ Region.ready .any ops (bsOf n b).toArray := by
            unfold Region.ready
            refine List.mem_filter.2 ⟨List.mem_range.2 (by rw [hn]; exact hi), ?_⟩
            rw [Bool.and_eq_true, ho, bs_get hi, hbi]
            simp only [Option.map_some, Option.getD_some, Array.all_eq_true_iff_forall_mem]
            refine ⟨rfl, fun e he => ?_⟩
            have h1 := hlt e he
            rw [bs_get (by omega), ih _ h1 (by omega)]
            simp
          rw [hr] at this
          cases this
  intro fuel
  induction fuel with
  | zero =>
    intro b a w hl hi
    have hall := left_zero (Nat.le_zero.1 hl)
    refine ⟨?_, fin b a w hi hall⟩
    cases hr : Region.ready .any ops (bsOf n b).toArray with
    | nil => rfl
    | cons i r =>
      have := (key b).1 i (by rw [hr]; simp)
      rw [hall i this.1] at this
      exact absurd this.2.1 (by simp)
  | succ fuel ih =>
    intro b a w hl hi
    refine ⟨fun hr => fin b a w hi ((key b).2 hr), fun i hir => ?_⟩
    obtain ⟨h1, h2, h3⟩ := (key b).1 i hir
    refine wpOp_mono (fun a' w' h => ?_) (step i h1 b a w hi h2 h3)
    rw [bs_set]
    exact ih _ _ _ (by have := left_upd b n i h1 h2; omega) h

theorem wp_region_inv {P : Program} {ops : Array Oper} {Q : Exit → Act → World → Prop} {id : Nat} {a : Act} {w : World} (hm : P.follows .mixedOrders = true) (n : Nat) (hn : ops.size = n) (need : Nat → List Nat) (hneed : ∀ i j, j ∈ need i → j < n) (hb : chkO need n ops = true)
    (Inv : (Nat → Bool) → Act → World → Prop)
    (start : Inv (fun _ => false) a w.drew)
    (step : ∀ i, i < n → ∀ b a w, Inv b a w → b i = false → (∀ j ∈ need i, b j = true) → wpOp P ops Q i (Inv (updB b i)) a w)
    (fin : ∀ b a w, Inv b a w → (∀ i, i < n → b i = true) → Q .normal a w) : (Code.region id ops true).wp P Q a w := by
  refine wp_region_any hm ?_
  have h := wpAny_inv n need hneed hn hb Inv step fin n (fun _ => false) a w.drew (by unfold left; exact Nat.le_trans List.countP_le_length (by simp)) start
  have e : (bsOf n fun _ => false).toArray = Array.replicate ops.size false := by
    rw [hn]; unfold bsOf
    apply Array.ext
    · simp
    · intro i h1 h2; simp
  rw [e] at h
  rw [hn] at h ⊢
  exact h

end Go.Proofs.YtfcknkanbcndjagGreatDoor
