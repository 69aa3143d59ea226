import Derived.Test.YthiojjkgodffnaeNe2
import Derived.Test.YthiojjkgodffnaeD8
import Derived.Lib.AppendZerosOnto
import Derived.Laws.Externs
import Derived.Laws.CopyOwn
import Derived.Deep.RegionLaw
/- THE PROGRAM'S Net: Way, Best, News. -/
namespace Go.Proofs.Ythiojjkgodffnae
open Go.RowKit
theorem nil_eq (w : World) : (binOp .eql 49 (.slice none 0 0) (.slice none 0 0)).run Try.prog w = .ok (.bool true) w := by kernel_rfl
theorem nil_ne (a : Addr) (n c : Nat) (w : World) : (binOp .eql 49 (.slice (some a) n c) (.slice none 0 0)).run Try.prog w = .ok (.bool false) w := by kernel_rfl
attribute [local go_sem] nil_eq nil_ne
attribute [local go_sem] Ext.all Ext.cell Ext.frozen Ext.lt Ext.lt1 Ext.lt2 Ext.ne Ext.ne'

/-- The Net's Way and Best. -/
def wayTn (t : Tn) (a k : Int) : Int × Int × Int := if 0 ≤ a ∧ a < 6 then wayOf (t.nd a.toNat) k else (0, 200, -1)
def bestTn (t : Tn) (a k : Int) : Int × Int := if 0 ≤ a ∧ a < 6 then bestOf (sel (t.nd a.toNat)) k else (0, 200)
section
variable {M : Nat → Prop} {B w : World} {p k : Nat} {q : Nat → Nat} {v : Value} {c : Nat → Nat → Nat} {t : Tn}
set_option maxRecDepth 20000 in
set_option maxHeartbeats 8000000 in
theorem netWay_any (H : Ne M B w p k q v c t) (a z : Int) :
    Calls Try.prog 18 #[pv p, iv a, iv z] w fun e w' => e = .returned (wayV (wayTn t a z)) ∧ ∃ d : Ext w, w' = d.out := by
  have hp := H.blk.lt
  by_cases e : 0 ≤ a ∧ a < 6
  · have B1 : Hid (decide (0 ≤ a ∧ a < 6) = true) := decide_eq_true e
    obtain ⟨x, rfl⟩ : ∃ x : Nat, a = (x : Int) := ⟨a.toNat, by omega⟩
    have hx : x < 6 := by omega
    have hxi : (x : Int) < 6 := by omega
    have c0 := H.node hx
    have HV : Hid (wayTn t x z = wayOf (sel (t.nd x)) z) := by unfold Hid wayTn; rw [if_pos e, Int.toNat_natCast]; rfl
    have HW := hide (fun (X : World) (g : Gr w X) => nway_any ((H.six.at_ x hx).gr g) z)
    generalize wayOf (sel (t.nd x)) z = vv at *
    obtain ⟨s, d, h⟩ := vv
    simp only [wayV] at HW
    clear H e
    go_enter Try.func18, Try.ntmps18
    go_wp2_with (first | (go_at_call 45; with_reducible refine (lnode_is B1.out _).mono ?_; rintro e w1 ⟨rfl, hw1⟩; subst hw1) | (go_at_call 48; with_reducible refine (HW.out _ ((Gr.refl _).alloc _)).mono ?_; rintro e _ ⟨rfl, d1, rfl⟩))
    refine bodyPost_ret (v := .agg #[iv s, iv d, iv h]) (by simp [results, Try.results18, go_sem]) rfl ⟨by rw [HV.out]; rfl, ext_mk ?_⟩
    exact (((((Gr.refl _).alloc _).trans d1.gr).setCell (by simp) _).setCell (by simp) _).setCell (by simp) _
  · have B1 : Hid (decide (0 ≤ a ∧ a < 6) = false) := decide_eq_false e
    have HV : Hid (wayTn t a z = (0, 200, -1)) := by unfold Hid wayTn; rw [if_neg e]
    clear H e
    go_enter Try.func18, Try.ntmps18
    go_wp2_with (go_at_call 45; with_reducible refine (lnode_is B1.out _).mono ?_; rintro e w1 ⟨rfl, hw1⟩; subst hw1)
    refine bodyPost_ret (v := .agg #[iv 0, iv 200, iv (-1)]) (by simp [results, Try.results18, go_sem]) rfl ⟨by rw [HV.out]; rfl, ext_mk ?_⟩
    first
      | exact (Gr.refl _).alloc _
      | exact (((((Gr.refl _).alloc _).setCell (by simp) _).setCell (by simp) _).setCell (by simp) _)
set_option maxRecDepth 20000 in
set_option maxHeartbeats 8000000 in
theorem netBest_any (H : Ne M B w p k q v c t) (a z : Int) :
    Calls Try.prog 22 #[pv p, iv a, iv z] w fun e w' => e = .returned (.tuple #[iv (bestTn t a z).1, iv (bestTn t a z).2]) ∧ ∃ d : Ext w, w' = d.out := by
  have hp := H.blk.lt
  by_cases e : 0 ≤ a ∧ a < 6
  · have B1 : Hid (decide (0 ≤ a ∧ a < 6) = true) := decide_eq_true e
    obtain ⟨x, rfl⟩ : ∃ x : Nat, a = (x : Int) := ⟨a.toNat, by omega⟩
    have hx : x < 6 := by omega
    have hxi : (x : Int) < 6 := by omega
    have c0 := H.node hx
    have HV : Hid (bestTn t x z = bestOf (sel (t.nd x)) z) := by unfold Hid bestTn; rw [if_pos e, Int.toNat_natCast]
    have HW := hide (nbest_any (H.six.at_ x hx) z)
    generalize bestOf (sel (t.nd x)) z = vv at *
    obtain ⟨s, d⟩ := vv
    simp only at HW
    clear H e
    go_enter Try.func22, Try.ntmps22
    go_wp2_with (first | (go_at_call 45; with_reducible refine (lnode_is B1.out _).mono ?_; rintro e w1 ⟨rfl, hw1⟩; have hw2 := hw1.symm; clear hw1; subst hw2) | (go_at_call 53; with_reducible refine HW.out.mono ?_; rintro e _ ⟨rfl, d1, rfl⟩))
    go_ret2
    exact ⟨by rw [HV.out]; rfl, d1, rfl⟩
  · have B1 : Hid (decide (0 ≤ a ∧ a < 6) = false) := decide_eq_false e
    have HV : Hid (bestTn t a z = (0, 200)) := by unfold Hid bestTn; rw [if_neg e]
    clear H e
    go_enter Try.func22, Try.ntmps22
    go_wp2_with (go_at_call 45; with_reducible refine (lnode_is B1.out _).mono ?_; rintro e w1 ⟨rfl, hw1⟩; have hw2 := hw1.symm; clear hw1; subst hw2)
    go_ret2
    exact ⟨by rw [HV.out]; rfl, ext_mk (Gr.refl _)⟩
/-- A copy of the news, in new memory. -/
theorem clone_run {w : World} {g n cap : Nat} {cur : Array Value} {l : List Nws} (hg : w.heap[g]? = some (.cells cur 66 (0, 0))) (hn : l.length = n) (ht : cur.toList.take (n * 5) = celn l) (hm : n ≤ 1000) (ty : TypeId) :
    ∃ v' w', (Builtin.append_ #[49, 49] ty #[.slice (some ⟨w.heap.size, 0, none⟩) 0 0, .slice (some ⟨g, 0, none⟩) n cap]).run Try.prog (w.alloc (.cells #[] 66)) = .ok v' w' ∧ OwnN w w' v' l ∧ Gr w w' := by
  obtain ⟨i0, hi, hz0, hz1, hz2⟩ := info_parts Try.info66
  have hO : (w.alloc (.cells #[] 66)).ownsRow w.heap.size 66 5 (.slice (some ⟨w.heap.size, 0, none⟩) 0 0) 0 [] := ⟨rfl, .inr ⟨w.heap.size, 0, #[], rfl, Nat.le_refl _, heap_alloc_new w _, Nat.le_refl _, by unfold maxLen; omega, rfl, rfl⟩⟩
  have hlt := lt_of_block hg
  obtain ⟨v', w', h1, h2, h3, _⟩ := run_append_own (P := Try.prog) (w.alloc (.cells #[] 66)) w.heap.size 49 ty 66 i0 _ 5 40 Try.underlying49 hi hz0 hz1 hz2 (by rfl) (by decide) _ 0 [] hO
      ⟨g, 0, none⟩ n cap (celn l) (by rw [celn_length, hn]) (fun j u hj => by
        have hl : j < n * 5 := by
          have := (List.getElem?_eq_some_iff.1 hj).1
          rwa [celn_length, hn] at this
        rw [← ht, List.getElem?_take_of_lt hl] at hj
        rw [Addr.add_lit]
        have : (w.alloc (.cells #[] 66)).heap[g]? = some (.cells cur 66 (0, 0)) := (Below.block ((Gr.refl w).alloc _) g hlt).trans hg
        simp [World.cell?, this]
        simpa using hj) (celn_one l) (by unfold maxLen; omega) (by omega) (by simp)
  refine ⟨v', w', h1, ?_, ((Gr.refl w).alloc _).grown h3 (fun k hk => by cases hk; exact Nat.le_refl _)⟩
  unfold OwnN
  rw [hn]
  simpa using h2
set_option maxRecDepth 20000 in
set_option maxHeartbeats 8000000 in
theorem cloneN_any {lo : Nat} {w : World} {v : Value} {l : List Nws} (H : NwO lo w v l) (hm : l.length ≤ 1000) : Calls Try.prog 55 #[v] w fun e w' => ∃ u, e = .returned u ∧ OwnN w w' u l ∧ Gr w w' := by
  rcases H.2 with ⟨rfl, hn⟩ | ⟨g, cap, cur, rfl, hb, hg, hn, hc, hs, ht⟩
  · have h0 : l = [] := List.eq_nil_of_length_eq_zero hn
    subst h0
    clear H
    go_enter Try.func55, Try.ntmps55
    go_wp2_with fail
    go_ret
    exact ⟨_, rfl, OwnN.nil _ _, Gr.refl _⟩
  · obtain ⟨v', w', hrun, ho, hgr⟩ := clone_run (cap := cap) hg rfl ht hm 49
    have HR := hide hrun
    have HO := hide ho
    have HG := hide hgr
    have hlt := lt_of_block hg
    clear H hrun ho hgr hg ht hs hc hn hb
    go_enter Try.func55, Try.ntmps55
    go_wp2_with (at_builtin; refine Lib.wpList_append_run _ rfl _ _ _ _ rfl _ _ rfl rfl _ _ HR.out ?_)
    go_ret
    exact ⟨_, rfl, HO.out, HG.out⟩
set_option maxRecDepth 20000 in
set_option maxHeartbeats 8000000 in
theorem netNews_any (H : Ne M B w p k q v c t) (hl : t.news.length ≤ 40) :
    Calls Try.prog 27 #[pv p] w fun e w' => ∃ u, e = .returned u ∧ OwnN w w' u (newsL t.news) ∧ Gr w w' := by
  have hp := H.blk.lt
  have c0 := H.news
  have HC := hide (cloneN_any H.nw (by rw [newsL_len]; omega))
  obtain ⟨ao, cv, hv, _, _, _⟩ := H.nw.shape
  subst hv
  clear H
  go_enter Try.func27, Try.ntmps27
  go_wp2_with (go_at_call 55; with_reducible refine HC.out.mono ?_; rintro e V1 ⟨u, rfl, O1', G1'⟩; have O1 := hide O1'; have G1 := hide G1'; clear O1' G1')
  go_ret
  exact ⟨_, rfl, O1.out, G1.out⟩
end

end Go.Proofs.Ythiojjkgodffnae

/- THE PROGRAM'S Net: there; slices.Delete at a row of news; take. -/
namespace Go.Proofs.Ythiojjkgodffnae
open Go.RowKit
attribute [local go_sem] Ext.all Ext.cell Ext.frozen Ext.lt Ext.lt1 Ext.lt2 Ext.ne Ext.ne'

theorem celn_take : ∀ (l : List Nws) (i : Nat), (celn l).take (i * 5) = celn (l.take i)
  | [], i => by simp [celn]
  | x :: l, 0 => by simp [celn]
  | x :: l, i + 1 => by
    rw [show (i + 1) * 5 = i * 5 + 1 + 1 + 1 + 1 + 1 by omega, celn_cons]
    simp only [List.take_succ_cons, celn_take l i, celn_cons]
theorem celn_drop : ∀ (l : List Nws) (i : Nat), (celn l).drop (i * 5) = celn (l.drop i)
  | [], i => by simp [celn]
  | x :: l, 0 => by simp [celn]
  | x :: l, i + 1 => by
    rw [show (i + 1) * 5 = i * 5 + 1 + 1 + 1 + 1 + 1 by omega, celn_cons]
    simp only [List.drop_succ_cons, celn_drop l i]
theorem run_clear_row5 {P : Program} (w : World) (t e ty : TypeId) (z : Value) (ht : P.underlying t = some (.slice e)) (hv : ∀ w, (zeroValue e).run P w = .ok z w) (zs : List Value) (hz : (Builtin.zeroCells z.cells 1).toList = zs) (h1 : ∀ v ∈ zs, v.oneCell' = true)
    (g o c : Nat) (cur : Array Value) (te : TypeId) (hg : w.heap[g]? = some (.cells cur te (0, 0))) (hfit : o + zs.length ≤ cur.size) :
    (Builtin.clear_ #[t] ty #[.slice (some ⟨g, o, none⟩) 1 c]).run P w = .ok (.tuple #[]) (w.setRow g (cur.toList.take o ++ zs ++ cur.toList.drop (o + zs.length)).toArray) := by
  have hst := run_storeCells_at P g o te zs 0 cur w hg (by simpa using hfit) h1
  simp only [Nat.add_zero] at hst
  simp [Builtin.clear_, run_underlying ht, hv, hz, hst]
/-- A row whose first cells are these news. -/
structure NRow (w : World) (g n cap : Nat) (cur : Array Value) (l : List Nws) : Prop where
  block : w.heap[g]? = some (.cells cur 66 (0, 0))
  len : l.length = n
  le : n ≤ cap
  max : cap ≤ maxLen
  size : cur.size = cap * 5
  take : cur.toList.take (n * 5) = celn l
theorem NRow.cell {w : World} {g n cap : Nat} {cur : Array Value} {l : List Nws} (h : NRow w g n cap cur l) (j : Nat) (u : Value) (hj : (celn l)[j]? = some u) : w.cell? ⟨g, j, none⟩ = some u := by
  have hl : j < n * 5 := by
    have := (List.getElem?_eq_some_iff.1 hj).1
    rwa [celn_length, h.len] at this
  rw [← h.take, List.getElem?_take_of_lt hl] at hj
  simp [World.cell?, h.block]
  simpa using hj
theorem NRow.own {w : World} {g n cap : Nat} {cur : Array Value} {l : List Nws} (h : NRow w g n cap cur l) : NwO 0 w (.slice (some ⟨g, 0, none⟩) n cap) l := by
  unfold NwO
  rw [h.len]
  exact ⟨by rw [celn_length, h.len], .inr ⟨g, cap, cur, rfl, Nat.zero_le _, h.block, h.le, h.max, h.size, h.take⟩⟩
theorem take_two {α : Type} (a b c : List α) (k : Nat) (h : a.length + b.length = k) : (a ++ b ++ c).take k = a ++ b := by
  rw [← h, ← List.length_append]; exact List.take_left
theorem zeros5 : (Builtin.zeroCells (Value.agg #[iv 0, iv 0, iv 0, iv 0, iv 0]).cells 1).toList = [iv 0, iv 0, iv 0, iv 0, iv 0] := by kernel_rfl
theorem zero_news (w : World) : (zeroValue 66).run Try.prog w = .ok (.agg #[iv 0, iv 0, iv 0, iv 0, iv 0]) w := by
  obtain ⟨i0, hi, hz0, hz1, hz2⟩ := info_parts Try.info66
  simp [zeroValue, typeInfo, hi, hz0]

set_option maxRecDepth 20000 in
set_option maxHeartbeats 8000000 in
theorem deleteN_any (w : World) (g n cap i j : Nat) (cur : Array Value) (l : List Nws) (h : NRow w g n cap cur l) (hj1 : j = i + 1) (hj2 : j ≤ n) (hm : n ≤ 1000) :
    Calls Try.prog 65 #[.slice (some ⟨g, 0, none⟩) n cap, .int .i64 i, .int .i64 j] w fun e w' => e = .returned (.slice (some ⟨g, 0, none⟩) (n - 1) cap) ∧ ∃ cur', w' = w.drew.setRow g cur' ∧ NRow w' g (n - 1) cap cur' (l.take i ++ l.drop j) := by
  obtain ⟨i0, hi0, hz0, hz1, hz2⟩ := info_parts Try.info66
  have hmax : cap ≤ 9223372036854775807 := h.max
  have hcap := h.le
  have hlt : i < j := by omega
  have HJ : Hid (j = i + 1) := hj1
  clear hj1
  have hic : i ≤ cap := by omega
  have hjc : j ≤ cap := by omega
  have hne : ¬ (i = j) := by omega
  have hkn : i + (n - j) = n - 1 := by have := HJ.out; omega
  -- behind the append
  obtain ⟨cur1, hcur1⟩ : ∃ cur1 : Array Value, cur1 = (cur.toList.take (i * 5) ++ celn (l.drop j) ++ cur.toList.drop (i * 5 + (celn (l.drop j)).length)).toArray := ⟨_, rfl⟩
  have hdl : (celn (l.drop j)).length = (n - j) * 5 := by rw [celn_length, List.length_drop, h.len]
  have hsz := h.size
  have hsz1 : cur1.size = cap * 5 := by
    rw [hcur1]; simp only [List.size_toArray, List.length_append, List.length_take, List.length_drop, Array.length_toList, hdl]; omega
  obtain ⟨A, hA, hsrc⟩ : ∃ A : Addr, (if cap = j then some (⟨g, 0, none⟩ : Addr) else some ⟨g, j * 5, none⟩) = some A ∧ Hid (∀ t u, (celn (l.drop j))[t]? = some u → w.drew.cell? (A.add t) = some u) := by
    by_cases hc : cap = j
    · refine ⟨⟨g, 0, none⟩, by simp [hc], fun t u hu => ?_⟩
      have : celn (l.drop j) = [] := List.eq_nil_of_length_eq_zero (by rw [hdl]; omega)
      rw [this] at hu; simp at hu
    · refine ⟨⟨g, j * 5, none⟩, by simp [hc], fun t u hu => ?_⟩
      rw [Addr.add_lit]
      show w.cell? _ = _
      refine h.cell _ _ ?_
      rw [← celn_drop, List.getElem?_drop] at hu
      exact hu
  have hrun : Hid (∀ ty, (Builtin.append_ #[49, 49] ty #[.slice (some ⟨g, 0, none⟩) i cap, .slice (some A) (n - j) (cap - j)]).run Try.prog w.drew = .ok (.slice (some ⟨g, 0, none⟩) (i + (n - j)) cap) (w.drew.setRow g cur1)) := fun ty => by
    have := run_append_room (P := Try.prog) w.drew 49 ty 66 i0 Try.underlying49 hi0 g i cap cur h.block A (n - j) (cap - j) (celn (l.drop j)) (by rw [hz1, hdl]) hsrc.out (celn_one _) (by omega) (by rw [hz1, hdl]; omega)
    rw [hz1, ← hcur1] at this
    exact this
  obtain ⟨W1, hW1⟩ : ∃ W1, W1 = w.drew.setRow g cur1 := ⟨_, rfl⟩
  have hb1 : W1.heap[g]? = some (.cells cur1 66 (0, 0)) := by rw [hW1]; exact setRow_heap _ g cur cur1 _ _ h.block
  obtain ⟨cur2, hcur2⟩ : ∃ cur2 : Array Value, cur2 = (cur1.toList.take ((n - 1) * 5) ++ [iv 0, iv 0, iv 0, iv 0, iv 0] ++ cur1.toList.drop ((n - 1) * 5 + 5)).toArray := ⟨_, rfl⟩
  have hcl : ∀ ty c, (Builtin.clear_ #[49] ty #[.slice (some ⟨g, (n - 1) * 5, none⟩) 1 c]).run Try.prog W1 = .ok (.tuple #[]) (W1.setRow g cur2) := fun ty c => by
    have := run_clear_row5 (P := Try.prog) W1 49 66 ty _ Try.underlying49 zero_news _ zeros5 (by intro v hv; simp at hv; rw [hv]; rfl) g ((n - 1) * 5) c cur1 _ hb1 (by simp; omega)
    simp only [List.length_cons, List.length_nil] at this
    rw [this, hcur2]
  have hend : NRow (w.drew.setRow g cur2) g (n - 1) cap cur2 (l.take i ++ l.drop j) := by
    have hl : (l.take i).length = i := by rw [List.length_take, h.len]; omega
    refine ⟨setRow_heap _ g cur cur2 _ _ h.block, by rw [List.length_append, List.length_drop, h.len, hl]; omega, by omega, h.max, ?_, ?_⟩
    · rw [hcur2]; simp only [List.size_toArray, List.length_append, List.length_take, List.length_drop, Array.length_toList, List.length_cons, List.length_nil]; omega
    · have e1 : cur.toList.take (i * 5) = celn (l.take i) := by
        rw [← celn_take, ← h.take, List.take_take]; congr 1; omega
      have e2 : cur1.toList.take ((n - 1) * 5) = celn (l.take i ++ l.drop j) := by
        rw [hcur1, e1, celn_append]
        exact take_two _ _ _ _ (by rw [celn_length, celn_length, hl, List.length_drop, h.len]; omega)
      rw [hcur2, e2]
      show ((celn (l.take i ++ l.drop j) ++ [iv 0, iv 0, iv 0, iv 0, iv 0] ++ cur1.toList.drop _).take ((n - 1) * 5)) = _
      rw [List.append_assoc]
      have : (celn (l.take i ++ l.drop j)).length = (n - 1) * 5 := by rw [celn_length, List.length_append, hl, List.length_drop, h.len]; omega
      rw [← this]; exact List.take_left
  have HE := hide hend
  have HW : Hid (W1 = w.drew.setRow g cur1) := hW1
  have h1n : ¬ (cap = n - 1) := by have := HJ.out; omega
  have hnn : n - (n - 1) = 1 := by have := HJ.out; omega
  clear hend hW1 hcur2 hcur1 hb1 h hdl
  have hpn : n - 1 ≤ n := by omega
  have hpc : n - 1 ≤ cap := by omega
  generalize n - 1 = p at *
  go_enter Try.func65, Try.ntmps65
  go_wp2_with fail
  go_region_law (refine step_append_eq rfl _ _ 49 49 rfl _ _ (by simp [Act.eval, Act.put]) (by simp [Act.eval, Act.put]) (hrun.out _) ?_; rw [← HW.out, hkn])
  go_wp2
  go_ret
  refine ⟨rfl, cur2, ?_, ?_⟩
  · rw [HW.out, setRow_setRow]
  · rw [HW.out, setRow_setRow]; exact HE.out

section
variable {M : Nat → Prop} {B w : World} {p k : Nat} {q : Nat → Nat} {v : Value} {c : Nat → Nat → Nat} {t : Tn}
set_option maxRecDepth 20000 in
theorem there_is (H : Ne M B w p k q v c t) (n : Int) {r : Bool} (hr : decide (0 ≤ n ∧ n < (t.news.length : Int)) = r) : Calls Try.prog 64 #[pv p, iv n] w fun e w' => e = .returned (.bool r) ∧ w' = w := by
  have hp := H.blk.lt
  have c0 := H.news
  obtain ⟨ao, cv, hv, _, _, _⟩ := H.nw.shape
  rw [newsL_len] at hv
  subst hv
  clear H
  subst hr
  by_cases h1 : 0 ≤ n
  · have hd : decide (0 ≤ n) = true := by simpa using h1
    have ho : decide (0 ≤ n ∧ n < (t.news.length : Int)) = decide (n < (t.news.length : Int)) := by congr 1; simp only [eq_iff_iff]; omega
    rw [ho]; clear ho
    go_enter Try.func64, Try.ntmps64
    go_wp2
    go_ret
    exact ⟨rfl, rfl⟩
  · have hd : decide (0 ≤ n) = false := by simpa using h1
    have ho : decide (0 ≤ n ∧ n < (t.news.length : Int)) = false := decide_eq_false (by omega)
    rw [ho]; clear ho
    go_enter Try.func64, Try.ntmps64
    go_wp2
    go_ret
    exact ⟨rfl, rfl⟩
end

end Go.Proofs.Ythiojjkgodffnae
