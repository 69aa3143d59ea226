import Derived.Test.YtfcknkanbcndjagGreatDoorNe1
import Derived.Test.YtfcknkanbcndjagGreatDoorD8
import Derived.Lib.AppendZerosOnto
import Derived.Laws.Externs
import Derived.Laws.CopyOwn
import Derived.Deep.RegionLaw
/- THE PROGRAM'S Net: New. -/
namespace Go.Proofs.YtfcknkanbcndjagGreatDoor
open Go.RowKit
attribute [local go_sem] Ext.all Ext.cell Ext.frozen Ext.lt Ext.lt1 Ext.lt2 Ext.ne Ext.ne'
/-- The cells of a Net that is being made: the first j nodes are there. -/
def ntF2 (k : Nat) (q : Nat → Nat) (j : Nat) : Nat → Value := fun i => if i = 0 then pv k else if i < 7 then (if i - 1 < j then pv (q (i - 1)) else .pointer none) else .slice none 0 0

set_option maxRecDepth 20000 in
set_option maxHeartbeats 8000000 in
theorem netNew_ok (w : World) (M : Nat → Prop) (hM : ∀ b, M b → b < w.heap.size) : Calls Tryz.prog 46 #[] w fun e w' => ∃ p k q, e = .returned (pv p) ∧ Ne M w w' p k q (.slice none 0 0) (fun _ _ => 0) newT ∧ Gr w w' ∧ w.heap.size ≤ p ∧ w.heap.size ≤ k ∧ ∀ a, a < 6 → w.heap.size ≤ q a := by
  have HK := hide (knew_any w)
  have HM := hide hM
  clear hM
  go_enter Tryz.func46, Tryz.ntmps46
  go_upto_region 2 with (go_at_call 100; with_reducible refine HK.out.mono ?_; rintro e V1 ⟨rfl, K1', g1', hs1⟩; have K1 := hide K1'; have G1 := hide g1'; clear K1' g1')
  have N0 : Hid (VArr (V1.alloc (.cells (vcells 8 (ntF2 w.heap.size (fun _ => 0) 0)) 48)) 48 8 V1.heap.size (ntF2 w.heap.size (fun _ => 0) 0)) := VArr.new V1 48 8 _
  refine wp_gen (fun V => Hid (VArr V 48 8 V1.heap.size (ntF2 w.heap.size (fun _ => 0) 0)) ∧ Hid (KL V w.heap.size (fun _ _ => 0)) ∧ Hid (Gr w V)) ⟨N0.out, K1.out.gr ((Gr.refl _).alloc _), G1.out.alloc _⟩ ?_
  clear N0 K1 G1 HK
  generalize hp : V1.heap.size = p at *
  generalize hk : w.heap.size = k at *
  have hkp : k < p := by omega
  have HP := hide hk
  clear hp hk hs1
  rintro V ⟨M0, K0, g0⟩
  have hkw : w.heap.size ≤ k := by have := HP.out; omega
  go_wp2_with fail
  go_loopw [6] (fun v6 wr => ∃ (j : Nat) (q : Nat → Nat), j ≤ 6 ∧ v6 = .int .i64 (j : Int) ∧ Hid (VArr wr 48 8 p (ntF2 k q j)) ∧ Hid (KL wr k (fun _ _ => 0)) ∧ Hid (∀ a, a < j → DAt wr (q a) (sel (newM a)) ∧ w.heap.size ≤ q a ∧ q a ≠ p ∧ ∀ b, b < j → a ≠ b → q a ≠ q b) ∧ Hid (Gr w wr)) (fun v6 _ => (6 - intOf v6).toNat)
  case atStart => exact ⟨0, fun _ => 0, by omega, rfl, M0, K0, fun a ha => by omega, g0⟩
  case round =>
    clear M0 K0 g0
    obtain ⟨j, q, hj6, rfl, M0, K0, Q0, g0⟩ := hrel
    by_cases hj : j < 6
    · have hji : decide ((j : Int) < 6) = true := decide_eq_true (by omega)
      have hj0 : (j : Int) < 6 := by omega
      have wj : IntKind.i64.wrap ((j : Int) + 1) = (j : Int) + 1 := by rw [IntKind.wrap_i64]; omega
      have HN := hide (nnew_ok hj wr.drew)
      have fz := VArr.free M0.out
      have q0 := VArr.cell M0.out (j := 1 + j) (by omega)
      have hp := VArr.lt M0.out
      go_upto_region 5 with (fail)
      go_region_with (go_at_call 101; with_reducible refine HN.out.mono ?_; rintro e V1 ⟨rfl, N1', g1'⟩; have N1 := hide N1'; have G1 := hide ((Gr.refl wr).drewTo g1'); clear N1' g1'; have hp2 := VArr.lt (M0.out.gr G1.out); have fz2 := VArr.free (M0.out.gr G1.out); have r0 := VArr.cell (M0.out.gr G1.out) (j := 1 + j) (by omega))
      all_goals
        have SM : Hid (VArr (V1.setCell ⟨p, 1 + j, none⟩ (pv wr.heap.size)) 48 8 p (ntF2 k (updW q j wr.heap.size) (j + 1))) := (M0.out.gr G1.out).set (fun i hi => by
          unfold ntF2
          by_cases e1 : i = 0
          · rw [if_pos e1, if_pos e1, if_neg (by omega)]
          · rw [if_neg e1, if_neg e1]
            by_cases e2 : i < 7
            · rw [if_pos e2, if_pos e2]
              by_cases e3 : i = 1 + j
              · rw [if_pos e3, if_pos (by omega), show i - 1 = j by omega, updW_same]
              · rw [if_neg e3]
                by_cases e4 : i - 1 < j
                · rw [if_pos e4, if_pos (by omega), updW_ne _ _ (by omega)]
                · rw [if_neg e4, if_neg (by omega)]
            · rw [if_neg e2, if_neg e2, if_neg (by omega)])
        have hkp2 : wr.heap.size ≠ p := by omega
        have hs := Below.size g0.out
        have SK : Hid (KL (V1.setCell ⟨p, 1 + j, none⟩ (pv wr.heap.size)) k (fun _ _ => 0)) := NArr.other (K0.out.gr G1.out) (by omega) _ _
        have SQ : Hid (∀ a, a < j + 1 → DAt (V1.setCell ⟨p, 1 + j, none⟩ (pv wr.heap.size)) (updW q j wr.heap.size a) (sel (newM a)) ∧ w.heap.size ≤ updW q j wr.heap.size a ∧ updW q j wr.heap.size a ≠ p ∧ ∀ b, b < j + 1 → a ≠ b → updW q j wr.heap.size a ≠ updW q j wr.heap.size b) := fun a ha => by
          have lt : ∀ b, b < j → q b < wr.heap.size := fun b hb => (Q0.out b hb).1.lt
          by_cases e : a = j
          · subst e
            rw [updW_same]
            refine ⟨ZArr.other (N1.out) hkp2 _ _, by omega, hkp2, fun b hb hne => ?_⟩
            rw [updW_ne _ _ (fun x => hne x.symm)]
            have := lt b (by omega)
            omega
          · rw [updW_ne _ _ e]
            obtain ⟨h1, h2, h3, h4⟩ := Q0.out a (by omega)
            refine ⟨ZArr.other (h1.gr G1.out) h3 _ _, h2, h3, fun b hb hne => ?_⟩
            by_cases e2 : b = j
            · subst e2
              rw [updW_same]
              have := lt a (by omega)
              omega
            · rw [updW_ne _ _ e2]; exact h4 b (by omega) hne
        have SG := hide ((g0.out.trans G1.out).setCell (p := ⟨p, 1 + j, none⟩) (show w.heap.size ≤ p by omega) (pv wr.heap.size))
        go_wp2_with fail
        go_roundw
        case rel => exact ⟨j + 1, _, by omega, by congr 1, SM, SK, SQ, SG⟩
        case measure => simp [intOf]; omega
    · have hji : decide ((j : Int) < 6) = false := decide_eq_false (by omega)
      have ej : j = 6 := by omega
      subst ej
      have SB : Hid (VArr wr 48 8 p (ntF k q (.slice none 0 0))) := M0.out.congr (fun i hi => by
        unfold ntF2 ntF
        by_cases e1 : i = 0
        · rw [if_pos e1, if_pos e1]
        · rw [if_neg e1, if_neg e1]
          by_cases e2 : i < 7
          · rw [if_pos e2, if_pos e2, if_pos (by omega)]
          · rw [if_neg e2, if_neg e2])
      go_wp2_with fail
      have hwk := HP.out
      go_ret
      have no : ∀ b, w.heap.size ≤ b → ¬ M b := fun b hb hm => by have := HM.out b hm; omega
      have hm : ∀ b, M b → b < w.heap.size := fun b hb => by have := HM.out b hb; omega
      refine ⟨p, k, q, rfl, ⟨g0.out.kp M, hm, SB.out, K0.out, ⟨fun a ha => (Q0.out a ha).1, fun a b ha hb hne => (Q0.out a ha).2.2.2 b hb hne⟩, NwO.nil _ _, no _ (by omega), no _ (by omega), fun a ha => no _ (Q0.out a ha).2.1, fun b e => by cases e⟩, g0.out, by omega, by omega, fun a ha => (Q0.out a ha).2.1⟩

end Go.Proofs.YtfcknkanbcndjagGreatDoor

/- THE PROGRAM'S Net: Way, Best, News. -/
namespace Go.Proofs.YtfcknkanbcndjagGreatDoor
open Go.RowKit
theorem nil_eq (w : World) : (binOp .eql 46 (.slice none 0 0) (.slice none 0 0)).run Tryz.prog w = .ok (.bool true) w := by kernel_rfl
theorem nil_ne (a : Addr) (n c : Nat) (w : World) : (binOp .eql 46 (.slice (some a) n c) (.slice none 0 0)).run Tryz.prog w = .ok (.bool false) w := by kernel_rfl
attribute [local go_sem] nil_eq nil_ne
attribute [local go_sem] Ext.all Ext.cell Ext.frozen Ext.lt Ext.lt1 Ext.lt2 Ext.ne Ext.ne'
/-- The Net's Way and Best. -/
def wayTn (t : Tn) (a k : Int) : Int × Int × Int := if 0 ≤ a ∧ a < 6 then wayOf (t.nd a.toNat) k else (0, 200, -1)
section
variable {M : Nat → Prop} {B w : World} {p k : Nat} {q : Nat → Nat} {v : Value} {c : Nat → Nat → Nat} {t : Tn}
set_option maxRecDepth 20000 in
set_option maxHeartbeats 8000000 in
theorem netWay_any (H : Ne M B w p k q v c t) (a z : Int) :
    Calls Tryz.prog 57 #[pv p, iv a, iv z] w fun e w' => e = .returned (wayV (wayTn t a z)) ∧ ∃ d : Ext w, w' = d.out := by
  have hp := H.blk.lt
  by_cases e : 0 ≤ a ∧ a < 6
  · have B1 : Hid (decide (0 ≤ a ∧ a < 6) = true) := decide_eq_true e
    obtain ⟨x, rfl⟩ : ∃ x : Nat, a = (x : Int) := ⟨a.toNat, by omega⟩
    have hx : x < 6 := by omega
    have hxi : (x : Int) < 6 := by omega
    have c0 := H.node hx
    have HV : Hid (wayTn t x z = wayOf (sel (t.nd x)) z) := by unfold Hid wayTn; rw [if_pos e, Int.toNat_natCast]; rfl
    have HW := hide (fun (X : World) (g : Gr w X) => nway_any ((H.six.at_ x hx).gr g) z)
    generalize wayOf (sel (t.nd x)) z = vv at *
    obtain ⟨s, d, h⟩ := vv
    simp only [wayV] at HW
    clear H e
    go_enter Tryz.func57, Tryz.ntmps57
    go_wp2_with (first | (go_at_call 33; with_reducible refine (lnode_is B1.out _).mono ?_; rintro e w1 ⟨rfl, hw1⟩; subst hw1) | (go_at_call 108; with_reducible refine (HW.out _ ((Gr.refl _).alloc _)).mono ?_; rintro e _ ⟨rfl, d1, rfl⟩))
    refine bodyPost_ret (v := .agg #[iv s, iv d, iv h]) (by simp [results, Tryz.results57, go_sem]) rfl ⟨by rw [HV.out]; rfl, ext_mk ?_⟩
    exact (((((Gr.refl _).alloc _).trans d1.gr).setCell (by simp) _).setCell (by simp) _).setCell (by simp) _
  · have B1 : Hid (decide (0 ≤ a ∧ a < 6) = false) := decide_eq_false e
    have HV : Hid (wayTn t a z = (0, 200, -1)) := by unfold Hid wayTn; rw [if_neg e]
    clear H e
    go_enter Tryz.func57, Tryz.ntmps57
    go_wp2_with (go_at_call 33; with_reducible refine (lnode_is B1.out _).mono ?_; rintro e w1 ⟨rfl, hw1⟩; subst hw1)
    refine bodyPost_ret (v := .agg #[iv 0, iv 200, iv (-1)]) (by simp [results, Tryz.results57, go_sem]) rfl ⟨by rw [HV.out]; rfl, ext_mk ?_⟩
    first
      | exact (Gr.refl _).alloc _
      | exact (((((Gr.refl _).alloc _).setCell (by simp) _).setCell (by simp) _).setCell (by simp) _)
/-- A copy of the news, in new memory. -/
theorem clone_run {w : World} {g n cap : Nat} {cur : Array Value} {l : List Nws} (hg : w.heap[g]? = some (.cells cur 114 (0, 0))) (hn : l.length = n) (ht : cur.toList.take (n * 5) = celn l) (hm : n ≤ 1000) (ty : TypeId) :
    ∃ v' w', (Builtin.append_ #[46, 46] ty #[.slice (some ⟨w.heap.size, 0, none⟩) 0 0, .slice (some ⟨g, 0, none⟩) n cap]).run Tryz.prog (w.alloc (.cells #[] 114)) = .ok v' w' ∧ OwnN w w' v' l ∧ Gr w w' := by
  obtain ⟨i0, hi, hz0, hz1, hz2⟩ := info_parts Tryz.info114
  have hO : (w.alloc (.cells #[] 114)).ownsRow w.heap.size 114 5 (.slice (some ⟨w.heap.size, 0, none⟩) 0 0) 0 [] := ⟨rfl, .inr ⟨w.heap.size, 0, #[], rfl, Nat.le_refl _, heap_alloc_new w _, Nat.le_refl _, by unfold maxLen; omega, rfl, rfl⟩⟩
  have hlt := lt_of_block hg
  obtain ⟨v', w', h1, h2, h3, _⟩ := run_append_own (P := Tryz.prog) (w.alloc (.cells #[] 114)) w.heap.size 46 ty 114 i0 _ 5 40 Tryz.underlying46 hi hz0 hz1 hz2 (by rfl) (by decide) _ 0 [] hO
      ⟨g, 0, none⟩ n cap (celn l) (by rw [celn_length, hn]) (fun j u hj => by
        have hl : j < n * 5 := by
          have := (List.getElem?_eq_some_iff.1 hj).1
          rwa [celn_length, hn] at this
        rw [← ht, List.getElem?_take_of_lt hl] at hj
        rw [Addr.add_lit]
        have : (w.alloc (.cells #[] 114)).heap[g]? = some (.cells cur 114 (0, 0)) := (Below.block ((Gr.refl w).alloc _) g hlt).trans hg
        simp [World.cell?, this]
        simpa using hj) (celn_one l) (by unfold maxLen; omega) (by omega) (by simp)
  refine ⟨v', w', h1, ?_, ((Gr.refl w).alloc _).grown h3 (fun k hk => by cases hk; exact Nat.le_refl _)⟩
  unfold OwnN
  rw [hn]
  simpa using h2
set_option maxRecDepth 20000 in
set_option maxHeartbeats 8000000 in
theorem cloneN_any {lo : Nat} {w : World} {v : Value} {l : List Nws} (H : NwO lo w v l) (hm : l.length ≤ 1000) : Calls Tryz.prog 158 #[v] w fun e w' => ∃ u, e = .returned u ∧ OwnN w w' u l ∧ Gr w w' := by
  rcases H.2 with ⟨rfl, hn⟩ | ⟨g, cap, cur, rfl, hb, hg, hn, hc, hs, ht⟩
  · have h0 : l = [] := List.eq_nil_of_length_eq_zero hn
    subst h0
    clear H
    go_enter Tryz.func158, Tryz.ntmps158
    go_wp2_with fail
    go_ret
    exact ⟨_, rfl, OwnN.nil _ _, Gr.refl _⟩
  · obtain ⟨v', w', hrun, ho, hgr⟩ := clone_run (cap := cap) hg rfl ht hm 46
    have HR := hide hrun
    have HO := hide ho
    have HG := hide hgr
    have hlt := lt_of_block hg
    clear H hrun ho hgr hg ht hs hc hn hb
    go_enter Tryz.func158, Tryz.ntmps158
    go_wp2_with (at_builtin; refine Lib.wpList_append_run _ rfl _ _ _ _ rfl _ _ rfl rfl _ _ HR.out ?_)
    go_ret
    exact ⟨_, rfl, HO.out, HG.out⟩
set_option maxRecDepth 20000 in
set_option maxHeartbeats 8000000 in
theorem netNews_any (H : Ne M B w p k q v c t) (hl : t.news.length ≤ 40) :
    Calls Tryz.prog 125 #[pv p] w fun e w' => ∃ u, e = .returned u ∧ OwnN w w' u (newsL t.news) ∧ Gr w w' := by
  have hp := H.blk.lt
  have c0 := H.news
  have HC := hide (cloneN_any H.nw (by rw [newsL_len]; omega))
  obtain ⟨ao, cv, hv, _, _, _⟩ := H.nw.shape
  subst hv
  clear H
  go_enter Tryz.func125, Tryz.ntmps125
  go_wp2_with (go_at_call 158; with_reducible refine HC.out.mono ?_; rintro e V1 ⟨u, rfl, O1', G1'⟩; have O1 := hide O1'; have G1 := hide G1'; clear O1' G1')
  go_ret
  exact ⟨_, rfl, O1.out, G1.out⟩
end

end Go.Proofs.YtfcknkanbcndjagGreatDoor

/- THE PROGRAM'S Net: there; slices.Delete at a row of news; take. -/
namespace Go.Proofs.YtfcknkanbcndjagGreatDoor
open Go.RowKit
attribute [local go_sem] Ext.all Ext.cell Ext.frozen Ext.lt Ext.lt1 Ext.lt2 Ext.ne Ext.ne'
theorem celn_take : ∀ (l : List Nws) (i : Nat), (celn l).take (i * 5) = celn (l.take i)
  | [], i => by simp [celn]
  | x :: l, 0 => by simp [celn]
  | x :: l, i + 1 => by
    rw [show (i + 1) * 5 = i * 5 + 1 + 1 + 1 + 1 + 1 by omega, celn_cons]
    simp only [List.take_succ_cons, celn_take l i, celn_cons]
theorem celn_drop : ∀ (l : List Nws) (i : Nat), (celn l).drop (i * 5) = celn (l.drop i)
  | [], i => by simp [celn]
  | x :: l, 0 => by simp [celn]
  | x :: l, i + 1 => by
    rw [show (i + 1) * 5 = i * 5 + 1 + 1 + 1 + 1 + 1 by omega, celn_cons]
    simp only [List.drop_succ_cons, celn_drop l i]
theorem run_clear_row5 {P : Program} (w : World) (t e ty : TypeId) (z : Value) (ht : P.underlying t = some (.slice e)) (hv : ∀ w, (zeroValue e).run P w = .ok z w) (zs : List Value) (hz : (Builtin.zeroCells z.cells 1).toList = zs) (h1 : ∀ v ∈ zs, v.oneCell' = true)
    (g o c : Nat) (cur : Array Value) (te : TypeId) (hg : w.heap[g]? = some (.cells cur te (0, 0))) (hfit : o + zs.length ≤ cur.size) :
    (Builtin.clear_ #[t] ty #[.slice (some ⟨g, o, none⟩) 1 c]).run P w = .ok (.tuple #[]) (w.setRow g (cur.toList.take o ++ zs ++ cur.toList.drop (o + zs.length)).toArray) := by
  have hst := run_storeCells_at P g o te zs 0 cur w hg (by simpa using hfit) h1
  simp only [Nat.add_zero] at hst
  simp [Builtin.clear_, run_underlying ht, hv, hz, hst]
/-- A row whose first cells are these news. -/
structure NRow (w : World) (g n cap : Nat) (cur : Array Value) (l : List Nws) : Prop where
  block : w.heap[g]? = some (.cells cur 114 (0, 0))
  len : l.length = n
  le : n ≤ cap
  max : cap ≤ maxLen
  size : cur.size = cap * 5
  take : cur.toList.take (n * 5) = celn l
theorem NRow.cell {w : World} {g n cap : Nat} {cur : Array Value} {l : List Nws} (h : NRow w g n cap cur l) (j : Nat) (u : Value) (hj : (celn l)[j]? = some u) : w.cell? ⟨g, j, none⟩ = some u := by
  have hl : j < n * 5 := by
    have := (List.getElem?_eq_some_iff.1 hj).1
    rwa [celn_length, h.len] at this
  rw [← h.take, List.getElem?_take_of_lt hl] at hj
  simp [World.cell?, h.block]
  simpa using hj
theorem NRow.own {w : World} {g n cap : Nat} {cur : Array Value} {l : List Nws} (h : NRow w g n cap cur l) : NwO 0 w (.slice (some ⟨g, 0, none⟩) n cap) l := by
  unfold NwO
  rw [h.len]
  exact ⟨by rw [celn_length, h.len], .inr ⟨g, cap, cur, rfl, Nat.zero_le _, h.block, h.le, h.max, h.size, h.take⟩⟩
theorem take_two {α : Type} (a b c : List α) (k : Nat) (h : a.length + b.length = k) : (a ++ b ++ c).take k = a ++ b := by
  rw [← h, ← List.length_append]; exact List.take_left
theorem zeros5 : (Builtin.zeroCells (Value.agg #[iv 0, iv 0, iv 0, iv 0, iv 0]).cells 1).toList = [iv 0, iv 0, iv 0, iv 0, iv 0] := by kernel_rfl
theorem zero_news (w : World) : (zeroValue 114).run Tryz.prog w = .ok (.agg #[iv 0, iv 0, iv 0, iv 0, iv 0]) w := by
  obtain ⟨i0, hi, hz0, hz1, hz2⟩ := info_parts Tryz.info114
  simp [zeroValue, typeInfo, hi, hz0]

set_option maxRecDepth 20000 in
set_option maxHeartbeats 8000000 in
theorem deleteN_any (w : World) (g n cap i j : Nat) (cur : Array Value) (l : List Nws) (h : NRow w g n cap cur l) (hj1 : j = i + 1) (hj2 : j ≤ n) (hm : n ≤ 1000) :
    Calls Tryz.prog 123 #[.slice (some ⟨g, 0, none⟩) n cap, .int .i64 i, .int .i64 j] w fun e w' => e = .returned (.slice (some ⟨g, 0, none⟩) (n - 1) cap) ∧ ∃ cur', w' = w.drew.setRow g cur' ∧ NRow w' g (n - 1) cap cur' (l.take i ++ l.drop j) := by
  obtain ⟨i0, hi0, hz0, hz1, hz2⟩ := info_parts Tryz.info114
  have hmax : cap ≤ 9223372036854775807 := h.max
  have hcap := h.le
  have hlt : i < j := by omega
  have HJ : Hid (j = i + 1) := hj1
  clear hj1
  have hic : i ≤ cap := by omega
  have hjc : j ≤ cap := by omega
  have hne : ¬ (i = j) := by omega
  have hkn : i + (n - j) = n - 1 := by have := HJ.out; omega
  -- behind the append
  obtain ⟨cur1, hcur1⟩ : ∃ cur1 : Array Value, cur1 = (cur.toList.take (i * 5) ++ celn (l.drop j) ++ cur.toList.drop (i * 5 + (celn (l.drop j)).length)).toArray := ⟨_, rfl⟩
  have hdl : (celn (l.drop j)).length = (n - j) * 5 := by rw [celn_length, List.length_drop, h.len]
  have hsz := h.size
  have hsz1 : cur1.size = cap * 5 := by
    rw [hcur1]; simp only [List.size_toArray, List.length_append, List.length_take, List.length_drop, Array.length_toList, hdl]; omega
  obtain ⟨A, hA, hsrc⟩ : ∃ A : Addr, (if cap = j then some (⟨g, 0, none⟩ : Addr) else some ⟨g, j * 5, none⟩) = some A ∧ Hid (∀ t u, (celn (l.drop j))[t]? = some u → w.drew.cell? (A.add t) = some u) := by
    by_cases hc : cap = j
    · refine ⟨⟨g, 0, none⟩, by simp [hc], fun t u hu => ?_⟩
      have : celn (l.drop j) = [] := List.eq_nil_of_length_eq_zero (by rw [hdl]; omega)
      rw [this] at hu; simp at hu
    · refine ⟨⟨g, j * 5, none⟩, by simp [hc], fun t u hu => ?_⟩
      rw [Addr.add_lit]
      show w.cell? _ = _
      refine h.cell _ _ ?_
      rw [← celn_drop, List.getElem?_drop] at hu
      exact hu
  have hrun : Hid (∀ ty, (Builtin.append_ #[46, 46] ty #[.slice (some ⟨g, 0, none⟩) i cap, .slice (some A) (n - j) (cap - j)]).run Tryz.prog w.drew = .ok (.slice (some ⟨g, 0, none⟩) (i + (n - j)) cap) (w.drew.setRow g cur1)) := fun ty => by
    have := run_append_room (P := Tryz.prog) w.drew 46 ty 114 i0 Tryz.underlying46 hi0 g i cap cur h.block A (n - j) (cap - j) (celn (l.drop j)) (by rw [hz1, hdl]) hsrc.out (celn_one _) (by omega) (by rw [hz1, hdl]; omega)
    rw [hz1, ← hcur1] at this
    exact this
  obtain ⟨W1, hW1⟩ : ∃ W1, W1 = w.drew.setRow g cur1 := ⟨_, rfl⟩
  have hb1 : W1.heap[g]? = some (.cells cur1 114 (0, 0)) := by rw [hW1]; exact setRow_heap _ g cur cur1 _ _ h.block
  obtain ⟨cur2, hcur2⟩ : ∃ cur2 : Array Value, cur2 = (cur1.toList.take ((n - 1) * 5) ++ [iv 0, iv 0, iv 0, iv 0, iv 0] ++ cur1.toList.drop ((n - 1) * 5 + 5)).toArray := ⟨_, rfl⟩
  have hcl : ∀ ty c, (Builtin.clear_ #[46] ty #[.slice (some ⟨g, (n - 1) * 5, none⟩) 1 c]).run Tryz.prog W1 = .ok (.tuple #[]) (W1.setRow g cur2) := fun ty c => by
    have := run_clear_row5 (P := Tryz.prog) W1 46 114 ty _ Tryz.underlying46 zero_news _ zeros5 (by intro v hv; simp at hv; rw [hv]; rfl) g ((n - 1) * 5) c cur1 _ hb1 (by simp; omega)
    simp only [List.length_cons, List.length_nil] at this
    rw [this, hcur2]
  have hend : NRow (w.drew.setRow g cur2) g (n - 1) cap cur2 (l.take i ++ l.drop j) := by
    have hl : (l.take i).length = i := by rw [List.length_take, h.len]; omega
    refine ⟨setRow_heap _ g cur cur2 _ _ h.block, by rw [List.length_append, List.length_drop, h.len, hl]; omega, by omega, h.max, ?_, ?_⟩
    · rw [hcur2]; simp only [List.size_toArray, List.length_append, List.length_take, List.length_drop, Array.length_toList, List.length_cons, List.length_nil]; omega
    · have e1 : cur.toList.take (i * 5) = celn (l.take i) := by
        rw [← celn_take, ← h.take, List.take_take]; congr 1; omega
      have e2 : cur1.toList.take ((n - 1) * 5) = celn (l.take i ++ l.drop j) := by
        rw [hcur1, e1, celn_append]
        exact take_two _ _ _ _ (by rw [celn_length, celn_length, hl, List.length_drop, h.len]; omega)
      rw [hcur2, e2]
      show ((celn (l.take i ++ l.drop j) ++ [iv 0, iv 0, iv 0, iv 0, iv 0] ++ cur1.toList.drop _).take ((n - 1) * 5)) = _
      rw [List.append_assoc]
      have : (celn (l.take i ++ l.drop j)).length = (n - 1) * 5 := by rw [celn_length, List.length_append, hl, List.length_drop, h.len]; omega
      rw [← this]; exact List.take_left
  have HE := hide hend
  have HW : Hid (W1 = w.drew.setRow g cur1) := hW1
  have h1n : ¬ (cap = n - 1) := by have := HJ.out; omega
  have hnn : n - (n - 1) = 1 := by have := HJ.out; omega
  clear hend hW1 hcur2 hcur1 hb1 h hdl
  have hpn : n - 1 ≤ n := by omega
  have hpc : n - 1 ≤ cap := by omega
  generalize n - 1 = p at *
  go_enter Tryz.func123, Tryz.ntmps123
  go_wp2_with fail
  go_region_law (refine step_append_eq rfl _ _ 46 46 rfl _ _ (by simp [Act.eval, Act.put]) (by simp [Act.eval, Act.put]) (hrun.out _) ?_; rw [← HW.out, hkn])
  go_wp2
  go_ret
  refine ⟨rfl, cur2, ?_, ?_⟩
  · rw [HW.out, setRow_setRow]
  · rw [HW.out, setRow_setRow]; exact HE.out

section
variable {M : Nat → Prop} {B w : World} {p k : Nat} {q : Nat → Nat} {v : Value} {c : Nat → Nat → Nat} {t : Tn}
set_option maxRecDepth 20000 in
theorem there_is (H : Ne M B w p k q v c t) (n : Int) {r : Bool} (hr : decide (0 ≤ n ∧ n < (t.news.length : Int)) = r) : Calls Tryz.prog 122 #[pv p, iv n] w fun e w' => e = .returned (.bool r) ∧ w' = w := by
  have hp := H.blk.lt
  have c0 := H.news
  obtain ⟨ao, cv, hv, _, _, _⟩ := H.nw.shape
  rw [newsL_len] at hv
  subst hv
  clear H
  subst hr
  by_cases h1 : 0 ≤ n
  · have hd : decide (0 ≤ n) = true := by simpa using h1
    have ho : decide (0 ≤ n ∧ n < (t.news.length : Int)) = decide (n < (t.news.length : Int)) := by congr 1; simp only [eq_iff_iff]; omega
    rw [ho]; clear ho
    go_enter Tryz.func122, Tryz.ntmps122
    go_wp2
    go_ret
    exact ⟨rfl, rfl⟩
  · have hd : decide (0 ≤ n) = false := by simpa using h1
    have ho : decide (0 ≤ n ∧ n < (t.news.length : Int)) = false := decide_eq_false (by omega)
    rw [ho]; clear ho
    go_enter Tryz.func122, Tryz.ntmps122
    go_wp2
    go_ret
    exact ⟨rfl, rfl⟩
end

end Go.Proofs.YtfcknkanbcndjagGreatDoor

/- THE PROGRAM'S Net: take. -/
namespace Go.Proofs.YtfcknkanbcndjagGreatDoor
open Go.RowKit
attribute [local go_sem] Ext.all Ext.cell Ext.frozen Ext.lt Ext.lt1 Ext.lt2 Ext.ne Ext.ne'
/-- News as a value; as five numbers. -/
def nwV (x : Nw) : Value := .agg #[iv (x.f : Int), iv (x.g : Int), iv (x.to : Int), iv x.s, iv x.d]
def nsF (x : Nw) : Nat → Int := fun i => if i = 0 then (x.f : Int) else if i = 1 then (x.g : Int) else if i = 2 then (x.to : Int) else if i = 3 then x.s else x.d
theorem nsF_cells {w : World} {X : Nat} {x : Nw} (h : ZArr w 114 5 X (nsF x)) : w.cell? ⟨X, 0, none⟩ = some (iv (x.f : Int)) ∧ w.cell? ⟨X, 1, none⟩ = some (iv (x.g : Int)) ∧ w.cell? ⟨X, 2, none⟩ = some (iv (x.to : Int)) ∧ w.cell? ⟨X, 3, none⟩ = some (iv x.s) ∧ w.cell? ⟨X, 4, none⟩ = some (iv x.d) :=
  ⟨h.cell (j := 0) (by omega), h.cell (j := 1) (by omega), h.cell (j := 2) (by omega), h.cell (j := 3) (by omega), h.cell (j := 4) (by omega)⟩
/-- Five numbers put anew. -/
abbrev put5 (U : World) (X : Nat) (x : Nw) : World := ((((U.setCell ⟨X, 0, none⟩ (iv (x.f : Int))).setCell ⟨X, 1, none⟩ (iv (x.g : Int))).setCell ⟨X, 2, none⟩ (iv (x.to : Int))).setCell ⟨X, 3, none⟩ (iv x.s)).setCell ⟨X, 4, none⟩ (iv x.d)
theorem put5_at {U : World} {t X : Nat} {g : Nat → Int} (h : ZArr U t 5 X g) (x : Nw) : ZArr (put5 U X x) t 5 X (nsF x) := by
  refine ((((h.set (g' := fun i => if i = 0 then (x.f : Int) else g i) (fun _ _ => rfl)).set (g' := fun i => if i = 0 then (x.f : Int) else if i = 1 then (x.g : Int) else g i) ?_).set (g' := fun i => if i = 0 then (x.f : Int) else if i = 1 then (x.g : Int) else if i = 2 then (x.to : Int) else g i) ?_).set (g' := fun i => if i = 0 then (x.f : Int) else if i = 1 then (x.g : Int) else if i = 2 then (x.to : Int) else if i = 3 then x.s else g i) ?_).set ?_
  all_goals
    intro i hi
    rcases (show i = 0 ∨ i = 1 ∨ i = 2 ∨ i = 3 ∨ i = 4 by omega) with rfl | rfl | rfl | rfl | rfl <;> rfl
theorem put5_wr (U : World) (X : Nat) (x : Nw) : Wr X U (put5 U X x) := (((((Wr.refl X U).set _ _).set _ _).set _ _).set _ _).set _ _
theorem NRow.gr {w w' : World} {g n cap : Nat} {cur : Array Value} {l : List Nws} (h : NRow w g n cap cur l) (k : Gr w w') : NRow w' g n cap cur l := ⟨(Below.block k g (lt_of_block h.block)).trans h.block, h.len, h.le, h.max, h.size, h.take⟩
section
variable {M : Nat → Prop} {B w w' : World} {p k : Nat} {q : Nat → Nat} {v : Value} {c : Nat → Nat → Nat} {t : Tn}
/-- A block that is not the Net's is written. -/
theorem Ne.aside (h : Ne M B w p k q v c t) {X : Nat} (hw : Wr X w w') (h1 : p ≠ X) (h2 : k ≠ X) (h3 : ∀ a, a < 6 → q a ≠ X) (h4 : ∀ b, v.ownBlock = some b → b ≠ X) (hM : ¬ M X) : Ne M B w' p k q v c t :=
  h.keep (N := fun b => b ≠ X) ⟨hw.os, hw.tape, hw.output, hw.size, hw.block⟩ (fun _ hb e => hM (e ▸ hb)) h1 h2 h3 h4
/-- One that is younger. -/
theorem Ne.young (h : Ne M B w p k q v c t) {V W : World} {v' : Value} {c' : Nat → Nat → Nat} {t' : Tn} (h' : Ne M B V p k q v' c' t') (hv : ∀ b, v'.ownBlock = some b → b < w.heap.size) {X : Nat} (hX : w.heap.size ≤ X) (hw : Wr X V W) : Ne M B W p k q v' c' t' :=
  h'.aside hw (fun e => by have := h.blk.lt; omega) (fun e => by have := h.lk.lt; omega) (fun a ha e => by have := (h.six.at_ a ha).lt; omega) (fun b e1 e2 => by have := hv b e1; omega) (fun hm => by have := h.bd X hm; have := h.kp.size; omega)
theorem grown_row (w : World) (g : Nat) (cs : Array Value) : w.grownBy (w.drew.setRow g cs) (some g) :=
  ⟨rfl, rfl, rfl, by simp, fun k _ hk => setRow_other _ g k cs (fun e => hk (by rw [e]))⟩
set_option maxRecDepth 20000 in
set_option maxHeartbeats 8000000 in
theorem take_none (H : Ne M B w p k q v c t) {n : Int} (hn : ¬ (0 ≤ n ∧ n < (t.news.length : Int))) :
    Calls Tryz.prog 71 #[pv p, iv n] w fun e w' => e = .returned (.tuple #[.agg #[iv 0, iv 0, iv 0, iv 0, iv 0], iv 6]) ∧ Gr w w' := by
  have HT := hide (there_is (H.ext ((Gr.refl w).alloc (.cells #[iv 0, iv 0, iv 0, iv 0, iv 0] 114))) n (decide_eq_false hn))
  clear H hn
  go_enter Tryz.func71, Tryz.ntmps71
  go_wp2_with (go_at_call 122; with_reducible refine HT.out.mono ?_; rintro e w1 ⟨rfl, hw1⟩; have hw2 := hw1.symm; clear hw1; subst hw2)
  refine bodyPost_ret (v := .tuple #[.agg #[iv 0, iv 0, iv 0, iv 0, iv 0], iv 6]) (by simp [results, Tryz.results71, go_sem]) rfl ⟨rfl, ?_⟩
  first
    | exact (Gr.refl _).alloc _
    | exact ((((((Gr.refl _).alloc _).setCell (by simp) _).setCell (by simp) _).setCell (by simp) _).setCell (by simp) _).setCell (by simp) _
set_option maxRecDepth 20000 in
set_option maxHeartbeats 8000000 in
theorem take_ok (H : Ne M B w p k q v c t) (hl : t.news.length ≤ 40) {n : Nat} (hn : n < t.news.length) {x : Nw} (hx : t.news[n] = x) :
    Calls Tryz.prog 71 #[pv p, iv (n : Int)] w fun e w' => ∃ v', e = .returned (.tuple #[nwV x, iv 0]) ∧ Ne M B w' p k q v' c { t with news := dropAt t.news n } := by
  have hni : (n : Int) < (t.news.length : Int) := by omega
  have g0 : Gr w (w.alloc (.cells #[iv 0, iv 0, iv 0, iv 0, iv 0] 114)) := (Gr.refl w).alloc _
  have HT := hide (there_is (H.ext g0) (n : Int) (decide_eq_true ⟨by omega, hni⟩))
  have hp := H.blk.lt
  have c0 := H.news
  have hlen := newsL_len t.news
  obtain ⟨g, cap, cur, hv, R0⟩ : ∃ g cap cur, v = .slice (some ⟨g, 0, none⟩) t.news.length cap ∧ NRow w g t.news.length cap cur (newsL t.news) := by
    rcases H.nw.2 with ⟨_, h0⟩ | ⟨g, cap, cur, hv, hb, hg, hn', hc, hs, ht⟩
    · exfalso; omega
    · rw [hlen] at hv ht hn'
      exact ⟨g, cap, cur, hv, ⟨hg, hlen, hn', hc, hs, ht⟩⟩
  subst hv
  have hg := lt_of_block R0.block
  have hgp : g ≠ p := (H.vq (b := g) rfl).1
  have hcn := celn_at (newsL t.news) n (by omega)
  have hx5 : (newsL t.news)[n]'(by omega) = ((x.f : Int), (x.g : Int), (x.to : Int), x.s, x.d) := by
    unfold newsL
    rw [List.getElem_map, hx]
  rw [hx5] at hcn
  obtain ⟨a0, a1, a2, a3, a4⟩ := hcn
  have d0 := R0.cell _ _ a0
  have d1 := R0.cell _ _ a1
  have d2 := R0.cell _ _ a2
  have d3 := R0.cell _ _ a3
  have d4 := R0.cell _ _ a4
  simp only at d0 d1 d2 d3 d4
  clear a0 a1 a2 a3 a4 hx5
  have hfz := H.blk.free
  have wn : IntKind.i64.wrap ((n : Int) + 1) = (n : Int) + 1 := by rw [IntKind.wrap_i64]; omega
  have HH := hide H
  have HX := hide hx
  have HR := hide R0
  have HL := hide hl
  clear H hx R0 hl g0
  go_enter Tryz.func71, Tryz.ntmps71
  go_upto_region 4 with (go_at_call 122; with_reducible refine HT.out.mono ?_; rintro e w1 ⟨rfl, hw1⟩; have hw2 := hw1.symm; clear hw1; subst hw2)
  refine wp_gen (fun V => Hid (Ne M B V p k q (.slice (some ⟨g, 0, none⟩) t.news.length cap) c t) ∧ Hid (NRow V g t.news.length cap cur (newsL t.news)) ∧ Hid (ZArr V 114 5 w.heap.size (fun _ => 0)) ∧ Hid (ZArr V 114 5 (w.heap.size + 1) (nsF x))) ⟨HH.out.ext (((Gr.refl w).alloc _).alloc _), HR.out.gr (((Gr.refl w).alloc _).alloc _), ZArr.gr (show ZArr _ 114 5 w.heap.size (fun _ => 0) from heap_alloc_new w _) ((Gr.refl _).alloc _), by
    have := heap_alloc_new (w.alloc (.cells #[iv 0, iv 0, iv 0, iv 0, iv 0] 114)) (.cells #[iv (x.f : Int), iv (x.g : Int), iv (x.to : Int), iv x.s, iv x.d] 114)
    have e : (w.alloc (.cells #[iv 0, iv 0, iv 0, iv 0, iv 0] 114)).heap.size = w.heap.size + 1 := by simp
    rw [e] at this
    exact this⟩ ?_
  have LT : Hid (p < w.heap.size ∧ g < w.heap.size) := ⟨hp, hg⟩
  clear HT c0 hp hg d0 d1 d2 d3 d4 hfz
  have HY : Hid (∀ {V W : World} {v' : Value} {c' : Nat → Nat → Nat} {t' : Tn}, Ne M B V p k q v' c' t' → (∀ b, v'.ownBlock = some b → b < w.heap.size) → Wr w.heap.size V W → Ne M B W p k q v' c' t') := fun h1 h2 h3 => HH.out.young h1 h2 (Nat.le_refl _) h3
  clear HH HR
  generalize w.heap.size = X at *
  rintro V ⟨H1, R1, Z1, Z2⟩
  have hp : p < V.heap.size := H1.out.blk.lt
  have c0 := H1.out.news
  have HD := deleteN_any V g t.news.length cap n (n + 1) cur (newsL t.news) R1.out rfl hn (by have := HL.out; omega)
  have e1 : ((n + 1 : Nat) : Int) = (n : Int) + 1 := by omega
  rw [e1] at HD
  have HDE : Hid (Calls Tryz.prog 123 #[.slice (some ⟨g, 0, none⟩) t.news.length cap, iv (n : Int), iv ((n : Int) + 1)] V fun e W => e = .returned (.slice (some ⟨g, 0, none⟩) (t.news.length - 1) cap) ∧ Ne M B (W.setCell ⟨p, 7, none⟩ (.slice (some ⟨g, 0, none⟩) (t.news.length - 1) cap)) p k q (.slice (some ⟨g, 0, none⟩) (t.news.length - 1) cap) c { t with news := dropAt t.news n } ∧ ZArr W 114 5 X (fun _ => 0) ∧ ZArr W 114 5 (X + 1) (nsF x) ∧ W.cell? ⟨p, 7, none⟩ = some (.slice (some ⟨g, 0, none⟩) t.news.length cap) ∧ W.frozen? ⟨p, 7, none⟩ = false ∧ p < W.heap.size) := HD.mono fun e W ⟨he, cur', hW, R2⟩ => by
    obtain ⟨hl1, hl2⟩ := LT.out
    have kept : ∀ b, b ≠ g → W.heap[b]? = V.heap[b]? := fun b hb => by rw [hW]; exact setRow_other V.drew g b cur' hb
    have hbp : VArr W 48 8 p (ntF k q (.slice (some ⟨g, 0, none⟩) t.news.length cap)) := (kept p hgp.symm).trans H1.out.blk
    refine ⟨he, ?_, (kept X (by omega)).trans Z1.out, (kept (X + 1) (by omega)).trans Z2.out, ?_, hbp.free 7, hbp.lt⟩
    · refine H1.out.newsPut (by rw [hW]; exact grown_row V g cur') ?_ (.inr (.inl rfl))
      have := R2.own
      have e2 : newsL (dropAt t.news n) = (newsL t.news).take n ++ (newsL t.news).drop (n + 1) := by
        unfold dropAt newsL
        rw [List.map_append, List.map_take, List.map_drop]
      rw [e2]; exact this
    · exact hbp.cell (j := 7) (by omega)
  clear HD e1 R1
  go_upto_region 5 with (go_at_call 123; with_reducible refine HDE.out.mono ?_; rintro e W ⟨rfl, H2', z1', z2', f1, f2, f3⟩; have H2 := hide H2'; have Z3 := hide z1'; have Z4 := hide z2'; clear H2' z1' z2')
  have ZX : Hid (p ≠ X ∧ p ≠ X + 1) := by have := LT.out; exact ⟨by omega, by omega⟩
  refine wp_gen (fun V => Hid (Ne M B V p k q (.slice (some ⟨g, 0, none⟩) (t.news.length - 1) cap) c { t with news := dropAt t.news n }) ∧ Hid (ZArr V 114 5 X (fun _ => 0)) ∧ Hid (ZArr V 114 5 (X + 1) (nsF x))) ⟨H2.out, Z3.out.other (fun e => ZX.out.1 e.symm) _ _, Z4.out.other (fun e => ZX.out.2 e.symm) _ _⟩ ?_
  clear H2 Z3 Z4 f1 f2 f3 HDE Z1 Z2 H1 c0 hp
  rintro U ⟨H3, Z1, Z2⟩
  obtain ⟨y0, y1, y2, y3, y4⟩ := nsF_cells Z2.out
  have fz := Z1.out.free
  have x0 := Z1.out.cell (j := 0) (by omega)
  have x1 := Z1.out.cell (j := 1) (by omega)
  have x2 := Z1.out.cell (j := 2) (by omega)
  have x3 := Z1.out.cell (j := 3) (by omega)
  have x4 := Z1.out.cell (j := 4) (by omega)
  have hX := Z1.out.lt
  have hX1 := Z2.out.lt
  go_wp2_with fail
  refine bp_gen' (fun Y => Hid (ZArr Y 114 5 X (nsF x)) ∧ Hid (Ne M B Y p k q (.slice (some ⟨g, 0, none⟩) (t.news.length - 1) cap) c { t with news := dropAt t.news n })) ⟨put5_at Z1.out x, HY.out H3.out (fun b e => by cases e; exact LT.out.2) (put5_wr U X x)⟩ ?_
  clear y0 y1 y2 y3 y4 x0 x1 x2 x3 x4 fz hX hX1 Z1 Z2 H3
  rintro Y ⟨ZY, NY⟩
  obtain ⟨y0, y1, y2, y3, y4⟩ := nsF_cells ZY.out
  have hX := ZY.out.lt
  refine bodyPost_ret (v := .tuple #[.agg #[iv (x.f : Int), iv (x.g : Int), iv (x.to : Int), iv x.s, iv x.d], iv 0]) (by simp [results, Tryz.results71, go_sem, y0, y1, y2, y3, y4]) rfl ⟨_, rfl, NY.out⟩
end

end Go.Proofs.YtfcknkanbcndjagGreatDoor

/- THE PROGRAM'S Net: hear. -/
namespace Go.Proofs.YtfcknkanbcndjagGreatDoor
open Go.RowKit
attribute [local go_sem] Ext.all Ext.cell Ext.frozen Ext.lt Ext.lt1 Ext.lt2 Ext.ne Ext.ne'
section
variable {M : Nat → Prop} {B w w' : World} {p k : Nat} {q : Nat → Nat} {v : Value} {c : Nat → Nat → Nat} {t : Tn}
/-- What the node says, as the Net's own word. -/
theorem hear_step (A : TnA t c) {y : Nw} (hy : y ∈ t.news) : hcode (t.nd y.g) y.f y.to y.s y.d = (hearC t y).2 ∧ { t with nd := updW t.nd y.g (hrM (t.nd y.g) y.f y.to y.s y.d) } = (hearC t y).1 := by
  obtain ⟨h1, h2, h3, h4, h5, h6, h7, _⟩ := A.ok.news y hy
  have hme := A.s.tc.me y.g h2
  have ok : hrOk (t.nd y.g) y.f y.to y.s y.d := ⟨⟨⟨by omega, by omega⟩, by rw [hme]; omega⟩, ⟨by omega, by omega⟩, h5, h6, h7⟩
  unfold hcode hrM hearC
  rw [Int.toNat_natCast, Int.toNat_natCast, if_pos ok]
  by_cases e : (t.nd y.g).cost y.f = 0
  · rw [if_pos e, if_pos e, if_neg (fun x => x.2 e)]
    exact ⟨rfl, by rw [updW_id _ _ _ rfl]⟩
  · rw [if_neg e, if_neg e, if_pos ⟨ok, e⟩]
    exact ⟨rfl, rfl⟩
end
set_option maxRecDepth 20000 in
set_option maxHeartbeats 8000000 in
theorem hear_none {M : Nat → Prop} {B w : World} {p k : Nat} {q : Nat → Nat} {v : Value} {c : Nat → Nat → Nat} {t : Tn} (H : Ne M B w p k q v c t) {n : Int} (hn : ¬ (0 ≤ n ∧ n < (t.news.length : Int))) :
    Calls Tryz.prog 70 #[pv p, iv n] w fun e w' => e = .returned (iv 6) ∧ Gr w w' := by
  have HT := hide (take_none H hn)
  clear H hn
  go_enter Tryz.func70, Tryz.ntmps70
  go_wp2_with (go_at_call 71; with_reducible refine HT.out.mono ?_; rintro e V ⟨rfl, G1'⟩; have G1 := hide G1'; clear G1')
  go_ret
  exact ⟨rfl, by first | exact G1.out.alloc _ | exact (((((G1.out.alloc _).setCell (by have := Below.size G1.out; simp; omega) _).setCell (by have := Below.size G1.out; simp; omega) _).setCell (by have := Below.size G1.out; simp; omega) _).setCell (by have := Below.size G1.out; simp; omega) _).setCell (by have := Below.size G1.out; simp; omega) _⟩
set_option maxRecDepth 20000 in
set_option maxHeartbeats 8000000 in
theorem hear_ok' {M : Nat → Prop} {B w : World} {p k : Nat} {q : Nat → Nat} {v : Value} {c : Nat → Nat → Nat} {t : Tn} (H : Ne M B w p k q v c t) (A : TnA t c) (hl : t.news.length ≤ 40) {n : Nat} (hn : n < t.news.length) {x : Nw} (hx : t.news[n] = x) :
    Calls Tryz.prog 70 #[pv p, iv (n : Int)] w fun e w' => ∃ v', e = .returned (iv (hearC { t with news := dropAt t.news n } x).2) ∧ Ne M B w' p k q v' c (hearC { t with news := dropAt t.news n } x).1 := by
  have hm : x ∈ t.news := by rw [← hx]; exact List.getElem_mem hn
  have HT := hide (take_ok H hl hn hx)
  simp only [nwV] at HT
  obtain ⟨h1, h2, h3, h4, h5, h6, h7, _⟩ := A.ok.news x hm
  have hg6 : (x.g : Int) < 6 := by omega
  have E1 : (hearC { t with news := dropAt t.news n } x).2 = (hearC t x).2 := by unfold hearC; dsimp only; split <;> rfl
  have E2 : (hearC { t with news := dropAt t.news n } x).1 = { t with news := dropAt t.news n, nd := (hearC t x).1.nd } := by unfold hearC hearT; dsimp only; split <;> rfl
  rw [E1, E2]
  have HC : Hid (∀ (V : World) (v' : Value), Ne M B V p k q v' c { t with news := dropAt t.news n } → Calls Tryz.prog 58 #[pv (q x.g), nwV x] V fun e w' => e = .returned (iv (hearC t x).2) ∧ Ne M B w' p k q v' c { t with news := dropAt t.news n, nd := (hearC t x).1.nd } ∧ Wr (q x.g) V w') := fun V v' h => by
    obtain ⟨e1, e2⟩ := hear_step A hm
    refine (nhearN (h.six.at_ x.g h2) (A.s.z x.g h2) (x.f : Int) (x.g : Int) (x.to : Int) x.s x.d).mono fun e w' ⟨he, hm, hw⟩ => ⟨by rw [he, e1], ?_, hw⟩
    have := h.put h2 hw hm
    rw [← e2]
    exact this
  clear H A hx hm E1 E2 h1 h3 h4 h5 h6 h7
  generalize (hearC t x).2 = r at *
  generalize (hearC t x).1.nd = nd' at *
  go_enter Tryz.func70, Tryz.ntmps70
  go_upto_region 4 with (go_at_call 71; with_reducible refine HT.out.mono ?_; rintro e V ⟨v', rfl, H1'⟩; have H1 := hide H1'; clear H1')
  refine wp_gen (fun W => Hid (Ne M B W p k q v' c { t with news := dropAt t.news n }) ∧ Hid (ZArr W 114 5 V.heap.size (nsF x))) ⟨H1.out.ext ((Gr.refl _).alloc _), (show ZArr _ 114 5 V.heap.size (nsF x) from heap_alloc_new V _)⟩ ?_
  clear H1
  generalize V.heap.size = X at *
  rintro W ⟨H1, Z1⟩
  obtain ⟨y0, y1, y2, y3, y4⟩ := nsF_cells Z1.out
  have hX := Z1.out.lt
  have hp := H1.out.blk.lt
  have n0 := H1.out.node h2
  have HCW := hide (HC.out _ _ (H1.out.ext (Gr.refl W).drew))
  have hXq : Hid (X ≠ q x.g) := blk_ne Z1.out (H1.out.six.at_ x.g h2) (by decide)
  simp only [nwV] at HCW
  clear HC HT
  go_region_held3 (fun W => W.cell? ⟨p, 1 + x.g, none⟩ = some (pv (q x.g)) ∧ W.cell? ⟨X, 0, none⟩ = some (iv (x.f : Int)) ∧ W.cell? ⟨X, 1, none⟩ = some (iv (x.g : Int)) ∧ W.cell? ⟨X, 2, none⟩ = some (iv (x.to : Int)) ∧ W.cell? ⟨X, 3, none⟩ = some (iv x.s) ∧ W.cell? ⟨X, 4, none⟩ = some (iv x.d)) (first | exact ⟨n0, y0, y1, y2, y3, y4⟩ | exact ⟨H2.out.node h2, nsF_cells Z2.out⟩ | go_keep) (first | (go_at_call 58; with_reducible refine HCW.out.mono ?_; rintro e V2 ⟨rfl, H2', W2'⟩; have H2 := hide H2'; have Z2 := hide (W2'.arr (Z1.out.gr (Gr.refl W).drew) hXq.out); clear H2' W2'))
  all_goals
    go_wp2_with fail
    go_ret
    exact ⟨_, rfl, H2.out⟩

end Go.Proofs.YtfcknkanbcndjagGreatDoor

/- THE PROGRAM'S Net: double, tell. -/
namespace Go.Proofs.YtfcknkanbcndjagGreatDoor
open Go.RowKit
attribute [local go_sem] Ext.all Ext.cell Ext.frozen Ext.lt Ext.lt1 Ext.lt2 Ext.ne Ext.ne'
section
variable {M : Nat → Prop} {B w w' : World} {p k : Nat} {q : Nat → Nat} {v : Value} {c : Nat → Nat → Nat} {t : Tn}
/-- News are put behind all others: the append, and the store behind it. -/
theorem Ne.app (H : Ne M B w p k q v c t) {ao : Option Addr} {cp : Nat} (ty : TypeId) {nl : List Nw} (hN : NewsAt w ao (newsL nl)) (h0 : 0 < nl.length) (hm : t.news.length + nl.length ≤ 1000) :
    ∃ v' w', (Builtin.append_ #[46, 46] ty #[v, .slice ao nl.length cp]).run Tryz.prog w = .ok v' w' ∧ (∃ a n c, v' = .slice a n c) ∧ (w'.cell? ⟨p, 7, none⟩ = some v ∧ w'.frozen? ⟨p, 7, none⟩ = false ∧ p < w'.heap.size) ∧ Ne M B (w'.setCell ⟨p, 7, none⟩ v') p k q v' c { t with news := t.news ++ nl } := by
  obtain ⟨v', w', h1, h2, h3, h4⟩ := NwO.app (c := cp) ty H.nw (Nat.zero_le _) hN (by rw [newsL_len]; exact h0) (by rw [newsL_len, newsL_len]; exact hm)
  rw [newsL_len] at h1
  have hb : VArr w' 48 8 p (ntF k q v) := (h3.block p H.blk.lt (fun e => (H.vq e.symm).1 rfl)).trans H.blk
  have hs := h2.shape
  obtain ⟨a, n, e, _⟩ := hs
  refine ⟨v', w', h1, ⟨a, _, n, e⟩, ⟨hb.cell (j := 7) (by omega), hb.free 7, hb.lt⟩, H.newsPut h3 (by rw [newsL_app]; exact h2) (.inr h4)⟩
set_option maxRecDepth 20000 in
set_option maxHeartbeats 8000000 in
theorem double_no (H : Ne M B w p k q v c t) (hl : t.news.length ≤ 40) {n r : Int} (hr : (¬ (0 ≤ n ∧ n < (t.news.length : Int)) ∧ r = 6) ∨ ((0 ≤ n ∧ n < (t.news.length : Int)) ∧ 40 ≤ t.news.length ∧ r = 9)) :
    Calls Tryz.prog 72 #[pv p, iv n] w fun e w' => e = .returned (iv r) ∧ w' = w := by
  rcases hr with ⟨hn, rfl⟩ | ⟨hn, h40, rfl⟩
  · have HT := hide (there_is H n (decide_eq_false hn))
    clear H hn
    go_enter Tryz.func72, Tryz.ntmps72
    go_wp2_with (go_at_call 122; with_reducible refine HT.out.mono ?_; rintro e w1 ⟨rfl, hw1⟩; have hw2 := hw1.symm; clear hw1; subst hw2)
    go_ret
    exact ⟨rfl, rfl⟩
  · have HT := hide (there_is H n (decide_eq_true hn))
    have hp := H.blk.lt
    have c0 := H.news
    obtain ⟨ao, cv, hv, _, _, _⟩ := H.nw.shape
    rw [newsL_len] at hv
    subst hv
    have g1 : decide ((40 : Int) ≤ (t.news.length : Int)) = true := decide_eq_true (by omega)
    clear H hn h40
    go_enter Tryz.func72, Tryz.ntmps72
    go_wp2_with (go_at_call 122; with_reducible refine HT.out.mono ?_; rintro e w1 ⟨rfl, hw1⟩; have hw2 := hw1.symm; clear hw1; subst hw2)
    go_ret
    exact ⟨rfl, rfl⟩
set_option maxRecDepth 20000 in
set_option maxHeartbeats 8000000 in
theorem double_ok (H : Ne M B w p k q v c t) (hl : t.news.length < 40) {n : Nat} (hn : n < t.news.length) {x : Nw} (hx : t.news[n] = x) :
    Calls Tryz.prog 72 #[pv p, iv (n : Int)] w fun e w' => ∃ v', e = .returned (iv 0) ∧ Ne M B w' p k q v' c { t with news := t.news ++ [x] } := by
  have hni : (n : Int) < (t.news.length : Int) := by omega
  have HT := hide (there_is H (n : Int) (decide_eq_true ⟨by omega, hni⟩))
  have hp := H.blk.lt
  have c0 := H.news
  have hlen := newsL_len t.news
  obtain ⟨g, cap, cur, hv, R0⟩ : ∃ g cap cur, v = .slice (some ⟨g, 0, none⟩) t.news.length cap ∧ NRow w g t.news.length cap cur (newsL t.news) := by
    rcases H.nw.2 with ⟨_, h0⟩ | ⟨g, cap, cur, hv, hb, hg, hn', hc, hs, ht⟩
    · exfalso; omega
    · rw [hlen] at hv ht hn'
      exact ⟨g, cap, cur, hv, ⟨hg, hlen, hn', hc, hs, ht⟩⟩
  subst hv
  have hg := lt_of_block R0.block
  have hcn := celn_at (newsL t.news) n (by omega)
  have hx5 : (newsL t.news)[n]'(by omega) = ((x.f : Int), (x.g : Int), (x.to : Int), x.s, x.d) := by
    unfold newsL
    rw [List.getElem_map, hx]
  rw [hx5] at hcn
  obtain ⟨a0, a1, a2, a3, a4⟩ := hcn
  have d0 := R0.cell _ _ a0
  have d1 := R0.cell _ _ a1
  have d2 := R0.cell _ _ a2
  have d3 := R0.cell _ _ a3
  have d4 := R0.cell _ _ a4
  simp only at d0 d1 d2 d3 d4
  clear a0 a1 a2 a3 a4 hx5
  have g1 : decide ((40 : Int) ≤ (t.news.length : Int)) = false := decide_eq_false (by omega)
  have gX : Gr w (w.alloc (.cells #[iv (x.f : Int), iv (x.g : Int), iv (x.to : Int), iv x.s, iv x.d] 114)).drew := ((Gr.refl w).alloc _).drew
  have hN : NewsAt (w.alloc (.cells #[iv (x.f : Int), iv (x.g : Int), iv (x.to : Int), iv x.s, iv x.d] 114)).drew (some ⟨w.heap.size, 0, none⟩) (newsL [x]) := .inr ⟨w.heap.size, 0, rfl, by simp, fun i hi => by
    have : i = 0 := by simp [newsL] at hi; exact hi
    subst this
    simp [newsL, go_sem]⟩
  obtain ⟨v', w', hrun, ⟨sa, sn, sc, hs⟩, ⟨f1, f2, f3⟩, H'⟩ := (H.ext gX).app (cp := 1) 46 hN (by simp) (by simp; omega)
  subst hs
  have HR : Hid ((Builtin.append_ #[46, 46] 46 #[.slice (some ⟨g, 0, none⟩) t.news.length cap, .slice (some ⟨w.heap.size, 0, none⟩) 1 1]).run Tryz.prog (w.alloc (.cells #[iv (x.f : Int), iv (x.g : Int), iv (x.to : Int), iv x.s, iv x.d] 114)).drew = .ok (.slice sa sn sc) w') := hrun
  have HF := hide H'
  clear H' hrun hN gX hx R0 H
  go_enter Tryz.func72, Tryz.ntmps72
  go_upto_region 5 with (go_at_call 122; with_reducible refine HT.out.mono ?_; rintro e w1 ⟨rfl, hw1⟩; have hw2 := hw1.symm; clear hw1; subst hw2)
  go_region_law (refine step_append_eq rfl _ _ 46 46 rfl _ _ (by simp [Act.eval]) (by simp [Act.eval]) HR.out ?_)
  all_goals
    go_wp2_with fail
    go_ret
    exact ⟨_, rfl, HF.out⟩
end

end Go.Proofs.YtfcknkanbcndjagGreatDoor

/- THE PROGRAM'S Net: tell. -/
namespace Go.Proofs.YtfcknkanbcndjagGreatDoor
open Go.RowKit
attribute [local go_sem] Ext.all Ext.cell Ext.frozen Ext.lt Ext.lt1 Ext.lt2 Ext.ne Ext.ne'
section
variable {M : Nat → Prop} {B w w' : World} {p k : Nat} {q : Nat → Nat} {v : Value} {c : Nat → Nat → Nat} {t : Tn}
set_option maxRecDepth 20000 in
set_option maxHeartbeats 8000000 in
theorem tell_range {a b : Int} (h : ¬ isN a ∨ ¬ isN b) : Calls Tryz.prog 69 #[pv p, iv a, iv b] w fun e w' => e = .returned (iv 1) ∧ w' = w := by
  obtain ⟨b1, B1⟩ : ∃ b1, Hid (decide (0 ≤ a ∧ a < 6) = b1) := ⟨_, rfl⟩
  obtain ⟨b2, B2⟩ : ∃ b2, Hid (decide (0 ≤ b ∧ b < 6) = b2) := ⟨_, rfl⟩
  cases b1
  · go_enter Tryz.func69, Tryz.ntmps69
    go_wp2_with (go_at_call 33; with_reducible refine (lnode_is B1.out _).mono ?_; rintro e w1 ⟨rfl, hw1⟩; have hw2 := hw1.symm; clear hw1; subst hw2)
    go_ret
    exact ⟨rfl, rfl⟩
  · cases b2
    · go_enter Tryz.func69, Tryz.ntmps69
      go_wp2_with (first | (go_at_call 33; with_reducible refine (lnode_is B1.out _).mono ?_; rintro e w1 ⟨rfl, hw1⟩; have hw2 := hw1.symm; clear hw1; subst hw2) | (go_at_call 33; with_reducible refine (lnode_is B2.out _).mono ?_; rintro e w1 ⟨rfl, hw1⟩; have hw2 := hw1.symm; clear hw1; subst hw2))
      go_ret
      exact ⟨rfl, rfl⟩
    · exfalso
      have h1 := of_decide_eq_true B1.out
      have h2 := of_decide_eq_true B2.out
      exact h.elim (fun q => q h1) (fun q => q h2)
set_option maxRecDepth 20000 in
set_option maxHeartbeats 8000000 in
theorem tell_zero (H : Ne M B w p k q v c t) (hc : Lk c) {a b : Nat} (ha : a < 6) (hb : b < 6) (h0 : c a b = 0) :
    Calls Tryz.prog 69 #[pv p, iv (a : Int), iv (b : Int)] w fun e w' => e = .returned (iv 6) ∧ w' = w := by
  have hp := H.blk.lt
  have B1 : Hid (decide (0 ≤ (a : Int) ∧ (a : Int) < 6) = true) := decide_eq_true ⟨by omega, by omega⟩
  have B2 : Hid (decide (0 ≤ (b : Int) ∧ (b : Int) < 6) = true) := decide_eq_true ⟨by omega, by omega⟩
  have c0 := H.links
  have HC : Hid (Calls Tryz.prog 18 #[pv k, iv (a : Int), iv (b : Int)] w fun e w' => e = .returned (iv 0) ∧ w' = w) := by
    have := cost_nat H.lk hc ha hb
    rw [h0] at this
    exact this
  clear H hc h0
  go_enter Tryz.func69, Tryz.ntmps69
  go_wp2_with (first | (go_at_call 33; with_reducible refine (lnode_is B1.out _).mono ?_; rintro e w1 ⟨rfl, hw1⟩; have hw2 := hw1.symm; clear hw1; subst hw2) | (go_at_call 33; with_reducible refine (lnode_is B2.out _).mono ?_; rintro e w1 ⟨rfl, hw1⟩; have hw2 := hw1.symm; clear hw1; subst hw2) | (go_at_call 18; with_reducible refine HC.out.mono ?_; rintro e w1 ⟨rfl, hw1⟩; have hw2 := hw1.symm; clear hw1; subst hw2))
  go_ret
  exact ⟨rfl, rfl⟩
theorem tellCall (H : Ne M B w p k q v c t) (hme : ∀ a, a < 6 → (t.nd a).me = a) {a : Nat} (ha : a < 6) (b : Nat) :
    Calls Tryz.prog 56 #[pv (q a), iv (b : Int)] w fun e w' => ∃ ao cp, e = .returned (.slice ao 6 cp) ∧ NewsAt w' ao (newsL (tellT t a b)) ∧ Gr w w' :=
  (ntell_any (H.six.at_ a ha) (b : Int)).mono fun e w' ⟨v, he, ho, hg⟩ => by
    obtain ⟨ao, c, hv, hn, _⟩ := OwnN.shape ho
    rw [tell_len] at hv
    exact ⟨ao, c, by rw [he, hv], by rw [tell_news (hme a ha)]; exact hn, hg⟩
set_option maxRecDepth 20000 in
set_option maxHeartbeats 8000000 in
theorem tell_full (H : Ne M B w p k q v c t) (hme : ∀ a, a < 6 → (t.nd a).me = a) (hc : Lk c) {a b : Nat} (ha : a < 6) (hb : b < 6) (h0 : c a b ≠ 0) (hl : t.news.length ≤ 40) (hf : 40 < t.news.length + 6) :
    Calls Tryz.prog 69 #[pv p, iv (a : Int), iv (b : Int)] w fun e w' => e = .returned (iv 9) ∧ Gr w w' := by
  have hp := H.blk.lt
  have hai : (a : Int) < 6 := by omega
  have B1 : Hid (decide (0 ≤ (a : Int) ∧ (a : Int) < 6) = true) := decide_eq_true ⟨by omega, by omega⟩
  have B2 : Hid (decide (0 ≤ (b : Int) ∧ (b : Int) < 6) = true) := decide_eq_true ⟨by omega, by omega⟩
  have c0 := H.links
  have c1 := H.node ha
  have HC := hide (cost_nat H.lk hc ha hb)
  have g1 : ((c a b : Int) == 0) = false := by simpa using h0
  have HT := hide (tellCall H hme ha b)
  have HN := hide (fun (V : World) (g : Gr w V) => And.intro (H.ext g).news (H.ext g).blk.lt)
  obtain ⟨ao, cv, hv, _, _, _⟩ := H.nw.shape
  rw [newsL_len] at hv
  subst hv
  have wl : IntKind.i64.wrap (((t.news.length : Nat) : Int) + 6) = ((t.news.length : Nat) : Int) + 6 := by rw [IntKind.wrap_i64]; omega
  have g2 : decide ((40 : Int) < ((t.news.length : Nat) : Int) + 6) = true := decide_eq_true (by omega)
  generalize c a b = cc at *
  clear H hme hc h0 hf
  go_enter Tryz.func69, Tryz.ntmps69
  go_wp2_with (first | (go_at_call 33; with_reducible refine (lnode_is B1.out _).mono ?_; rintro e w1 ⟨rfl, hw1⟩; have hw2 := hw1.symm; clear hw1; subst hw2) | (go_at_call 33; with_reducible refine (lnode_is B2.out _).mono ?_; rintro e w1 ⟨rfl, hw1⟩; have hw2 := hw1.symm; clear hw1; subst hw2) | (go_at_call 18; with_reducible refine HC.out.mono ?_; rintro e w1 ⟨rfl, hw1⟩; have hw2 := hw1.symm; clear hw1; subst hw2) | (go_at_call 56; with_reducible refine HT.out.mono ?_; rintro e V ⟨a5, k5, rfl, _, G1'⟩; have G1 := hide G1'; clear G1'; obtain ⟨n1, hp1⟩ := HN.out _ G1.out))
  go_ret
  exact ⟨rfl, G1.out⟩
set_option maxRecDepth 20000 in
set_option maxHeartbeats 8000000 in
theorem tell_ok (H : Ne M B w p k q v c t) (hme : ∀ a, a < 6 → (t.nd a).me = a) (hc : Lk c) {a b : Nat} (ha : a < 6) (hb : b < 6) (h0 : c a b ≠ 0) (hl : t.news.length + 6 ≤ 40) :
    Calls Tryz.prog 69 #[pv p, iv (a : Int), iv (b : Int)] w fun e w' => ∃ v', e = .returned (iv 0) ∧ Ne M B w' p k q v' c (sayT t a b) := by
  have hp := H.blk.lt
  have hai : (a : Int) < 6 := by omega
  have B1 : Hid (decide (0 ≤ (a : Int) ∧ (a : Int) < 6) = true) := decide_eq_true ⟨by omega, by omega⟩
  have B2 : Hid (decide (0 ≤ (b : Int) ∧ (b : Int) < 6) = true) := decide_eq_true ⟨by omega, by omega⟩
  have c0 := H.links
  have c1 := H.node ha
  have HC := hide (cost_nat H.lk hc ha hb)
  have g1 : ((c a b : Int) == 0) = false := by simpa using h0
  obtain ⟨ao, cv, hv, _, _, _⟩ := H.nw.shape
  rw [newsL_len] at hv
  subst hv
  have htl : (tellT t a b).length = 6 := by simp [tellT]
  have HT : Hid (Calls Tryz.prog 56 #[pv (q a), iv (b : Int)] w fun e V => ∃ a5 k5 a6 n6 k6 w2, e = .returned (.slice a5 6 k5) ∧ V.cell? ⟨p, 7, none⟩ = some (.slice ao t.news.length cv) ∧ p < V.heap.size ∧ (Builtin.append_ #[46, 46] 46 #[.slice ao t.news.length cv, .slice a5 6 k5]).run Tryz.prog V = .ok (.slice a6 n6 k6) w2 ∧ (w2.cell? ⟨p, 7, none⟩ = some (.slice ao t.news.length cv) ∧ w2.frozen? ⟨p, 7, none⟩ = false ∧ p < w2.heap.size) ∧ Ne M B (w2.setCell ⟨p, 7, none⟩ (.slice a6 n6 k6)) p k q (.slice a6 n6 k6) c (sayT t a b)) :=
    (tellCall H hme ha b).mono fun e V ⟨a5, k5, he, hn, hg⟩ => by
      have H1 := H.ext hg
      obtain ⟨v', w2, hrun, ⟨sa, sn, sc, hs⟩, hf, HF⟩ := H1.app (cp := k5) 46 hn (by omega) (by omega)
      rw [htl] at hrun
      subst hs
      exact ⟨a5, k5, sa, sn, sc, w2, he, H1.news, H1.blk.lt, hrun, hf, HF⟩
  have g2 : decide ((40 : Int) < ((t.news.length : Nat) : Int) + 6) = false := decide_eq_false (by omega)
  have wl : IntKind.i64.wrap (((t.news.length : Nat) : Int) + 6) = ((t.news.length : Nat) : Int) + 6 := by rw [IntKind.wrap_i64]; omega
  have HL := hide hl
  generalize c a b = cc at *
  clear H hme hc h0 htl
  go_enter Tryz.func69, Tryz.ntmps69
  go_wp2_with (first | (go_at_call 33; with_reducible refine (lnode_is B1.out _).mono ?_; rintro e w1 ⟨rfl, hw1⟩; have hw2 := hw1.symm; clear hw1; subst hw2) | (go_at_call 33; with_reducible refine (lnode_is B2.out _).mono ?_; rintro e w1 ⟨rfl, hw1⟩; have hw2 := hw1.symm; clear hw1; subst hw2) | (go_at_call 18; with_reducible refine HC.out.mono ?_; rintro e w1 ⟨rfl, hw1⟩; have hw2 := hw1.symm; clear hw1; subst hw2) | (go_at_call 56; with_reducible refine HT.out.mono ?_; rintro e V ⟨a5, k5, a6, n6, k6, w2, rfl, n1, hp1, hr', ⟨f1, f2, f3⟩, HF'⟩; have HR := hide hr'; have HF := hide HF'; clear hr' HF') | (at_builtin; refine Lib.wpList_append_run _ rfl _ _ _ _ rfl _ _ rfl rfl _ _ HR.out ?_))
  go_ret
  exact ⟨_, rfl, HF.out⟩
theorem tell_any (H : Ne M B w p k q v c t) (C : TnC t c) (hl : t.news.length ≤ 40) (a b : Int) :
    Calls Tryz.prog 69 #[pv p, iv a, iv b] w fun e w' => ∃ v', e = .returned (iv (sayC t a b).2) ∧ Ne M B w' p k q v' c (sayC t a b).1 := by
  unfold sayC
  by_cases e : ¬ isN a ∨ ¬ isN b
  · rw [if_pos e]
    exact (tell_range e).mono fun _ w' ⟨h1, h2⟩ => ⟨v, h1, by rw [h2]; exact H⟩
  · rw [if_neg e]
    obtain ⟨i, rfl⟩ : ∃ i : Nat, a = (i : Int) := ⟨a.toNat, by omega⟩
    obtain ⟨j, rfl⟩ : ∃ j : Nat, b = (j : Int) := ⟨b.toNat, by omega⟩
    rw [Int.toNat_natCast, Int.toNat_natCast]
    have hi : i < 6 := by omega
    have hj : j < 6 := by omega
    have hcc := C.cst i j hi hj
    by_cases e2 : t.cst i j = 0
    · rw [if_pos e2]
      exact (tell_zero H C.lk hi hj (by omega)).mono fun _ w' ⟨h1, h2⟩ => ⟨v, h1, by rw [h2]; exact H⟩
    · rw [if_neg e2]
      by_cases e3 : 40 < t.news.length + 6
      · rw [if_pos e3]
        exact (tell_full H C.me C.lk hi hj (fun q => e2 (by rw [hcc, q]; rfl)) hl e3).mono fun _ w' ⟨h1, h2⟩ => ⟨v, h1, H.ext h2⟩
      · rw [if_neg e3]
        exact tell_ok H C.me C.lk hi hj (fun q => e2 (by rw [hcc, q]; rfl)) (by omega)
end

end Go.Proofs.YtfcknkanbcndjagGreatDoor
