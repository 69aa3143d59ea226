import Derived.Test.YtfcknkanbcndjagGreatDoorTw2
import Derived.Test.YtfcknkanbcndjagGreatDoorNe8
import Derived.Test.YtfcknkanbcndjagGreatDoorD2
import Derived.Lib.AppendZerosOnto
import Derived.Lib.Overlaps
import Derived.Laws.Externs
import Derived.Laws.CopyOwn
import Derived.Test.YtfcknkanbcndjagGreatDoorNe13
/- THE REFERENCE'S Town: Way. -/
namespace Go.Proofs.YtfcknkanbcndjagGreatDoor
open Go.RowKit
attribute [local go_sem] Ext.all Ext.cell Ext.frozen Ext.lt Ext.lt1 Ext.lt2 Ext.ne Ext.ne'
set_option maxRecDepth 20000 in
set_option maxHeartbeats 8000000 in
theorem wway_any {M : Nat → Prop} {B w : World} {p : Nat} {q : Nat → Nat} {v o : Value} {t : Tn} (H : Tw M B w p q v o t) (a k : Int) :
    Calls Tryz.prog 95 #[pv p, iv a, iv k] w fun e w' => e = .returned (wayV (wayTn t a k)) ∧ ∃ d : Ext w, w' = d.out := by
  have hp := H.blk.lt
  by_cases e : 0 ≤ a ∧ a < 6
  · have B1 : Hid (decide (0 ≤ a ∧ a < 6) = true) := decide_eq_true e
    obtain ⟨z, rfl⟩ : ∃ z : Nat, a = (z : Int) := ⟨a.toNat, by omega⟩
    have hz : z < 6 := by omega
    have hzi : (z : Int) < 6 := by omega
    have c0 := H.node hz
    have HV : Hid (wayTn t z k = wayOf (t.nd z) k) := by unfold Hid wayTn; rw [if_pos e, Int.toNat_natCast]
    have HW := hide (fun (X : World) (g : Gr w X) => mway_any ((H.six.at_ z hz).gr g) k)
    generalize wayOf (t.nd z) k = vv at *
    obtain ⟨s, d, h⟩ := vv
    simp only [wayV] at HW
    clear H e
    go_enter Tryz.func95, Tryz.ntmps95
    go_wp2_with (first | (go_at_call 9; with_reducible refine (isNode_is B1.out _).mono ?_; rintro e w1 ⟨rfl, hw1⟩; subst hw1) | (go_at_call 137; with_reducible refine (HW.out _ ((Gr.refl _).alloc _)).mono ?_; rintro e _ ⟨rfl, d1, rfl⟩))
    refine bodyPost_ret (v := .agg #[iv s, iv d, iv h]) (by simp [results, Tryz.results95, go_sem]) rfl ⟨by rw [HV.out]; rfl, ext_mk ?_⟩
    exact (((((Gr.refl _).alloc _).trans d1.gr).setCell (by simp) _).setCell (by simp) _).setCell (by simp) _
  · have B1 : Hid (decide (0 ≤ a ∧ a < 6) = false) := decide_eq_false e
    have HV : Hid (wayTn t a k = (0, 200, -1)) := by unfold Hid wayTn; rw [if_neg e]
    clear H e
    go_enter Tryz.func95, Tryz.ntmps95
    go_wp2_with (go_at_call 9; with_reducible refine (isNode_is B1.out _).mono ?_; rintro e w1 ⟨rfl, hw1⟩; subst hw1)
    refine bodyPost_ret (v := .agg #[iv 0, iv 200, iv (-1)]) (by simp [results, Tryz.results95, go_sem]) rfl ⟨by rw [HV.out]; rfl, ext_mk ?_⟩
    first
      | exact (Gr.refl _).alloc _
      | exact (((((Gr.refl _).alloc _).setCell (by simp) _).setCell (by simp) _).setCell (by simp) _)

end Go.Proofs.YtfcknkanbcndjagGreatDoor

/- THE REFERENCE'S Town: its news put anew. -/
namespace Go.Proofs.YtfcknkanbcndjagGreatDoor
open Go.RowKit
attribute [local go_sem] Ext.all Ext.cell Ext.frozen Ext.lt Ext.lt1 Ext.lt2 Ext.ne Ext.ne'
/-- The news have changed: the row behind them, and the Town's own word of it. -/
theorem Tw.newsPut {M : Nat → Prop} {B w w' : World} {p : Nat} {q : Nat → Nat} {v o v' : Value} {t : Tn} {nl : List Nw} (h : Tw M B w p q v o t) (g : w.grownBy w' v.ownBlock) (hn : NwO 0 w' v' (newsL nl)) (ho : v'.ownBlock = none ∨ v'.ownBlock = v.ownBlock ∨ ∃ b, v'.ownBlock = some b ∧ w.heap.size ≤ b) :
    Tw M B (w'.setCell ⟨p, 42, none⟩ v') p q v' o { t with news := nl } := by
  have kb : ∀ {b : Nat}, b < w.heap.size → (∀ x, v.ownBlock = some x → x ≠ b) → w'.heap[b]? = w.heap[b]? := fun {b} hb hx => g.block b hb (fun e => hx b e.symm rfl)
  have hblk : VArr w' 110 44 p (twF t.cst q v o) := (kb h.blk.lt (fun x e => (h.vp x e).1)).trans h.blk
  have hs : Six 177 w' q t.nd := h.six.keep (fun a ha => kb (h.six.at_ a ha).lt (fun x e => (h.vp x e).2 a ha))
  have hp' : ∀ b, v'.ownBlock = some b → b ≠ p := fun b e => hn.apart e hblk (by decide)
  refine ⟨(h.kp.trans (Kp.grown g (fun b e => h.nov b e))).set h.nop _ _, h.bd, hblk.set fun i hi => ?_, hs.keep (fun a ha => Below.heap_setCell w' ⟨p, 42, none⟩ v' (q a) (h.pq a ha)), hn.keep (fun b e => Below.heap_setCell w' ⟨p, 42, none⟩ v' b (hp' b e)), h.nop, h.noq, fun b e hm => ?_⟩
  · unfold twF
    by_cases e1 : i < 36
    · rw [if_pos e1, if_pos e1, if_neg (by omega)]
    · rw [if_neg e1, if_neg e1]
      by_cases e2 : i < 42
      · rw [if_pos e2, if_pos e2, if_neg (by omega)]
      · rw [if_neg e2, if_neg e2]
        by_cases e3 : i = 42
        · rw [if_pos e3, if_pos e3]
        · rw [if_neg e3, if_neg e3, if_neg e3]
  · rcases ho with o1 | o1 | ⟨x, o1, o2⟩
    · rw [o1] at e; cases e
    · exact h.nov b (o1 ▸ e) hm
    · rw [o1] at e
      have := h.bd b hm
      have := h.kp.size
      cases e
      omega
/-- News are put behind all others: the append, and the store behind it. -/
theorem Tw.app {M : Nat → Prop} {B w : World} {p : Nat} {q : Nat → Nat} {v o : Value} {t : Tn} (H : Tw M B w p q v o t) {ao : Option Addr} {cp : Nat} (ty : TypeId) {nl : List Nw} (hN : NewsAt w ao (newsL nl)) (h0 : 0 < nl.length) (hm : t.news.length + nl.length ≤ 1000) :
    ∃ v' w', (Builtin.append_ #[46, 46] ty #[v, .slice ao nl.length cp]).run Tryz.prog w = .ok v' w' ∧ (∃ a n c, v' = .slice a n c) ∧ (VArr w' 110 44 p (twF t.cst q v o)) ∧ Tw M B (w'.setCell ⟨p, 42, none⟩ v') p q v' o { t with news := t.news ++ nl } := by
  obtain ⟨v', w', h1, h2, h3, h4⟩ := NwO.app (c := cp) ty H.nw (Nat.zero_le _) hN (by rw [newsL_len]; exact h0) (by rw [newsL_len, newsL_len]; exact hm)
  rw [newsL_len] at h1
  have hb : VArr w' 110 44 p (twF t.cst q v o) := (h3.block p H.blk.lt (fun e => (H.vp _ e.symm).1 rfl)).trans H.blk
  obtain ⟨a, n, e, _⟩ := h2.shape
  refine ⟨v', w', h1, ⟨a, _, n, e⟩, hb, H.newsPut h3 (by rw [newsL_app]; exact h2) ?_⟩
  rcases h4 with h4 | h4
  · exact .inr (.inl h4)
  · exact .inr (.inr ⟨_, h4, Nat.le_refl _⟩)

end Go.Proofs.YtfcknkanbcndjagGreatDoor

/- THE REFERENCE'S Town: tell, where all is right. -/
namespace Go.Proofs.YtfcknkanbcndjagGreatDoor
open Go.RowKit
attribute [local go_sem] Ext.all Ext.cell Ext.frozen Ext.lt Ext.lt1 Ext.lt2 Ext.ne Ext.ne'
set_option maxRecDepth 20000 in
set_option maxHeartbeats 8000000 in
theorem wtell_ok {M : Nat → Prop} {B w : World} {p : Nat} {q : Nat → Nat} {v o : Value} {t : Tn} (H : Tw M B w p q v o t) (hme : ∀ a, a < 6 → (t.nd a).me = a) {a b : Nat} (ha : a < 6) (hb : b < 6) (hc : t.cst a b ≠ 0) (hl : t.news.length + 6 ≤ 40) :
    Calls Tryz.prog 52 #[pv p, iv a, iv b] w fun e w' => ∃ v', e = .returned (iv 0) ∧ Tw M B w' p q v' o (sayT t a b) := by
  have hp := H.blk.lt
  have hai : (a : Int) < 6 := by omega
  have hbi : (b : Int) < 6 := by omega
  have B1 : Hid (decide (0 ≤ (a : Int) ∧ (a : Int) < 6) = true) := decide_eq_true ⟨by omega, hai⟩
  have B2 : Hid (decide (0 ≤ (b : Int) ∧ (b : Int) < 6) = true) := decide_eq_true ⟨by omega, hbi⟩
  have c0 := H.cst ha hb
  have c1 := H.node ha
  have c2 := H.news
  have g1 : (t.cst a b == 0) = false := by simpa using hc
  have HH := hide H
  obtain ⟨ao, cv, hv, _, _, _⟩ := H.nw.shape
  rw [newsL_len] at hv
  have HNW := hide H.nw
  have HT : Hid (∀ V : World, Gr w V → Calls Tryz.prog 103 #[pv (q a), iv (b : Int)] V fun e w' => ∃ ao c, e = .returned (.slice ao 6 c) ∧ NewsAt w' ao (tellL (t.nd a) (b : Int) 6) ∧ Gr V w') := fun V g =>
    (mtell_any ((H.six.at_ a ha).gr g) (b : Int)).mono fun e w' ⟨v, he, ho, hg⟩ => by
      obtain ⟨ao, c, hv, hn, _⟩ := OwnN.shape ho
      rw [tell_len] at hv
      exact ⟨ao, c, by rw [he, hv], hn, hg⟩
  have HT2 : Hid (∀ V : World, Gr w V → Calls Tryz.prog 103 #[pv (q a), iv (b : Int)] V fun e w' => ∃ a5 k5 a6 n6 k6 w2, e = .returned (.slice a5 6 k5) ∧ Gr w w' ∧ (Builtin.append_ #[46, 46] 46 #[v, .slice a5 6 k5]).run Tryz.prog w' = .ok (.slice a6 n6 k6) w2 ∧ (w2.cell? ⟨p, 36 + a, none⟩ = some (pv (q a)) ∧ w2.cell? ⟨p, 42, none⟩ = some v ∧ w2.frozen? ⟨p, 42, none⟩ = false ∧ p < w2.heap.size) ∧ Tw M B (w2.setCell ⟨p, 42, none⟩ (.slice a6 n6 k6)) p q (.slice a6 n6 k6) o (sayT t a b)) := fun V g =>
    (HT.out V g).mono fun e w' ⟨a5, k5, he, hn, hg⟩ => by
      have g1 := g.trans hg
      have H1 := H.ext g1
      have htl : (tellT t a b).length = 6 := by simp [tellT]
      obtain ⟨v', w2, hrun, ⟨a6, n6, k6, hv6⟩, hb2, HF⟩ := H1.app (cp := k5) 46 (nl := tellT t a b) (by rw [tell_news (hme a ha)]; exact hn) (by omega) (by omega)
      rw [htl] at hrun
      subst hv6
      have n0 := hb2.cell (j := 36 + a) (by omega)
      have n1 := hb2.cell (j := 42) (by omega)
      unfold twF at n0 n1
      rw [if_neg (by omega), if_pos (by omega), show 36 + a - 36 = a by omega] at n0
      rw [if_neg (by omega), if_neg (by omega), if_pos rfl] at n1
      exact ⟨a5, k5, a6, n6, k6, w2, he, g1, hrun, ⟨n0, n1, hb2.free 42, hb2.lt⟩, HF⟩
  have HT3 : Hid (∀ V : World, Gr w V → Calls Tryz.prog 103 #[pv (q a), iv (b : Int)] V fun e w' => ∃ r, e = .returned r ∧ ∃ a5 k5 a6 n6 k6 w2, r = .slice a5 6 k5 ∧ Gr w w' ∧ (Builtin.append_ #[46, 46] 46 #[v, .slice a5 6 k5]).run Tryz.prog w' = .ok (.slice a6 n6 k6) w2 ∧ (w2.cell? ⟨p, 36 + a, none⟩ = some (pv (q a)) ∧ w2.cell? ⟨p, 42, none⟩ = some v ∧ w2.frozen? ⟨p, 42, none⟩ = false ∧ p < w2.heap.size) ∧ Tw M B (w2.setCell ⟨p, 42, none⟩ (.slice a6 n6 k6)) p q (.slice a6 n6 k6) o (sayT t a b)) := fun V g =>
    (HT2.out V g).mono fun e w' ⟨a5, k5, a6, n6, k6, w2, he, r⟩ => ⟨_, he, a5, k5, a6, n6, k6, w2, rfl, r⟩
  have g2 : decide ((40 : Int) < ((t.news.length : Nat) : Int) + 6) = false := decide_eq_false (by omega)
  have wl : IntKind.i64.wrap (((t.news.length : Nat) : Int) + 6) = ((t.news.length : Nat) : Int) + 6 := by rw [IntKind.wrap_i64]; omega
  have HL := hide hl
  subst hv
  clear H hme hc
  go_enter Tryz.func52, Tryz.ntmps52
  go_upto_region 7 with (first | (go_at_call 9; with_reducible refine (isNode_is B1.out _).mono ?_; rintro e w1 ⟨rfl, hw1⟩; have hw2 := hw1.symm; clear hw1; subst hw2) | (go_at_call 9; with_reducible refine (isNode_is B2.out _).mono ?_; rintro e w1 ⟨rfl, hw1⟩; have hw2 := hw1.symm; clear hw1; subst hw2))
  go_region_law
    (first
    | (refine step_call2 rfl 103 #[pv (q a), iv (b : Int)] (by first | go_simp | kernel_rfl | simp [execOp, resolve, invoke, callFunc, Act.eval, Tryz.func103, go_sem]) (HT3.out _ (Gr.refl w).drew) ?_; rintro r V1 ⟨a5, k5, a6, n6, k6, w2, rfl, g5', hrun', ⟨n2, m2, f2, l2⟩, HF'⟩; have G5 := hide g5'; have HR := hide hrun'; have HF := hide HF'; clear g5' hrun' HF'; have n1 := (HH.out.ext G5.out).node ha; have m1 := (HH.out.ext G5.out).news; have l1 := VArr.lt (HH.out.ext G5.out).blk)
    | (refine step_append_eq rfl (.tmp 35) (.tmp 43) 46 46 rfl (.slice ao t.news.length cv) (.slice a5 6 k5) rfl rfl (v' := .slice a6 n6 k6) (w' := w2) HR.out ?_)
    | fail)
  all_goals
    go_wp2_with fail
    go_ret
    exact ⟨_, rfl, HF.out⟩

end Go.Proofs.YtfcknkanbcndjagGreatDoor

/- THE REFERENCE'S Town: tell of whatever is handed in. -/
namespace Go.Proofs.YtfcknkanbcndjagGreatDoor
open Go.RowKit
attribute [local go_sem] Ext.all Ext.cell Ext.frozen Ext.lt Ext.lt1 Ext.lt2 Ext.ne Ext.ne'
set_option maxRecDepth 20000 in
set_option maxHeartbeats 8000000 in
theorem wtell_range {w : World} {p : Nat} {a b : Int} (h : ¬ isN a ∨ ¬ isN b) : Calls Tryz.prog 52 #[pv p, iv a, iv b] w fun e w' => e = .returned (iv 1) ∧ w' = w := by
  obtain ⟨b1, B1⟩ : ∃ b1, Hid (decide (0 ≤ a ∧ a < 6) = b1) := ⟨_, rfl⟩
  obtain ⟨b2, B2⟩ : ∃ b2, Hid (decide (0 ≤ b ∧ b < 6) = b2) := ⟨_, rfl⟩
  cases b1
  · go_enter Tryz.func52, Tryz.ntmps52
    go_wp2_with (go_at_call 9; with_reducible refine (isNode_is B1.out _).mono ?_; rintro e w1 ⟨rfl, hw1⟩; have hw2 := hw1.symm; clear hw1; subst hw2)
    go_ret
    exact ⟨rfl, rfl⟩
  · cases b2
    · go_enter Tryz.func52, Tryz.ntmps52
      go_wp2_with (first | (go_at_call 9; with_reducible refine (isNode_is B1.out _).mono ?_; rintro e w1 ⟨rfl, hw1⟩; have hw2 := hw1.symm; clear hw1; subst hw2) | (go_at_call 9; with_reducible refine (isNode_is B2.out _).mono ?_; rintro e w1 ⟨rfl, hw1⟩; have hw2 := hw1.symm; clear hw1; subst hw2))
      go_ret
      exact ⟨rfl, rfl⟩
    · exfalso
      have h1 := of_decide_eq_true B1.out
      have h2 := of_decide_eq_true B2.out
      exact h.elim (fun q => q h1) (fun q => q h2)
set_option maxRecDepth 20000 in
set_option maxHeartbeats 8000000 in
theorem wtell_no {M : Nat → Prop} {B w : World} {p : Nat} {q : Nat → Nat} {v o : Value} {t : Tn} (H : Tw M B w p q v o t) {a b : Nat} (ha : a < 6) (hb : b < 6) (hl : t.news.length ≤ 40) {r : Int} (hr : (t.cst a b = 0 ∧ r = 6) ∨ (t.cst a b ≠ 0 ∧ 40 < t.news.length + 6 ∧ r = 9)) :
    Calls Tryz.prog 52 #[pv p, iv a, iv b] w fun e w' => e = .returned (iv r) ∧ w' = w := by
  have hp := H.blk.lt
  have hai : (a : Int) < 6 := by omega
  have hbi : (b : Int) < 6 := by omega
  have B1 : Hid (decide (0 ≤ (a : Int) ∧ (a : Int) < 6) = true) := decide_eq_true ⟨by omega, hai⟩
  have B2 : Hid (decide (0 ≤ (b : Int) ∧ (b : Int) < 6) = true) := decide_eq_true ⟨by omega, hbi⟩
  have c0 := H.cst ha hb
  have c2 := H.news
  obtain ⟨ao, cv, hv, _, _, _⟩ := H.nw.shape
  rw [newsL_len] at hv
  subst hv
  have wl : IntKind.i64.wrap (((t.news.length : Nat) : Int) + 6) = ((t.news.length : Nat) : Int) + 6 := by rw [IntKind.wrap_i64]; omega
  clear H
  rcases hr with ⟨h1, rfl⟩ | ⟨h1, h2, rfl⟩
  · have g1 : (t.cst a b == 0) = true := by simpa using h1
    clear h1
    go_enter Tryz.func52, Tryz.ntmps52
    go_wp2_with (first | (go_at_call 9; with_reducible refine (isNode_is B1.out _).mono ?_; rintro e w1 ⟨rfl, hw1⟩; have hw2 := hw1.symm; clear hw1; subst hw2) | (go_at_call 9; with_reducible refine (isNode_is B2.out _).mono ?_; rintro e w1 ⟨rfl, hw1⟩; have hw2 := hw1.symm; clear hw1; subst hw2))
    go_ret
    exact ⟨rfl, rfl⟩
  · have g1 : (t.cst a b == 0) = false := by simpa using h1
    have g2 : decide ((40 : Int) < ((t.news.length : Nat) : Int) + 6) = true := decide_eq_true (by omega)
    clear h1 h2
    go_enter Tryz.func52, Tryz.ntmps52
    go_wp2_with (first | (go_at_call 9; with_reducible refine (isNode_is B1.out _).mono ?_; rintro e w1 ⟨rfl, hw1⟩; have hw2 := hw1.symm; clear hw1; subst hw2) | (go_at_call 9; with_reducible refine (isNode_is B2.out _).mono ?_; rintro e w1 ⟨rfl, hw1⟩; have hw2 := hw1.symm; clear hw1; subst hw2))
    go_ret
    exact ⟨rfl, rfl⟩
theorem wtell_any {M : Nat → Prop} {B w : World} {p : Nat} {q : Nat → Nat} {v o : Value} {t : Tn} (H : Tw M B w p q v o t) (hme : ∀ a, a < 6 → (t.nd a).me = a) (hl : t.news.length ≤ 40) (a b : Int) :
    Calls Tryz.prog 52 #[pv p, iv a, iv b] w fun e w' => ∃ v', e = .returned (iv (sayC t a b).2) ∧ Tw M B w' p q v' o (sayC t a b).1 := by
  unfold sayC
  by_cases e : ¬ isN a ∨ ¬ isN b
  · rw [if_pos e]
    exact (wtell_range e).mono fun _ w' ⟨h1, h2⟩ => ⟨v, h1, by rw [h2]; exact H⟩
  · rw [if_neg e]
    obtain ⟨i, rfl⟩ : ∃ i : Nat, a = (i : Int) := ⟨a.toNat, by omega⟩
    obtain ⟨j, rfl⟩ : ∃ j : Nat, b = (j : Int) := ⟨b.toNat, by omega⟩
    rw [Int.toNat_natCast, Int.toNat_natCast]
    by_cases e2 : t.cst i j = 0
    · rw [if_pos e2]
      exact (wtell_no H (by omega) (by omega) hl (.inl ⟨e2, rfl⟩)).mono fun _ w' ⟨h1, h2⟩ => ⟨v, h1, by rw [h2]; exact H⟩
    · rw [if_neg e2]
      by_cases e3 : 40 < t.news.length + 6
      · rw [if_pos e3]
        exact (wtell_no H (by omega) (by omega) hl (.inr ⟨e2, e3, rfl⟩)).mono fun _ w' ⟨h1, h2⟩ => ⟨v, h1, by rw [h2]; exact H⟩
      · rw [if_neg e3]
        exact wtell_ok H hme (by omega) (by omega) e2 (by omega)
/-- And what it leaves as it was. -/
theorem wtell_fr {M : Nat → Prop} {B w : World} {p : Nat} {q : Nat → Nat} {v o : Value} {t : Tn} (H : Tw M B w p q v o t) (hme : ∀ a, a < 6 → (t.nd a).me = a) (hl : t.news.length ≤ 40) (a b : Int) :
    Calls Tryz.prog 52 #[pv p, iv a, iv b] w fun e w' => ∃ v', e = .returned (iv (sayC t a b).2) ∧ Tw M B w' p q v' o (sayC t a b).1 ∧ FrW w p q v w' v' :=
  (wtell_any H.rest hme hl a b).mono fun _ _ ⟨v', he, hh⟩ => ⟨v', he, H.unrest hh, hh.fr⟩

end Go.Proofs.YtfcknkanbcndjagGreatDoor

/- THE REFERENCE'S Town: Settle. -/
namespace Go.Proofs.YtfcknkanbcndjagGreatDoor
open Go.RowKit
attribute [local go_sem] Ext.all Ext.cell Ext.frozen Ext.lt Ext.lt1 Ext.lt2 Ext.ne Ext.ne'
end Go.Proofs.YtfcknkanbcndjagGreatDoor

/- NUMBERS OF NODES IN A LIST; handpostref.In. -/
namespace Go.Proofs.YtfcknkanbcndjagGreatDoor
open Go.RowKit
attribute [local go_sem] Ext.all Ext.cell Ext.frozen Ext.lt Ext.lt1 Ext.lt2 Ext.ne Ext.ne'
/-- A slice that reads as numbers. -/
def NmAt (w : World) (ao : Option Addr) (l : List Nat) : Prop := l = [] ∨ ∃ b o, ao = some ⟨b, o, none⟩ ∧ b < w.heap.size ∧ ∀ i (h : i < l.length), w.cell? ⟨b, o + i, none⟩ = some (iv ((l[i] : Nat) : Int))
theorem NmAt.gr {w w' : World} {ao : Option Addr} {l : List Nat} (h : NmAt w ao l) (k : Gr w w') : NmAt w' ao l := by
  rcases h with h | ⟨b, o, ha, hb, hc⟩
  · exact .inl h
  · exact .inr ⟨b, o, ha, Nat.lt_of_lt_of_le hb (Below.size k), fun i hi => (Below.cell k (p := ⟨b, o + i, none⟩) hb).trans (hc i hi)⟩
/-- A list of numbers that is younger than B. -/
def OwM (B w : World) (v : Value) (l : List Nat) : Prop := w.ownsRow B.heap.size 3 1 v l.length (l.map fun (n : Nat) => iv (n : Int))
theorem OwM.gr {B w w' : World} {v : Value} {l : List Nat} (h : OwM B w v l) (g : Gr w w') : OwM B w' v l := by
  refine ⟨h.1, ?_⟩
  rcases h.2 with hn | ⟨b, cap, cur, rfl, hb, hgg, rest⟩
  · exact .inl hn
  · exact .inr ⟨b, cap, cur, rfl, hb, by rw [g.block b (lt_of_block hgg)]; exact hgg, rest⟩
theorem OwM.nil (B w : World) : OwM B w (.slice none 0 0) [] := World.ownsRow_nil _ _ _ _
theorem OwM.shape {B w : World} {v : Value} {l : List Nat} (h : OwM B w v l) : ∃ ao c, v = .slice ao l.length c ∧ NmAt w ao l := by
  rcases h.2 with ⟨rfl, hn⟩ | ⟨g, cap, cur, rfl, hb, hg, hn, hc, hs, ht⟩
  · have : l = [] := List.eq_nil_of_length_eq_zero hn
    subst this
    exact ⟨none, 0, rfl, .inl rfl⟩
  · refine ⟨_, _, rfl, .inr ⟨g, 0, rfl, (Array.getElem?_eq_some_iff.1 hg).1, fun i hi => ?_⟩⟩
    have e : w.cell? ⟨g, 0 + i, none⟩ = (l.map fun (n : Nat) => iv (n : Int))[i]? := by
      rw [← ht, List.getElem?_take_of_lt (by omega)]
      simp [World.cell?, hg]
    rw [e]
    simp [hi]
set_option maxRecDepth 20000 in
set_option maxHeartbeats 8000000 in
theorem rin_is {w : World} {ao : Option Addr} {c : Nat} {l : List Nat} (H : NmAt w ao l) (hm : l.length ≤ 1000) (n : Nat) {b : Bool} (hb : decide (n ∈ l) = b) :
    Calls Tryz.prog 140 #[.slice ao l.length c, iv (n : Int)] w fun e w' => e = .returned (.bool b) ∧ w' = w := by
  have HB := hide hb
  clear hb
  go_enter Tryz.func140, Tryz.ntmps140
  go_wp2_with fail
  go_loopw [5] (fun v5 wr => ∃ k : Nat, k ≤ l.length ∧ v5 = .int .i64 (k : Int) ∧ Hid (wr = w) ∧ Hid (∀ i (h : i < l.length), i < k → l[i] ≠ n)) (fun v5 _ => (l.length - intOf v5).toNat)
  case atStart => exact ⟨0, by omega, rfl, rfl, fun i h hi => by omega⟩
  case round =>
    obtain ⟨k, hkn, rfl, hwr, HN⟩ := hrel
    by_cases hk : k < l.length
    · have hki : decide ((k : Int) < (l.length : Int)) = true := decide_eq_true (by omega)
      have hk0 : (k : Int) < (l.length : Int) := by omega
      have wk : IntKind.i64.wrap ((k : Int) + 1) = (k : Int) + 1 := by rw [IntKind.wrap_i64]; omega
      rcases H with h0 | ⟨bb, o, rfl, hbb, hc⟩
      · exfalso; rw [h0] at hk; simp at hk
      have c0 := hc k hk
      rw [← hwr.out] at c0 hbb
      have HE : Hid (l[k] = n → b = true) := fun e => by rw [← HB.out]; exact decide_eq_true (by rw [← e]; exact List.getElem_mem hk)
      have HF : Hid (l[k] ≠ n → ∀ i (h : i < l.length), i < k + 1 → l[i] ≠ n) := fun e i h hi => by
        by_cases q : i = k
        · subst q; exact e
        · exact HN.out i h (by omega)
      generalize hlk : l[k] = lk at *
      clear hc hlk HN
      by_cases e : lk = n
      · have e1 : ((lk : Int) == (n : Int)) = true := by simp; omega
        have hbt := HE.out e
        subst hbt
        clear HE HF e
        go_wp2_with fail
        go_ret
        exact ⟨rfl, hwr.out⟩
      · have e1 : ((lk : Int) == (n : Int)) = false := by simp; omega
        have HF2 := hide (HF.out e)
        clear HE HF e
        go_wp2_with fail
        go_roundw
        case rel => exact ⟨k + 1, by omega, by congr 1, hwr, HF2⟩
        case measure => simp [intOf]; omega
    · have hki : decide ((k : Int) < (l.length : Int)) = false := decide_eq_false (by omega)
      have hbf : b = false := by
        rw [← HB.out]
        refine decide_eq_false fun hm => ?_
        obtain ⟨i, hi, e⟩ := List.mem_iff_getElem.1 hm
        exact HN.out i hi (by omega) e
      subst hbf
      go_wp2_with fail
      go_ret
      exact ⟨rfl, hwr.out⟩

end Go.Proofs.YtfcknkanbcndjagGreatDoor

/- THE REFERENCE'S Town: Map.Set inside it. -/
namespace Go.Proofs.YtfcknkanbcndjagGreatDoor
open Go.RowKit
attribute [local go_sem] Ext.all Ext.cell Ext.frozen Ext.lt Ext.lt1 Ext.lt2 Ext.ne Ext.ne'
/-- A cost is set. -/
theorem Tw.setCst {M : Nat → Prop} {B w : World} {p : Nat} {q : Nat → Nat} {v o : Value} {t : Tn} (h : Tw M B w p q v o t) {a b : Nat} (ha : a < 6) (hb : b < 6) (n : Int) : Tw M B (w.setCell ⟨p, a * 6 + b, none⟩ (iv n)) p q v o { t with cst := cstUp t.cst a b n } := by
  refine ⟨h.kp.set h.nop _ _, h.bd, ?_, ⟨fun x hx => ?_, h.six.inj⟩, h.nw.keep (fun k e => Below.heap_setCell w ⟨p, a * 6 + b, none⟩ (iv n) k (h.vp k e).1), h.nop, h.noq, h.nov⟩
  · refine h.blk.set fun i hi => ?_
    unfold twF cstUp
    by_cases e1 : i < 36
    · rw [if_pos e1, if_pos e1]
      by_cases e2 : i = a * 6 + b
      · rw [if_pos e2]
        exact congrArg iv (if_pos ⟨by omega, by omega⟩)
      · rw [if_neg e2]
        exact congrArg iv (if_neg (fun q => e2 (by omega)))
    · rw [if_neg e1, if_neg e1, if_neg (show ¬ i = a * 6 + b by omega)]
  · exact (Below.heap_setCell w ⟨p, a * 6 + b, none⟩ (iv n) (q x) (h.pq x hx)).trans (h.six.at_ x hx)

set_option maxRecDepth 20000 in
set_option maxHeartbeats 8000000 in
theorem wset_ok {M : Nat → Prop} {B w : World} {p : Nat} {q : Nat → Nat} {v o : Value} {t : Tn} (H : Tw M B w p q v o t) {a b : Nat} {n : Int} (ha : a < 6) (hb : b < 6) (hne : a ≠ b) (h0 : 0 ≤ n) (h15 : n ≤ 15) :
    Calls Tryz.prog 49 #[pv p, iv a, iv b, iv n] w fun e w' => e = .returned (iv 0) ∧ Tw M B w' p q v o { t with cst := cstUp (cstUp t.cst a b n) b a n } ∧ Wr p w w' := by
  have hp := H.blk.lt
  have fz := H.blk.free
  have c0 := H.cst ha hb
  have c1 := H.cst hb ha
  have hai : (a : Int) < 6 := by omega
  have hbi : (b : Int) < 6 := by omega
  have B1 : Hid (decide (0 ≤ (a : Int) ∧ (a : Int) < 6) = true) := decide_eq_true ⟨by omega, hai⟩
  have B2 : Hid (decide (0 ≤ (b : Int) ∧ (b : Int) < 6) = true) := decide_eq_true ⟨by omega, hbi⟩
  have g1 : ((a : Int) == (b : Int)) = false := by simp; omega
  have g2 : decide (n < 0) = false := decide_eq_false (by omega)
  have g3 : decide (15 < n) = false := decide_eq_false (by omega)
  have SM := hide ((H.setCst ha hb n).setCst hb ha n)
  have SW := hide (((Wr.refl p w).set (a * 6 + b) (iv n)).set (b * 6 + a) (iv n))
  have hoff : a * 6 + b ≠ b * 6 + a := by omega
  clear H
  go_enter Tryz.func49, Tryz.ntmps49
  go_wp2_with (first | (go_at_call 9; with_reducible refine (isNode_is B1.out _).mono ?_; rintro e w1 ⟨rfl, hw1⟩; have hw2 := hw1.symm; clear hw1; subst hw2) | (go_at_call 9; with_reducible refine (isNode_is B2.out _).mono ?_; rintro e w1 ⟨rfl, hw1⟩; have hw2 := hw1.symm; clear hw1; subst hw2))
  go_ret
  exact ⟨rfl, SM.out, SW.out⟩
set_option maxRecDepth 20000 in
set_option maxHeartbeats 8000000 in
theorem wset_bad {w : World} {p : Nat} {a b n : Int} (h : ¬ (isN a ∧ isN b ∧ a ≠ b ∧ 0 ≤ n ∧ n ≤ 15)) : Calls Tryz.prog 49 #[pv p, iv a, iv b, iv n] w fun e w' => e = .returned (iv 1) ∧ w' = w := by
  obtain ⟨b1, B1⟩ : ∃ b1, Hid (decide (0 ≤ a ∧ a < 6) = b1) := ⟨_, rfl⟩
  obtain ⟨b2, B2⟩ : ∃ b2, Hid (decide (0 ≤ b ∧ b < 6) = b2) := ⟨_, rfl⟩
  have HB : Hid (b1 = false ∨ b2 = false ∨ (a == b) = true ∨ decide (n < 0) = true ∨ decide (15 < n) = true) := by
    unfold Hid
    rw [← B1.out, ← B2.out]
    simp only [decide_eq_true_eq, decide_eq_false_iff_not, beq_iff_eq]
    omega
  clear h
  cases b1
  · go_enter Tryz.func49, Tryz.ntmps49
    go_wp2_with (go_at_call 9; with_reducible refine (isNode_is B1.out _).mono ?_; rintro e w1 ⟨rfl, hw1⟩; have hw2 := hw1.symm; clear hw1; subst hw2)
    go_ret
    exact ⟨rfl, rfl⟩
  · cases b2
    · go_enter Tryz.func49, Tryz.ntmps49
      go_wp2_with (first | (go_at_call 9; with_reducible refine (isNode_is B1.out _).mono ?_; rintro e w1 ⟨rfl, hw1⟩; have hw2 := hw1.symm; clear hw1; subst hw2) | (go_at_call 9; with_reducible refine (isNode_is B2.out _).mono ?_; rintro e w1 ⟨rfl, hw1⟩; have hw2 := hw1.symm; clear hw1; subst hw2))
      go_ret
      exact ⟨rfl, rfl⟩
    · cases g1 : (a == b)
      · cases g2 : decide (n < 0)
        · have g3 : decide (15 < n) = true := by have := HB.out; simpa [g1, g2] using this
          clear HB
          go_enter Tryz.func49, Tryz.ntmps49
          go_wp2_with (first | (go_at_call 9; with_reducible refine (isNode_is B1.out _).mono ?_; rintro e w1 ⟨rfl, hw1⟩; have hw2 := hw1.symm; clear hw1; subst hw2) | (go_at_call 9; with_reducible refine (isNode_is B2.out _).mono ?_; rintro e w1 ⟨rfl, hw1⟩; have hw2 := hw1.symm; clear hw1; subst hw2))
          go_ret
          exact ⟨rfl, rfl⟩
        · clear HB
          go_enter Tryz.func49, Tryz.ntmps49
          go_wp2_with (first | (go_at_call 9; with_reducible refine (isNode_is B1.out _).mono ?_; rintro e w1 ⟨rfl, hw1⟩; have hw2 := hw1.symm; clear hw1; subst hw2) | (go_at_call 9; with_reducible refine (isNode_is B2.out _).mono ?_; rintro e w1 ⟨rfl, hw1⟩; have hw2 := hw1.symm; clear hw1; subst hw2))
          go_ret
          exact ⟨rfl, rfl⟩
      · clear HB
        go_enter Tryz.func49, Tryz.ntmps49
        go_wp2_with (first | (go_at_call 9; with_reducible refine (isNode_is B1.out _).mono ?_; rintro e w1 ⟨rfl, hw1⟩; have hw2 := hw1.symm; clear hw1; subst hw2) | (go_at_call 9; with_reducible refine (isNode_is B2.out _).mono ?_; rintro e w1 ⟨rfl, hw1⟩; have hw2 := hw1.symm; clear hw1; subst hw2))
        go_ret
        exact ⟨rfl, rfl⟩

end Go.Proofs.YtfcknkanbcndjagGreatDoor

/- THE REFERENCE'S Town: Do, the kinds tell, link and none. -/
namespace Go.Proofs.YtfcknkanbcndjagGreatDoor
open Go.RowKit
attribute [local go_sem] Ext.all Ext.cell Ext.frozen Ext.lt Ext.lt1 Ext.lt2 Ext.ne Ext.ne'
set_option maxRecDepth 20000 in
set_option maxHeartbeats 8000000 in
theorem wdo_tell {M : Nat → Prop} {B w : World} {p : Nat} {q : Nat → Nat} {v o : Value} {t : Tn} (H : Tw M B w p q v o t) (hme : ∀ a, a < 6 → (t.nd a).me = a) (hl : t.news.length ≤ 40) (a b n : Int) (x y : Value) :
    Calls Tryz.prog 28 #[pv p, .agg #[iv 3, iv a, iv b, iv n, x, y]] w fun e w' => ∃ v', e = .returned (iv (sayC t a b).2) ∧ Tw M B w' p q v' o (sayC t a b).1 := by
  have HT := hide (wtell_any (H.ext ((Gr.refl w).alloc (.cells #[iv 3, iv a, iv b, iv n, x, y] 54))) hme hl a b)
  clear H
  go_enter Tryz.func28, Tryz.ntmps28
  go_wp2_with (go_at_call 52; with_reducible refine HT.out.mono ?_; rintro e w1 ⟨v', rfl, T1'⟩; have T1 := hide T1'; clear T1')
  go_ret
  exact ⟨_, rfl, T1.out⟩
set_option maxRecDepth 20000 in
set_option maxHeartbeats 8000000 in
theorem wdo_kind {w : World} {p : Nat} {k : Int} (hk : k < 1 ∨ 7 < k) (a b n : Int) (x y : Value) :
    Calls Tryz.prog 28 #[pv p, .agg #[iv k, iv a, iv b, iv n, x, y]] w fun e w' => e = .returned (iv 8) ∧ Gr w w' := by
  have k1 : (k == 1) = false := by simp; omega
  have k2 : (k == 2) = false := by simp; omega
  have k3 : (k == 3) = false := by simp; omega
  have k4 : (k == 4) = false := by simp; omega
  have k5 : (k == 5) = false := by simp; omega
  have k6 : (k == 6) = false := by simp; omega
  have k7 : (k == 7) = false := by simp; omega
  clear hk
  go_enter Tryz.func28, Tryz.ntmps28
  go_wp2_with fail
  go_ret
  exact ⟨rfl, (Gr.refl w).alloc _⟩

end Go.Proofs.YtfcknkanbcndjagGreatDoor

/- THE REFERENCE'S Town: Do, the kind link. -/
namespace Go.Proofs.YtfcknkanbcndjagGreatDoor
open Go.RowKit
attribute [local go_sem] Ext.all Ext.cell Ext.frozen Ext.lt Ext.lt1 Ext.lt2 Ext.ne Ext.ne'
/-- The cells of a step. -/
def spF (k a b n : Int) (x y : Value) : Nat → Value := fun i => if i = 0 then iv k else if i = 1 then iv a else if i = 2 then iv b else if i = 3 then iv n else if i = 4 then x else y
theorem sp_new (w : World) (k a b n : Int) (x y : Value) : VArr (w.alloc (.cells #[iv k, iv a, iv b, iv n, x, y] 54)) 54 6 w.heap.size (spF k a b n x y) := heap_alloc_new w _
theorem sp_cells {w : World} {X : Nat} {k a b n : Int} {x y : Value} (h : VArr w 54 6 X (spF k a b n x y)) : w.cell? ⟨X, 1, none⟩ = some (iv a) ∧ w.cell? ⟨X, 2, none⟩ = some (iv b) ∧ w.cell? ⟨X, 3, none⟩ = some (iv n) :=
  ⟨h.cell (j := 1) (by omega), h.cell (j := 2) (by omega), h.cell (j := 3) (by omega)⟩

set_option maxRecDepth 20000 in
set_option maxHeartbeats 8000000 in
theorem wdo_unlink {M : Nat → Prop} {B w : World} {p : Nat} {q : Nat → Nat} {v o : Value} {t : Tn} (H : Tw M B w p q v o t) {a b n : Int} (h : ¬ (isN a ∧ isN b ∧ a ≠ b ∧ 0 ≤ n ∧ n ≤ 15)) (x y : Value) :
    Calls Tryz.prog 28 #[pv p, .agg #[iv 1, iv a, iv b, iv n, x, y]] w fun e w' => e = .returned (iv 1) ∧ Tw M B w' p q v o t := by
  have T0 := hide (H.ext ((Gr.refl w).alloc (.cells #[iv 1, iv a, iv b, iv n, x, y] 54)))
  have hp0 := H.blk.lt
  have hp : p < (w.alloc (.cells #[iv 1, iv a, iv b, iv n, x, y] 54)).heap.size := T0.out.blk.lt
  clear H
  go_enter Tryz.func28, Tryz.ntmps28
  go_upto_region 3 with (fail)
  go_region_with (go_at_call 49; with_reducible refine (wset_bad h).mono ?_; rintro e w1 ⟨rfl, hw1⟩; have hw2 := hw1.symm; clear hw1; subst hw2)
  all_goals
    go_wp2_with fail
    go_ret
    exact ⟨rfl, T0.out.ext ((Gr.refl _).drew)⟩

end Go.Proofs.YtfcknkanbcndjagGreatDoor

/- THE REFERENCE'S Town: Do, a link that may be. -/
namespace Go.Proofs.YtfcknkanbcndjagGreatDoor
open Go.RowKit
attribute [local go_sem] Ext.all Ext.cell Ext.frozen Ext.lt Ext.lt1 Ext.lt2 Ext.ne Ext.ne'
set_option maxRecDepth 20000 in
set_option maxHeartbeats 8000000 in
theorem wdo_link {M : Nat → Prop} {B w : World} {p : Nat} {q : Nat → Nat} {v o : Value} {t : Tn} {c : Nat → Nat → Nat} (H : Tw M B w p q v o t) (A : TnA t c) {a b : Nat} {n : Int} (ha : a < 6) (hb : b < 6) (hne : a ≠ b) (h0 : 0 ≤ n) (h15 : n ≤ 15) (x y : Value) :
    Calls Tryz.prog 28 #[pv p, .agg #[iv 1, iv (a : Int), iv (b : Int), iv n, x, y]] w fun e w' => e = .returned (iv 0) ∧ Tw M B w' p q v o (linkT t a b n) := by
  have T0 := hide (H.ext ((Gr.refl w).alloc (.cells #[iv 1, iv (a : Int), iv (b : Int), iv n, x, y] 54)))
  have S0 := hide (sp_new w 1 (a : Int) (b : Int) n x y)
  have hpX := H.blk.lt
  have hqX : Hid (∀ k, k < 6 → q k < w.heap.size) := fun k hk => (H.six.at_ k hk).lt
  have ea : lnkM (t.nd a) (b : Int) n = linkM (t.nd a) b n := if_pos ⟨⟨⟨by omega, by omega⟩, by rw [A.s.tc.me a ha]; omega⟩, h0, h15⟩
  have eb : lnkM (t.nd b) (a : Int) n = linkM (t.nd b) a n := if_pos ⟨⟨⟨by omega, by omega⟩, by rw [A.s.tc.me b hb]; omega⟩, h0, h15⟩
  have za := A.s.z a ha
  have zb := A.s.z b hb
  have hai : (a : Int) < 6 := by omega
  have hbi : (b : Int) < 6 := by omega
  clear H A
  go_enter Tryz.func28, Tryz.ntmps28
  go_upto_region 3 with (fail)
  refine wp_gen (fun V => Hid (Tw M B V p q v o t) ∧ Hid (VArr V 54 6 w.heap.size (spF 1 (a : Int) (b : Int) n x y))) ⟨T0.out, S0.out⟩ ?_
  clear T0 S0
  generalize w.heap.size = X at *
  rintro V ⟨T0, S0⟩
  obtain ⟨s1, s2, s3⟩ := sp_cells S0.out
  have hp := T0.out.blk.lt
  have hX := S0.out.lt
  have HS := hide (wset_ok (T0.out.ext (Gr.refl V).drew) ha hb hne h0 h15)
  have S1 := hide (S0.out.gr (Gr.refl V).drew)
  go_region_held3 (fun W => W.cell? ⟨X, 1, none⟩ = some (iv (a : Int)) ∧ W.cell? ⟨X, 2, none⟩ = some (iv (b : Int)) ∧ W.cell? ⟨X, 3, none⟩ = some (iv n)) (first | exact ⟨s1, s2, s3⟩ | exact sp_cells S2.out | go_keep) (first | (go_at_call 49; with_reducible refine HS.out.mono ?_; rintro e V1 ⟨rfl, T1', W1'⟩; have T1 := hide T1'; have S2 := hide (W1'.varr S1.out (by omega)); clear T1' W1'))
  all_goals
    clear HS S1 s1 s2 s3 hp hX S0 T0
    go_upto_region 6 with (fail)
    refine wp_gen (fun V => Hid (Tw M B V p q v o { t with cst := cstUp (cstUp t.cst a b n) b a n }) ∧ Hid (VArr V 54 6 X (spF 1 (a : Int) (b : Int) n x y))) ⟨T1.out, S2.out⟩ ?_
    clear T1 S2
    rintro V ⟨T1, S1⟩
    obtain ⟨s1, s2, s3⟩ := sp_cells S1.out
    have hp := T1.out.blk.lt
    have hX := S1.out.lt
    have c1 := T1.out.node ha
    have hXq : X ≠ q a := by have := hqX.out a ha; omega
    have HL : Hid (Calls Tryz.prog 50 #[pv (q a), iv (b : Int), iv n] V.drew fun e w' => ∃ r, e = .returned r ∧ Tw M B w' p q v o { t with cst := cstUp (cstUp t.cst a b n) b a n, nd := updW t.nd a (linkM (t.nd a) b n) } ∧ VArr w' 54 6 X (spF 1 (a : Int) (b : Int) n x y)) :=
      (mlinkN ((T1.out.ext (Gr.refl V).drew).six.at_ a ha) za (b : Int) n).mono fun e w' ⟨he, hm, hw⟩ => ⟨_, he, by
        rw [ea] at hm
        exact (T1.out.ext (Gr.refl V).drew).put ha hw hm, hw.varr (S1.out.gr (Gr.refl V).drew) hXq⟩
    go_region_held3 (fun W => W.cell? ⟨p, 36 + a, none⟩ = some (pv (q a)) ∧ W.cell? ⟨X, 1, none⟩ = some (iv (a : Int)) ∧ W.cell? ⟨X, 2, none⟩ = some (iv (b : Int)) ∧ W.cell? ⟨X, 3, none⟩ = some (iv n)) (first | exact ⟨c1, s1, s2, s3⟩ | exact ⟨T2.out.node ha, sp_cells S2.out⟩ | go_keep) (first | (go_at_call 50; with_reducible refine HL.out.mono ?_; rintro e V2 ⟨r2, rfl, T2', S2'⟩; have T2 := hide T2'; have S2 := hide S2'; clear T2' S2'))
    all_goals
      clear HL hXq s1 s2 s3 hp hX S1 T1 c1
      obtain ⟨s1, s2, s3⟩ := sp_cells S2.out
      have hp := T2.out.blk.lt
      have hX := S2.out.lt
      have c2 := T2.out.node hb
      have M0 : MAt V2.drew (q b) (t.nd b) := by
        have := (T2.out.ext (Gr.refl V2).drew).six.at_ b hb
        dsimp only at this
        rw [updW_ne _ _ (fun e => hne e.symm)] at this
        exact this
      have hXq : X ≠ q b := by have := hqX.out b hb; omega
      have HL : Hid (Calls Tryz.prog 50 #[pv (q b), iv (a : Int), iv n] V2.drew fun e w' => ∃ r, e = .returned r ∧ Tw M B w' p q v o (linkT t a b n) ∧ VArr w' 54 6 X (spF 1 (a : Int) (b : Int) n x y)) :=
        (mlinkN M0 zb (a : Int) n).mono fun e w' ⟨he, hm, hw⟩ => ⟨_, he, by
          rw [eb] at hm
          exact (T2.out.ext (Gr.refl V2).drew).put hb hw hm, hw.varr (S2.out.gr (Gr.refl V2).drew) hXq⟩
      clear M0
      go_upto_region 7 with (fail)
      go_region_held3 (fun W => W.cell? ⟨p, 36 + b, none⟩ = some (pv (q b)) ∧ W.cell? ⟨X, 1, none⟩ = some (iv (a : Int)) ∧ W.cell? ⟨X, 2, none⟩ = some (iv (b : Int)) ∧ W.cell? ⟨X, 3, none⟩ = some (iv n)) (first | exact ⟨c2, s1, s2, s3⟩ | exact ⟨T4.out.node hb, sp_cells S4.out⟩ | go_keep) (first | (go_at_call 50; with_reducible refine HL.out.mono ?_; rintro e V4 ⟨r4, rfl, T4', S4'⟩; have T4 := hide T4'; have S4 := hide S4'; clear T4' S4'))
      all_goals
        clear HL hXq s1 s2 s3 hp hX S2 T2 c2
        go_wp2_with fail
        go_ret
        exact ⟨rfl, T4.out⟩

end Go.Proofs.YtfcknkanbcndjagGreatDoor

/- THE REFERENCE'S Town: Do, the kind tick. -/
namespace Go.Proofs.YtfcknkanbcndjagGreatDoor
open Go.RowKit
attribute [local go_sem] Ext.all Ext.cell Ext.frozen Ext.lt Ext.lt1 Ext.lt2 Ext.ne Ext.ne'
theorem sayAll_stop {t : Tn} {a b : Nat} (h : (sayAll t a b).2 ≠ 0) : ∀ k, sayAll t a (b + k) = sayAll t a b
  | 0 => rfl
  | k + 1 => by
    have ih := sayAll_stop h k
    show (if (sayAll t a (b + k)).2 ≠ 0 then sayAll t a (b + k) else _) = _
    rw [ih, if_pos h]

set_option maxRecDepth 20000 in
set_option maxHeartbeats 8000000 in
theorem wdo_tick_no {M : Nat → Prop} {B w : World} {p : Nat} {q : Nat → Nat} {v o : Value} {t : Tn} (H : Tw M B w p q v o t) {a b n : Int} (h : ¬ isN a) (x y : Value) :
    Calls Tryz.prog 28 #[pv p, .agg #[iv 2, iv a, iv b, iv n, x, y]] w fun e w' => e = .returned (iv 1) ∧ Tw M B w' p q v o t := by
  have T0 := hide (H.ext ((Gr.refl w).alloc (.cells #[iv 2, iv a, iv b, iv n, x, y] 54)))
  have B1 : Hid (decide (0 ≤ a ∧ a < 6) = false) := decide_eq_false h
  clear H
  go_enter Tryz.func28, Tryz.ntmps28
  go_wp2_with (go_at_call 9; with_reducible refine (isNode_is B1.out _).mono ?_; rintro e w1 ⟨rfl, hw1⟩; have hw2 := hw1.symm; clear hw1; subst hw2)
  go_ret
  exact ⟨rfl, T0.out⟩

set_option maxRecDepth 20000 in
set_option maxHeartbeats 8000000 in
theorem wdo_tick {M : Nat → Prop} {B w : World} {p : Nat} {q : Nat → Nat} {v o : Value} {t : Tn} {c : Nat → Nat → Nat} (H : Tw M B w p q v o t) (A : TnA t c) {a : Nat} (ha : a < 6) (hA : agT t a < 4611686018427387904) (hl : t.news.length ≤ 40) (b n : Int) (x y : Value) :
    Calls Tryz.prog 28 #[pv p, .agg #[iv 2, iv (a : Int), iv b, iv n, x, y]] w fun e w' => ∃ v', e = .returned (iv (sayAll (tickT t a) a 6).2) ∧ Tw M B w' p q v' o (sayAll (tickT t a) a 6).1 := by
  have T0 := hide (H.ext ((Gr.refl w).alloc (.cells #[iv 2, iv (a : Int), iv b, iv n, x, y] 54)))
  have S0 := hide (sp_new w 2 (a : Int) b n x y)
  have hpX := H.blk.lt
  have hXq : w.heap.size ≠ q a := by have := (H.six.at_ a ha).lt; omega
  have RX : Hid (∀ W : World, w.heap.size < W.heap.size → restT W p q v w.heap.size) := fun W hW => ⟨hW, (H.notOwn ((Gr.refl w).alloc (.cells #[] 54)) (Nat.le_refl _) (by simp)).2⟩
  have za := A.s.z a ha
  have hag : age (t.nd a) < 4611686018427387904 := by
    have e1 : age (t.nd a) = agT t a := by unfold age agT; rw [A.s.tc.me a ha]
    rw [e1]; exact hA
  have hai : (a : Int) < 6 := by omega
  have B1 : Hid (decide (0 ≤ (a : Int) ∧ (a : Int) < 6) = true) := decide_eq_true ⟨by omega, hai⟩
  have AS : Hid (∀ k, TnA (sayAll (tickT t a) a k).1 c) := fun k => (sayAll_nx (A.tick ha).1 a k).a
  have ET : Hid (∀ w1 w2 : World, Tw M B w1 p q v o t → MAt w2 (q a) (tickM (t.nd a)) → Wr (q a) w1 w2 → Tw M B w2 p q v o (tickT t a)) := fun w1 w2 h1 hm hw => h1.put ha hw hm
  have AL : Hid (∀ k, (sayAll (tickT t a) a k).1.news.length ≤ 40) := fun k => sayAll_len (show (tickT t a).news.length ≤ 40 from hl) a k
  clear H A hA hl
  go_enter Tryz.func28, Tryz.ntmps28
  go_upto_region 12 with (go_at_call 9; with_reducible refine (isNode_is B1.out _).mono ?_; rintro e w1 ⟨rfl, hw1⟩; have hw2 := hw1.symm; clear hw1; subst hw2)
  refine wp_gen (fun V => Hid (Tw M B V p q v o t) ∧ Hid (VArr V 54 6 w.heap.size (spF 2 (a : Int) b n x y))) ⟨T0.out, S0.out⟩ ?_
  clear T0 S0
  generalize w.heap.size = X at *
  rintro V ⟨T0, S0⟩
  obtain ⟨s1, s2, s3⟩ := sp_cells S0.out
  have hp := T0.out.blk.lt
  have hX := S0.out.lt
  have c1 := T0.out.node ha
  have HL : Hid (Calls Tryz.prog 51 #[pv (q a)] V.drew fun e w' => e = .returned (.tuple #[]) ∧ Tw M B w' p q v o (tickT t a) ∧ VArr w' 54 6 X (spF 2 (a : Int) b n x y)) :=
    (mtickN ((T0.out.ext (Gr.refl V).drew).six.at_ a ha) za hag).mono fun e w' ⟨he, hm, hw⟩ => ⟨he, ET.out _ _ (T0.out.ext (Gr.refl V).drew) hm hw, hw.varr (S0.out.gr (Gr.refl V).drew) hXq⟩
  go_region_held3 (fun W => W.cell? ⟨p, 36 + a, none⟩ = some (pv (q a)) ∧ W.cell? ⟨X, 1, none⟩ = some (iv (a : Int))) (first | exact ⟨c1, s1⟩ | exact ⟨T1.out.node ha, (sp_cells S1.out).1⟩ | go_keep) (first | (go_at_call 51; with_reducible refine HL.out.mono ?_; rintro e V1 ⟨rfl, T1', S1'⟩; have T1 := hide T1'; have S1 := hide S1'; clear T1' S1'))
  all_goals
    clear HL ET hXq s1 s2 s3 c1 hp hX S0 T0 za hag
    generalize htt : tickT t a = t1 at AS AL T1
    have HTT := hide htt
    clear htt
    go_wp2_with fail
    go_loopw [6] (fun v6 wr => ∃ (k : Nat) (v1 : Value), k ≤ 6 ∧ v6 = .int .i64 (k : Int) ∧ Hid ((sayAll t1 a k).2 = 0) ∧ Hid (Tw M B wr p q v1 o (sayAll t1 a k).1) ∧ Hid (VArr wr 54 6 X (spF 2 (a : Int) b n x y)) ∧ Hid (∀ W : World, X < W.heap.size → restT W p q v1 X)) (fun v6 _ => (6 - intOf v6).toNat)
    case atStart => exact ⟨0, v, by omega, rfl, rfl, T1, S1, RX⟩
    case round =>
      clear T1 S1 RX
      obtain ⟨k, v1, hk6, rfl, h0, T1, S1, RX⟩ := hrel
      by_cases hk : k < 6
      · have hki : decide ((k : Int) < 6) = true := decide_eq_true (by omega)
        have hk0 : (k : Int) < 6 := by omega
        have wk : IntKind.i64.wrap ((k : Int) + 1) = (k : Int) + 1 := by rw [IntKind.wrap_i64]; omega
        obtain ⟨s1, s2, s3⟩ := sp_cells S1.out
        have hp := T1.out.blk.lt
        have hX := S1.out.lt
        have c1 := T1.out.cst ha hk
        have A1 := hide (AS.out k)
        have HSS : Hid (sayAll t1 a (k + 1) = if 0 < (sayAll t1 a k).1.cst a k then sayC (sayAll t1 a k).1 (a : Int) (k : Int) else sayAll t1 a k) := by
          show (if (sayAll t1 a k).2 ≠ 0 then _ else _) = _
          rw [if_neg (fun e => e h0.out)]
        by_cases hc : 0 < (sayAll t1 a k).1.cst a k
        · have hci : decide (0 < (sayAll t1 a k).1.cst a k) = true := decide_eq_true hc
          have HS2 : Hid (sayAll t1 a (k + 1) = sayC (sayAll t1 a k).1 (a : Int) (k : Int)) := by unfold Hid; rw [HSS.out, if_pos hc]
          obtain ⟨r, hr⟩ : ∃ r, Hid ((sayAll t1 a (k + 1)).2 = r) := ⟨_, rfl⟩
          have HT : Hid (∀ V, Gr wr V → Calls Tryz.prog 52 #[pv p, iv (a : Int), iv (k : Int)] V fun e w' => ∃ v', e = .returned (iv r) ∧ Tw M B w' p q v' o (sayAll t1 a (k + 1)).1 ∧ VArr w' 54 6 X (spF 2 (a : Int) b n x y) ∧ ∀ W : World, X < W.heap.size → restT W p q v' X) := fun V g =>
            (wtell_fr (T1.out.ext g) (fun i hi => A1.out.s.tc.me i hi) (AL.out k) (a : Int) (k : Int)).mono fun e w' ⟨v', he, ht, hf⟩ => ⟨v', by rw [he, ← HS2.out, hr.out], by rw [HS2.out]; exact ht, hf.varr (S1.out.gr g) (RX.out V (S1.out.gr g).lt), fun W hW => ⟨hW, (hf.rst (RX.out V (S1.out.gr g).lt)).2⟩⟩
          clear HSS HS2 hc
          generalize (sayAll t1 a k).1.cst a k = cc at *
          by_cases hrr : r = 0
          · subst hrr
            go_upto_region 16 with (fail)
            go_region_held3 (fun W => W.cell? ⟨p, a * 6 + k, none⟩ = some (iv cc) ∧ W.cell? ⟨X, 1, none⟩ = some (iv (a : Int))) (first | exact ⟨c1, s1⟩ | go_keep) (first | fail)
            go_wp2_with (go_at_call 52; with_reducible refine (HT.out _ (by first | exact Gr.refl _ | exact (Gr.refl _).drew)).mono ?_; rintro e V2 ⟨v2, rfl, T2', S2', R2'⟩; have T2 := hide T2'; have S2 := hide S2'; have R2 := hide R2'; clear T2' S2' R2')
            go_roundw
            case rel => exact ⟨k + 1, v2, by omega, by congr 1, hr, T2, S2, R2⟩
            case measure => simp [intOf]; omega
          · have hre : (r == 0) = false := by simpa using hrr
            have hre2 : (r != 0) = true := by simpa using hrr
            have E6 : Hid (sayAll t1 a 6 = sayAll t1 a (k + 1)) := by
              have := sayAll_stop (t := t1) (a := a) (b := k + 1) (by rw [hr.out]; exact hrr) (6 - (k + 1))
              rw [show k + 1 + (6 - (k + 1)) = 6 by omega] at this
              exact this
            go_upto_region 16 with (fail)
            go_region_held3 (fun W => W.cell? ⟨p, a * 6 + k, none⟩ = some (iv cc) ∧ W.cell? ⟨X, 1, none⟩ = some (iv (a : Int))) (first | exact ⟨c1, s1⟩ | go_keep) (first | fail)
            go_wp2_with (go_at_call 52; with_reducible refine (HT.out _ (by first | exact Gr.refl _ | exact (Gr.refl _).drew)).mono ?_; rintro e V2 ⟨v2, rfl, T2', S2', R2'⟩; have T2 := hide T2'; have S2 := hide S2'; have R2 := hide R2'; clear T2' S2' R2')
            go_ret
            exact ⟨v2, congrArg (fun z => Ending.returned (iv z)) (show r = (sayAll (tickT t a) a 6).2 by rw [HTT.out, E6.out, hr.out]), by rw [HTT.out, E6.out]; exact T2.out⟩
        · have hci : decide (0 < (sayAll t1 a k).1.cst a k) = false := decide_eq_false hc
          have HS2 : Hid (sayAll t1 a (k + 1) = sayAll t1 a k) := by unfold Hid; rw [HSS.out, if_neg hc]
          clear HSS hc
          generalize (sayAll t1 a k).1.cst a k = cc at *
          go_upto_region 16 with (fail)
          go_region_held3 (fun W => W.cell? ⟨p, a * 6 + k, none⟩ = some (iv cc) ∧ W.cell? ⟨X, 1, none⟩ = some (iv (a : Int))) (first | exact ⟨c1, s1⟩ | go_keep) (first | fail)
          go_wp2_with fail
          go_roundw
          case rel => exact ⟨k + 1, v1, by omega, by congr 1, by unfold Hid; rw [HS2.out]; exact h0.out, by unfold Hid; rw [HS2.out]; exact T1.out.ext (by first | exact Gr.refl _ | exact (Gr.refl _).drew), S1.out.gr (by first | exact Gr.refl _ | exact (Gr.refl _).drew), RX⟩
          case measure => simp [intOf]; omega
      · have hki : decide ((k : Int) < 6) = false := decide_eq_false (by omega)
        have ek : k = 6 := by omega
        subst ek
        go_wp2_with fail
        go_ret
        exact ⟨v1, congrArg (fun z => Ending.returned (iv z)) (show (0 : Int) = (sayAll (tickT t a) a 6).2 by rw [HTT.out, h0.out]), by rw [HTT.out]; exact T1.out⟩

end Go.Proofs.YtfcknkanbcndjagGreatDoor

/- THE REFERENCE'S Town: its news made anew: one taken out, one put in twice. -/
namespace Go.Proofs.YtfcknkanbcndjagGreatDoor
open Go.RowKit

theorem own_base {w : World} {b e s n : Nat} {v : Value} {xs : List Value} (h : w.ownsRow b e s v n xs) : w.ownsRow 0 e s v n xs := by
  refine ⟨h.1, ?_⟩
  rcases h.2 with hn | ⟨g, cap, cur, hv, _, rest⟩
  · exact .inl hn
  · exact .inr ⟨g, cap, cur, hv, Nat.zero_le _, rest⟩
theorem own_young {w : World} {b e s n : Nat} {v : Value} {xs : List Value} (h : w.ownsRow b e s v n xs) {k : Nat} (hk : v.ownBlock = some k) : b ≤ k := by
  rcases h.2 with ⟨rfl, _⟩ | ⟨g, cap, cur, rfl, hb, _⟩
  · cases hk
  · cases hk; exact hb
theorem own_shape {w : World} {b e s n : Nat} {v : Value} {xs : List Value} (h : w.ownsRow b e s v n xs) : ∃ a c, v = .slice a n c := by
  rcases h.2 with ⟨rfl, rfl⟩ | ⟨g, cap, cur, rfl, _⟩
  · exact ⟨_, _, rfl⟩
  · exact ⟨_, _, rfl⟩
theorem grown2 {W w1 w2 : World} {r : Option Nat} (h : W.grownBy w1 none) (k : w1.grownBy w2 r) (hr : ∀ b, r = some b → W.heap.size ≤ b) (s : Option Nat) : W.grownBy w2 s :=
  ⟨k.os.trans h.os, k.tape.trans h.tape, k.output.trans h.output, Nat.le_trans h.size k.size, fun b hb _ => (k.block b (Nat.lt_of_lt_of_le hb h.size) (fun e => by have := hr b e.symm; omega)).trans (h.block b hb (fun e => by cases e))⟩
/-- 'append(nil, l...)'. -/
theorem app_none {W : World} {a : Addr} {m c : Nat} {xs : List Nws} (ty : TypeId) (hx : xs.length = m) (hc : ∀ j u, (celn xs)[j]? = some u → W.cell? (a.add j) = some u) (hm : m ≤ 1000) :
    ∃ v1 w1, (Builtin.append_ #[46, 46] ty #[.slice none 0 0, .slice (some a) m c]).run Tryz.prog W = .ok v1 w1 ∧ w1.ownsRow W.heap.size 114 5 v1 m (celn xs) ∧ W.grownBy w1 none := by
  obtain ⟨i0, hi, hz0, hz1, hz2⟩ := info_parts Tryz.info114
  obtain ⟨v', w', h1, h2, h3, _⟩ := run_append_own (P := Tryz.prog) W W.heap.size 46 ty 114 i0 _ 5 40 Tryz.underlying46 hi hz0 hz1 hz2 (by rfl) (by decide) (.slice none 0 0) 0 [] (World.ownsRow_nil _ _ _ _)
      a m c (celn xs) (by rw [celn_length, hx]) hc (celn_one xs) (by unfold maxLen; omega) (by omega) (Nat.le_refl _)
  simp only [Nat.zero_add, List.nil_append] at h2
  exact ⟨v', w', h1, h2, h3⟩
/-- 'append(l, m...)' where l is new. -/
theorem app_more {W w1 : World} {v1 : Value} {a : Addr} {m k c : Nat} {xs ys : List Nws} (ty : TypeId) (hO : w1.ownsRow W.heap.size 114 5 v1 m (celn xs)) (hg : W.grownBy w1 none) (hy : ys.length = k) (hc : ∀ j u, (celn ys)[j]? = some u → w1.cell? (a.add j) = some u) (hm : m + k ≤ 1000) :
    ∃ v2 w2, (Builtin.append_ #[46, 46] ty #[v1, .slice (some a) k c]).run Tryz.prog w1 = .ok v2 w2 ∧ w2.ownsRow W.heap.size 114 5 v2 (m + k) (celn (xs ++ ys)) ∧ ∀ s, W.grownBy w2 s := by
  obtain ⟨i0, hi, hz0, hz1, hz2⟩ := info_parts Tryz.info114
  obtain ⟨v', w', h1, h2, h3, _⟩ := run_append_own (P := Tryz.prog) w1 W.heap.size 46 ty 114 i0 _ 5 40 Tryz.underlying46 hi hz0 hz1 hz2 (by rfl) (by decide) v1 m (celn xs) hO
      a k c (celn ys) (by rw [celn_length, hy]) hc (celn_one ys) (by unfold maxLen; omega) (by omega) hg.size
  rw [← celn_append] at h2
  exact ⟨v', w', h1, h2, fun s => grown2 hg h3 (fun b e => own_young hO e) s⟩
section
variable {M : Nat → Prop} {B w : World} {p : Nat} {q : Nat → Nat} {v o : Value} {t : Tn}
/-- The new list in the old one's place. -/
theorem Tw.anew {W w2 : World} {v2 : Value} {k : Nat} {nl : List Nw} (H : Tw M B W p q v o t) (hO : w2.ownsRow W.heap.size 114 5 v2 k (celn (newsL nl))) (hk : nl.length = k) (hg : W.grownBy w2 v.ownBlock) :
    VArr w2 110 44 p (twF t.cst q v o) ∧ Tw M B (w2.setCell ⟨p, 42, none⟩ v2) p q v2 o { t with news := nl } := by
  have hN : NwO 0 w2 v2 (newsL nl) := by
    unfold NwO
    rw [newsL_len, hk]
    exact own_base hO
  refine ⟨(hg.block p H.blk.lt (fun e => (H.vp _ e.symm).1 rfl)).trans H.blk, H.newsPut hg hN ?_⟩
  cases e : v2.ownBlock with
  | none => exact .inl rfl
  | some b => exact .inr (.inr ⟨b, rfl, own_young hO e⟩)
/-- The row of the news. -/
theorem Tw.row (H : Tw M B w p q v o t) {n : Nat} (hn : n < t.news.length) : ∃ g cap cur, v = .slice (some ⟨g, 0, none⟩) t.news.length cap ∧ NRow w g t.news.length cap cur (newsL t.news) := by
  have hlen := newsL_len t.news
  rcases H.nw.2 with ⟨_, h0⟩ | ⟨g, cap, cur, hv, hb, hg, hn', hc, hs, ht⟩
  · exfalso; omega
  · rw [hlen] at hv ht hn'
    exact ⟨g, cap, cur, hv, ⟨hg, hlen, hn', hc, hs, ht⟩⟩
/-- One of them is taken out. -/
theorem Tw.cut {g cap : Nat} {cur : Array Value} (H : Tw M B w p q (.slice (some ⟨g, 0, none⟩) t.news.length cap) o t) (R : NRow w g t.news.length cap cur (newsL t.news)) (hl : t.news.length ≤ 40) {n : Nat} (hn : n < t.news.length) :
    ∃ (A : Addr) (a1 : Option Addr) (c1 : Nat) (w1 : World) (a2 : Option Addr) (n2 c2 : Nat) (w2 : World), (if cap = n + 1 then some (⟨g, 0, none⟩ : Addr) else some ⟨g, (n + 1) * 5, none⟩) = some A ∧
      (Builtin.append_ #[46, 46] 46 #[.slice none 0 0, .slice (some ⟨g, 0, none⟩) n cap]).run Tryz.prog w.drew = .ok (.slice a1 n c1) w1 ∧
      (Builtin.append_ #[46, 46] 46 #[.slice a1 n c1, .slice (some A) (t.news.length - (n + 1)) (cap - (n + 1))]).run Tryz.prog w1 = .ok (.slice a2 n2 c2) w2 ∧
      (∀ b, b < w.heap.size → w1.heap[b]? = w.heap[b]?) ∧ (∀ b, b < w.heap.size → w2.heap[b]? = w.heap[b]?) ∧
      Tw M B (w2.setCell ⟨p, 42, none⟩ (.slice a2 n2 c2)) p q (.slice a2 n2 c2) o { t with news := dropAt t.news n } := by
  have hlen := newsL_len t.news
  have rd : ∀ (W : World), (∀ b, b < w.heap.size → W.heap[b]? = w.heap[b]?) → ∀ j u, (celn (newsL t.news))[j]? = some u → W.cell? ⟨g, j, none⟩ = some u := fun W hW j u hj => by
    have := R.cell j u hj
    rw [World.cell?_of_block (w := w) (a := ⟨g, j, none⟩) (hW g (lt_of_block R.block))]
    exact this
  obtain ⟨v1, w1, r1, o1, g1⟩ := app_none (W := w.drew) (a := ⟨g, 0, none⟩) (m := n) (c := cap) (xs := (newsL t.news).take n) 46 (by rw [List.length_take]; omega) (fun j u hj => by
    rw [Addr.add_lit, Nat.zero_add]
    refine rd w.drew (fun _ _ => rfl) j u ?_
    have hjl : j < n * 5 := by
      have := (List.getElem?_eq_some_iff.1 hj).1
      rw [celn_length, List.length_take] at this
      omega
    rw [← celn_take, List.getElem?_take_of_lt hjl] at hj
    exact hj) (by omega)
  have k1 : ∀ b, b < w.heap.size → w1.heap[b]? = w.heap[b]? := fun b hb => g1.block b hb (fun e => by cases e)
  obtain ⟨a1, c1, rfl⟩ := own_shape o1
  obtain ⟨A, hA, hsrc⟩ : ∃ A : Addr, (if cap = n + 1 then some (⟨g, 0, none⟩ : Addr) else some ⟨g, (n + 1) * 5, none⟩) = some A ∧ (∀ j u, (celn ((newsL t.news).drop (n + 1)))[j]? = some u → w1.cell? (A.add j) = some u) := by
    by_cases hc : cap = n + 1
    · refine ⟨⟨g, 0, none⟩, by simp [hc], fun j u hu => ?_⟩
      have hle := R.le
      have : celn ((newsL t.news).drop (n + 1)) = [] := List.eq_nil_of_length_eq_zero (by rw [celn_length, List.length_drop]; omega)
      rw [this] at hu; simp at hu
    · refine ⟨⟨g, (n + 1) * 5, none⟩, by simp [hc], fun j u hu => ?_⟩
      rw [Addr.add_lit]
      refine rd w1 k1 _ u ?_
      rw [← celn_drop, List.getElem?_drop] at hu
      exact hu
  obtain ⟨v2, w2, r2, o2, g2⟩ := app_more (W := w.drew) (a := A) (k := t.news.length - (n + 1)) (c := cap - (n + 1)) (ys := (newsL t.news).drop (n + 1)) 46 o1 g1 (by rw [List.length_drop]; omega) hsrc (by omega)
  obtain ⟨a2, c2, rfl⟩ := own_shape o2
  have e2 : (newsL t.news).take n ++ (newsL t.news).drop (n + 1) = newsL (dropAt t.news n) := by
    unfold dropAt newsL
    rw [List.map_append, List.map_take, List.map_drop]
  rw [e2] at o2
  have hd := (H.ext (Gr.refl w).drew).anew o2 (by unfold dropAt; rw [List.length_append, List.length_take, List.length_drop]; omega) (g2 _)
  exact ⟨A, a1, c1, w1, a2, _, c2, w2, hA, r1, r2, k1, fun b hb => (g2 none).block b hb (fun e => by cases e), hd.2⟩
end

end Go.Proofs.YtfcknkanbcndjagGreatDoor

/- THE REFERENCE'S Town: Do, the kinds hear, lose, double. -/
namespace Go.Proofs.YtfcknkanbcndjagGreatDoor
open Go.RowKit
attribute [local go_sem] Ext.all Ext.cell Ext.frozen Ext.lt Ext.lt1 Ext.lt2 Ext.ne Ext.ne'
section
variable {M : Nat → Prop} {B w : World} {p : Nat} {q : Nat → Nat} {v o : Value} {t : Tn}
set_option maxRecDepth 20000 in
set_option maxHeartbeats 8000000 in
theorem wdo_none (H : Tw M B w p q v o t) {k a b n : Int} (hk : k = 4 ∨ k = 5 ∨ k = 6) (hn : ¬ (0 ≤ n ∧ n < (t.news.length : Int))) (x y : Value) :
    Calls Tryz.prog 28 #[pv p, .agg #[iv k, iv a, iv b, iv n, x, y]] w fun e w' => e = .returned (iv 6) ∧ Gr w w' := by
  have T0 := hide (H.ext ((Gr.refl w).alloc (.cells #[iv k, iv a, iv b, iv n, x, y] 54)))
  have S0 := hide (sp_new w k a b n x y)
  have k1 : (k == 1) = false := by simp; omega
  have k2 : (k == 2) = false := by simp; omega
  have k3 : (k == 3) = false := by simp; omega
  have hk4 : ((k == 4) = true) ∨ ((k == 4) = false ∧ (k == 5) = true) ∨ ((k == 4) = false ∧ (k == 5) = false ∧ (k == 6) = true) := by
    rcases hk with rfl | rfl | rfl
    · exact .inl rfl
    · exact .inr (.inl ⟨rfl, rfl⟩)
    · exact .inr (.inr ⟨rfl, rfl, rfl⟩)
  obtain ⟨ao, cv, hv, _, _, _⟩ := H.nw.shape
  rw [newsL_len] at hv
  subst hv
  have hcase : (decide (n < 0) = true) ∨ (decide (n < 0) = false ∧ decide ((t.news.length : Int) ≤ n) = true) := by
    by_cases e : n < 0
    · exact .inl (decide_eq_true e)
    · exact .inr ⟨decide_eq_false e, decide_eq_true (by omega)⟩
  clear H hk hn
  rcases hk4 with k4 | ⟨k4, k5⟩ | ⟨k4, k5, k6⟩
  all_goals
    go_enter Tryz.func28, Tryz.ntmps28
    go_upto_region 26 with (fail)
    refine wp_gen (fun V => Hid (Tw M B V p q (.slice ao t.news.length cv) o t) ∧ Hid (VArr V 54 6 w.heap.size (spF k a b n x y)) ∧ Hid (Gr w V)) ⟨T0.out, S0.out, (Gr.refl w).alloc _⟩ ?_
    clear T0 S0
    generalize hX0 : w.heap.size = X at *
    clear hX0
    rintro V ⟨T0, S0, gV⟩
    obtain ⟨s1, s2, s3⟩ := sp_cells S0.out
    have hp := T0.out.blk.lt
    have hX := S0.out.lt
    have c2 := T0.out.news
    rcases hcase with h1 | ⟨h1, h2⟩
    all_goals
      refine wp_region_ext (by kernel_rfl) (by kernel_rfl) ?_
      repeat (go_big_quiet_step (fail))
      refine wpQuiet_nil ?_
      rintro _ ⟨d5, rfl⟩
      go_wp2_with fail
      go_ret
      exact ⟨rfl, gV.out.trans d5.gr⟩
end

end Go.Proofs.YtfcknkanbcndjagGreatDoor
