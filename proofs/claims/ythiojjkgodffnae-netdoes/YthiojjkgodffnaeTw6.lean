import Derived.Test.YthiojjkgodffnaeTw4
/- THE REFERENCE'S Town: tell, where all is right. -/
namespace Go.Proofs.Ythiojjkgodffnae
open Go.RowKit
attribute [local go_sem] Ext.all Ext.cell Ext.frozen Ext.lt Ext.lt1 Ext.lt2 Ext.ne Ext.ne'

set_option maxRecDepth 20000 in
set_option maxHeartbeats 8000000 in
theorem wtell_ok {M : Nat → Prop} {B w : World} {p : Nat} {q : Nat → Nat} {v o : Value} {t : Tn} (H : Tw M B w p q v o t) (hme : ∀ a, a < 6 → (t.nd a).me = a) {a b : Nat} (ha : a < 6) (hb : b < 6) (hc : t.cst a b ≠ 0) (hl : t.news.length + 6 ≤ 40) :
    Calls Try.prog 42 #[pv p, iv a, iv b] w fun e w' => ∃ v', e = .returned (iv 0) ∧ Tw M B w' p q v' o (sayT t a b) := by
  have hp := H.blk.lt
  have hai : (a : Int) < 6 := by omega
  have hbi : (b : Int) < 6 := by omega
  have B1 : Hid (decide (0 ≤ (a : Int) ∧ (a : Int) < 6) = true) := decide_eq_true ⟨by omega, hai⟩
  have B2 : Hid (decide (0 ≤ (b : Int) ∧ (b : Int) < 6) = true) := decide_eq_true ⟨by omega, hbi⟩
  have c0 := H.cst ha hb
  have c1 := H.node ha
  have c2 := H.news
  have g1 : (t.cst a b == 0) = false := by simpa using hc
  have HH := hide H
  obtain ⟨ao, cv, hv, _, _, _⟩ := H.nw.shape
  rw [newsL_len] at hv
  have HNW := hide H.nw
  have HT : Hid (∀ V : World, Gr w V → Calls Try.prog 52 #[pv (q a), iv (b : Int)] V fun e w' => ∃ ao c, e = .returned (.slice ao 6 c) ∧ NewsAt w' ao (tellL (t.nd a) (b : Int) 6) ∧ Gr V w') := fun V g =>
    (mtell_any ((H.six.at_ a ha).gr g) (b : Int)).mono fun e w' ⟨v, he, ho, hg⟩ => by
      obtain ⟨ao, c, hv, hn, _⟩ := OwnN.shape ho
      rw [tell_len] at hv
      exact ⟨ao, c, by rw [he, hv], hn, hg⟩
  have HT2 : Hid (∀ V : World, Gr w V → Calls Try.prog 52 #[pv (q a), iv (b : Int)] V fun e w' => ∃ a5 k5 a6 n6 k6 w2, e = .returned (.slice a5 6 k5) ∧ Gr w w' ∧ (Builtin.append_ #[49, 49] 49 #[v, .slice a5 6 k5]).run Try.prog w' = .ok (.slice a6 n6 k6) w2 ∧ (w2.cell? ⟨p, 36 + a, none⟩ = some (pv (q a)) ∧ w2.cell? ⟨p, 42, none⟩ = some v ∧ w2.frozen? ⟨p, 42, none⟩ = false ∧ p < w2.heap.size) ∧ Tw M B (w2.setCell ⟨p, 42, none⟩ (.slice a6 n6 k6)) p q (.slice a6 n6 k6) o (sayT t a b)) := fun V g =>
    (HT.out V g).mono fun e w' ⟨a5, k5, he, hn, hg⟩ => by
      have g1 := g.trans hg
      have H1 := H.ext g1
      have htl : (tellT t a b).length = 6 := by simp [tellT]
      obtain ⟨v', w2, hrun, ⟨a6, n6, k6, hv6⟩, hb2, HF⟩ := H1.app (cp := k5) 49 (nl := tellT t a b) (by rw [tell_news (hme a ha)]; exact hn) (by omega) (by omega)
      rw [htl] at hrun
      subst hv6
      have n0 := hb2.cell (j := 36 + a) (by omega)
      have n1 := hb2.cell (j := 42) (by omega)
      unfold twF at n0 n1
      rw [if_neg (by omega), if_pos (by omega), show 36 + a - 36 = a by omega] at n0
      rw [if_neg (by omega), if_neg (by omega), if_pos rfl] at n1
      exact ⟨a5, k5, a6, n6, k6, w2, he, g1, hrun, ⟨n0, n1, hb2.free 42, hb2.lt⟩, HF⟩
  have HT3 : Hid (∀ V : World, Gr w V → Calls Try.prog 52 #[pv (q a), iv (b : Int)] V fun e w' => ∃ r, e = .returned r ∧ ∃ a5 k5 a6 n6 k6 w2, r = .slice a5 6 k5 ∧ Gr w w' ∧ (Builtin.append_ #[49, 49] 49 #[v, .slice a5 6 k5]).run Try.prog w' = .ok (.slice a6 n6 k6) w2 ∧ (w2.cell? ⟨p, 36 + a, none⟩ = some (pv (q a)) ∧ w2.cell? ⟨p, 42, none⟩ = some v ∧ w2.frozen? ⟨p, 42, none⟩ = false ∧ p < w2.heap.size) ∧ Tw M B (w2.setCell ⟨p, 42, none⟩ (.slice a6 n6 k6)) p q (.slice a6 n6 k6) o (sayT t a b)) := fun V g =>
    (HT2.out V g).mono fun e w' ⟨a5, k5, a6, n6, k6, w2, he, r⟩ => ⟨_, he, a5, k5, a6, n6, k6, w2, rfl, r⟩
  have g2 : decide ((40 : Int) < ((t.news.length : Nat) : Int) + 6) = false := decide_eq_false (by omega)
  have wl : IntKind.i64.wrap (((t.news.length : Nat) : Int) + 6) = ((t.news.length : Nat) : Int) + 6 := by rw [IntKind.wrap_i64]; omega
  have HL := hide hl
  subst hv
  clear H hme hc
  go_enter Try.func42, Try.ntmps42
  go_upto_region 7 with (first | (go_at_call 29; with_reducible refine (isNode_is B1.out _).mono ?_; rintro e w1 ⟨rfl, hw1⟩; have hw2 := hw1.symm; clear hw1; subst hw2) | (go_at_call 29; with_reducible refine (isNode_is B2.out _).mono ?_; rintro e w1 ⟨rfl, hw1⟩; have hw2 := hw1.symm; clear hw1; subst hw2))
  go_region_law
    (first
    | (refine step_call2 rfl 52 #[pv (q a), iv (b : Int)] (by first | go_simp | kernel_rfl | simp [execOp, resolve, invoke, callFunc, Act.eval, Try.func52, go_sem]) (HT3.out _ (Gr.refl w).drew) ?_; rintro r V1 ⟨a5, k5, a6, n6, k6, w2, rfl, g5', hrun', ⟨n2, m2, f2, l2⟩, HF'⟩; have G5 := hide g5'; have HR := hide hrun'; have HF := hide HF'; clear g5' hrun' HF'; have n1 := (HH.out.ext G5.out).node ha; have m1 := (HH.out.ext G5.out).news; have l1 := VArr.lt (HH.out.ext G5.out).blk)
    | (refine step_append_eq rfl (.tmp 35) (.tmp 43) 49 49 rfl (.slice ao t.news.length cv) (.slice a5 6 k5) rfl rfl (v' := .slice a6 n6 k6) (w' := w2) HR.out ?_)
    | fail)
  all_goals
    go_wp2_with fail
    go_ret
    exact ⟨_, rfl, HF.out⟩

end Go.Proofs.Ythiojjkgodffnae

/- THE REFERENCE'S Town: tell of whatever is handed in. -/
namespace Go.Proofs.Ythiojjkgodffnae
open Go.RowKit
attribute [local go_sem] Ext.all Ext.cell Ext.frozen Ext.lt Ext.lt1 Ext.lt2 Ext.ne Ext.ne'

set_option maxRecDepth 20000 in
set_option maxHeartbeats 8000000 in
theorem wtell_range {w : World} {p : Nat} {a b : Int} (h : ¬ isN a ∨ ¬ isN b) : Calls Try.prog 42 #[pv p, iv a, iv b] w fun e w' => e = .returned (iv 1) ∧ w' = w := by
  obtain ⟨b1, B1⟩ : ∃ b1, Hid (decide (0 ≤ a ∧ a < 6) = b1) := ⟨_, rfl⟩
  obtain ⟨b2, B2⟩ : ∃ b2, Hid (decide (0 ≤ b ∧ b < 6) = b2) := ⟨_, rfl⟩
  cases b1
  · go_enter Try.func42, Try.ntmps42
    go_wp2_with (go_at_call 29; with_reducible refine (isNode_is B1.out _).mono ?_; rintro e w1 ⟨rfl, hw1⟩; have hw2 := hw1.symm; clear hw1; subst hw2)
    go_ret
    exact ⟨rfl, rfl⟩
  · cases b2
    · go_enter Try.func42, Try.ntmps42
      go_wp2_with (first | (go_at_call 29; with_reducible refine (isNode_is B1.out _).mono ?_; rintro e w1 ⟨rfl, hw1⟩; have hw2 := hw1.symm; clear hw1; subst hw2) | (go_at_call 29; with_reducible refine (isNode_is B2.out _).mono ?_; rintro e w1 ⟨rfl, hw1⟩; have hw2 := hw1.symm; clear hw1; subst hw2))
      go_ret
      exact ⟨rfl, rfl⟩
    · exfalso
      have h1 := of_decide_eq_true B1.out
      have h2 := of_decide_eq_true B2.out
      exact h.elim (fun q => q h1) (fun q => q h2)
set_option maxRecDepth 20000 in
set_option maxHeartbeats 8000000 in
theorem wtell_no {M : Nat → Prop} {B w : World} {p : Nat} {q : Nat → Nat} {v o : Value} {t : Tn} (H : Tw M B w p q v o t) {a b : Nat} (ha : a < 6) (hb : b < 6) (hl : t.news.length ≤ 40) {r : Int} (hr : (t.cst a b = 0 ∧ r = 6) ∨ (t.cst a b ≠ 0 ∧ 40 < t.news.length + 6 ∧ r = 9)) :
    Calls Try.prog 42 #[pv p, iv a, iv b] w fun e w' => e = .returned (iv r) ∧ w' = w := by
  have hp := H.blk.lt
  have hai : (a : Int) < 6 := by omega
  have hbi : (b : Int) < 6 := by omega
  have B1 : Hid (decide (0 ≤ (a : Int) ∧ (a : Int) < 6) = true) := decide_eq_true ⟨by omega, hai⟩
  have B2 : Hid (decide (0 ≤ (b : Int) ∧ (b : Int) < 6) = true) := decide_eq_true ⟨by omega, hbi⟩
  have c0 := H.cst ha hb
  have c2 := H.news
  obtain ⟨ao, cv, hv, _, _, _⟩ := H.nw.shape
  rw [newsL_len] at hv
  subst hv
  have wl : IntKind.i64.wrap (((t.news.length : Nat) : Int) + 6) = ((t.news.length : Nat) : Int) + 6 := by rw [IntKind.wrap_i64]; omega
  clear H
  rcases hr with ⟨h1, rfl⟩ | ⟨h1, h2, rfl⟩
  · have g1 : (t.cst a b == 0) = true := by simpa using h1
    clear h1
    go_enter Try.func42, Try.ntmps42
    go_wp2_with (first | (go_at_call 29; with_reducible refine (isNode_is B1.out _).mono ?_; rintro e w1 ⟨rfl, hw1⟩; have hw2 := hw1.symm; clear hw1; subst hw2) | (go_at_call 29; with_reducible refine (isNode_is B2.out _).mono ?_; rintro e w1 ⟨rfl, hw1⟩; have hw2 := hw1.symm; clear hw1; subst hw2))
    go_ret
    exact ⟨rfl, rfl⟩
  · have g1 : (t.cst a b == 0) = false := by simpa using h1
    have g2 : decide ((40 : Int) < ((t.news.length : Nat) : Int) + 6) = true := decide_eq_true (by omega)
    clear h1 h2
    go_enter Try.func42, Try.ntmps42
    go_wp2_with (first | (go_at_call 29; with_reducible refine (isNode_is B1.out _).mono ?_; rintro e w1 ⟨rfl, hw1⟩; have hw2 := hw1.symm; clear hw1; subst hw2) | (go_at_call 29; with_reducible refine (isNode_is B2.out _).mono ?_; rintro e w1 ⟨rfl, hw1⟩; have hw2 := hw1.symm; clear hw1; subst hw2))
    go_ret
    exact ⟨rfl, rfl⟩
theorem wtell_any {M : Nat → Prop} {B w : World} {p : Nat} {q : Nat → Nat} {v o : Value} {t : Tn} (H : Tw M B w p q v o t) (hme : ∀ a, a < 6 → (t.nd a).me = a) (hl : t.news.length ≤ 40) (a b : Int) :
    Calls Try.prog 42 #[pv p, iv a, iv b] w fun e w' => ∃ v', e = .returned (iv (sayC t a b).2) ∧ Tw M B w' p q v' o (sayC t a b).1 := by
  unfold sayC
  by_cases e : ¬ isN a ∨ ¬ isN b
  · rw [if_pos e]
    exact (wtell_range e).mono fun _ w' ⟨h1, h2⟩ => ⟨v, h1, by rw [h2]; exact H⟩
  · rw [if_neg e]
    obtain ⟨i, rfl⟩ : ∃ i : Nat, a = (i : Int) := ⟨a.toNat, by omega⟩
    obtain ⟨j, rfl⟩ : ∃ j : Nat, b = (j : Int) := ⟨b.toNat, by omega⟩
    rw [Int.toNat_natCast, Int.toNat_natCast]
    by_cases e2 : t.cst i j = 0
    · rw [if_pos e2]
      exact (wtell_no H (by omega) (by omega) hl (.inl ⟨e2, rfl⟩)).mono fun _ w' ⟨h1, h2⟩ => ⟨v, h1, by rw [h2]; exact H⟩
    · rw [if_neg e2]
      by_cases e3 : 40 < t.news.length + 6
      · rw [if_pos e3]
        exact (wtell_no H (by omega) (by omega) hl (.inr ⟨e2, e3, rfl⟩)).mono fun _ w' ⟨h1, h2⟩ => ⟨v, h1, by rw [h2]; exact H⟩
      · rw [if_neg e3]
        exact wtell_ok H hme (by omega) (by omega) e2 (by omega)
/-- And what it leaves as it was. -/
theorem wtell_fr {M : Nat → Prop} {B w : World} {p : Nat} {q : Nat → Nat} {v o : Value} {t : Tn} (H : Tw M B w p q v o t) (hme : ∀ a, a < 6 → (t.nd a).me = a) (hl : t.news.length ≤ 40) (a b : Int) :
    Calls Try.prog 42 #[pv p, iv a, iv b] w fun e w' => ∃ v', e = .returned (iv (sayC t a b).2) ∧ Tw M B w' p q v' o (sayC t a b).1 ∧ FrW w p q v w' v' :=
  (wtell_any H.rest hme hl a b).mono fun _ _ ⟨v', he, hh⟩ => ⟨v', he, H.unrest hh, hh.fr⟩

end Go.Proofs.Ythiojjkgodffnae
