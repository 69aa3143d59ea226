import Derived.Test.YtfcknkanbcndjagGreatDoorTw7
/- THE REFERENCE'S Town: Map.Set inside it. -/
namespace Go.Proofs.YtfcknkanbcndjagGreatDoor
open Go.RowKit
attribute [local go_sem] Ext.all Ext.cell Ext.frozen Ext.lt Ext.lt1 Ext.lt2 Ext.ne Ext.ne'
/-- A cost is set. -/
theorem Tw.setCst {M : Nat → Prop} {B w : World} {p : Nat} {q : Nat → Nat} {v o : Value} {t : Tn} (h : Tw M B w p q v o t) {a b : Nat} (ha : a < 6) (hb : b < 6) (n : Int) : Tw M B (w.setCell ⟨p, a * 6 + b, none⟩ (iv n)) p q v o { t with cst := cstUp t.cst a b n } := by
  refine ⟨h.kp.set h.nop _ _, h.bd, ?_, ⟨fun x hx => ?_, h.six.inj⟩, h.nw.keep (fun k e => Below.heap_setCell w ⟨p, a * 6 + b, none⟩ (iv n) k (h.vp k e).1), h.nop, h.noq, h.nov⟩
  · refine h.blk.set fun i hi => ?_
    unfold twF cstUp
    by_cases e1 : i < 36
    · rw [if_pos e1, if_pos e1]
      by_cases e2 : i = a * 6 + b
      · rw [if_pos e2]
        exact congrArg iv (if_pos ⟨by omega, by omega⟩)
      · rw [if_neg e2]
        exact congrArg iv (if_neg (fun q => e2 (by omega)))
    · rw [if_neg e1, if_neg e1, if_neg (show ¬ i = a * 6 + b by omega)]
  · exact (Below.heap_setCell w ⟨p, a * 6 + b, none⟩ (iv n) (q x) (h.pq x hx)).trans (h.six.at_ x hx)

set_option maxRecDepth 20000 in
set_option maxHeartbeats 8000000 in
theorem wset_ok {M : Nat → Prop} {B w : World} {p : Nat} {q : Nat → Nat} {v o : Value} {t : Tn} (H : Tw M B w p q v o t) {a b : Nat} {n : Int} (ha : a < 6) (hb : b < 6) (hne : a ≠ b) (h0 : 0 ≤ n) (h15 : n ≤ 15) :
    Calls Tryz.prog 49 #[pv p, iv a, iv b, iv n] w fun e w' => e = .returned (iv 0) ∧ Tw M B w' p q v o { t with cst := cstUp (cstUp t.cst a b n) b a n } ∧ Wr p w w' := by
  have hp := H.blk.lt
  have fz := H.blk.free
  have c0 := H.cst ha hb
  have c1 := H.cst hb ha
  have hai : (a : Int) < 6 := by omega
  have hbi : (b : Int) < 6 := by omega
  have B1 : Hid (decide (0 ≤ (a : Int) ∧ (a : Int) < 6) = true) := decide_eq_true ⟨by omega, hai⟩
  have B2 : Hid (decide (0 ≤ (b : Int) ∧ (b : Int) < 6) = true) := decide_eq_true ⟨by omega, hbi⟩
  have g1 : ((a : Int) == (b : Int)) = false := by simp; omega
  have g2 : decide (n < 0) = false := decide_eq_false (by omega)
  have g3 : decide (15 < n) = false := decide_eq_false (by omega)
  have SM := hide ((H.setCst ha hb n).setCst hb ha n)
  have SW := hide (((Wr.refl p w).set (a * 6 + b) (iv n)).set (b * 6 + a) (iv n))
  have hoff : a * 6 + b ≠ b * 6 + a := by omega
  clear H
  go_enter Tryz.func49, Tryz.ntmps49
  go_wp2_with (first | (go_at_call 9; with_reducible refine (isNode_is B1.out _).mono ?_; rintro e w1 ⟨rfl, hw1⟩; have hw2 := hw1.symm; clear hw1; subst hw2) | (go_at_call 9; with_reducible refine (isNode_is B2.out _).mono ?_; rintro e w1 ⟨rfl, hw1⟩; have hw2 := hw1.symm; clear hw1; subst hw2))
  go_ret
  exact ⟨rfl, SM.out, SW.out⟩
set_option maxRecDepth 20000 in
set_option maxHeartbeats 8000000 in
theorem wset_bad {w : World} {p : Nat} {a b n : Int} (h : ¬ (isN a ∧ isN b ∧ a ≠ b ∧ 0 ≤ n ∧ n ≤ 15)) : Calls Tryz.prog 49 #[pv p, iv a, iv b, iv n] w fun e w' => e = .returned (iv 1) ∧ w' = w := by
  obtain ⟨b1, B1⟩ : ∃ b1, Hid (decide (0 ≤ a ∧ a < 6) = b1) := ⟨_, rfl⟩
  obtain ⟨b2, B2⟩ : ∃ b2, Hid (decide (0 ≤ b ∧ b < 6) = b2) := ⟨_, rfl⟩
  have HB : Hid (b1 = false ∨ b2 = false ∨ (a == b) = true ∨ decide (n < 0) = true ∨ decide (15 < n) = true) := by
    unfold Hid
    rw [← B1.out, ← B2.out]
    simp only [decide_eq_true_eq, decide_eq_false_iff_not, beq_iff_eq]
    omega
  clear h
  cases b1
  · go_enter Tryz.func49, Tryz.ntmps49
    go_wp2_with (go_at_call 9; with_reducible refine (isNode_is B1.out _).mono ?_; rintro e w1 ⟨rfl, hw1⟩; have hw2 := hw1.symm; clear hw1; subst hw2)
    go_ret
    exact ⟨rfl, rfl⟩
  · cases b2
    · go_enter Tryz.func49, Tryz.ntmps49
      go_wp2_with (first | (go_at_call 9; with_reducible refine (isNode_is B1.out _).mono ?_; rintro e w1 ⟨rfl, hw1⟩; have hw2 := hw1.symm; clear hw1; subst hw2) | (go_at_call 9; with_reducible refine (isNode_is B2.out _).mono ?_; rintro e w1 ⟨rfl, hw1⟩; have hw2 := hw1.symm; clear hw1; subst hw2))
      go_ret
      exact ⟨rfl, rfl⟩
    · cases g1 : (a == b)
      · cases g2 : decide (n < 0)
        · have g3 : decide (15 < n) = true := by have := HB.out; simpa [g1, g2] using this
          clear HB
          go_enter Tryz.func49, Tryz.ntmps49
          go_wp2_with (first | (go_at_call 9; with_reducible refine (isNode_is B1.out _).mono ?_; rintro e w1 ⟨rfl, hw1⟩; have hw2 := hw1.symm; clear hw1; subst hw2) | (go_at_call 9; with_reducible refine (isNode_is B2.out _).mono ?_; rintro e w1 ⟨rfl, hw1⟩; have hw2 := hw1.symm; clear hw1; subst hw2))
          go_ret
          exact ⟨rfl, rfl⟩
        · clear HB
          go_enter Tryz.func49, Tryz.ntmps49
          go_wp2_with (first | (go_at_call 9; with_reducible refine (isNode_is B1.out _).mono ?_; rintro e w1 ⟨rfl, hw1⟩; have hw2 := hw1.symm; clear hw1; subst hw2) | (go_at_call 9; with_reducible refine (isNode_is B2.out _).mono ?_; rintro e w1 ⟨rfl, hw1⟩; have hw2 := hw1.symm; clear hw1; subst hw2))
          go_ret
          exact ⟨rfl, rfl⟩
      · clear HB
        go_enter Tryz.func49, Tryz.ntmps49
        go_wp2_with (first | (go_at_call 9; with_reducible refine (isNode_is B1.out _).mono ?_; rintro e w1 ⟨rfl, hw1⟩; have hw2 := hw1.symm; clear hw1; subst hw2) | (go_at_call 9; with_reducible refine (isNode_is B2.out _).mono ?_; rintro e w1 ⟨rfl, hw1⟩; have hw2 := hw1.symm; clear hw1; subst hw2))
        go_ret
        exact ⟨rfl, rfl⟩

end Go.Proofs.YtfcknkanbcndjagGreatDoor

/- THE REFERENCE'S Town: Do, the kinds tell, link and none. -/
namespace Go.Proofs.YtfcknkanbcndjagGreatDoor
open Go.RowKit
attribute [local go_sem] Ext.all Ext.cell Ext.frozen Ext.lt Ext.lt1 Ext.lt2 Ext.ne Ext.ne'
set_option maxRecDepth 20000 in
set_option maxHeartbeats 8000000 in
theorem wdo_tell {M : Nat → Prop} {B w : World} {p : Nat} {q : Nat → Nat} {v o : Value} {t : Tn} (H : Tw M B w p q v o t) (hme : ∀ a, a < 6 → (t.nd a).me = a) (hl : t.news.length ≤ 40) (a b n : Int) (x y : Value) :
    Calls Tryz.prog 28 #[pv p, .agg #[iv 3, iv a, iv b, iv n, x, y]] w fun e w' => ∃ v', e = .returned (iv (sayC t a b).2) ∧ Tw M B w' p q v' o (sayC t a b).1 := by
  have HT := hide (wtell_any (H.ext ((Gr.refl w).alloc (.cells #[iv 3, iv a, iv b, iv n, x, y] 54))) hme hl a b)
  clear H
  go_enter Tryz.func28, Tryz.ntmps28
  go_wp2_with (go_at_call 52; with_reducible refine HT.out.mono ?_; rintro e w1 ⟨v', rfl, T1'⟩; have T1 := hide T1'; clear T1')
  go_ret
  exact ⟨_, rfl, T1.out⟩
set_option maxRecDepth 20000 in
set_option maxHeartbeats 8000000 in
theorem wdo_kind {w : World} {p : Nat} {k : Int} (hk : k < 1 ∨ 7 < k) (a b n : Int) (x y : Value) :
    Calls Tryz.prog 28 #[pv p, .agg #[iv k, iv a, iv b, iv n, x, y]] w fun e w' => e = .returned (iv 8) ∧ Gr w w' := by
  have k1 : (k == 1) = false := by simp; omega
  have k2 : (k == 2) = false := by simp; omega
  have k3 : (k == 3) = false := by simp; omega
  have k4 : (k == 4) = false := by simp; omega
  have k5 : (k == 5) = false := by simp; omega
  have k6 : (k == 6) = false := by simp; omega
  have k7 : (k == 7) = false := by simp; omega
  clear hk
  go_enter Tryz.func28, Tryz.ntmps28
  go_wp2_with fail
  go_ret
  exact ⟨rfl, (Gr.refl w).alloc _⟩

end Go.Proofs.YtfcknkanbcndjagGreatDoor

/- THE REFERENCE'S Town: Do, the kind link. -/
namespace Go.Proofs.YtfcknkanbcndjagGreatDoor
open Go.RowKit
attribute [local go_sem] Ext.all Ext.cell Ext.frozen Ext.lt Ext.lt1 Ext.lt2 Ext.ne Ext.ne'
/-- The cells of a step. -/
def spF (k a b n : Int) (x y : Value) : Nat → Value := fun i => if i = 0 then iv k else if i = 1 then iv a else if i = 2 then iv b else if i = 3 then iv n else if i = 4 then x else y
theorem sp_new (w : World) (k a b n : Int) (x y : Value) : VArr (w.alloc (.cells #[iv k, iv a, iv b, iv n, x, y] 54)) 54 6 w.heap.size (spF k a b n x y) := heap_alloc_new w _
theorem sp_cells {w : World} {X : Nat} {k a b n : Int} {x y : Value} (h : VArr w 54 6 X (spF k a b n x y)) : w.cell? ⟨X, 1, none⟩ = some (iv a) ∧ w.cell? ⟨X, 2, none⟩ = some (iv b) ∧ w.cell? ⟨X, 3, none⟩ = some (iv n) :=
  ⟨h.cell (j := 1) (by omega), h.cell (j := 2) (by omega), h.cell (j := 3) (by omega)⟩

set_option maxRecDepth 20000 in
set_option maxHeartbeats 8000000 in
theorem wdo_unlink {M : Nat → Prop} {B w : World} {p : Nat} {q : Nat → Nat} {v o : Value} {t : Tn} (H : Tw M B w p q v o t) {a b n : Int} (h : ¬ (isN a ∧ isN b ∧ a ≠ b ∧ 0 ≤ n ∧ n ≤ 15)) (x y : Value) :
    Calls Tryz.prog 28 #[pv p, .agg #[iv 1, iv a, iv b, iv n, x, y]] w fun e w' => e = .returned (iv 1) ∧ Tw M B w' p q v o t := by
  have T0 := hide (H.ext ((Gr.refl w).alloc (.cells #[iv 1, iv a, iv b, iv n, x, y] 54)))
  have hp0 := H.blk.lt
  have hp : p < (w.alloc (.cells #[iv 1, iv a, iv b, iv n, x, y] 54)).heap.size := T0.out.blk.lt
  clear H
  go_enter Tryz.func28, Tryz.ntmps28
  go_upto_region 3 with (fail)
  go_region_with (go_at_call 49; with_reducible refine (wset_bad h).mono ?_; rintro e w1 ⟨rfl, hw1⟩; have hw2 := hw1.symm; clear hw1; subst hw2)
  all_goals
    go_wp2_with fail
    go_ret
    exact ⟨rfl, T0.out.ext ((Gr.refl _).drew)⟩

end Go.Proofs.YtfcknkanbcndjagGreatDoor
