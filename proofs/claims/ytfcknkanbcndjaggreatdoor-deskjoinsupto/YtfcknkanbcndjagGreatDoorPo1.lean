/- CONTRACTS OF package fib: Do. -/
import Derived.Test.YtfcknkanbcndjagGreatDoorPo0
import Derived.Test.YtfcknkanbcndjagGreatDoorD2
namespace Go.Proofs.YtfcknkanbcndjagGreatDoor
open Go.RowKit
attribute [local go_sem] Ext.all Ext.cell Ext.frozen Ext.lt Ext.lt1 Ext.lt2 Ext.ne Ext.ne'
theorem cells2 {w : World} {P : Nat} {a b : Value} {T : TypeId} (h : w.heap[P]? = some (.cells #[a, b] T (0, 0))) : w.cell? ⟨P, 0, none⟩ = some a ∧ w.cell? ⟨P, 1, none⟩ = some b := by
  refine ⟨?_, ?_⟩ <;> simp [World.cell?, h]
/-- The cells of a step that is boxed. -/
def StC (w : World) (X : Nat) (x : Sp) (l b : Int) : Prop := X < w.heap.size ∧ w.cell? ⟨X, 0, none⟩ = some (iv x.k) ∧ w.cell? ⟨X, 1, none⟩ = some (iv x.a) ∧ w.cell? ⟨X, 2, none⟩ = some (iv x.b) ∧ w.cell? ⟨X, 3, none⟩ = some (iv x.n) ∧ w.cell? ⟨X, 4, none⟩ = some (iv l) ∧ w.cell? ⟨X, 5, none⟩ = some (iv b)
theorem stC_new (w : World) (x : Sp) (l b : Int) : StC (w.alloc (.cells #[iv x.k, iv x.a, iv x.b, iv x.n, iv l, iv b] 54)) w.heap.size x l b := by
  refine ⟨by simp, ?_, ?_, ?_, ?_, ?_, ?_⟩ <;> simp [go_sem]
section
variable {M N : Nat → Prop} {B w w' : World} {P p k : Nat} {q : Nat → Nat} {v v' : Value} {tb : Nat} {u u' : Value} {c c' : Nat → Nat → Nat} {t t' : Tn} {n n' : Nat} {rs rs' : List Rt}
/-- The table's Set, in a Post. -/
theorem Po.set (H : Po M B w P p k q v tb u c t n rs) (l b h : Int) (ho : Ows (setL rs l b h).1) : Calls Tryz.prog 66 #[pv tb, pfx l b, iv h] w fun e w' => ∃ u', e = .returned (iv (setL rs l b h).2) ∧ Po M B w' P p k q v tb u' c t n (setL rs l b h).1 ∧ Chg w w' (ownP P p k q v tb u) (ownP P p k q v tb u') :=
  (set_is H.tab.all H.ows.tab rfl).mono fun _ _ ⟨he, u', hS, hK⟩ => ⟨u', he, (H.tabStep hS hK ho).1, (H.tabStep hS hK ho).2⟩
theorem Po.netDo (H : Po M B w P p k q v tb u c t n rs) (hn : n ≤ 100000) (x : Sp) (X Y : Value) : Calls Tryz.prog 38 #[pv p, .agg #[iv x.k, iv x.a, iv x.b, iv x.n, X, Y]] w fun e w' => ∃ v', e = .returned (iv (doT t x).2) ∧ Po M B w' P p k q v' tb u (nextC c x) (doT t x).1 (n + 1) rs ∧ Chg w w' (ownP P p k q v tb u) (ownP P p k q v' tb u) :=
  (H.net.do' hn x X Y).mono fun _ _ ⟨v', he, hN, f⟩ => ⟨v', he, (H.netStep hN f).1, (H.netStep hN f).2⟩
theorem Po.more (H : Po M B w P p k q v tb u c t n rs) {m : Nat} (h : n ≤ m) : Po M B w P p k q v tb u c t m rs := ⟨H.blk, H.net.more h, H.tab, H.ows, H.nop, H.a1, H.a2, H.a3⟩
/-- What Do of a Post leaves. -/
def DoO (M : Nat → Prop) (B w w' : World) (P p k : Nat) (q : Nat → Nat) (v : Value) (tb : Nat) (u : Value) (c : Nat → Nat → Nat) (t : Tn) (n : Nat) (rs : List Rt) : Prop :=
  ∃ v' u', Po M B w' P p k q v' tb u' c t n rs ∧ Chg w w' (ownP P p k q v tb u) (ownP P p k q v' tb u')
set_option maxRecDepth 20000 in
set_option maxHeartbeats 8000000 in
/-- The step that gives a prefix, or takes it. -/
theorem fibOwn_po (H : Po M B w P p k q v tb u c t n rs) (x : Sp) (l b : Int) :
    Calls Tryz.prog 37 #[pv P, .agg #[iv x.k, iv x.a, iv x.b, iv x.n, iv l, iv b]] w fun e w' => e = .returned (iv (ownC rs x.a x.n l b).2) ∧ DoO M B w w' P p k q v tb u c t n (ownC rs x.a x.n l b).1 := by
  have g0 : Gr w (w.alloc (.cells #[iv x.k, iv x.a, iv x.b, iv x.n, iv l, iv b] 54)) := (Gr.refl w).alloc _
  have P0 := hide (H.gr g0)
  have S0 := hide (stC_new w x l b)
  have HO := hide H.ows
  clear H
  by_cases ha : isN x.a
  · have B1 : Hid (decide (0 ≤ x.a ∧ x.a < 6) = true) := decide_eq_true ha
    by_cases hz : x.n = 0
    all_goals
      first
        | (have en : (x.n == 0) = true := by simpa using hz
           obtain ⟨ss, code, hs⟩ : ∃ ss code, setL rs l b (-2) = (ss, code) := ⟨_, _, rfl⟩
           have ho : ownC rs x.a x.n l b = (ss, code) := by unfold ownC; rw [if_pos ha, if_pos hz, hs])
        | (have en : (x.n == 0) = false := by simpa using hz
           obtain ⟨ss, code, hs⟩ : ∃ ss code, setL rs l b x.a = (ss, code) := ⟨_, _, rfl⟩
           have ho : ownC rs x.a x.n l b = (ss, code) := by unfold ownC; rw [if_pos ha, if_neg hz, hs])
      have HOS : Hid (Ows ss) := by have := HO.out.own x.a x.n l b; rw [ho] at this; exact this
      rw [ho]
      have HS := hide hs
      clear ho hs hz ha
      obtain ⟨kd, xa, xb, xn⟩ := x
      simp only at en S0 B1 HS P0 g0
      go_enter Tryz.func37, Tryz.ntmps37
      first
        | go_upto_region 4 with (go_at_call 33; with_reducible refine (lnode_is B1.out _).mono ?_; rintro e w1 ⟨rfl, hw1⟩; have hw2 := hw1.symm; clear hw1; subst hw2)
        | go_upto_region 5 with (go_at_call 33; with_reducible refine (lnode_is B1.out _).mono ?_; rintro e w1 ⟨rfl, hw1⟩; have hw2 := hw1.symm; clear hw1; subst hw2)
      refine wp_gen (fun V => Hid (Po M B V P p k q v tb u c t n rs) ∧ Hid (StC V w.heap.size ⟨kd, xa, xb, xn⟩ l b) ∧ Hid (Gr w V)) ⟨P0.out, S0.out, g0⟩ ?_
      clear P0 S0 g0
      generalize hX0 : w.heap.size = X at *
      clear hX0
      rintro V ⟨P1, S1, gV⟩
      obtain ⟨hX, _, c1, _, _, c4, c5⟩ := S1.out
      obtain ⟨d0, d1⟩ := cells2 P1.out.blk
      have hP := lt_of_block P1.out.blk
      have HC := hide ((P1.out.gr ((Gr.refl V).drew)).set l b _ (by rw [HS.out]; exact HOS.out))
      rw [HS.out] at HC
      simp only at c1
      go_region_with (go_at_call 66; refine HC.out.mono ?_; rintro e w2 ⟨u2, rfl, p2', k2'⟩; have P2 := hide p2'; have K2 := hide k2'; clear p2' k2')
      all_goals
        go_wp2_with fail
        go_ret
        exact ⟨rfl, _, _, P2.out, (((gV.out.trans ((Gr.refl V).drew)).chg _).trans K2.out)⟩
  · have B1 : Hid (decide (0 ≤ x.a ∧ x.a < 6) = false) := decide_eq_false ha
    have ho : ownC rs x.a x.n l b = (rs, 1) := by unfold ownC; rw [if_neg ha]
    rw [ho]
    clear ha ho
    obtain ⟨kd, xa, xb, xn⟩ := x
    simp only at S0 B1 P0 g0
    go_enter Tryz.func37, Tryz.ntmps37
    go_wp2_with (go_at_call 33; with_reducible refine (lnode_is B1.out _).mono ?_; rintro e w1 ⟨rfl, hw1⟩; have hw2 := hw1.symm; clear hw1; subst hw2)
    go_ret
    exact ⟨rfl, _, _, P0.out, g0.chg _⟩
set_option maxRecDepth 20000 in
set_option maxHeartbeats 8000000 in
theorem fibDo_po (H : Po M B w P p k q v tb u c t n rs) (hn : n ≤ 100000) (x : Sp) (l b : Int) :
    Calls Tryz.prog 16 #[pv P, .agg #[iv x.k, iv x.a, iv x.b, iv x.n, iv l, iv b]] w fun e w' => e = .returned (iv (fdoC t rs x l b).2) ∧ DoO M B w w' P p k q v tb u (nextC c x) (fdoC t rs x l b).1.1 (n + 1) (fdoC t rs x l b).1.2 := by
  have g0 : Gr w (w.alloc (.cells #[iv x.k, iv x.a, iv x.b, iv x.n, iv l, iv b] 54)) := (Gr.refl w).alloc _
  have P0 := hide (H.gr g0)
  have S0 := hide (stC_new w x l b)
  have HQ : Hid (∀ V, Gr w V → Po M B V P p k q v tb u c t n rs) := fun V g => H.gr g
  have HO := hide H.ows
  clear H
  by_cases h7 : x.k = 7
  · have hC : nextC c x = c := by unfold nextC; rw [if_neg (by omega)]
    have HD : (fdoC t rs x l b).2 = (ownC rs x.a x.n l b).2 ∧ (fdoC t rs x l b).1.1 = t ∧ (fdoC t rs x l b).1.2 = (ownC rs x.a x.n l b).1 := by
      unfold fdoC
      rw [if_pos h7]
      exact ⟨rfl, rfl, rfl⟩
    rw [hC, HD.1, HD.2.1, HD.2.2]
    clear hC HD HO
    have HC : Hid (∀ V, Gr w V → Calls Tryz.prog 37 #[pv P, .agg #[iv x.k, iv x.a, iv x.b, iv x.n, iv l, iv b]] V fun e w' => e = .returned (iv (ownC rs x.a x.n l b).2) ∧ DoO M B V w' P p k q v tb u c t n (ownC rs x.a x.n l b).1) := fun V g => fibOwn_po (HQ.out V g) x l b
    generalize (ownC rs x.a x.n l b).2 = code at *
    generalize (ownC rs x.a x.n l b).1 = ss at *
    obtain ⟨kd, xa, xb, xn⟩ := x
    simp only at h7 S0 P0 g0 HC
    subst h7
    go_enter Tryz.func16, Tryz.ntmps16
    go_wp2_with (go_at_call 37; refine (HC.out _ g0).mono ?_; rintro e w2 ⟨rfl, d2'⟩; have D2 := hide d2'; clear d2')
    go_ret
    obtain ⟨v2, u2, p2, k2⟩ := D2.out
    exact ⟨rfl, v2, u2, p2.more (by omega), (g0.chg _).trans k2⟩
  · have e7 : (x.k == 7) = false := by simpa using h7
    have e8 : fdoC t rs x l b = (((doT t x).1, rs), (doT t x).2) := by unfold fdoC; rw [if_neg h7]
    rw [e8]
    clear e8 HO
    have HD := hide (fun (V : World) (g : Gr w V) => (HQ.out V g).netDo hn x (iv l) (iv b))
    generalize (doT t x).1 = t' at *
    generalize (doT t x).2 = code at *
    generalize nextC c x = c' at *
    obtain ⟨kd, xa, xb, xn⟩ := x
    simp only at h7 e7 S0 P0 g0 HD
    go_enter Tryz.func16, Tryz.ntmps16
    go_upto_region 5 with (fail)
    refine wp_gen (fun V => Hid (Po M B V P p k q v tb u c t n rs) ∧ Hid (StC V w.heap.size ⟨kd, xa, xb, xn⟩ l b) ∧ Hid (Gr w V)) ⟨P0.out, S0.out, g0⟩ ?_
    clear P0 S0 g0
    generalize hX0 : w.heap.size = X at *
    clear hX0
    rintro V ⟨P1, S1, gV⟩
    obtain ⟨hX, c0, c1, c2, c3, c4, c5⟩ := S1.out
    obtain ⟨d0, d1⟩ := cells2 P1.out.blk
    have hP := lt_of_block P1.out.blk
    have HC := hide (HD.out V.drew gV.out.drew)
    simp only at c0 c1 c2 c3
    go_region_with (go_at_call 38; refine HC.out.mono ?_; rintro e w2 ⟨u2, rfl, p2', k2'⟩; have P2 := hide p2'; have K2 := hide k2'; clear p2' k2')
    all_goals
      go_wp2_with fail
      go_ret
      exact ⟨rfl, _, _, P2.out, (((gV.out.trans ((Gr.refl V).drew)).chg _).trans K2.out)⟩
end

end Go.Proofs.YtfcknkanbcndjagGreatDoor
