import Derived.Test.YthiojjkgodffnaeTw6
import Derived.Test.YthiojjkgodffnaeTw8
import Derived.Test.YthiojjkgodffnaeTw11
import Derived.Test.YthiojjkgodffnaeNe12
/- THE REFERENCE'S Town: Do, the kinds tell, link and none. -/
namespace Go.Proofs.Ythiojjkgodffnae
open Go.RowKit
attribute [local go_sem] Ext.all Ext.cell Ext.frozen Ext.lt Ext.lt1 Ext.lt2 Ext.ne Ext.ne'

set_option maxRecDepth 20000 in
set_option maxHeartbeats 8000000 in
theorem wdo_tell {M : Nat → Prop} {B w : World} {p : Nat} {q : Nat → Nat} {v o : Value} {t : Tn} (H : Tw M B w p q v o t) (hme : ∀ a, a < 6 → (t.nd a).me = a) (hl : t.news.length ≤ 40) (a b n : Int) (x y : Value) :
    Calls Try.prog 13 #[pv p, .agg #[iv 3, iv a, iv b, iv n, x, y]] w fun e w' => ∃ v', e = .returned (iv (sayC t a b).2) ∧ Tw M B w' p q v' o (sayC t a b).1 := by
  have HT := hide (wtell_any (H.ext ((Gr.refl w).alloc (.cells #[iv 3, iv a, iv b, iv n, x, y] 31))) hme hl a b)
  clear H
  go_enter Try.func13, Try.ntmps13
  go_wp2_with (go_at_call 42; with_reducible refine HT.out.mono ?_; rintro e w1 ⟨v', rfl, T1'⟩; have T1 := hide T1'; clear T1')
  go_ret
  exact ⟨_, rfl, T1.out⟩
set_option maxRecDepth 20000 in
set_option maxHeartbeats 8000000 in
theorem wdo_kind {w : World} {p : Nat} {k : Int} (hk : k < 1 ∨ 7 < k) (a b n : Int) (x y : Value) :
    Calls Try.prog 13 #[pv p, .agg #[iv k, iv a, iv b, iv n, x, y]] w fun e w' => e = .returned (iv 8) ∧ Gr w w' := by
  have k1 : (k == 1) = false := by simp; omega
  have k2 : (k == 2) = false := by simp; omega
  have k3 : (k == 3) = false := by simp; omega
  have k4 : (k == 4) = false := by simp; omega
  have k5 : (k == 5) = false := by simp; omega
  have k6 : (k == 6) = false := by simp; omega
  have k7 : (k == 7) = false := by simp; omega
  clear hk
  go_enter Try.func13, Try.ntmps13
  go_wp2_with fail
  go_ret
  exact ⟨rfl, (Gr.refl w).alloc _⟩

end Go.Proofs.Ythiojjkgodffnae

/- THE REFERENCE'S Town: Do, the kind link. -/
namespace Go.Proofs.Ythiojjkgodffnae
open Go.RowKit
attribute [local go_sem] Ext.all Ext.cell Ext.frozen Ext.lt Ext.lt1 Ext.lt2 Ext.ne Ext.ne'

/-- The cells of a step. -/
def spF (k a b n : Int) (x y : Value) : Nat → Value := fun i => if i = 0 then iv k else if i = 1 then iv a else if i = 2 then iv b else if i = 3 then iv n else if i = 4 then x else y
theorem sp_new (w : World) (k a b n : Int) (x y : Value) : VArr (w.alloc (.cells #[iv k, iv a, iv b, iv n, x, y] 31)) 31 6 w.heap.size (spF k a b n x y) := heap_alloc_new w _
theorem sp_cells {w : World} {X : Nat} {k a b n : Int} {x y : Value} (h : VArr w 31 6 X (spF k a b n x y)) : w.cell? ⟨X, 1, none⟩ = some (iv a) ∧ w.cell? ⟨X, 2, none⟩ = some (iv b) ∧ w.cell? ⟨X, 3, none⟩ = some (iv n) :=
  ⟨h.cell (j := 1) (by omega), h.cell (j := 2) (by omega), h.cell (j := 3) (by omega)⟩

set_option maxRecDepth 20000 in
set_option maxHeartbeats 8000000 in
theorem wdo_unlink {M : Nat → Prop} {B w : World} {p : Nat} {q : Nat → Nat} {v o : Value} {t : Tn} (H : Tw M B w p q v o t) {a b n : Int} (h : ¬ (isN a ∧ isN b ∧ a ≠ b ∧ 0 ≤ n ∧ n ≤ 15)) (x y : Value) :
    Calls Try.prog 13 #[pv p, .agg #[iv 1, iv a, iv b, iv n, x, y]] w fun e w' => e = .returned (iv 1) ∧ Tw M B w' p q v o t := by
  have T0 := hide (H.ext ((Gr.refl w).alloc (.cells #[iv 1, iv a, iv b, iv n, x, y] 31)))
  have hp0 := H.blk.lt
  have hp : p < (w.alloc (.cells #[iv 1, iv a, iv b, iv n, x, y] 31)).heap.size := T0.out.blk.lt
  clear H
  go_enter Try.func13, Try.ntmps13
  go_upto_region 3 with (fail)
  go_region_with (go_at_call 39; with_reducible refine (wset_bad h).mono ?_; rintro e w1 ⟨rfl, hw1⟩; have hw2 := hw1.symm; clear hw1; subst hw2)
  all_goals
    go_wp2_with fail
    go_ret
    exact ⟨rfl, T0.out.ext ((Gr.refl _).drew)⟩

end Go.Proofs.Ythiojjkgodffnae

/- THE REFERENCE'S Town: Do, a link that may be. -/
namespace Go.Proofs.Ythiojjkgodffnae
open Go.RowKit
attribute [local go_sem] Ext.all Ext.cell Ext.frozen Ext.lt Ext.lt1 Ext.lt2 Ext.ne Ext.ne'

set_option maxRecDepth 20000 in
set_option maxHeartbeats 8000000 in
theorem wdo_link {M : Nat → Prop} {B w : World} {p : Nat} {q : Nat → Nat} {v o : Value} {t : Tn} {c : Nat → Nat → Nat} (H : Tw M B w p q v o t) (A : TnA t c) {a b : Nat} {n : Int} (ha : a < 6) (hb : b < 6) (hne : a ≠ b) (h0 : 0 ≤ n) (h15 : n ≤ 15) (x y : Value) :
    Calls Try.prog 13 #[pv p, .agg #[iv 1, iv (a : Int), iv (b : Int), iv n, x, y]] w fun e w' => e = .returned (iv 0) ∧ Tw M B w' p q v o (linkT t a b n) := by
  have T0 := hide (H.ext ((Gr.refl w).alloc (.cells #[iv 1, iv (a : Int), iv (b : Int), iv n, x, y] 31)))
  have S0 := hide (sp_new w 1 (a : Int) (b : Int) n x y)
  have hpX := H.blk.lt
  have hqX : Hid (∀ k, k < 6 → q k < w.heap.size) := fun k hk => (H.six.at_ k hk).lt
  have ea : lnkM (t.nd a) (b : Int) n = linkM (t.nd a) b n := if_pos ⟨⟨⟨by omega, by omega⟩, by rw [A.s.tc.me a ha]; omega⟩, h0, h15⟩
  have eb : lnkM (t.nd b) (a : Int) n = linkM (t.nd b) a n := if_pos ⟨⟨⟨by omega, by omega⟩, by rw [A.s.tc.me b hb]; omega⟩, h0, h15⟩
  have za := A.s.z a ha
  have zb := A.s.z b hb
  have hai : (a : Int) < 6 := by omega
  have hbi : (b : Int) < 6 := by omega
  clear H A
  go_enter Try.func13, Try.ntmps13
  go_upto_region 3 with (fail)
  refine wp_gen (fun V => Hid (Tw M B V p q v o t) ∧ Hid (VArr V 31 6 w.heap.size (spF 1 (a : Int) (b : Int) n x y))) ⟨T0.out, S0.out⟩ ?_
  clear T0 S0
  generalize w.heap.size = X at *
  rintro V ⟨T0, S0⟩
  obtain ⟨s1, s2, s3⟩ := sp_cells S0.out
  have hp := T0.out.blk.lt
  have hX := S0.out.lt
  have HS := hide (wset_ok (T0.out.ext (Gr.refl V).drew) ha hb hne h0 h15)
  have S1 := hide (S0.out.gr (Gr.refl V).drew)
  go_region_held3 (fun W => W.cell? ⟨X, 1, none⟩ = some (iv (a : Int)) ∧ W.cell? ⟨X, 2, none⟩ = some (iv (b : Int)) ∧ W.cell? ⟨X, 3, none⟩ = some (iv n)) (first | exact ⟨s1, s2, s3⟩ | exact sp_cells S2.out | go_keep) (first | (go_at_call 39; with_reducible refine HS.out.mono ?_; rintro e V1 ⟨rfl, T1', W1'⟩; have T1 := hide T1'; have S2 := hide (W1'.varr S1.out (by omega)); clear T1' W1'))
  all_goals
    clear HS S1 s1 s2 s3 hp hX S0 T0
    go_upto_region 6 with (fail)
    refine wp_gen (fun V => Hid (Tw M B V p q v o { t with cst := cstUp (cstUp t.cst a b n) b a n }) ∧ Hid (VArr V 31 6 X (spF 1 (a : Int) (b : Int) n x y))) ⟨T1.out, S2.out⟩ ?_
    clear T1 S2
    rintro V ⟨T1, S1⟩
    obtain ⟨s1, s2, s3⟩ := sp_cells S1.out
    have hp := T1.out.blk.lt
    have hX := S1.out.lt
    have c1 := T1.out.node ha
    have hXq : X ≠ q a := by have := hqX.out a ha; omega
    have HL : Hid (Calls Try.prog 40 #[pv (q a), iv (b : Int), iv n] V.drew fun e w' => ∃ r, e = .returned r ∧ Tw M B w' p q v o { t with cst := cstUp (cstUp t.cst a b n) b a n, nd := updW t.nd a (linkM (t.nd a) b n) } ∧ VArr w' 31 6 X (spF 1 (a : Int) (b : Int) n x y)) :=
      (mlinkN ((T1.out.ext (Gr.refl V).drew).six.at_ a ha) za (b : Int) n).mono fun e w' ⟨he, hm, hw⟩ => ⟨_, he, by
        rw [ea] at hm
        exact (T1.out.ext (Gr.refl V).drew).put ha hw hm, hw.varr (S1.out.gr (Gr.refl V).drew) hXq⟩
    go_region_held3 (fun W => W.cell? ⟨p, 36 + a, none⟩ = some (pv (q a)) ∧ W.cell? ⟨X, 1, none⟩ = some (iv (a : Int)) ∧ W.cell? ⟨X, 2, none⟩ = some (iv (b : Int)) ∧ W.cell? ⟨X, 3, none⟩ = some (iv n)) (first | exact ⟨c1, s1, s2, s3⟩ | exact ⟨T2.out.node ha, sp_cells S2.out⟩ | go_keep) (first | (go_at_call 40; with_reducible refine HL.out.mono ?_; rintro e V2 ⟨r2, rfl, T2', S2'⟩; have T2 := hide T2'; have S2 := hide S2'; clear T2' S2'))
    all_goals
      clear HL hXq s1 s2 s3 hp hX S1 T1 c1
      obtain ⟨s1, s2, s3⟩ := sp_cells S2.out
      have hp := T2.out.blk.lt
      have hX := S2.out.lt
      have c2 := T2.out.node hb
      have M0 : MAt V2.drew (q b) (t.nd b) := by
        have := (T2.out.ext (Gr.refl V2).drew).six.at_ b hb
        dsimp only at this
        rw [updW_ne _ _ (fun e => hne e.symm)] at this
        exact this
      have hXq : X ≠ q b := by have := hqX.out b hb; omega
      have HL : Hid (Calls Try.prog 40 #[pv (q b), iv (a : Int), iv n] V2.drew fun e w' => ∃ r, e = .returned r ∧ Tw M B w' p q v o (linkT t a b n) ∧ VArr w' 31 6 X (spF 1 (a : Int) (b : Int) n x y)) :=
        (mlinkN M0 zb (a : Int) n).mono fun e w' ⟨he, hm, hw⟩ => ⟨_, he, by
          rw [eb] at hm
          exact (T2.out.ext (Gr.refl V2).drew).put hb hw hm, hw.varr (S2.out.gr (Gr.refl V2).drew) hXq⟩
      clear M0
      go_upto_region 7 with (fail)
      go_region_held3 (fun W => W.cell? ⟨p, 36 + b, none⟩ = some (pv (q b)) ∧ W.cell? ⟨X, 1, none⟩ = some (iv (a : Int)) ∧ W.cell? ⟨X, 2, none⟩ = some (iv (b : Int)) ∧ W.cell? ⟨X, 3, none⟩ = some (iv n)) (first | exact ⟨c2, s1, s2, s3⟩ | exact ⟨T4.out.node hb, sp_cells S4.out⟩ | go_keep) (first | (go_at_call 40; with_reducible refine HL.out.mono ?_; rintro e V4 ⟨r4, rfl, T4', S4'⟩; have T4 := hide T4'; have S4 := hide S4'; clear T4' S4'))
      all_goals
        clear HL hXq s1 s2 s3 hp hX S2 T2 c2
        go_wp2_with fail
        go_ret
        exact ⟨rfl, T4.out⟩

end Go.Proofs.Ythiojjkgodffnae

/- THE REFERENCE'S Town: Do, the kind tick. -/
namespace Go.Proofs.Ythiojjkgodffnae
open Go.RowKit
attribute [local go_sem] Ext.all Ext.cell Ext.frozen Ext.lt Ext.lt1 Ext.lt2 Ext.ne Ext.ne'

theorem sayAll_stop {t : Tn} {a b : Nat} (h : (sayAll t a b).2 ≠ 0) : ∀ k, sayAll t a (b + k) = sayAll t a b
  | 0 => rfl
  | k + 1 => by
    have ih := sayAll_stop h k
    show (if (sayAll t a (b + k)).2 ≠ 0 then sayAll t a (b + k) else _) = _
    rw [ih, if_pos h]

set_option maxRecDepth 20000 in
set_option maxHeartbeats 8000000 in
theorem wdo_tick_no {M : Nat → Prop} {B w : World} {p : Nat} {q : Nat → Nat} {v o : Value} {t : Tn} (H : Tw M B w p q v o t) {a b n : Int} (h : ¬ isN a) (x y : Value) :
    Calls Try.prog 13 #[pv p, .agg #[iv 2, iv a, iv b, iv n, x, y]] w fun e w' => e = .returned (iv 1) ∧ Tw M B w' p q v o t := by
  have T0 := hide (H.ext ((Gr.refl w).alloc (.cells #[iv 2, iv a, iv b, iv n, x, y] 31)))
  have B1 : Hid (decide (0 ≤ a ∧ a < 6) = false) := decide_eq_false h
  clear H
  go_enter Try.func13, Try.ntmps13
  go_wp2_with (go_at_call 29; with_reducible refine (isNode_is B1.out _).mono ?_; rintro e w1 ⟨rfl, hw1⟩; have hw2 := hw1.symm; clear hw1; subst hw2)
  go_ret
  exact ⟨rfl, T0.out⟩

set_option maxRecDepth 20000 in
set_option maxHeartbeats 8000000 in
theorem wdo_tick {M : Nat → Prop} {B w : World} {p : Nat} {q : Nat → Nat} {v o : Value} {t : Tn} {c : Nat → Nat → Nat} (H : Tw M B w p q v o t) (A : TnA t c) {a : Nat} (ha : a < 6) (hA : agT t a < 4611686018427387904) (hl : t.news.length ≤ 40) (b n : Int) (x y : Value) :
    Calls Try.prog 13 #[pv p, .agg #[iv 2, iv (a : Int), iv b, iv n, x, y]] w fun e w' => ∃ v', e = .returned (iv (sayAll (tickT t a) a 6).2) ∧ Tw M B w' p q v' o (sayAll (tickT t a) a 6).1 := by
  have T0 := hide (H.ext ((Gr.refl w).alloc (.cells #[iv 2, iv (a : Int), iv b, iv n, x, y] 31)))
  have S0 := hide (sp_new w 2 (a : Int) b n x y)
  have hpX := H.blk.lt
  have hXq : w.heap.size ≠ q a := by have := (H.six.at_ a ha).lt; omega
  have RX : Hid (∀ W : World, w.heap.size < W.heap.size → restT W p q v w.heap.size) := fun W hW => ⟨hW, (H.notOwn ((Gr.refl w).alloc (.cells #[] 31)) (Nat.le_refl _) (by simp)).2⟩
  have za := A.s.z a ha
  have hag : age (t.nd a) < 4611686018427387904 := by
    have e1 : age (t.nd a) = agT t a := by unfold age agT; rw [A.s.tc.me a ha]
    rw [e1]; exact hA
  have hai : (a : Int) < 6 := by omega
  have B1 : Hid (decide (0 ≤ (a : Int) ∧ (a : Int) < 6) = true) := decide_eq_true ⟨by omega, hai⟩
  have AS : Hid (∀ k, TnA (sayAll (tickT t a) a k).1 c) := fun k => (sayAll_nx (A.tick ha).1 a k).a
  have ET : Hid (∀ w1 w2 : World, Tw M B w1 p q v o t → MAt w2 (q a) (tickM (t.nd a)) → Wr (q a) w1 w2 → Tw M B w2 p q v o (tickT t a)) := fun w1 w2 h1 hm hw => h1.put ha hw hm
  have AL : Hid (∀ k, (sayAll (tickT t a) a k).1.news.length ≤ 40) := fun k => sayAll_len (show (tickT t a).news.length ≤ 40 from hl) a k
  clear H A hA hl
  go_enter Try.func13, Try.ntmps13
  go_upto_region 12 with (go_at_call 29; with_reducible refine (isNode_is B1.out _).mono ?_; rintro e w1 ⟨rfl, hw1⟩; have hw2 := hw1.symm; clear hw1; subst hw2)
  refine wp_gen (fun V => Hid (Tw M B V p q v o t) ∧ Hid (VArr V 31 6 w.heap.size (spF 2 (a : Int) b n x y))) ⟨T0.out, S0.out⟩ ?_
  clear T0 S0
  generalize w.heap.size = X at *
  rintro V ⟨T0, S0⟩
  obtain ⟨s1, s2, s3⟩ := sp_cells S0.out
  have hp := T0.out.blk.lt
  have hX := S0.out.lt
  have c1 := T0.out.node ha
  have HL : Hid (Calls Try.prog 41 #[pv (q a)] V.drew fun e w' => e = .returned (.tuple #[]) ∧ Tw M B w' p q v o (tickT t a) ∧ VArr w' 31 6 X (spF 2 (a : Int) b n x y)) :=
    (mtickN ((T0.out.ext (Gr.refl V).drew).six.at_ a ha) za hag).mono fun e w' ⟨he, hm, hw⟩ => ⟨he, ET.out _ _ (T0.out.ext (Gr.refl V).drew) hm hw, hw.varr (S0.out.gr (Gr.refl V).drew) hXq⟩
  go_region_held3 (fun W => W.cell? ⟨p, 36 + a, none⟩ = some (pv (q a)) ∧ W.cell? ⟨X, 1, none⟩ = some (iv (a : Int))) (first | exact ⟨c1, s1⟩ | exact ⟨T1.out.node ha, (sp_cells S1.out).1⟩ | go_keep) (first | (go_at_call 41; with_reducible refine HL.out.mono ?_; rintro e V1 ⟨rfl, T1', S1'⟩; have T1 := hide T1'; have S1 := hide S1'; clear T1' S1'))
  all_goals
    clear HL ET hXq s1 s2 s3 c1 hp hX S0 T0 za hag
    generalize htt : tickT t a = t1 at AS AL T1
    have HTT := hide htt
    clear htt
    go_wp2_with fail
    go_loopw [6] (fun v6 wr => ∃ (k : Nat) (v1 : Value), k ≤ 6 ∧ v6 = .int .i64 (k : Int) ∧ Hid ((sayAll t1 a k).2 = 0) ∧ Hid (Tw M B wr p q v1 o (sayAll t1 a k).1) ∧ Hid (VArr wr 31 6 X (spF 2 (a : Int) b n x y)) ∧ Hid (∀ W : World, X < W.heap.size → restT W p q v1 X)) (fun v6 _ => (6 - intOf v6).toNat)
    case atStart => exact ⟨0, v, by omega, rfl, rfl, T1, S1, RX⟩
    case round =>
      clear T1 S1 RX
      obtain ⟨k, v1, hk6, rfl, h0, T1, S1, RX⟩ := hrel
      by_cases hk : k < 6
      · have hki : decide ((k : Int) < 6) = true := decide_eq_true (by omega)
        have hk0 : (k : Int) < 6 := by omega
        have wk : IntKind.i64.wrap ((k : Int) + 1) = (k : Int) + 1 := by rw [IntKind.wrap_i64]; omega
        obtain ⟨s1, s2, s3⟩ := sp_cells S1.out
        have hp := T1.out.blk.lt
        have hX := S1.out.lt
        have c1 := T1.out.cst ha hk
        have A1 := hide (AS.out k)
        have HSS : Hid (sayAll t1 a (k + 1) = if 0 < (sayAll t1 a k).1.cst a k then sayC (sayAll t1 a k).1 (a : Int) (k : Int) else sayAll t1 a k) := by
          show (if (sayAll t1 a k).2 ≠ 0 then _ else _) = _
          rw [if_neg (fun e => e h0.out)]
        by_cases hc : 0 < (sayAll t1 a k).1.cst a k
        · have hci : decide (0 < (sayAll t1 a k).1.cst a k) = true := decide_eq_true hc
          have HS2 : Hid (sayAll t1 a (k + 1) = sayC (sayAll t1 a k).1 (a : Int) (k : Int)) := by unfold Hid; rw [HSS.out, if_pos hc]
          obtain ⟨r, hr⟩ : ∃ r, Hid ((sayAll t1 a (k + 1)).2 = r) := ⟨_, rfl⟩
          have HT : Hid (∀ V, Gr wr V → Calls Try.prog 42 #[pv p, iv (a : Int), iv (k : Int)] V fun e w' => ∃ v', e = .returned (iv r) ∧ Tw M B w' p q v' o (sayAll t1 a (k + 1)).1 ∧ VArr w' 31 6 X (spF 2 (a : Int) b n x y) ∧ ∀ W : World, X < W.heap.size → restT W p q v' X) := fun V g =>
            (wtell_fr (T1.out.ext g) (fun i hi => A1.out.s.tc.me i hi) (AL.out k) (a : Int) (k : Int)).mono fun e w' ⟨v', he, ht, hf⟩ => ⟨v', by rw [he, ← HS2.out, hr.out], by rw [HS2.out]; exact ht, hf.varr (S1.out.gr g) (RX.out V (S1.out.gr g).lt), fun W hW => ⟨hW, (hf.rst (RX.out V (S1.out.gr g).lt)).2⟩⟩
          clear HSS HS2 hc
          generalize (sayAll t1 a k).1.cst a k = cc at *
          by_cases hrr : r = 0
          · subst hrr
            go_upto_region 16 with (fail)
            go_region_held3 (fun W => W.cell? ⟨p, a * 6 + k, none⟩ = some (iv cc) ∧ W.cell? ⟨X, 1, none⟩ = some (iv (a : Int))) (first | exact ⟨c1, s1⟩ | go_keep) (first | fail)
            go_wp2_with (go_at_call 42; with_reducible refine (HT.out _ (by first | exact Gr.refl _ | exact (Gr.refl _).drew)).mono ?_; rintro e V2 ⟨v2, rfl, T2', S2', R2'⟩; have T2 := hide T2'; have S2 := hide S2'; have R2 := hide R2'; clear T2' S2' R2')
            go_roundw
            case rel => exact ⟨k + 1, v2, by omega, by congr 1, hr, T2, S2, R2⟩
            case measure => simp [intOf]; omega
          · have hre : (r == 0) = false := by simpa using hrr
            have hre2 : (r != 0) = true := by simpa using hrr
            have E6 : Hid (sayAll t1 a 6 = sayAll t1 a (k + 1)) := by
              have := sayAll_stop (t := t1) (a := a) (b := k + 1) (by rw [hr.out]; exact hrr) (6 - (k + 1))
              rw [show k + 1 + (6 - (k + 1)) = 6 by omega] at this
              exact this
            go_upto_region 16 with (fail)
            go_region_held3 (fun W => W.cell? ⟨p, a * 6 + k, none⟩ = some (iv cc) ∧ W.cell? ⟨X, 1, none⟩ = some (iv (a : Int))) (first | exact ⟨c1, s1⟩ | go_keep) (first | fail)
            go_wp2_with (go_at_call 42; with_reducible refine (HT.out _ (by first | exact Gr.refl _ | exact (Gr.refl _).drew)).mono ?_; rintro e V2 ⟨v2, rfl, T2', S2', R2'⟩; have T2 := hide T2'; have S2 := hide S2'; have R2 := hide R2'; clear T2' S2' R2')
            go_ret
            exact ⟨v2, congrArg (fun z => Ending.returned (iv z)) (show r = (sayAll (tickT t a) a 6).2 by rw [HTT.out, E6.out, hr.out]), by rw [HTT.out, E6.out]; exact T2.out⟩
        · have hci : decide (0 < (sayAll t1 a k).1.cst a k) = false := decide_eq_false hc
          have HS2 : Hid (sayAll t1 a (k + 1) = sayAll t1 a k) := by unfold Hid; rw [HSS.out, if_neg hc]
          clear HSS hc
          generalize (sayAll t1 a k).1.cst a k = cc at *
          go_upto_region 16 with (fail)
          go_region_held3 (fun W => W.cell? ⟨p, a * 6 + k, none⟩ = some (iv cc) ∧ W.cell? ⟨X, 1, none⟩ = some (iv (a : Int))) (first | exact ⟨c1, s1⟩ | go_keep) (first | fail)
          go_wp2_with fail
          go_roundw
          case rel => exact ⟨k + 1, v1, by omega, by congr 1, by unfold Hid; rw [HS2.out]; exact h0.out, by unfold Hid; rw [HS2.out]; exact T1.out.ext (by first | exact Gr.refl _ | exact (Gr.refl _).drew), S1.out.gr (by first | exact Gr.refl _ | exact (Gr.refl _).drew), RX⟩
          case measure => simp [intOf]; omega
      · have hki : decide ((k : Int) < 6) = false := decide_eq_false (by omega)
        have ek : k = 6 := by omega
        subst ek
        go_wp2_with fail
        go_ret
        exact ⟨v1, congrArg (fun z => Ending.returned (iv z)) (show (0 : Int) = (sayAll (tickT t a) a 6).2 by rw [HTT.out, h0.out]), by rw [HTT.out]; exact T1.out⟩

end Go.Proofs.Ythiojjkgodffnae
