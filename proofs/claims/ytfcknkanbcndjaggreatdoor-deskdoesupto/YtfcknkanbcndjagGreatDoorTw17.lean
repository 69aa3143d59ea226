import Derived.Test.YtfcknkanbcndjagGreatDoorTw7
import Derived.Test.YtfcknkanbcndjagGreatDoorSpanPlain
import Derived.Test.YtfcknkanbcndjagGreatDoorTw13
import Derived.Test.YtfcknkanbcndjagGreatDoorNe9
/- A Town as the laws use it; a Net and a Town beside each other. -/
namespace Go.Proofs.YtfcknkanbcndjagGreatDoor
open Go.RowKit

section
variable {M : Nat → Prop} {B w w' : World} {p : Nat} {q : Nat → Nat} {v o : Value} {c : Nat → Nat → Nat} {t : Tn} {n : Nat}
/-- A Town behind at most n steps. -/
structure Tl (M : Nat → Prop) (B w : World) (p : Nat) (q : Nat → Nat) (v o : Value) (c : Nat → Nat → Nat) (t : Tn) (n : Nat) : Prop where
  h : Tw M B w p q v o t
  a : TnA t c
  l : t.news.length ≤ 40
  g : ∀ k, k < 6 → agT t k ≤ (n : Int)
theorem Tl.ext (H : Tl M B w p q v o c t n) (g : Gr w w') : Tl M B w' p q v o c t n := ⟨H.h.ext g, H.a, H.l, H.g⟩
/-- The Town's own blocks. -/
def ownT (p : Nat) (q : Nat → Nat) (v : Value) (b : Nat) : Prop := b = p ∨ (∃ a, a < 6 ∧ b = q a) ∨ v.ownBlock = some b
theorem Tw.own_lt (h : Tw M B w p q v o t) {b : Nat} (hb : ownT p q v b) : b < w.heap.size := by
  rcases hb with rfl | ⟨a, ha, rfl⟩ | e
  · exact h.blk.lt
  · exact (h.six.at_ a ha).lt
  · exact h.nw.own_lt e
end
/-- A Net (at p, k, q, v) and a Town (at P, Q, V) beside each other: the Town's blocks are none of the Net's. -/
def Beside (w : World) (p k : Nat) (q : Nat → Nat) (v : Value) (P : Nat) (Q : Nat → Nat) (V : Value) : Prop := ∀ b, ownT P Q V b → rest w p k q v b
section
variable {M : Nat → Prop} {B w w' : World} {p k P : Nat} {q Q : Nat → Nat} {v v1 V V1 o : Value} {c c' : Nat → Nat → Nat} {t t' t'' : Tn} {n n' : Nat}
theorem Beside.gr (h : Beside w p k q v P Q V) (g : Gr w w') : Beside w' p k q v P Q V := fun b hb => rest_gr (h b hb) g
theorem Beside.town (h : Beside w p k q v P Q V) (H : Ne M B w p k q v c t) : ∀ b, own p k q v b → restT w P Q V b := fun b hb => by
  have no : ∀ x, ownT P Q V x → ¬ own p k q v x := fun x hx ho => by
    obtain ⟨_, r1, r2, r3, r4⟩ := h x hx
    rcases ho with e | e | ⟨a, ha, e⟩ | e
    · exact r1 e
    · exact r2 e
    · exact r3 a ha e
    · exact r4 e
  exact ⟨H.own_lt hb, fun e => no b (.inl e) hb, fun a ha e => no b (.inr (.inl ⟨a, ha, e⟩)) hb, fun e => no b (.inr (.inr e)) hb⟩
/-- What was done to the Net leaves the Town. -/
theorem Tl.beside (HT : Tl M B w P Q V o c' t' n') (HN : Nl M B w p k q v c t n) (bs : Beside w p k q v P Q V) (f : Fr w p k q v w' v1) : Tl M B w' P Q V o c' t' n' ∧ Beside w' p k q v1 P Q V :=
  ⟨⟨HT.h.keep f.kp (fun _ hm => HN.h.sub hm) (bs _ (.inl rfl)) (fun a ha => bs _ (.inr (.inl ⟨a, ha, rfl⟩))) (fun _ e => bs _ (.inr (.inr e))), HT.a, HT.l, HT.g⟩, fun b hb => f.rst (bs b hb)⟩
end

end Go.Proofs.YtfcknkanbcndjagGreatDoor

/- THE REFERENCE'S Town: Do, a link that may be. -/
namespace Go.Proofs.YtfcknkanbcndjagGreatDoor
open Go.RowKit
attribute [local go_sem] Ext.all Ext.cell Ext.frozen Ext.lt Ext.lt1 Ext.lt2 Ext.ne Ext.ne'
set_option maxRecDepth 20000 in
set_option maxHeartbeats 8000000 in
theorem wdo_link {M : Nat → Prop} {B w : World} {p : Nat} {q : Nat → Nat} {v o : Value} {t : Tn} {c : Nat → Nat → Nat} (H : Tw M B w p q v o t) (A : TnA t c) {a b : Nat} {n : Int} (ha : a < 6) (hb : b < 6) (hne : a ≠ b) (h0 : 0 ≤ n) (h15 : n ≤ 15) (x y : Value) :
    Calls Tryz.prog 28 #[pv p, .agg #[iv 1, iv (a : Int), iv (b : Int), iv n, x, y]] w fun e w' => e = .returned (iv 0) ∧ Tw M B w' p q v o (linkT t a b n) := by
  have T0 := hide (H.ext ((Gr.refl w).alloc (.cells #[iv 1, iv (a : Int), iv (b : Int), iv n, x, y] 54)))
  have S0 := hide (sp_new w 1 (a : Int) (b : Int) n x y)
  have hpX := H.blk.lt
  have hqX : Hid (∀ k, k < 6 → q k < w.heap.size) := fun k hk => (H.six.at_ k hk).lt
  have ea : lnkM (t.nd a) (b : Int) n = linkM (t.nd a) b n := if_pos ⟨⟨⟨by omega, by omega⟩, by rw [A.s.tc.me a ha]; omega⟩, h0, h15⟩
  have eb : lnkM (t.nd b) (a : Int) n = linkM (t.nd b) a n := if_pos ⟨⟨⟨by omega, by omega⟩, by rw [A.s.tc.me b hb]; omega⟩, h0, h15⟩
  have za := A.s.z a ha
  have zb := A.s.z b hb
  have hai : (a : Int) < 6 := by omega
  have hbi : (b : Int) < 6 := by omega
  clear H A
  go_enter Tryz.func28, Tryz.ntmps28
  go_upto_region 3 with (fail)
  refine wp_gen (fun V => Hid (Tw M B V p q v o t) ∧ Hid (VArr V 54 6 w.heap.size (spF 1 (a : Int) (b : Int) n x y))) ⟨T0.out, S0.out⟩ ?_
  clear T0 S0
  generalize w.heap.size = X at *
  rintro V ⟨T0, S0⟩
  obtain ⟨s1, s2, s3⟩ := sp_cells S0.out
  have hp := T0.out.blk.lt
  have hX := S0.out.lt
  have HS := hide (wset_ok (T0.out.ext (Gr.refl V).drew) ha hb hne h0 h15)
  have S1 := hide (S0.out.gr (Gr.refl V).drew)
  go_region_held3 (fun W => W.cell? ⟨X, 1, none⟩ = some (iv (a : Int)) ∧ W.cell? ⟨X, 2, none⟩ = some (iv (b : Int)) ∧ W.cell? ⟨X, 3, none⟩ = some (iv n)) (first | exact ⟨s1, s2, s3⟩ | exact sp_cells S2.out | go_keep) (first | (go_at_call 49; with_reducible refine HS.out.mono ?_; rintro e V1 ⟨rfl, T1', W1'⟩; have T1 := hide T1'; have S2 := hide (W1'.varr S1.out (by omega)); clear T1' W1'))
  all_goals
    clear HS S1 s1 s2 s3 hp hX S0 T0
    go_upto_region 6 with (fail)
    refine wp_gen (fun V => Hid (Tw M B V p q v o { t with cst := cstUp (cstUp t.cst a b n) b a n }) ∧ Hid (VArr V 54 6 X (spF 1 (a : Int) (b : Int) n x y))) ⟨T1.out, S2.out⟩ ?_
    clear T1 S2
    rintro V ⟨T1, S1⟩
    obtain ⟨s1, s2, s3⟩ := sp_cells S1.out
    have hp := T1.out.blk.lt
    have hX := S1.out.lt
    have c1 := T1.out.node ha
    have hXq : X ≠ q a := by have := hqX.out a ha; omega
    have HL : Hid (Calls Tryz.prog 50 #[pv (q a), iv (b : Int), iv n] V.drew fun e w' => ∃ r, e = .returned r ∧ Tw M B w' p q v o { t with cst := cstUp (cstUp t.cst a b n) b a n, nd := updW t.nd a (linkM (t.nd a) b n) } ∧ VArr w' 54 6 X (spF 1 (a : Int) (b : Int) n x y)) :=
      (mlinkN ((T1.out.ext (Gr.refl V).drew).six.at_ a ha) za (b : Int) n).mono fun e w' ⟨he, hm, hw⟩ => ⟨_, he, by
        rw [ea] at hm
        exact (T1.out.ext (Gr.refl V).drew).put ha hw hm, hw.varr (S1.out.gr (Gr.refl V).drew) hXq⟩
    go_region_held3 (fun W => W.cell? ⟨p, 36 + a, none⟩ = some (pv (q a)) ∧ W.cell? ⟨X, 1, none⟩ = some (iv (a : Int)) ∧ W.cell? ⟨X, 2, none⟩ = some (iv (b : Int)) ∧ W.cell? ⟨X, 3, none⟩ = some (iv n)) (first | exact ⟨c1, s1, s2, s3⟩ | exact ⟨T2.out.node ha, sp_cells S2.out⟩ | go_keep) (first | (go_at_call 50; with_reducible refine HL.out.mono ?_; rintro e V2 ⟨r2, rfl, T2', S2'⟩; have T2 := hide T2'; have S2 := hide S2'; clear T2' S2'))
    all_goals
      clear HL hXq s1 s2 s3 hp hX S1 T1 c1
      obtain ⟨s1, s2, s3⟩ := sp_cells S2.out
      have hp := T2.out.blk.lt
      have hX := S2.out.lt
      have c2 := T2.out.node hb
      have M0 : MAt V2.drew (q b) (t.nd b) := by
        have := (T2.out.ext (Gr.refl V2).drew).six.at_ b hb
        dsimp only at this
        rw [updW_ne _ _ (fun e => hne e.symm)] at this
        exact this
      have hXq : X ≠ q b := by have := hqX.out b hb; omega
      have HL : Hid (Calls Tryz.prog 50 #[pv (q b), iv (a : Int), iv n] V2.drew fun e w' => ∃ r, e = .returned r ∧ Tw M B w' p q v o (linkT t a b n) ∧ VArr w' 54 6 X (spF 1 (a : Int) (b : Int) n x y)) :=
        (mlinkN M0 zb (a : Int) n).mono fun e w' ⟨he, hm, hw⟩ => ⟨_, he, by
          rw [eb] at hm
          exact (T2.out.ext (Gr.refl V2).drew).put hb hw hm, hw.varr (S2.out.gr (Gr.refl V2).drew) hXq⟩
      clear M0
      go_upto_region 7 with (fail)
      go_region_held3 (fun W => W.cell? ⟨p, 36 + b, none⟩ = some (pv (q b)) ∧ W.cell? ⟨X, 1, none⟩ = some (iv (a : Int)) ∧ W.cell? ⟨X, 2, none⟩ = some (iv (b : Int)) ∧ W.cell? ⟨X, 3, none⟩ = some (iv n)) (first | exact ⟨c2, s1, s2, s3⟩ | exact ⟨T4.out.node hb, sp_cells S4.out⟩ | go_keep) (first | (go_at_call 50; with_reducible refine HL.out.mono ?_; rintro e V4 ⟨r4, rfl, T4', S4'⟩; have T4 := hide T4'; have S4 := hide S4'; clear T4' S4'))
      all_goals
        clear HL hXq s1 s2 s3 hp hX S2 T2 c2
        go_wp2_with fail
        go_ret
        exact ⟨rfl, T4.out⟩

end Go.Proofs.YtfcknkanbcndjagGreatDoor

/- THE REFERENCE'S Town: Do, the kind tick. -/
namespace Go.Proofs.YtfcknkanbcndjagGreatDoor
open Go.RowKit
attribute [local go_sem] Ext.all Ext.cell Ext.frozen Ext.lt Ext.lt1 Ext.lt2 Ext.ne Ext.ne'
theorem sayAll_stop {t : Tn} {a b : Nat} (h : (sayAll t a b).2 ≠ 0) : ∀ k, sayAll t a (b + k) = sayAll t a b
  | 0 => rfl
  | k + 1 => by
    have ih := sayAll_stop h k
    show (if (sayAll t a (b + k)).2 ≠ 0 then sayAll t a (b + k) else _) = _
    rw [ih, if_pos h]

set_option maxRecDepth 20000 in
set_option maxHeartbeats 8000000 in
theorem wdo_tick_no {M : Nat → Prop} {B w : World} {p : Nat} {q : Nat → Nat} {v o : Value} {t : Tn} (H : Tw M B w p q v o t) {a b n : Int} (h : ¬ isN a) (x y : Value) :
    Calls Tryz.prog 28 #[pv p, .agg #[iv 2, iv a, iv b, iv n, x, y]] w fun e w' => e = .returned (iv 1) ∧ Tw M B w' p q v o t := by
  have T0 := hide (H.ext ((Gr.refl w).alloc (.cells #[iv 2, iv a, iv b, iv n, x, y] 54)))
  have B1 : Hid (decide (0 ≤ a ∧ a < 6) = false) := decide_eq_false h
  clear H
  go_enter Tryz.func28, Tryz.ntmps28
  go_wp2_with (go_at_call 9; with_reducible refine (isNode_is B1.out _).mono ?_; rintro e w1 ⟨rfl, hw1⟩; have hw2 := hw1.symm; clear hw1; subst hw2)
  go_ret
  exact ⟨rfl, T0.out⟩

set_option maxRecDepth 20000 in
set_option maxHeartbeats 8000000 in
theorem wdo_tick {M : Nat → Prop} {B w : World} {p : Nat} {q : Nat → Nat} {v o : Value} {t : Tn} {c : Nat → Nat → Nat} (H : Tw M B w p q v o t) (A : TnA t c) {a : Nat} (ha : a < 6) (hA : agT t a < 4611686018427387904) (hl : t.news.length ≤ 40) (b n : Int) (x y : Value) :
    Calls Tryz.prog 28 #[pv p, .agg #[iv 2, iv (a : Int), iv b, iv n, x, y]] w fun e w' => ∃ v', e = .returned (iv (sayAll (tickT t a) a 6).2) ∧ Tw M B w' p q v' o (sayAll (tickT t a) a 6).1 := by
  have T0 := hide (H.ext ((Gr.refl w).alloc (.cells #[iv 2, iv (a : Int), iv b, iv n, x, y] 54)))
  have S0 := hide (sp_new w 2 (a : Int) b n x y)
  have hpX := H.blk.lt
  have hXq : w.heap.size ≠ q a := by have := (H.six.at_ a ha).lt; omega
  have RX : Hid (∀ W : World, w.heap.size < W.heap.size → restT W p q v w.heap.size) := fun W hW => ⟨hW, (H.notOwn ((Gr.refl w).alloc (.cells #[] 54)) (Nat.le_refl _) (by simp)).2⟩
  have za := A.s.z a ha
  have hag : age (t.nd a) < 4611686018427387904 := by
    have e1 : age (t.nd a) = agT t a := by unfold age agT; rw [A.s.tc.me a ha]
    rw [e1]; exact hA
  have hai : (a : Int) < 6 := by omega
  have B1 : Hid (decide (0 ≤ (a : Int) ∧ (a : Int) < 6) = true) := decide_eq_true ⟨by omega, hai⟩
  have AS : Hid (∀ k, TnA (sayAll (tickT t a) a k).1 c) := fun k => (sayAll_nx (A.tick ha).1 a k).a
  have ET : Hid (∀ w1 w2 : World, Tw M B w1 p q v o t → MAt w2 (q a) (tickM (t.nd a)) → Wr (q a) w1 w2 → Tw M B w2 p q v o (tickT t a)) := fun w1 w2 h1 hm hw => h1.put ha hw hm
  have AL : Hid (∀ k, (sayAll (tickT t a) a k).1.news.length ≤ 40) := fun k => sayAll_len (show (tickT t a).news.length ≤ 40 from hl) a k
  clear H A hA hl
  go_enter Tryz.func28, Tryz.ntmps28
  go_upto_region 12 with (go_at_call 9; with_reducible refine (isNode_is B1.out _).mono ?_; rintro e w1 ⟨rfl, hw1⟩; have hw2 := hw1.symm; clear hw1; subst hw2)
  refine wp_gen (fun V => Hid (Tw M B V p q v o t) ∧ Hid (VArr V 54 6 w.heap.size (spF 2 (a : Int) b n x y))) ⟨T0.out, S0.out⟩ ?_
  clear T0 S0
  generalize w.heap.size = X at *
  rintro V ⟨T0, S0⟩
  obtain ⟨s1, s2, s3⟩ := sp_cells S0.out
  have hp := T0.out.blk.lt
  have hX := S0.out.lt
  have c1 := T0.out.node ha
  have HL : Hid (Calls Tryz.prog 51 #[pv (q a)] V.drew fun e w' => e = .returned (.tuple #[]) ∧ Tw M B w' p q v o (tickT t a) ∧ VArr w' 54 6 X (spF 2 (a : Int) b n x y)) :=
    (mtickN ((T0.out.ext (Gr.refl V).drew).six.at_ a ha) za hag).mono fun e w' ⟨he, hm, hw⟩ => ⟨he, ET.out _ _ (T0.out.ext (Gr.refl V).drew) hm hw, hw.varr (S0.out.gr (Gr.refl V).drew) hXq⟩
  go_region_held3 (fun W => W.cell? ⟨p, 36 + a, none⟩ = some (pv (q a)) ∧ W.cell? ⟨X, 1, none⟩ = some (iv (a : Int))) (first | exact ⟨c1, s1⟩ | exact ⟨T1.out.node ha, (sp_cells S1.out).1⟩ | go_keep) (first | (go_at_call 51; with_reducible refine HL.out.mono ?_; rintro e V1 ⟨rfl, T1', S1'⟩; have T1 := hide T1'; have S1 := hide S1'; clear T1' S1'))
  all_goals
    clear HL ET hXq s1 s2 s3 c1 hp hX S0 T0 za hag
    generalize htt : tickT t a = t1 at AS AL T1
    have HTT := hide htt
    clear htt
    go_wp2_with fail
    go_loopw [6] (fun v6 wr => ∃ (k : Nat) (v1 : Value), k ≤ 6 ∧ v6 = .int .i64 (k : Int) ∧ Hid ((sayAll t1 a k).2 = 0) ∧ Hid (Tw M B wr p q v1 o (sayAll t1 a k).1) ∧ Hid (VArr wr 54 6 X (spF 2 (a : Int) b n x y)) ∧ Hid (∀ W : World, X < W.heap.size → restT W p q v1 X)) (fun v6 _ => (6 - intOf v6).toNat)
    case atStart => exact ⟨0, v, by omega, rfl, rfl, T1, S1, RX⟩
    case round =>
      clear T1 S1 RX
      obtain ⟨k, v1, hk6, rfl, h0, T1, S1, RX⟩ := hrel
      by_cases hk : k < 6
      · have hki : decide ((k : Int) < 6) = true := decide_eq_true (by omega)
        have hk0 : (k : Int) < 6 := by omega
        have wk : IntKind.i64.wrap ((k : Int) + 1) = (k : Int) + 1 := by rw [IntKind.wrap_i64]; omega
        obtain ⟨s1, s2, s3⟩ := sp_cells S1.out
        have hp := T1.out.blk.lt
        have hX := S1.out.lt
        have c1 := T1.out.cst ha hk
        have A1 := hide (AS.out k)
        have HSS : Hid (sayAll t1 a (k + 1) = if 0 < (sayAll t1 a k).1.cst a k then sayC (sayAll t1 a k).1 (a : Int) (k : Int) else sayAll t1 a k) := by
          show (if (sayAll t1 a k).2 ≠ 0 then _ else _) = _
          rw [if_neg (fun e => e h0.out)]
        by_cases hc : 0 < (sayAll t1 a k).1.cst a k
        · have hci : decide (0 < (sayAll t1 a k).1.cst a k) = true := decide_eq_true hc
          have HS2 : Hid (sayAll t1 a (k + 1) = sayC (sayAll t1 a k).1 (a : Int) (k : Int)) := by unfold Hid; rw [HSS.out, if_pos hc]
          obtain ⟨r, hr⟩ : ∃ r, Hid ((sayAll t1 a (k + 1)).2 = r) := ⟨_, rfl⟩
          have HT : Hid (∀ V, Gr wr V → Calls Tryz.prog 52 #[pv p, iv (a : Int), iv (k : Int)] V fun e w' => ∃ v', e = .returned (iv r) ∧ Tw M B w' p q v' o (sayAll t1 a (k + 1)).1 ∧ VArr w' 54 6 X (spF 2 (a : Int) b n x y) ∧ ∀ W : World, X < W.heap.size → restT W p q v' X) := fun V g =>
            (wtell_fr (T1.out.ext g) (fun i hi => A1.out.s.tc.me i hi) (AL.out k) (a : Int) (k : Int)).mono fun e w' ⟨v', he, ht, hf⟩ => ⟨v', by rw [he, ← HS2.out, hr.out], by rw [HS2.out]; exact ht, hf.varr (S1.out.gr g) (RX.out V (S1.out.gr g).lt), fun W hW => ⟨hW, (hf.rst (RX.out V (S1.out.gr g).lt)).2⟩⟩
          clear HSS HS2 hc
          generalize (sayAll t1 a k).1.cst a k = cc at *
          by_cases hrr : r = 0
          · subst hrr
            go_upto_region 16 with (fail)
            go_region_held3 (fun W => W.cell? ⟨p, a * 6 + k, none⟩ = some (iv cc) ∧ W.cell? ⟨X, 1, none⟩ = some (iv (a : Int))) (first | exact ⟨c1, s1⟩ | go_keep) (first | fail)
            go_wp2_with (go_at_call 52; with_reducible refine (HT.out _ (by first | exact Gr.refl _ | exact (Gr.refl _).drew)).mono ?_; rintro e V2 ⟨v2, rfl, T2', S2', R2'⟩; have T2 := hide T2'; have S2 := hide S2'; have R2 := hide R2'; clear T2' S2' R2')
            go_roundw
            case rel => exact ⟨k + 1, v2, by omega, by congr 1, hr, T2, S2, R2⟩
            case measure => simp [intOf]; omega
          · have hre : (r == 0) = false := by simpa using hrr
            have hre2 : (r != 0) = true := by simpa using hrr
            have E6 : Hid (sayAll t1 a 6 = sayAll t1 a (k + 1)) := by
              have := sayAll_stop (t := t1) (a := a) (b := k + 1) (by rw [hr.out]; exact hrr) (6 - (k + 1))
              rw [show k + 1 + (6 - (k + 1)) = 6 by omega] at this
              exact this
            go_upto_region 16 with (fail)
            go_region_held3 (fun W => W.cell? ⟨p, a * 6 + k, none⟩ = some (iv cc) ∧ W.cell? ⟨X, 1, none⟩ = some (iv (a : Int))) (first | exact ⟨c1, s1⟩ | go_keep) (first | fail)
            go_wp2_with (go_at_call 52; with_reducible refine (HT.out _ (by first | exact Gr.refl _ | exact (Gr.refl _).drew)).mono ?_; rintro e V2 ⟨v2, rfl, T2', S2', R2'⟩; have T2 := hide T2'; have S2 := hide S2'; have R2 := hide R2'; clear T2' S2' R2')
            go_ret
            exact ⟨v2, congrArg (fun z => Ending.returned (iv z)) (show r = (sayAll (tickT t a) a 6).2 by rw [HTT.out, E6.out, hr.out]), by rw [HTT.out, E6.out]; exact T2.out⟩
        · have hci : decide (0 < (sayAll t1 a k).1.cst a k) = false := decide_eq_false hc
          have HS2 : Hid (sayAll t1 a (k + 1) = sayAll t1 a k) := by unfold Hid; rw [HSS.out, if_neg hc]
          clear HSS hc
          generalize (sayAll t1 a k).1.cst a k = cc at *
          go_upto_region 16 with (fail)
          go_region_held3 (fun W => W.cell? ⟨p, a * 6 + k, none⟩ = some (iv cc) ∧ W.cell? ⟨X, 1, none⟩ = some (iv (a : Int))) (first | exact ⟨c1, s1⟩ | go_keep) (first | fail)
          go_wp2_with fail
          go_roundw
          case rel => exact ⟨k + 1, v1, by omega, by congr 1, by unfold Hid; rw [HS2.out]; exact h0.out, by unfold Hid; rw [HS2.out]; exact T1.out.ext (by first | exact Gr.refl _ | exact (Gr.refl _).drew), S1.out.gr (by first | exact Gr.refl _ | exact (Gr.refl _).drew), RX⟩
          case measure => simp [intOf]; omega
      · have hki : decide ((k : Int) < 6) = false := decide_eq_false (by omega)
        have ek : k = 6 := by omega
        subst ek
        go_wp2_with fail
        go_ret
        exact ⟨v1, congrArg (fun z => Ending.returned (iv z)) (show (0 : Int) = (sayAll (tickT t a) a 6).2 by rw [HTT.out, h0.out]), by rw [HTT.out]; exact T1.out⟩

end Go.Proofs.YtfcknkanbcndjagGreatDoor

/- THE REFERENCE'S Town: its news made anew: one taken out, one put in twice. -/
namespace Go.Proofs.YtfcknkanbcndjagGreatDoor
open Go.RowKit

theorem own_base {w : World} {b e s n : Nat} {v : Value} {xs : List Value} (h : w.ownsRow b e s v n xs) : w.ownsRow 0 e s v n xs := by
  refine ⟨h.1, ?_⟩
  rcases h.2 with hn | ⟨g, cap, cur, hv, _, rest⟩
  · exact .inl hn
  · exact .inr ⟨g, cap, cur, hv, Nat.zero_le _, rest⟩
theorem own_young {w : World} {b e s n : Nat} {v : Value} {xs : List Value} (h : w.ownsRow b e s v n xs) {k : Nat} (hk : v.ownBlock = some k) : b ≤ k := by
  rcases h.2 with ⟨rfl, _⟩ | ⟨g, cap, cur, rfl, hb, _⟩
  · cases hk
  · cases hk; exact hb
theorem own_shape {w : World} {b e s n : Nat} {v : Value} {xs : List Value} (h : w.ownsRow b e s v n xs) : ∃ a c, v = .slice a n c := by
  rcases h.2 with ⟨rfl, rfl⟩ | ⟨g, cap, cur, rfl, _⟩
  · exact ⟨_, _, rfl⟩
  · exact ⟨_, _, rfl⟩
theorem grown2 {W w1 w2 : World} {r : Option Nat} (h : W.grownBy w1 none) (k : w1.grownBy w2 r) (hr : ∀ b, r = some b → W.heap.size ≤ b) (s : Option Nat) : W.grownBy w2 s :=
  ⟨k.os.trans h.os, k.tape.trans h.tape, k.output.trans h.output, Nat.le_trans h.size k.size, fun b hb _ => (k.block b (Nat.lt_of_lt_of_le hb h.size) (fun e => by have := hr b e.symm; omega)).trans (h.block b hb (fun e => by cases e))⟩
/-- 'append(nil, l...)'. -/
theorem app_none {W : World} {a : Addr} {m c : Nat} {xs : List Nws} (ty : TypeId) (hx : xs.length = m) (hc : ∀ j u, (celn xs)[j]? = some u → W.cell? (a.add j) = some u) (hm : m ≤ 1000) :
    ∃ v1 w1, (Builtin.append_ #[46, 46] ty #[.slice none 0 0, .slice (some a) m c]).run Tryz.prog W = .ok v1 w1 ∧ w1.ownsRow W.heap.size 114 5 v1 m (celn xs) ∧ W.grownBy w1 none := by
  obtain ⟨i0, hi, hz0, hz1, hz2⟩ := info_parts Tryz.info114
  obtain ⟨v', w', h1, h2, h3, _⟩ := run_append_own (P := Tryz.prog) W W.heap.size 46 ty 114 i0 _ 5 40 Tryz.underlying46 hi hz0 hz1 hz2 (by rfl) (by decide) (.slice none 0 0) 0 [] (World.ownsRow_nil _ _ _ _)
      a m c (celn xs) (by rw [celn_length, hx]) hc (celn_one xs) (by unfold maxLen; omega) (by omega) (Nat.le_refl _)
  simp only [Nat.zero_add, List.nil_append] at h2
  exact ⟨v', w', h1, h2, h3⟩
/-- 'append(l, m...)' where l is new. -/
theorem app_more {W w1 : World} {v1 : Value} {a : Addr} {m k c : Nat} {xs ys : List Nws} (ty : TypeId) (hO : w1.ownsRow W.heap.size 114 5 v1 m (celn xs)) (hg : W.grownBy w1 none) (hy : ys.length = k) (hc : ∀ j u, (celn ys)[j]? = some u → w1.cell? (a.add j) = some u) (hm : m + k ≤ 1000) :
    ∃ v2 w2, (Builtin.append_ #[46, 46] ty #[v1, .slice (some a) k c]).run Tryz.prog w1 = .ok v2 w2 ∧ w2.ownsRow W.heap.size 114 5 v2 (m + k) (celn (xs ++ ys)) ∧ ∀ s, W.grownBy w2 s := by
  obtain ⟨i0, hi, hz0, hz1, hz2⟩ := info_parts Tryz.info114
  obtain ⟨v', w', h1, h2, h3, _⟩ := run_append_own (P := Tryz.prog) w1 W.heap.size 46 ty 114 i0 _ 5 40 Tryz.underlying46 hi hz0 hz1 hz2 (by rfl) (by decide) v1 m (celn xs) hO
      a k c (celn ys) (by rw [celn_length, hy]) hc (celn_one ys) (by unfold maxLen; omega) (by omega) hg.size
  rw [← celn_append] at h2
  exact ⟨v', w', h1, h2, fun s => grown2 hg h3 (fun b e => own_young hO e) s⟩
section
variable {M : Nat → Prop} {B w : World} {p : Nat} {q : Nat → Nat} {v o : Value} {t : Tn}
/-- The new list in the old one's place. -/
theorem Tw.anew {W w2 : World} {v2 : Value} {k : Nat} {nl : List Nw} (H : Tw M B W p q v o t) (hO : w2.ownsRow W.heap.size 114 5 v2 k (celn (newsL nl))) (hk : nl.length = k) (hg : W.grownBy w2 v.ownBlock) :
    VArr w2 110 44 p (twF t.cst q v o) ∧ Tw M B (w2.setCell ⟨p, 42, none⟩ v2) p q v2 o { t with news := nl } := by
  have hN : NwO 0 w2 v2 (newsL nl) := by
    unfold NwO
    rw [newsL_len, hk]
    exact own_base hO
  refine ⟨(hg.block p H.blk.lt (fun e => (H.vp _ e.symm).1 rfl)).trans H.blk, H.newsPut hg hN ?_⟩
  cases e : v2.ownBlock with
  | none => exact .inl rfl
  | some b => exact .inr (.inr ⟨b, rfl, own_young hO e⟩)
/-- The row of the news. -/
theorem Tw.row (H : Tw M B w p q v o t) {n : Nat} (hn : n < t.news.length) : ∃ g cap cur, v = .slice (some ⟨g, 0, none⟩) t.news.length cap ∧ NRow w g t.news.length cap cur (newsL t.news) := by
  have hlen := newsL_len t.news
  rcases H.nw.2 with ⟨_, h0⟩ | ⟨g, cap, cur, hv, hb, hg, hn', hc, hs, ht⟩
  · exfalso; omega
  · rw [hlen] at hv ht hn'
    exact ⟨g, cap, cur, hv, ⟨hg, hlen, hn', hc, hs, ht⟩⟩
/-- One of them is taken out. -/
theorem Tw.cut {g cap : Nat} {cur : Array Value} (H : Tw M B w p q (.slice (some ⟨g, 0, none⟩) t.news.length cap) o t) (R : NRow w g t.news.length cap cur (newsL t.news)) (hl : t.news.length ≤ 40) {n : Nat} (hn : n < t.news.length) :
    ∃ (A : Addr) (a1 : Option Addr) (c1 : Nat) (w1 : World) (a2 : Option Addr) (n2 c2 : Nat) (w2 : World), (if cap = n + 1 then some (⟨g, 0, none⟩ : Addr) else some ⟨g, (n + 1) * 5, none⟩) = some A ∧
      (Builtin.append_ #[46, 46] 46 #[.slice none 0 0, .slice (some ⟨g, 0, none⟩) n cap]).run Tryz.prog w.drew = .ok (.slice a1 n c1) w1 ∧
      (Builtin.append_ #[46, 46] 46 #[.slice a1 n c1, .slice (some A) (t.news.length - (n + 1)) (cap - (n + 1))]).run Tryz.prog w1 = .ok (.slice a2 n2 c2) w2 ∧
      (∀ b, b < w.heap.size → w1.heap[b]? = w.heap[b]?) ∧ (∀ b, b < w.heap.size → w2.heap[b]? = w.heap[b]?) ∧
      Tw M B (w2.setCell ⟨p, 42, none⟩ (.slice a2 n2 c2)) p q (.slice a2 n2 c2) o { t with news := dropAt t.news n } := by
  have hlen := newsL_len t.news
  have rd : ∀ (W : World), (∀ b, b < w.heap.size → W.heap[b]? = w.heap[b]?) → ∀ j u, (celn (newsL t.news))[j]? = some u → W.cell? ⟨g, j, none⟩ = some u := fun W hW j u hj => by
    have := R.cell j u hj
    rw [World.cell?_of_block (w := w) (a := ⟨g, j, none⟩) (hW g (lt_of_block R.block))]
    exact this
  obtain ⟨v1, w1, r1, o1, g1⟩ := app_none (W := w.drew) (a := ⟨g, 0, none⟩) (m := n) (c := cap) (xs := (newsL t.news).take n) 46 (by rw [List.length_take]; omega) (fun j u hj => by
    rw [Addr.add_lit, Nat.zero_add]
    refine rd w.drew (fun _ _ => rfl) j u ?_
    have hjl : j < n * 5 := by
      have := (List.getElem?_eq_some_iff.1 hj).1
      rw [celn_length, List.length_take] at this
      omega
    rw [← celn_take, List.getElem?_take_of_lt hjl] at hj
    exact hj) (by omega)
  have k1 : ∀ b, b < w.heap.size → w1.heap[b]? = w.heap[b]? := fun b hb => g1.block b hb (fun e => by cases e)
  obtain ⟨a1, c1, rfl⟩ := own_shape o1
  obtain ⟨A, hA, hsrc⟩ : ∃ A : Addr, (if cap = n + 1 then some (⟨g, 0, none⟩ : Addr) else some ⟨g, (n + 1) * 5, none⟩) = some A ∧ (∀ j u, (celn ((newsL t.news).drop (n + 1)))[j]? = some u → w1.cell? (A.add j) = some u) := by
    by_cases hc : cap = n + 1
    · refine ⟨⟨g, 0, none⟩, by simp [hc], fun j u hu => ?_⟩
      have hle := R.le
      have : celn ((newsL t.news).drop (n + 1)) = [] := List.eq_nil_of_length_eq_zero (by rw [celn_length, List.length_drop]; omega)
      rw [this] at hu; simp at hu
    · refine ⟨⟨g, (n + 1) * 5, none⟩, by simp [hc], fun j u hu => ?_⟩
      rw [Addr.add_lit]
      refine rd w1 k1 _ u ?_
      rw [← celn_drop, List.getElem?_drop] at hu
      exact hu
  obtain ⟨v2, w2, r2, o2, g2⟩ := app_more (W := w.drew) (a := A) (k := t.news.length - (n + 1)) (c := cap - (n + 1)) (ys := (newsL t.news).drop (n + 1)) 46 o1 g1 (by rw [List.length_drop]; omega) hsrc (by omega)
  obtain ⟨a2, c2, rfl⟩ := own_shape o2
  have e2 : (newsL t.news).take n ++ (newsL t.news).drop (n + 1) = newsL (dropAt t.news n) := by
    unfold dropAt newsL
    rw [List.map_append, List.map_take, List.map_drop]
  rw [e2] at o2
  have hd := (H.ext (Gr.refl w).drew).anew o2 (by unfold dropAt; rw [List.length_append, List.length_take, List.length_drop]; omega) (g2 _)
  exact ⟨A, a1, c1, w1, a2, _, c2, w2, hA, r1, r2, k1, fun b hb => (g2 none).block b hb (fun e => by cases e), hd.2⟩
end

end Go.Proofs.YtfcknkanbcndjagGreatDoor

/- THE REFERENCE'S Town: Do, the kinds hear, lose, double. -/
namespace Go.Proofs.YtfcknkanbcndjagGreatDoor
open Go.RowKit
attribute [local go_sem] Ext.all Ext.cell Ext.frozen Ext.lt Ext.lt1 Ext.lt2 Ext.ne Ext.ne'
section
variable {M : Nat → Prop} {B w : World} {p : Nat} {q : Nat → Nat} {v o : Value} {t : Tn}
set_option maxRecDepth 20000 in
set_option maxHeartbeats 8000000 in
theorem wdo_none (H : Tw M B w p q v o t) {k a b n : Int} (hk : k = 4 ∨ k = 5 ∨ k = 6) (hn : ¬ (0 ≤ n ∧ n < (t.news.length : Int))) (x y : Value) :
    Calls Tryz.prog 28 #[pv p, .agg #[iv k, iv a, iv b, iv n, x, y]] w fun e w' => e = .returned (iv 6) ∧ Gr w w' := by
  have T0 := hide (H.ext ((Gr.refl w).alloc (.cells #[iv k, iv a, iv b, iv n, x, y] 54)))
  have S0 := hide (sp_new w k a b n x y)
  have k1 : (k == 1) = false := by simp; omega
  have k2 : (k == 2) = false := by simp; omega
  have k3 : (k == 3) = false := by simp; omega
  have hk4 : ((k == 4) = true) ∨ ((k == 4) = false ∧ (k == 5) = true) ∨ ((k == 4) = false ∧ (k == 5) = false ∧ (k == 6) = true) := by
    rcases hk with rfl | rfl | rfl
    · exact .inl rfl
    · exact .inr (.inl ⟨rfl, rfl⟩)
    · exact .inr (.inr ⟨rfl, rfl, rfl⟩)
  obtain ⟨ao, cv, hv, _, _, _⟩ := H.nw.shape
  rw [newsL_len] at hv
  subst hv
  have hcase : (decide (n < 0) = true) ∨ (decide (n < 0) = false ∧ decide ((t.news.length : Int) ≤ n) = true) := by
    by_cases e : n < 0
    · exact .inl (decide_eq_true e)
    · exact .inr ⟨decide_eq_false e, decide_eq_true (by omega)⟩
  clear H hk hn
  rcases hk4 with k4 | ⟨k4, k5⟩ | ⟨k4, k5, k6⟩
  all_goals
    go_enter Tryz.func28, Tryz.ntmps28
    go_upto_region 26 with (fail)
    refine wp_gen (fun V => Hid (Tw M B V p q (.slice ao t.news.length cv) o t) ∧ Hid (VArr V 54 6 w.heap.size (spF k a b n x y)) ∧ Hid (Gr w V)) ⟨T0.out, S0.out, (Gr.refl w).alloc _⟩ ?_
    clear T0 S0
    generalize hX0 : w.heap.size = X at *
    clear hX0
    rintro V ⟨T0, S0, gV⟩
    obtain ⟨s1, s2, s3⟩ := sp_cells S0.out
    have hp := T0.out.blk.lt
    have hX := S0.out.lt
    have c2 := T0.out.news
    rcases hcase with h1 | ⟨h1, h2⟩
    all_goals
      refine wp_region_ext (by kernel_rfl) (by kernel_rfl) ?_
      repeat (go_big_quiet_step (fail))
      refine wpQuiet_nil ?_
      rintro _ ⟨d5, rfl⟩
      go_wp2_with fail
      go_ret
      exact ⟨rfl, gV.out.trans d5.gr⟩
end

end Go.Proofs.YtfcknkanbcndjagGreatDoor
