import Derived.Test.YthiojjkgodffnaeNe2
import Derived.Test.YthiojjkgodffnaeB1
import Derived.Test.YthiojjkgodffnaeD7
import Derived.Test.YthiojjkgodffnaeN7
import Derived.Test.YthiojjkgodffnaeNe4
/- THE REFERENCE'S Town IN MEMORY. -/
namespace Go.Proofs.Ythiojjkgodffnae
open Go.RowKit
attribute [local go_sem] Ext.all Ext.cell Ext.frozen Ext.lt Ext.lt1 Ext.lt2 Ext.ne Ext.ne'

/-- The cells of a Town: what links cost, its nodes, the news, whose is what. -/
def twF (cst : Nat → Nat → Int) (q : Nat → Nat) (v o : Value) : Nat → Value := fun i => if i < 36 then iv (cst (i / 6) (i % 6)) else if i < 42 then pv (q (i - 36)) else if i = 42 then v else o
/-- A Town at p, its nodes at q 0 .. q 5, its news in v; o: the cell behind; t: as numbers. Of the world B the blocks M are as they were, and none of M's is the Town's. -/
structure Tw (M : Nat → Prop) (B w : World) (p : Nat) (q : Nat → Nat) (v o : Value) (t : Tn) : Prop where
  kp : Kp M B w
  bd : ∀ b, M b → b < B.heap.size
  blk : VArr w 74 44 p (twF t.cst q v o)
  six : Six 89 w q t.nd
  nw : NwO 0 w v (newsL t.news)
  nop : ¬ M p
  noq : ∀ a, a < 6 → ¬ M (q a)
  nov : ∀ b, v.ownBlock = some b → ¬ M b
theorem Tw.pq {M : Nat → Prop} {B w : World} {p : Nat} {q : Nat → Nat} {v o : Value} {t : Tn} (h : Tw M B w p q v o t) (a : Nat) (ha : a < 6) : q a ≠ p := blk_ne (h.six.at_ a ha) h.blk (by decide)
theorem Tw.vp {M : Nat → Prop} {B w : World} {p : Nat} {q : Nat → Nat} {v o : Value} {t : Tn} (h : Tw M B w p q v o t) (b : Nat) (e : v.ownBlock = some b) : b ≠ p ∧ ∀ a, a < 6 → b ≠ q a :=
  ⟨h.nw.apart e h.blk (by decide), fun a ha => h.nw.apart e (h.six.at_ a ha) (by decide)⟩
theorem Tw.ext {M : Nat → Prop} {B w w' : World} {p : Nat} {q : Nat → Nat} {v o : Value} {t : Tn} (h : Tw M B w p q v o t) (g : Gr w w') : Tw M B w' p q v o t :=
  ⟨h.kp.ext g, h.bd, h.blk.gr g, h.six.gr g, h.nw.gr g, h.nop, h.noq, h.nov⟩
theorem Tw.cst {M : Nat → Prop} {B w : World} {p : Nat} {q : Nat → Nat} {v o : Value} {t : Tn} (h : Tw M B w p q v o t) {a b : Nat} (ha : a < 6) (hb : b < 6) : w.cell? ⟨p, a * 6 + b, none⟩ = some (iv (t.cst a b)) := by
  have := h.blk.cell (j := a * 6 + b) (by omega)
  unfold twF at this
  rw [if_pos (by omega), show (a * 6 + b) / 6 = a by omega, show (a * 6 + b) % 6 = b by omega] at this
  exact this
theorem Tw.node {M : Nat → Prop} {B w : World} {p : Nat} {q : Nat → Nat} {v o : Value} {t : Tn} (h : Tw M B w p q v o t) {a : Nat} (ha : a < 6) : w.cell? ⟨p, 36 + a, none⟩ = some (pv (q a)) := by
  have := h.blk.cell (j := 36 + a) (by omega)
  unfold twF at this
  rw [if_neg (by omega), if_pos (by omega), show 36 + a - 36 = a by omega] at this
  exact this
theorem Tw.news {M : Nat → Prop} {B w : World} {p : Nat} {q : Nat → Nat} {v o : Value} {t : Tn} (h : Tw M B w p q v o t) : w.cell? ⟨p, 42, none⟩ = some v := by
  have := h.blk.cell (j := 42) (by omega)
  unfold twF at this
  rw [if_neg (by omega), if_neg (by omega), if_pos rfl] at this
  exact this
/-- One node has changed. -/
theorem Tw.put {M : Nat → Prop} {B w w' : World} {p : Nat} {q : Nat → Nat} {v o : Value} {t : Tn} (h : Tw M B w p q v o t) {a : Nat} (ha : a < 6) {m : Md} (hw : Wr (q a) w w') (hm : MAt w' (q a) m) : Tw M B w' p q v o { t with nd := updW t.nd a m } :=
  ⟨h.kp.wr hw (h.noq a ha), h.bd, hw.varr h.blk (fun e => h.pq a ha e.symm), h.six.put ha hw hm, h.nw.keep (fun b e => hw.block b (h.nw.own_lt e) ((h.vp b e).2 a ha)), h.nop, h.noq, h.nov⟩
/-- All that is not the Town's. -/
def restT (w : World) (p : Nat) (q : Nat → Nat) (v : Value) : Nat → Prop := fun b => b < w.heap.size ∧ b ≠ p ∧ (∀ a, a < 6 → b ≠ q a) ∧ v.ownBlock ≠ some b
section
variable {M : Nat → Prop} {B w w' : World} {p : Nat} {q : Nat → Nat} {v v' o : Value} {t t' : Tn}
theorem Tw.rest (h : Tw M B w p q v o t) : Tw (restT w p q v) w w p q v o t :=
  ⟨Kp.refl _ _, fun _ hb => hb.1, h.blk, h.six, h.nw, fun x => x.2.1 rfl, fun a ha x => x.2.2.1 a ha rfl, fun _ e x => x.2.2.2 e⟩
theorem Tw.sub (h : Tw M B w p q v o t) {b : Nat} (hm : M b) : restT w p q v b :=
  ⟨Nat.lt_of_lt_of_le (h.bd b hm) h.kp.size, fun e => h.nop (e ▸ hm), fun a ha e => h.noq a ha (e ▸ hm), fun e => h.nov b e hm⟩
theorem Tw.unrest (h : Tw M B w p q v o t) (h' : Tw (restT w p q v) w w' p q v' o t') : Tw M B w' p q v' o t' :=
  ⟨h.kp.trans (h'.kp.mono fun _ _ hm => h.sub hm), h.bd, h'.blk, h'.six, h'.nw, h.nop, h.noq, fun b e hm => h'.nov b e (h.sub hm)⟩
theorem Tw.notOwn (h : Tw M B w p q v o t) (_g : Gr w w') {b : Nat} (hb : w.heap.size ≤ b) (hb' : b < w'.heap.size) : restT w' p q v b :=
  ⟨hb', fun e => by have := h.blk.lt; omega, fun a ha e => by have := (h.six.at_ a ha).lt; omega, fun e => by have := h.nw.own_lt e; omega⟩
theorem Tw.keep {N : Nat → Prop} (h : Tw M B w p q v o t) (hk : Kp N w w') (hMN : ∀ b, M b → N b) (h1 : N p) (h3 : ∀ a, a < 6 → N (q a)) (h4 : ∀ b, v.ownBlock = some b → N b) : Tw M B w' p q v o t :=
  ⟨h.kp.trans (hk.mono fun b _ hm => hMN b hm), h.bd, (hk.block p h.blk.lt h1).trans h.blk, h.six.keep (fun a ha => hk.block (q a) (h.six.at_ a ha).lt (h3 a ha)), h.nw.keep (fun b e => hk.block b (h.nw.own_lt e) (h4 b e)), h.nop, h.noq, h.nov⟩
end
/-- What is not the Town's is as it was, and still not the Town's. -/
structure FrW (w : World) (p : Nat) (q : Nat → Nat) (v : Value) (w' : World) (v' : Value) : Prop where
  kp : Kp (restT w p q v) w w'
  rst : ∀ {b}, restT w p q v b → restT w' p q v' b
theorem Tw.fr {w w' : World} {p : Nat} {q : Nat → Nat} {v v' o : Value} {t' : Tn} (h' : Tw (restT w p q v) w w' p q v' o t') : FrW w p q v w' v' :=
  ⟨h'.kp, fun {b} hb => ⟨Nat.lt_of_lt_of_le hb.1 h'.kp.size, hb.2.1, hb.2.2.1, fun e => h'.nov b e hb⟩⟩
theorem FrW.varr {w w' : World} {p : Nat} {q : Nat → Nat} {v v' : Value} (h : FrW w p q v w' v') {t n X : Nat} {g : Nat → Value} (k : VArr w t n X g) (hX : restT w p q v X) : VArr w' t n X g := (h.kp.block X hX.1 hX).trans k

end Go.Proofs.Ythiojjkgodffnae

/- THE REFERENCE'S Town: NewTown. -/
namespace Go.Proofs.Ythiojjkgodffnae
open Go.RowKit
attribute [local go_sem] Ext.all Ext.cell Ext.frozen Ext.lt Ext.lt1 Ext.lt2 Ext.ne Ext.ne'

/-- The cells of a Town that is being made: the first k nodes are there. -/
def nwF2 (q : Nat → Nat) (k : Nat) : Nat → Value := fun i => if i < 36 then iv 0 else if i < 42 then (if i - 36 < k then pv (q (i - 36)) else .pointer none) else .slice none 0 0
theorem zero_town (w : World) : (zeroValue 74).run Try.prog w = .ok (.agg (vcells 44 (nwF2 (fun _ => 0) 0))) w := by kernel_rfl

set_option maxRecDepth 20000 in
set_option maxHeartbeats 8000000 in
theorem newTown_ok (w : World) (M : Nat → Prop) (hM : ∀ b, M b → b < w.heap.size) : Calls Try.prog 11 #[] w fun e w' => ∃ q, e = .returned (pv w.heap.size) ∧ Tw M w w' w.heap.size q (.slice none 0 0) (.slice none 0 0) newT ∧ Gr w w' ∧ ∀ a, a < 6 → w.heap.size ≤ q a := by
  have HM := hide hM
  clear hM
  have M0 : Hid (VArr (w.alloc (.cells (vcells 44 (nwF2 (fun _ => 0) 0)) 74)) 74 44 w.heap.size (nwF2 (fun _ => 0) 0)) := VArr.new w 74 44 _
  have hz := zero_town
  generalize vcells 44 (nwF2 (fun _ => 0) 0) = Z at hz M0
  go_enter Try.func11, Try.ntmps11
  go_upto_region 2 with (fail)
  refine wp_gen (fun V => Hid (VArr V 74 44 w.heap.size (nwF2 (fun _ => 0) 0)) ∧ Hid (Gr w V)) ⟨M0.out, (Gr.refl _).alloc _⟩ ?_
  clear M0 hz
  generalize hp : w.heap.size = p at *
  have hpw : w.heap.size ≤ p := by omega
  have HP := hide hp
  clear hp
  rintro V ⟨M0, g0⟩
  go_wp2_with fail
  go_loopw [2] (fun v2 wr => ∃ (k : Nat) (q : Nat → Nat), k ≤ 6 ∧ v2 = .int .i64 (k : Int) ∧ Hid (VArr wr 74 44 p (nwF2 q k)) ∧ Hid (∀ a, a < k → MAt wr (q a) (newM a) ∧ w.heap.size ≤ q a ∧ q a ≠ p ∧ ∀ b, b < k → a ≠ b → q a ≠ q b) ∧ Hid (Gr w wr)) (fun v2 _ => (6 - intOf v2).toNat)
  case atStart => exact ⟨0, fun _ => 0, by omega, rfl, M0, fun a ha => by omega, g0⟩
  case round =>
    clear M0 g0
    obtain ⟨k, q, hk6, rfl, M0, Q0, g0⟩ := hrel
    by_cases hk : k < 6
    · have hki : decide ((k : Int) < 6) = true := decide_eq_true (by omega)
      have hk0 : (k : Int) < 6 := by omega
      have wk : IntKind.i64.wrap ((k : Int) + 1) = (k : Int) + 1 := by rw [IntKind.wrap_i64]; omega
      have HN := hide (newMind_ok hk wr.drew)
      have fz := VArr.free M0.out
      have q0 := VArr.cell M0.out (j := 36 + k) (by omega)
      have hp := VArr.lt M0.out
      go_upto_region 5 with (fail)
      go_region_with (go_at_call 32; with_reducible refine HN.out.mono ?_; rintro e V1 ⟨rfl, N1', g1'⟩; have N1 := hide N1'; have G1 := hide ((Gr.refl wr).drewTo g1'); clear N1' g1'; have hp2 := VArr.lt (M0.out.gr G1.out); have fz2 := VArr.free (M0.out.gr G1.out); have r0 := VArr.cell (M0.out.gr G1.out) (j := 36 + k) (by omega))
      all_goals
        have SM : Hid (VArr (V1.setCell ⟨p, 36 + k, none⟩ (pv wr.heap.size)) 74 44 p (nwF2 (updW q k wr.heap.size) (k + 1))) := (M0.out.gr G1.out).set (fun i hi => by
          unfold nwF2
          by_cases e1 : i < 36
          · rw [if_pos e1, if_pos e1, if_neg (by omega)]
          · rw [if_neg e1, if_neg e1]
            by_cases e2 : i < 42
            · rw [if_pos e2, if_pos e2]
              by_cases e3 : i = 36 + k
              · rw [if_pos e3, if_pos (by omega), show i - 36 = k by omega, updW_same]
              · rw [if_neg e3]
                by_cases e4 : i - 36 < k
                · rw [if_pos e4, if_pos (by omega), updW_ne _ _ (by omega)]
                · rw [if_neg e4, if_neg (by omega)]
            · rw [if_neg e2, if_neg e2, if_neg (by omega)])
        have hkp : wr.heap.size ≠ p := by omega
        have SQ : Hid (∀ a, a < k + 1 → MAt (V1.setCell ⟨p, 36 + k, none⟩ (pv wr.heap.size)) (updW q k wr.heap.size a) (newM a) ∧ w.heap.size ≤ updW q k wr.heap.size a ∧ updW q k wr.heap.size a ≠ p ∧ ∀ b, b < k + 1 → a ≠ b → updW q k wr.heap.size a ≠ updW q k wr.heap.size b) := fun a ha => by
          have lt : ∀ b, b < k → q b < wr.heap.size := fun b hb => (Q0.out b hb).1.lt
          have hs := Below.size g0.out
          by_cases e : a = k
          · subst e
            rw [updW_same]
            refine ⟨ZArr.other (N1.out) hkp _ _, by omega, hkp, fun b hb hne => ?_⟩
            rw [updW_ne _ _ (fun x => hne x.symm)]
            have := lt b (by omega)
            omega
          · rw [updW_ne _ _ e]
            obtain ⟨h1, h2, h3, h4⟩ := Q0.out a (by omega)
            refine ⟨ZArr.other (h1.gr G1.out) h3 _ _, h2, h3, fun b hb hne => ?_⟩
            by_cases e2 : b = k
            · subst e2
              rw [updW_same]
              have := lt a (by omega)
              omega
            · rw [updW_ne _ _ e2]; exact h4 b (by omega) hne
        have SG := hide ((g0.out.trans G1.out).setCell (p := ⟨p, 36 + k, none⟩) hpw (pv wr.heap.size))
        go_wp2_with fail
        go_roundw
        case rel => exact ⟨k + 1, _, by omega, by congr 1, SM, SQ, SG⟩
        case measure => simp [intOf]; omega
    · have hki : decide ((k : Int) < 6) = false := decide_eq_false (by omega)
      have ek : k = 6 := by omega
      subst ek
      have SB : Hid (VArr wr 74 44 p (twF (fun _ _ => 0) q (.slice none 0 0) (.slice none 0 0))) := M0.out.congr (fun j hj => by
        unfold nwF2 twF
        by_cases e1 : j < 36
        · rw [if_pos e1, if_pos e1]
        · rw [if_neg e1, if_neg e1]
          by_cases e2 : j < 42
          · rw [if_pos e2, if_pos e2, if_pos (by omega)]
          · rw [if_neg e2, if_neg e2]; split <;> rfl)
      go_wp2_with fail
      have hpe := HP.out
      clear HP
      subst hpe
      go_ret
      have no : ∀ b, w.heap.size ≤ b → ¬ M b := fun b hb hm => by have := HM.out b hm; omega
      exact ⟨q, rfl, ⟨g0.out.kp M, HM.out, SB.out, ⟨fun a ha => (Q0.out a ha).1, fun a b ha hb hne => (Q0.out a ha).2.2.2 b hb hne⟩, NwO.nil _ _, no _ (Nat.le_refl _), fun a ha => no _ (Q0.out a ha).2.1, fun b e => by cases e⟩, g0.out, fun a ha => (Q0.out a ha).2.1⟩

end Go.Proofs.Ythiojjkgodffnae

/- THE REFERENCE'S Town: Way. -/
namespace Go.Proofs.Ythiojjkgodffnae
open Go.RowKit
attribute [local go_sem] Ext.all Ext.cell Ext.frozen Ext.lt Ext.lt1 Ext.lt2 Ext.ne Ext.ne'

set_option maxRecDepth 20000 in
set_option maxHeartbeats 8000000 in
theorem wway_any {M : Nat → Prop} {B w : World} {p : Nat} {q : Nat → Nat} {v o : Value} {t : Tn} (H : Tw M B w p q v o t) (a k : Int) :
    Calls Try.prog 19 #[pv p, iv a, iv k] w fun e w' => e = .returned (wayV (wayTn t a k)) ∧ ∃ d : Ext w, w' = d.out := by
  have hp := H.blk.lt
  by_cases e : 0 ≤ a ∧ a < 6
  · have B1 : Hid (decide (0 ≤ a ∧ a < 6) = true) := decide_eq_true e
    obtain ⟨z, rfl⟩ : ∃ z : Nat, a = (z : Int) := ⟨a.toNat, by omega⟩
    have hz : z < 6 := by omega
    have hzi : (z : Int) < 6 := by omega
    have c0 := H.node hz
    have HV : Hid (wayTn t z k = wayOf (t.nd z) k) := by unfold Hid wayTn; rw [if_pos e, Int.toNat_natCast]
    have HW := hide (fun (X : World) (g : Gr w X) => mway_any ((H.six.at_ z hz).gr g) k)
    generalize wayOf (t.nd z) k = vv at *
    obtain ⟨s, d, h⟩ := vv
    simp only [wayV] at HW
    clear H e
    go_enter Try.func19, Try.ntmps19
    go_wp2_with (first | (go_at_call 29; with_reducible refine (isNode_is B1.out _).mono ?_; rintro e w1 ⟨rfl, hw1⟩; subst hw1) | (go_at_call 49; with_reducible refine (HW.out _ ((Gr.refl _).alloc _)).mono ?_; rintro e _ ⟨rfl, d1, rfl⟩))
    refine bodyPost_ret (v := .agg #[iv s, iv d, iv h]) (by simp [results, Try.results19, go_sem]) rfl ⟨by rw [HV.out]; rfl, ext_mk ?_⟩
    exact (((((Gr.refl _).alloc _).trans d1.gr).setCell (by simp) _).setCell (by simp) _).setCell (by simp) _
  · have B1 : Hid (decide (0 ≤ a ∧ a < 6) = false) := decide_eq_false e
    have HV : Hid (wayTn t a k = (0, 200, -1)) := by unfold Hid wayTn; rw [if_neg e]
    clear H e
    go_enter Try.func19, Try.ntmps19
    go_wp2_with (go_at_call 29; with_reducible refine (isNode_is B1.out _).mono ?_; rintro e w1 ⟨rfl, hw1⟩; subst hw1)
    refine bodyPost_ret (v := .agg #[iv 0, iv 200, iv (-1)]) (by simp [results, Try.results19, go_sem]) rfl ⟨by rw [HV.out]; rfl, ext_mk ?_⟩
    first
      | exact (Gr.refl _).alloc _
      | exact (((((Gr.refl _).alloc _).setCell (by simp) _).setCell (by simp) _).setCell (by simp) _)

end Go.Proofs.Ythiojjkgodffnae

/- THE REFERENCE'S Town: its news put anew. -/
namespace Go.Proofs.Ythiojjkgodffnae
open Go.RowKit
attribute [local go_sem] Ext.all Ext.cell Ext.frozen Ext.lt Ext.lt1 Ext.lt2 Ext.ne Ext.ne'

/-- The news have changed: the row behind them, and the Town's own word of it. -/
theorem Tw.newsPut {M : Nat → Prop} {B w w' : World} {p : Nat} {q : Nat → Nat} {v o v' : Value} {t : Tn} {nl : List Nw} (h : Tw M B w p q v o t) (g : w.grownBy w' v.ownBlock) (hn : NwO 0 w' v' (newsL nl)) (ho : v'.ownBlock = none ∨ v'.ownBlock = v.ownBlock ∨ ∃ b, v'.ownBlock = some b ∧ w.heap.size ≤ b) :
    Tw M B (w'.setCell ⟨p, 42, none⟩ v') p q v' o { t with news := nl } := by
  have kb : ∀ {b : Nat}, b < w.heap.size → (∀ x, v.ownBlock = some x → x ≠ b) → w'.heap[b]? = w.heap[b]? := fun {b} hb hx => g.block b hb (fun e => hx b e.symm rfl)
  have hblk : VArr w' 74 44 p (twF t.cst q v o) := (kb h.blk.lt (fun x e => (h.vp x e).1)).trans h.blk
  have hs : Six 89 w' q t.nd := h.six.keep (fun a ha => kb (h.six.at_ a ha).lt (fun x e => (h.vp x e).2 a ha))
  have hp' : ∀ b, v'.ownBlock = some b → b ≠ p := fun b e => hn.apart e hblk (by decide)
  refine ⟨(h.kp.trans (Kp.grown g (fun b e => h.nov b e))).set h.nop _ _, h.bd, hblk.set fun i hi => ?_, hs.keep (fun a ha => Below.heap_setCell w' ⟨p, 42, none⟩ v' (q a) (h.pq a ha)), hn.keep (fun b e => Below.heap_setCell w' ⟨p, 42, none⟩ v' b (hp' b e)), h.nop, h.noq, fun b e hm => ?_⟩
  · unfold twF
    by_cases e1 : i < 36
    · rw [if_pos e1, if_pos e1, if_neg (by omega)]
    · rw [if_neg e1, if_neg e1]
      by_cases e2 : i < 42
      · rw [if_pos e2, if_pos e2, if_neg (by omega)]
      · rw [if_neg e2, if_neg e2]
        by_cases e3 : i = 42
        · rw [if_pos e3, if_pos e3]
        · rw [if_neg e3, if_neg e3, if_neg e3]
  · rcases ho with o1 | o1 | ⟨x, o1, o2⟩
    · rw [o1] at e; cases e
    · exact h.nov b (o1 ▸ e) hm
    · rw [o1] at e
      have := h.bd b hm
      have := h.kp.size
      cases e
      omega
/-- News are put behind all others: the append, and the store behind it. -/
theorem Tw.app {M : Nat → Prop} {B w : World} {p : Nat} {q : Nat → Nat} {v o : Value} {t : Tn} (H : Tw M B w p q v o t) {ao : Option Addr} {cp : Nat} (ty : TypeId) {nl : List Nw} (hN : NewsAt w ao (newsL nl)) (h0 : 0 < nl.length) (hm : t.news.length + nl.length ≤ 1000) :
    ∃ v' w', (Builtin.append_ #[49, 49] ty #[v, .slice ao nl.length cp]).run Try.prog w = .ok v' w' ∧ (∃ a n c, v' = .slice a n c) ∧ (VArr w' 74 44 p (twF t.cst q v o)) ∧ Tw M B (w'.setCell ⟨p, 42, none⟩ v') p q v' o { t with news := t.news ++ nl } := by
  obtain ⟨v', w', h1, h2, h3, h4⟩ := NwO.app (c := cp) ty H.nw (Nat.zero_le _) hN (by rw [newsL_len]; exact h0) (by rw [newsL_len, newsL_len]; exact hm)
  rw [newsL_len] at h1
  have hb : VArr w' 74 44 p (twF t.cst q v o) := (h3.block p H.blk.lt (fun e => (H.vp _ e.symm).1 rfl)).trans H.blk
  obtain ⟨a, n, e, _⟩ := h2.shape
  refine ⟨v', w', h1, ⟨a, _, n, e⟩, hb, H.newsPut h3 (by rw [newsL_app]; exact h2) ?_⟩
  rcases h4 with h4 | h4
  · exact .inr (.inl h4)
  · exact .inr (.inr ⟨_, h4, Nat.le_refl _⟩)

end Go.Proofs.Ythiojjkgodffnae
