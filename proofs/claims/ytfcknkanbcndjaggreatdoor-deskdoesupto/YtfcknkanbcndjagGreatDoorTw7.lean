import Derived.Test.YtfcknkanbcndjagGreatDoorD2
import Derived.Test.YtfcknkanbcndjagGreatDoorN1
import Derived.Test.YtfcknkanbcndjagGreatDoorD8
import Derived.Test.YtfcknkanbcndjagGreatDoorRBt
import Derived.Test.YtfcknkanbcndjagGreatDoorNe9
import Derived.Test.YtfcknkanbcndjagGreatDoorKPlain2
import Derived.Test.YtfcknkanbcndjagGreatDoorNe13
/- CONTRACT OF handpostref.IsNode. -/
namespace Go.Proofs.YtfcknkanbcndjagGreatDoor
open Go.RowKit
attribute [local go_sem] Ext.all Ext.cell Ext.frozen Ext.lt Ext.lt1 Ext.lt2 Ext.ne Ext.ne'
theorem isNode_is {k : Int} {v : Bool} (h : decide (0 ≤ k ∧ k < 6) = v) (w : World) : Calls Tryz.prog 9 #[iv k] w fun e w' => e = .returned (.bool v) ∧ w' = w := by
  subst h
  by_cases e : 0 ≤ k
  · have e1 : decide (0 ≤ k ∧ k < 6) = decide (k < 6) := by simp [e]
    rw [e1]
    clear e1
    go_enter Tryz.func9, Tryz.ntmps9
    go_wp2
    go_ret
    exact ⟨rfl, rfl⟩
  · have e1 : decide (0 ≤ k ∧ k < 6) = false := by simp [e]
    have e2 : decide (0 ≤ k) = false := decide_eq_false e
    rw [e1]
    clear e1 e
    go_enter Tryz.func9, Tryz.ntmps9
    go_wp2
    go_ret
    exact ⟨rfl, rfl⟩

theorem isNode_ext {k : Int} {v : Bool} (h : decide (0 ≤ k ∧ k < 6) = v) {B : World} (x : Ext B) : Calls Tryz.prog 9 #[iv k] x.out fun e w' => e = .returned (.bool v) ∧ ∃ m : Ext B, w' = m.out :=
  (isNode_is h x.out).mono fun _ _ ⟨he, hw⟩ => ⟨he, x, hw⟩

end Go.Proofs.YtfcknkanbcndjagGreatDoor

/- CONTRACTS OF handpostref: IsNode, Mind.Tick. -/
namespace Go.Proofs.YtfcknkanbcndjagGreatDoor
open Go.RowKit
attribute [local go_sem] Ext.all Ext.cell Ext.frozen Ext.lt Ext.lt1 Ext.lt2 Ext.ne Ext.ne'
set_option maxRecDepth 20000 in
set_option maxHeartbeats 8000000 in
theorem mtick_any {w : World} {p : Nat} {m : Md} (H : MAt w p m) (hme : m.me < 6) (hs : 0 ≤ (m.ways m.me).1) (hs2 : (m.ways m.me).1 < 4611686018427387904) :
    Calls Tryz.prog 51 #[pv p] w fun e w' => e = .returned (.tuple #[]) ∧ MAt w' p (tickM m) ∧ Wr p w w' := by
  have c0 := H.me
  have hp := H.lt
  have fz := ZArr.free H
  obtain ⟨q0, q1, q2⟩ := H.ways hme
  have hmi : (m.me : Int) < 6 := by omega
  have wb : IntKind.i64.wrap ((m.ways m.me).1 + 1) = (m.ways m.me).1 + 1 := by rw [IntKind.wrap_i64]; omega
  have SM := hide (H.setAge hme ((m.ways m.me).1 + 1))
  have SW := hide ((Wr.refl p w).set (79 + m.me * 3) (iv ((m.ways m.me).1 + 1)))
  have HT : Hid (tickM m = { { m with ways := updW m.ways m.me ((m.ways m.me).1 + 1, (m.ways m.me).2.1, (m.ways m.me).2.2) } with bests := updW m.bests m.me ((m.ways m.me).1 + 1, 0) }) := rfl
  have HA : Hid ((updW m.ways m.me ((m.ways m.me).1 + 1, (m.ways m.me).2.1, (m.ways m.me).2.2) m.me).1 = (m.ways m.me).1 + 1) := by unfold Hid; simp [updW]
  clear H hs hs2
  generalize hM : ({ m with ways := updW m.ways m.me ((m.ways m.me).1 + 1, (m.ways m.me).2.1, (m.ways m.me).2.2) } : Md) = m1 at *
  have hm1 : m1.me = m.me := by rw [← hM]
  have hm2 : (m1.ways m.me).1 = (m.ways m.me).1 + 1 := by rw [← hM]; exact HA.out
  have HB : Hid (m1.bests = m.bests) := by unfold Hid; rw [← hM]
  generalize (m.ways m.me).1 = a at *
  go_enter Tryz.func51, Tryz.ntmps51
  go_upto_region 0 with (fail)
  go_still_tail 15, (by kernel_rfl)
  go_upto_region 1 with (fail)
  refine wp_gen (fun V => Hid (MAt V p m1) ∧ Hid (Wr p w V)) ⟨SM.out.gr (Gr.refl _).drew, SW.out.trans ((Gr.refl _).drew.wr p)⟩ ?_
  clear SM SW c0 hp fz q0 q1 q2
  rintro V ⟨M0, gW⟩
  have c0 := M0.out.me
  rw [hm1] at c0
  have hp := M0.out.lt
  have fz := ZArr.free M0.out
  obtain ⟨q0, _, _⟩ := M0.out.ways hme
  rw [hm2] at q0
  obtain ⟨r0, r1⟩ := M0.out.bests hme
  have SM := hide (M0.out.setBests hme (a + 1) 0)
  have SW := hide ((gW.out.set (97 + m.me * 2) (iv (a + 1))).set (97 + m.me * 2 + 1) (iv 0))
  clear M0 gW
  go_still_tail 19, (by kernel_rfl)
  go_wp2_with fail
  refine bodyPost_end (results_none rfl _ _ _) rfl ?_
  exact ⟨rfl, by rw [HT.out]; have := SM.out.gr (Gr.refl _).drew; rw [HB.out] at this; exact this, SW.out.trans ((Gr.refl _).drew.wr p)⟩

end Go.Proofs.YtfcknkanbcndjagGreatDoor

/- CONTRACTS OF handpostref: Mind.Tell, Mind.Way, SameNews. -/
namespace Go.Proofs.YtfcknkanbcndjagGreatDoor
open Go.RowKit
attribute [local go_sem] Ext.all Ext.cell Ext.frozen Ext.lt Ext.lt1 Ext.lt2 Ext.ne Ext.ne'
set_option maxRecDepth 20000 in
set_option maxHeartbeats 8000000 in
theorem mtell_any {w : World} {p : Nat} {m : Md} (H : MAt w p m) (who : Int) :
    Calls Tryz.prog 103 #[pv p, iv who] w fun e w' => ∃ v, e = .returned v ∧ OwnN w w' v (tellL m who 6) ∧ Gr w w' := by
  have HM := hide (fun (X : World) (g : Gr w X) => H.gr g)
  have HT : Hid (∀ k, tellL m who (k + 1) = tellL m who k ++ [((m.me : Int), who, (k : Int), (m.ways k).1, (m.ways k).2.1)]) := fun _ => rfl
  clear H
  go_enter Tryz.func103, Tryz.ntmps103
  go_wp2_with fail
  go_loopw [5, 6] (fun v5 v6 wr => ∃ (k : Nat) (u : Value), u = v5 ∧ k ≤ 6 ∧ v6 = .int .i64 (k : Int) ∧ Hid (OwnN w wr u (tellL m who k)) ∧ Hid (Gr w wr)) (fun _ v6 _ => (6 - intOf v6).toNat)
  case atStart => exact ⟨0, _, rfl, by omega, rfl, OwnN.nil _ _, Gr.refl _⟩
  case round =>
    obtain ⟨k, u, rfl, hk6, rfl, O1, gw⟩ := hrel
    by_cases hk : k < 6
    · have hki : decide ((k : Int) < 6) = true := decide_eq_true (by omega)
      have hk0 : (k : Int) < 6 := by omega
      have wk : IntKind.i64.wrap ((k : Int) + 1) = (k : Int) + 1 := by rw [IntKind.wrap_i64]; omega
      have HTK := hide (HT.out k)
      have hlen := tell_len m who k
      have HC : Hid (∀ X : World, Gr w X → X.cell? ⟨p, 0, none⟩ = some (iv (m.me : Int)) ∧ X.cell? ⟨p, 79 + k * 3, none⟩ = some (iv (m.ways k).1) ∧ X.cell? ⟨p, 79 + k * 3 + 1, none⟩ = some (iv (m.ways k).2.1)) := fun X g => ⟨(HM.out X g).me, ((HM.out X g).ways hk).1, ((HM.out X g).ways hk).2.1⟩
      have hpl := (HM.out _ gw.out).lt
      generalize m.ways k = v at *
      obtain ⟨s, d, h⟩ := v
      simp only at HTK HC
      go_upto_region 5 with (fail)
      obtain ⟨v', w', hrun, hown, hgr⟩ := OwnN.app 46 (O1.out.gr (Gr.refl wr).drew) gw.out.drew ((m.me : Int), who, (k : Int), s, d) (by omega)
      have HR : Hid ((Builtin.append_ #[46, 46] 46 #[u, .slice (some ⟨wr.heap.size, 0, none⟩) 1 1]).run Tryz.prog (wr.alloc (.cells #[iv (m.me : Int), iv who, iv (k : Int), iv s, iv d] 114)).drew = .ok v' w') := hrun
      have HW := hide hown
      have HG := hide hgr
      have HK1 := hide (HC.out _ gw.out.drew)
      have HK2 := hide (HC.out _ (gw.out.alloc (.cells #[iv (m.me : Int), iv who, iv (k : Int), iv s, iv d] 114)).drew)
      have HK3 := hide (HC.out _ HG.out)
      clear hrun hown hgr HC
      go_region_held3 (fun W => W.cell? ⟨p, 0, none⟩ = some (iv (m.me : Int)) ∧ W.cell? ⟨p, 79 + k * 3, none⟩ = some (iv s) ∧ W.cell? ⟨p, 79 + k * 3 + 1, none⟩ = some (iv d)) (first | exact HK1.out | exact HK2.out | exact HK3.out | go_keep)
        (first
        | (refine step_append_eq rfl (.tmp 11) (.tmp 33) 46 46 rfl u (.slice (some ⟨wr.heap.size, 0, none⟩) 1 1) rfl rfl (v' := v') (w' := w') HR.out ?_)
        | fail)
      all_goals
        go_wp2_with fail
        go_roundw
        case rel => exact ⟨k + 1, _, rfl, by omega, by congr 1, by rw [HTK.out]; exact HW, HG⟩
        case measure => simp [intOf]; omega
    · have hki : decide ((k : Int) < 6) = false := decide_eq_false (by omega)
      have ek : k = 6 := by omega
      subst ek
      go_wp2_with fail
      go_ret
      exact ⟨_, rfl, O1.out, gw.out⟩

set_option maxRecDepth 20000 in
set_option maxHeartbeats 8000000 in
theorem mway_any {w : World} {p : Nat} {m : Md} (H : MAt w p m) (k : Int) :
    Calls Tryz.prog 137 #[pv p, iv k] w fun e w' => e = .returned (wayV (wayOf m k)) ∧ ∃ d : Ext w, w' = d.out := by
  have hp := H.lt
  by_cases e : 0 ≤ k ∧ k < 6
  · have B1 : Hid (decide (0 ≤ k ∧ k < 6) = true) := decide_eq_true e
    obtain ⟨z, rfl⟩ : ∃ z : Nat, k = (z : Int) := ⟨k.toNat, by omega⟩
    have hz : z < 6 := by omega
    have hzi : (z : Int) < 6 := by omega
    obtain ⟨q0, q1, q2⟩ := H.ways hz
    have HV := hide (wayOf_nat m hz)
    generalize m.ways z = v at *
    obtain ⟨s, d, h⟩ := v
    simp only at q0 q1 q2
    clear H e
    go_enter Tryz.func137, Tryz.ntmps137
    go_wp2_with (go_at_call 9; with_reducible refine (isNode_is B1.out _).mono ?_; rintro e w1 ⟨rfl, hw1⟩; subst hw1)
    refine bodyPost_ret (v := .agg #[iv s, iv d, iv h]) (by simp [results, Tryz.results137, go_sem]) rfl ⟨by rw [HV.out]; rfl, ext_mk ?_⟩
    first
      | exact (Gr.refl _).alloc _
      | exact (((((Gr.refl _).alloc _).setCell (by simp) _).setCell (by simp) _).setCell (by simp) _)
  · have B1 : Hid (decide (0 ≤ k ∧ k < 6) = false) := decide_eq_false e
    have HV : Hid (wayOf m k = (0, 200, -1)) := by unfold Hid wayOf; rw [if_neg e]
    clear H e
    go_enter Tryz.func137, Tryz.ntmps137
    go_wp2_with (go_at_call 9; with_reducible refine (isNode_is B1.out _).mono ?_; rintro e w1 ⟨rfl, hw1⟩; subst hw1)
    refine bodyPost_ret (v := .agg #[iv 0, iv 200, iv (-1)]) (by simp [results, Tryz.results137, go_sem]) rfl ⟨by rw [HV.out]; rfl, ext_mk ?_⟩
    first
      | exact (Gr.refl _).alloc _
      | exact (((((Gr.refl _).alloc _).setCell (by simp) _).setCell (by simp) _).setCell (by simp) _)

end Go.Proofs.YtfcknkanbcndjagGreatDoor

/- THE REFERENCE'S Town: Way. -/
namespace Go.Proofs.YtfcknkanbcndjagGreatDoor
open Go.RowKit
attribute [local go_sem] Ext.all Ext.cell Ext.frozen Ext.lt Ext.lt1 Ext.lt2 Ext.ne Ext.ne'
set_option maxRecDepth 20000 in
set_option maxHeartbeats 8000000 in
theorem wway_any {M : Nat → Prop} {B w : World} {p : Nat} {q : Nat → Nat} {v o : Value} {t : Tn} (H : Tw M B w p q v o t) (a k : Int) :
    Calls Tryz.prog 95 #[pv p, iv a, iv k] w fun e w' => e = .returned (wayV (wayTn t a k)) ∧ ∃ d : Ext w, w' = d.out := by
  have hp := H.blk.lt
  by_cases e : 0 ≤ a ∧ a < 6
  · have B1 : Hid (decide (0 ≤ a ∧ a < 6) = true) := decide_eq_true e
    obtain ⟨z, rfl⟩ : ∃ z : Nat, a = (z : Int) := ⟨a.toNat, by omega⟩
    have hz : z < 6 := by omega
    have hzi : (z : Int) < 6 := by omega
    have c0 := H.node hz
    have HV : Hid (wayTn t z k = wayOf (t.nd z) k) := by unfold Hid wayTn; rw [if_pos e, Int.toNat_natCast]
    have HW := hide (fun (X : World) (g : Gr w X) => mway_any ((H.six.at_ z hz).gr g) k)
    generalize wayOf (t.nd z) k = vv at *
    obtain ⟨s, d, h⟩ := vv
    simp only [wayV] at HW
    clear H e
    go_enter Tryz.func95, Tryz.ntmps95
    go_wp2_with (first | (go_at_call 9; with_reducible refine (isNode_is B1.out _).mono ?_; rintro e w1 ⟨rfl, hw1⟩; subst hw1) | (go_at_call 137; with_reducible refine (HW.out _ ((Gr.refl _).alloc _)).mono ?_; rintro e _ ⟨rfl, d1, rfl⟩))
    refine bodyPost_ret (v := .agg #[iv s, iv d, iv h]) (by simp [results, Tryz.results95, go_sem]) rfl ⟨by rw [HV.out]; rfl, ext_mk ?_⟩
    exact (((((Gr.refl _).alloc _).trans d1.gr).setCell (by simp) _).setCell (by simp) _).setCell (by simp) _
  · have B1 : Hid (decide (0 ≤ a ∧ a < 6) = false) := decide_eq_false e
    have HV : Hid (wayTn t a k = (0, 200, -1)) := by unfold Hid wayTn; rw [if_neg e]
    clear H e
    go_enter Tryz.func95, Tryz.ntmps95
    go_wp2_with (go_at_call 9; with_reducible refine (isNode_is B1.out _).mono ?_; rintro e w1 ⟨rfl, hw1⟩; subst hw1)
    refine bodyPost_ret (v := .agg #[iv 0, iv 200, iv (-1)]) (by simp [results, Tryz.results95, go_sem]) rfl ⟨by rw [HV.out]; rfl, ext_mk ?_⟩
    first
      | exact (Gr.refl _).alloc _
      | exact (((((Gr.refl _).alloc _).setCell (by simp) _).setCell (by simp) _).setCell (by simp) _)

end Go.Proofs.YtfcknkanbcndjagGreatDoor

/- THE REFERENCE'S Town: its news put anew. -/
namespace Go.Proofs.YtfcknkanbcndjagGreatDoor
open Go.RowKit
attribute [local go_sem] Ext.all Ext.cell Ext.frozen Ext.lt Ext.lt1 Ext.lt2 Ext.ne Ext.ne'
/-- The news have changed: the row behind them, and the Town's own word of it. -/
theorem Tw.newsPut {M : Nat → Prop} {B w w' : World} {p : Nat} {q : Nat → Nat} {v o v' : Value} {t : Tn} {nl : List Nw} (h : Tw M B w p q v o t) (g : w.grownBy w' v.ownBlock) (hn : NwO 0 w' v' (newsL nl)) (ho : v'.ownBlock = none ∨ v'.ownBlock = v.ownBlock ∨ ∃ b, v'.ownBlock = some b ∧ w.heap.size ≤ b) :
    Tw M B (w'.setCell ⟨p, 42, none⟩ v') p q v' o { t with news := nl } := by
  have kb : ∀ {b : Nat}, b < w.heap.size → (∀ x, v.ownBlock = some x → x ≠ b) → w'.heap[b]? = w.heap[b]? := fun {b} hb hx => g.block b hb (fun e => hx b e.symm rfl)
  have hblk : VArr w' 110 44 p (twF t.cst q v o) := (kb h.blk.lt (fun x e => (h.vp x e).1)).trans h.blk
  have hs : Six 177 w' q t.nd := h.six.keep (fun a ha => kb (h.six.at_ a ha).lt (fun x e => (h.vp x e).2 a ha))
  have hp' : ∀ b, v'.ownBlock = some b → b ≠ p := fun b e => hn.apart e hblk (by decide)
  refine ⟨(h.kp.trans (Kp.grown g (fun b e => h.nov b e))).set h.nop _ _, h.bd, hblk.set fun i hi => ?_, hs.keep (fun a ha => Below.heap_setCell w' ⟨p, 42, none⟩ v' (q a) (h.pq a ha)), hn.keep (fun b e => Below.heap_setCell w' ⟨p, 42, none⟩ v' b (hp' b e)), h.nop, h.noq, fun b e hm => ?_⟩
  · unfold twF
    by_cases e1 : i < 36
    · rw [if_pos e1, if_pos e1, if_neg (by omega)]
    · rw [if_neg e1, if_neg e1]
      by_cases e2 : i < 42
      · rw [if_pos e2, if_pos e2, if_neg (by omega)]
      · rw [if_neg e2, if_neg e2]
        by_cases e3 : i = 42
        · rw [if_pos e3, if_pos e3]
        · rw [if_neg e3, if_neg e3, if_neg e3]
  · rcases ho with o1 | o1 | ⟨x, o1, o2⟩
    · rw [o1] at e; cases e
    · exact h.nov b (o1 ▸ e) hm
    · rw [o1] at e
      have := h.bd b hm
      have := h.kp.size
      cases e
      omega
/-- News are put behind all others: the append, and the store behind it. -/
theorem Tw.app {M : Nat → Prop} {B w : World} {p : Nat} {q : Nat → Nat} {v o : Value} {t : Tn} (H : Tw M B w p q v o t) {ao : Option Addr} {cp : Nat} (ty : TypeId) {nl : List Nw} (hN : NewsAt w ao (newsL nl)) (h0 : 0 < nl.length) (hm : t.news.length + nl.length ≤ 1000) :
    ∃ v' w', (Builtin.append_ #[46, 46] ty #[v, .slice ao nl.length cp]).run Tryz.prog w = .ok v' w' ∧ (∃ a n c, v' = .slice a n c) ∧ (VArr w' 110 44 p (twF t.cst q v o)) ∧ Tw M B (w'.setCell ⟨p, 42, none⟩ v') p q v' o { t with news := t.news ++ nl } := by
  obtain ⟨v', w', h1, h2, h3, h4⟩ := NwO.app (c := cp) ty H.nw (Nat.zero_le _) hN (by rw [newsL_len]; exact h0) (by rw [newsL_len, newsL_len]; exact hm)
  rw [newsL_len] at h1
  have hb : VArr w' 110 44 p (twF t.cst q v o) := (h3.block p H.blk.lt (fun e => (H.vp _ e.symm).1 rfl)).trans H.blk
  obtain ⟨a, n, e, _⟩ := h2.shape
  refine ⟨v', w', h1, ⟨a, _, n, e⟩, hb, H.newsPut h3 (by rw [newsL_app]; exact h2) ?_⟩
  rcases h4 with h4 | h4
  · exact .inr (.inl h4)
  · exact .inr (.inr ⟨_, h4, Nat.le_refl _⟩)

end Go.Proofs.YtfcknkanbcndjagGreatDoor

/- THE REFERENCE'S Town: tell, where all is right. -/
namespace Go.Proofs.YtfcknkanbcndjagGreatDoor
open Go.RowKit
attribute [local go_sem] Ext.all Ext.cell Ext.frozen Ext.lt Ext.lt1 Ext.lt2 Ext.ne Ext.ne'
set_option maxRecDepth 20000 in
set_option maxHeartbeats 8000000 in
theorem wtell_ok {M : Nat → Prop} {B w : World} {p : Nat} {q : Nat → Nat} {v o : Value} {t : Tn} (H : Tw M B w p q v o t) (hme : ∀ a, a < 6 → (t.nd a).me = a) {a b : Nat} (ha : a < 6) (hb : b < 6) (hc : t.cst a b ≠ 0) (hl : t.news.length + 6 ≤ 40) :
    Calls Tryz.prog 52 #[pv p, iv a, iv b] w fun e w' => ∃ v', e = .returned (iv 0) ∧ Tw M B w' p q v' o (sayT t a b) := by
  have hp := H.blk.lt
  have hai : (a : Int) < 6 := by omega
  have hbi : (b : Int) < 6 := by omega
  have B1 : Hid (decide (0 ≤ (a : Int) ∧ (a : Int) < 6) = true) := decide_eq_true ⟨by omega, hai⟩
  have B2 : Hid (decide (0 ≤ (b : Int) ∧ (b : Int) < 6) = true) := decide_eq_true ⟨by omega, hbi⟩
  have c0 := H.cst ha hb
  have c1 := H.node ha
  have c2 := H.news
  have g1 : (t.cst a b == 0) = false := by simpa using hc
  have HH := hide H
  obtain ⟨ao, cv, hv, _, _, _⟩ := H.nw.shape
  rw [newsL_len] at hv
  have HNW := hide H.nw
  have HT : Hid (∀ V : World, Gr w V → Calls Tryz.prog 103 #[pv (q a), iv (b : Int)] V fun e w' => ∃ ao c, e = .returned (.slice ao 6 c) ∧ NewsAt w' ao (tellL (t.nd a) (b : Int) 6) ∧ Gr V w') := fun V g =>
    (mtell_any ((H.six.at_ a ha).gr g) (b : Int)).mono fun e w' ⟨v, he, ho, hg⟩ => by
      obtain ⟨ao, c, hv, hn, _⟩ := OwnN.shape ho
      rw [tell_len] at hv
      exact ⟨ao, c, by rw [he, hv], hn, hg⟩
  have HT2 : Hid (∀ V : World, Gr w V → Calls Tryz.prog 103 #[pv (q a), iv (b : Int)] V fun e w' => ∃ a5 k5 a6 n6 k6 w2, e = .returned (.slice a5 6 k5) ∧ Gr w w' ∧ (Builtin.append_ #[46, 46] 46 #[v, .slice a5 6 k5]).run Tryz.prog w' = .ok (.slice a6 n6 k6) w2 ∧ (w2.cell? ⟨p, 36 + a, none⟩ = some (pv (q a)) ∧ w2.cell? ⟨p, 42, none⟩ = some v ∧ w2.frozen? ⟨p, 42, none⟩ = false ∧ p < w2.heap.size) ∧ Tw M B (w2.setCell ⟨p, 42, none⟩ (.slice a6 n6 k6)) p q (.slice a6 n6 k6) o (sayT t a b)) := fun V g =>
    (HT.out V g).mono fun e w' ⟨a5, k5, he, hn, hg⟩ => by
      have g1 := g.trans hg
      have H1 := H.ext g1
      have htl : (tellT t a b).length = 6 := by simp [tellT]
      obtain ⟨v', w2, hrun, ⟨a6, n6, k6, hv6⟩, hb2, HF⟩ := H1.app (cp := k5) 46 (nl := tellT t a b) (by rw [tell_news (hme a ha)]; exact hn) (by omega) (by omega)
      rw [htl] at hrun
      subst hv6
      have n0 := hb2.cell (j := 36 + a) (by omega)
      have n1 := hb2.cell (j := 42) (by omega)
      unfold twF at n0 n1
      rw [if_neg (by omega), if_pos (by omega), show 36 + a - 36 = a by omega] at n0
      rw [if_neg (by omega), if_neg (by omega), if_pos rfl] at n1
      exact ⟨a5, k5, a6, n6, k6, w2, he, g1, hrun, ⟨n0, n1, hb2.free 42, hb2.lt⟩, HF⟩
  have HT3 : Hid (∀ V : World, Gr w V → Calls Tryz.prog 103 #[pv (q a), iv (b : Int)] V fun e w' => ∃ r, e = .returned r ∧ ∃ a5 k5 a6 n6 k6 w2, r = .slice a5 6 k5 ∧ Gr w w' ∧ (Builtin.append_ #[46, 46] 46 #[v, .slice a5 6 k5]).run Tryz.prog w' = .ok (.slice a6 n6 k6) w2 ∧ (w2.cell? ⟨p, 36 + a, none⟩ = some (pv (q a)) ∧ w2.cell? ⟨p, 42, none⟩ = some v ∧ w2.frozen? ⟨p, 42, none⟩ = false ∧ p < w2.heap.size) ∧ Tw M B (w2.setCell ⟨p, 42, none⟩ (.slice a6 n6 k6)) p q (.slice a6 n6 k6) o (sayT t a b)) := fun V g =>
    (HT2.out V g).mono fun e w' ⟨a5, k5, a6, n6, k6, w2, he, r⟩ => ⟨_, he, a5, k5, a6, n6, k6, w2, rfl, r⟩
  have g2 : decide ((40 : Int) < ((t.news.length : Nat) : Int) + 6) = false := decide_eq_false (by omega)
  have wl : IntKind.i64.wrap (((t.news.length : Nat) : Int) + 6) = ((t.news.length : Nat) : Int) + 6 := by rw [IntKind.wrap_i64]; omega
  have HL := hide hl
  subst hv
  clear H hme hc
  go_enter Tryz.func52, Tryz.ntmps52
  go_upto_region 7 with (first | (go_at_call 9; with_reducible refine (isNode_is B1.out _).mono ?_; rintro e w1 ⟨rfl, hw1⟩; have hw2 := hw1.symm; clear hw1; subst hw2) | (go_at_call 9; with_reducible refine (isNode_is B2.out _).mono ?_; rintro e w1 ⟨rfl, hw1⟩; have hw2 := hw1.symm; clear hw1; subst hw2))
  go_region_law
    (first
    | (refine step_call2 rfl 103 #[pv (q a), iv (b : Int)] (by first | go_simp | kernel_rfl | simp [execOp, resolve, invoke, callFunc, Act.eval, Tryz.func103, go_sem]) (HT3.out _ (Gr.refl w).drew) ?_; rintro r V1 ⟨a5, k5, a6, n6, k6, w2, rfl, g5', hrun', ⟨n2, m2, f2, l2⟩, HF'⟩; have G5 := hide g5'; have HR := hide hrun'; have HF := hide HF'; clear g5' hrun' HF'; have n1 := (HH.out.ext G5.out).node ha; have m1 := (HH.out.ext G5.out).news; have l1 := VArr.lt (HH.out.ext G5.out).blk)
    | (refine step_append_eq rfl (.tmp 35) (.tmp 43) 46 46 rfl (.slice ao t.news.length cv) (.slice a5 6 k5) rfl rfl (v' := .slice a6 n6 k6) (w' := w2) HR.out ?_)
    | fail)
  all_goals
    go_wp2_with fail
    go_ret
    exact ⟨_, rfl, HF.out⟩

end Go.Proofs.YtfcknkanbcndjagGreatDoor

/- THE REFERENCE'S Town: tell of whatever is handed in. -/
namespace Go.Proofs.YtfcknkanbcndjagGreatDoor
open Go.RowKit
attribute [local go_sem] Ext.all Ext.cell Ext.frozen Ext.lt Ext.lt1 Ext.lt2 Ext.ne Ext.ne'
set_option maxRecDepth 20000 in
set_option maxHeartbeats 8000000 in
theorem wtell_range {w : World} {p : Nat} {a b : Int} (h : ¬ isN a ∨ ¬ isN b) : Calls Tryz.prog 52 #[pv p, iv a, iv b] w fun e w' => e = .returned (iv 1) ∧ w' = w := by
  obtain ⟨b1, B1⟩ : ∃ b1, Hid (decide (0 ≤ a ∧ a < 6) = b1) := ⟨_, rfl⟩
  obtain ⟨b2, B2⟩ : ∃ b2, Hid (decide (0 ≤ b ∧ b < 6) = b2) := ⟨_, rfl⟩
  cases b1
  · go_enter Tryz.func52, Tryz.ntmps52
    go_wp2_with (go_at_call 9; with_reducible refine (isNode_is B1.out _).mono ?_; rintro e w1 ⟨rfl, hw1⟩; have hw2 := hw1.symm; clear hw1; subst hw2)
    go_ret
    exact ⟨rfl, rfl⟩
  · cases b2
    · go_enter Tryz.func52, Tryz.ntmps52
      go_wp2_with (first | (go_at_call 9; with_reducible refine (isNode_is B1.out _).mono ?_; rintro e w1 ⟨rfl, hw1⟩; have hw2 := hw1.symm; clear hw1; subst hw2) | (go_at_call 9; with_reducible refine (isNode_is B2.out _).mono ?_; rintro e w1 ⟨rfl, hw1⟩; have hw2 := hw1.symm; clear hw1; subst hw2))
      go_ret
      exact ⟨rfl, rfl⟩
    · exfalso
      have h1 := of_decide_eq_true B1.out
      have h2 := of_decide_eq_true B2.out
      exact h.elim (fun q => q h1) (fun q => q h2)
set_option maxRecDepth 20000 in
set_option maxHeartbeats 8000000 in
theorem wtell_no {M : Nat → Prop} {B w : World} {p : Nat} {q : Nat → Nat} {v o : Value} {t : Tn} (H : Tw M B w p q v o t) {a b : Nat} (ha : a < 6) (hb : b < 6) (hl : t.news.length ≤ 40) {r : Int} (hr : (t.cst a b = 0 ∧ r = 6) ∨ (t.cst a b ≠ 0 ∧ 40 < t.news.length + 6 ∧ r = 9)) :
    Calls Tryz.prog 52 #[pv p, iv a, iv b] w fun e w' => e = .returned (iv r) ∧ w' = w := by
  have hp := H.blk.lt
  have hai : (a : Int) < 6 := by omega
  have hbi : (b : Int) < 6 := by omega
  have B1 : Hid (decide (0 ≤ (a : Int) ∧ (a : Int) < 6) = true) := decide_eq_true ⟨by omega, hai⟩
  have B2 : Hid (decide (0 ≤ (b : Int) ∧ (b : Int) < 6) = true) := decide_eq_true ⟨by omega, hbi⟩
  have c0 := H.cst ha hb
  have c2 := H.news
  obtain ⟨ao, cv, hv, _, _, _⟩ := H.nw.shape
  rw [newsL_len] at hv
  subst hv
  have wl : IntKind.i64.wrap (((t.news.length : Nat) : Int) + 6) = ((t.news.length : Nat) : Int) + 6 := by rw [IntKind.wrap_i64]; omega
  clear H
  rcases hr with ⟨h1, rfl⟩ | ⟨h1, h2, rfl⟩
  · have g1 : (t.cst a b == 0) = true := by simpa using h1
    clear h1
    go_enter Tryz.func52, Tryz.ntmps52
    go_wp2_with (first | (go_at_call 9; with_reducible refine (isNode_is B1.out _).mono ?_; rintro e w1 ⟨rfl, hw1⟩; have hw2 := hw1.symm; clear hw1; subst hw2) | (go_at_call 9; with_reducible refine (isNode_is B2.out _).mono ?_; rintro e w1 ⟨rfl, hw1⟩; have hw2 := hw1.symm; clear hw1; subst hw2))
    go_ret
    exact ⟨rfl, rfl⟩
  · have g1 : (t.cst a b == 0) = false := by simpa using h1
    have g2 : decide ((40 : Int) < ((t.news.length : Nat) : Int) + 6) = true := decide_eq_true (by omega)
    clear h1 h2
    go_enter Tryz.func52, Tryz.ntmps52
    go_wp2_with (first | (go_at_call 9; with_reducible refine (isNode_is B1.out _).mono ?_; rintro e w1 ⟨rfl, hw1⟩; have hw2 := hw1.symm; clear hw1; subst hw2) | (go_at_call 9; with_reducible refine (isNode_is B2.out _).mono ?_; rintro e w1 ⟨rfl, hw1⟩; have hw2 := hw1.symm; clear hw1; subst hw2))
    go_ret
    exact ⟨rfl, rfl⟩
theorem wtell_any {M : Nat → Prop} {B w : World} {p : Nat} {q : Nat → Nat} {v o : Value} {t : Tn} (H : Tw M B w p q v o t) (hme : ∀ a, a < 6 → (t.nd a).me = a) (hl : t.news.length ≤ 40) (a b : Int) :
    Calls Tryz.prog 52 #[pv p, iv a, iv b] w fun e w' => ∃ v', e = .returned (iv (sayC t a b).2) ∧ Tw M B w' p q v' o (sayC t a b).1 := by
  unfold sayC
  by_cases e : ¬ isN a ∨ ¬ isN b
  · rw [if_pos e]
    exact (wtell_range e).mono fun _ w' ⟨h1, h2⟩ => ⟨v, h1, by rw [h2]; exact H⟩
  · rw [if_neg e]
    obtain ⟨i, rfl⟩ : ∃ i : Nat, a = (i : Int) := ⟨a.toNat, by omega⟩
    obtain ⟨j, rfl⟩ : ∃ j : Nat, b = (j : Int) := ⟨b.toNat, by omega⟩
    rw [Int.toNat_natCast, Int.toNat_natCast]
    by_cases e2 : t.cst i j = 0
    · rw [if_pos e2]
      exact (wtell_no H (by omega) (by omega) hl (.inl ⟨e2, rfl⟩)).mono fun _ w' ⟨h1, h2⟩ => ⟨v, h1, by rw [h2]; exact H⟩
    · rw [if_neg e2]
      by_cases e3 : 40 < t.news.length + 6
      · rw [if_pos e3]
        exact (wtell_no H (by omega) (by omega) hl (.inr ⟨e2, e3, rfl⟩)).mono fun _ w' ⟨h1, h2⟩ => ⟨v, h1, by rw [h2]; exact H⟩
      · rw [if_neg e3]
        exact wtell_ok H hme (by omega) (by omega) e2 (by omega)
/-- And what it leaves as it was. -/
theorem wtell_fr {M : Nat → Prop} {B w : World} {p : Nat} {q : Nat → Nat} {v o : Value} {t : Tn} (H : Tw M B w p q v o t) (hme : ∀ a, a < 6 → (t.nd a).me = a) (hl : t.news.length ≤ 40) (a b : Int) :
    Calls Tryz.prog 52 #[pv p, iv a, iv b] w fun e w' => ∃ v', e = .returned (iv (sayC t a b).2) ∧ Tw M B w' p q v' o (sayC t a b).1 ∧ FrW w p q v w' v' :=
  (wtell_any H.rest hme hl a b).mono fun _ _ ⟨v', he, hh⟩ => ⟨v', he, H.unrest hh, hh.fr⟩

end Go.Proofs.YtfcknkanbcndjagGreatDoor

/- CONTRACTS OF handpostref: Mind.Hear where all is right. -/
namespace Go.Proofs.YtfcknkanbcndjagGreatDoor
open Go.RowKit
attribute [local go_sem] Ext.all Ext.cell Ext.frozen Ext.lt Ext.lt1 Ext.lt2 Ext.ne Ext.ne'
set_option maxRecDepth 20000 in
set_option maxHeartbeats 8000000 in
theorem mhear_ok {w : World} {p : Nat} {m : Md} (H : MAt w p m) (hX : MdOk m) {f z : Nat} {o s d : Int} (hf : f < 6) (hz : z < 6) (hfm : f ≠ m.me) (hc : m.cost f ≠ 0) (hs : 0 ≤ s) (hd : 0 ≤ d) (hd2 : d ≤ 200) :
    Calls Tryz.prog 53 #[pv p, .agg #[iv f, iv o, iv z, iv s, iv d]] w fun e w' => e = .returned (iv 0) ∧ MAt w' p (hearM m f z s d) ∧ Wr p w w' := by
  have hp := H.lt
  have hfi : (f : Int) < 6 := by omega
  have hzi : (z : Int) < 6 := by omega
  have B1 : Hid (decide (0 ≤ (f : Int) ∧ (f : Int) < 6) = true) := decide_eq_true ⟨by omega, hfi⟩
  have B2 : Hid (decide (0 ≤ (z : Int) ∧ (z : Int) < 6) = true) := decide_eq_true ⟨by omega, hzi⟩
  have g3 : ((f : Int) == (m.me : Int)) = false := by simp; omega
  have g4 : decide (s < 0) = false := decide_eq_false (by omega)
  have g5 : decide (d < 0) = false := decide_eq_false (by omega)
  have g6 : decide (200 < d) = false := decide_eq_false (by omega)
  have g7 : (m.cost f == 0) = false := by simpa using hc
  have HM := hide (fun (X : World) (g : Gr w X) => H.gr g)
  have HL : Hid (hearM m f z s d = lookM { m with heard := updW m.heard f (updW (m.heard f) z (s, d)) } z) := rfl
  have HS : Hid (∀ r, 0 ≤ (updW m.heard f (updW (m.heard f) z (s, d)) r z).2 ∧ (updW m.heard f (updW (m.heard f) z (s, d)) r z).2 ≤ 200) := by
    intro r
    by_cases e : r = f
    · subst e; simp [updW, hd, hd2]
    · have := hX.said r z
      simp [updW, e, this.2.1, this.2.2]
  clear H hs hd hd2 hfm hc
  go_enter Tryz.func53, Tryz.ntmps53
  go_upto_region 1 with (fail)
  refine wp_gen (fun V => Hid (ZArr V 114 5 w.heap.size (nwF f o z s d)) ∧ Hid (Gr w V)) ⟨ZArr.new w 114 5 (nwF f o z s d), (Gr.refl _).alloc _⟩ ?_
  rintro V ⟨A, gV⟩
  have k0 : V.cell? ⟨w.heap.size, 0, none⟩ = some (iv f) := A.out.cell (by omega)
  have k2 : V.cell? ⟨w.heap.size, 2, none⟩ = some (iv z) := A.out.cell (by omega)
  have k3 : V.cell? ⟨w.heap.size, 3, none⟩ = some (iv s) := A.out.cell (by omega)
  have k4 : V.cell? ⟨w.heap.size, 4, none⟩ = some (iv d) := A.out.cell (by omega)
  have c0 := (HM.out _ gV.out).me
  have c1 := (HM.out _ gV.out).cost hf
  have j0 := A.out.lt
  have j1 := (HM.out _ gV.out).lt
  go_wp2_with fail
  refine wp_region_ext (by kernel_rfl) (by kernel_rfl) ?_
  repeat (go_big_quiet_step (first | (go_at_call 9; with_reducible exact isNode_ext B1.out _) | (go_at_call 9; with_reducible exact isNode_ext B2.out _)))
  refine wpQuiet_nil ?_
  rintro _ ⟨d1, rfl⟩
  go_upto_region 3 with (fail)
  refine wp_region_ext (by kernel_rfl) (by kernel_rfl) ?_
  repeat (go_big_quiet_step (fail))
  refine wpQuiet_nil ?_
  rintro _ ⟨d2, rfl⟩
  go_upto_region 5 with (fail)
  refine wp_gen (fun V2 => Hid (ZArr V2 114 5 w.heap.size (nwF f o z s d)) ∧ Hid (Gr w V2)) ⟨(A.out.gr d1.gr).gr d2.gr, (gV.out.trans d1.gr).trans d2.gr⟩ ?_
  clear A gV k0 k2 k3 k4 c0 c1 j0 j1
  rintro V2 ⟨A, gV⟩
  have k0 : V2.cell? ⟨w.heap.size, 0, none⟩ = some (iv f) := A.out.cell (by omega)
  have k2 : V2.cell? ⟨w.heap.size, 2, none⟩ = some (iv z) := A.out.cell (by omega)
  have k3 : V2.cell? ⟨w.heap.size, 3, none⟩ = some (iv s) := A.out.cell (by omega)
  have k4 : V2.cell? ⟨w.heap.size, 4, none⟩ = some (iv d) := A.out.cell (by omega)
  obtain ⟨q0, q1⟩ := (HM.out _ gV.out).heard hf hz
  have fz := ZArr.free (HM.out _ gV.out)
  have j0 := A.out.lt
  have j1 := (HM.out _ gV.out).lt
  have SM := hide ((HM.out _ gV.out).setHeard hf hz s d)
  have SW := hide (((gV.out.wr p).set (7 + f * 12 + z * 2) (iv s)).set (7 + f * 12 + z * 2 + 1) (iv d))
  have SA := hide ((A.out.other (q := p) (by omega) (7 + f * 12 + z * 2) (iv s)).other (q := p) (by omega) (7 + f * 12 + z * 2 + 1) (iv d))
  clear A gV
  go_still_tail 14, (by kernel_rfl)
  go_upto_region 6 with (fail)
  refine wp_gen (fun V3 => Hid (ZArr V3 114 5 w.heap.size (nwF f o z s d)) ∧ Hid (MAt V3 p { m with heard := updW m.heard f (updW (m.heard f) z (s, d)) }) ∧ Hid (Wr p w V3)) ⟨SA.out.gr (Gr.refl _).drew, SM.out.gr (Gr.refl _).drew, SW.out.trans ((Gr.refl _).drew.wr p)⟩ ?_
  clear SA SM SW k0 k2 k3 k4 q0 q1 fz j0 j1
  rintro V3 ⟨A, M3, W3⟩
  have k2 : V3.cell? ⟨w.heap.size, 2, none⟩ = some (iv z) := A.out.cell (by omega)
  have j0 := A.out.lt
  go_wp2_with (go_at_call 102; with_reducible refine (mlook_any M3.out hz hX.cost HS.out).mono ?_; rintro e V4 ⟨rfl, M4, W4⟩; have HM4 := hide M4; have HW4 := hide W4; clear M4 W4)
  go_ret
  exact ⟨rfl, by rw [HL.out]; exact HM4.out, W3.out.trans HW4.out⟩

end Go.Proofs.YtfcknkanbcndjagGreatDoor

/- CONTRACTS OF handpostref: Mind.Link where all is right. -/
namespace Go.Proofs.YtfcknkanbcndjagGreatDoor
open Go.RowKit
attribute [local go_sem] Ext.all Ext.cell Ext.frozen Ext.lt Ext.lt1 Ext.lt2 Ext.ne Ext.ne'
def clrM (m : Md) (f : Nat) (c : Int) (k : Nat) : Md := { m with cost := updW m.cost f c, heard := fun j i => if j = f ∧ i < k then (0, 200) else m.heard j i }
def midM (m : Md) (f : Nat) (c : Int) : Md := { m with cost := updW m.cost f c, heard := if c = 0 then updW m.heard f (fun _ => (0, 200)) else m.heard }
theorem clr_zero (m : Md) (f : Nat) (c : Int) : clrM m f c 0 = { m with cost := updW m.cost f c } := by
  unfold clrM
  congr 1
  funext j i
  rw [if_neg (by omega)]
theorem clr_succ (m : Md) (f : Nat) (c : Int) (k : Nat) : { clrM m f c k with heard := updW (clrM m f c k).heard f (updW ((clrM m f c k).heard f) k (0, 200)) } = clrM m f c (k + 1) := by
  unfold clrM
  dsimp only
  congr 1
  funext j i
  unfold updW
  by_cases e : j = f
  · subst e
    rw [if_pos rfl]
    dsimp only
    by_cases e2 : i = k
    · rw [if_pos e2, if_pos ⟨rfl, by omega⟩]
    · rw [if_neg e2]
      by_cases e3 : i < k
      · rw [if_pos ⟨rfl, e3⟩, if_pos ⟨rfl, by omega⟩]
      · rw [if_neg (by omega), if_neg (by omega)]
  · simp [e]
theorem clr_heard (m : Md) (f j : Nat) {k : Nat} (hk : k < 6) : (clrM m f 0 6).heard j k = (midM m f 0).heard j k := by
  unfold clrM midM updW
  by_cases e : j = f
  · simp [e, hk]
  · simp [e]
theorem clr_end {w : World} {p : Nat} {m : Md} {f : Nat} {c : Int} {k : Nat} (h : MAt w p (clrM m f c k)) (hk : (c = 0 ∧ k = 6) ∨ (c ≠ 0 ∧ k = 0)) : MAt w p (midM m f c) := by
  rcases hk with ⟨rfl, rfl⟩ | ⟨hc, rfl⟩
  · refine ZArr.congr h fun i hi => ?_
    have E := clr_heard m f ((i - 7) / 12) (k := (i - 7) % 12 / 2) (by omega)
    unfold mdF
    rw [E]
    rfl
  · rw [clr_zero] at h
    unfold midM
    rw [if_neg hc]
    exact h
theorem mid_cost {m : Md} (hX : MdOk m) {f : Nat} {c : Int} (h0 : 0 ≤ c) (h1 : c ≤ 15) (n : Nat) : ∀ r, 0 ≤ (lookTo (midM m f c) n).cost r ∧ (lookTo (midM m f c) n).cost r ≤ 15 := by
  intro r
  rw [(lookTo_all (midM m f c) n).2.1]
  show 0 ≤ updW m.cost f c r ∧ updW m.cost f c r ≤ 15
  unfold updW
  by_cases e : r = f
  · rw [if_pos e]; exact ⟨h0, h1⟩
  · rw [if_neg e]; exact hX.cost r
theorem mid_said {m : Md} (hX : MdOk m) (f : Nat) (c : Int) (n k : Nat) : ∀ r, 0 ≤ ((lookTo (midM m f c) n).heard r k).2 ∧ ((lookTo (midM m f c) n).heard r k).2 ≤ 200 := by
  intro r
  rw [(lookTo_all (midM m f c) n).2.2.1]
  have := (hX.said r k).2
  unfold midM updW
  dsimp only
  by_cases e : c = 0
  · rw [if_pos e]
    by_cases e2 : r = f
    · rw [if_pos e2]; exact ⟨by decide, by decide⟩
    · rw [if_neg e2]; exact this
  · rw [if_neg e]; exact this

set_option maxRecDepth 20000 in
set_option maxHeartbeats 8000000 in
theorem mlink_ok {w : World} {p : Nat} {m : Md} (H : MAt w p m) (hX : MdOk m) {f : Nat} {c : Int} (hf : f < 6) (hfm : f ≠ m.me) (h0 : 0 ≤ c) (h1 : c ≤ 15) :
    Calls Tryz.prog 50 #[pv p, iv f, iv c] w fun e w' => e = .returned (iv 0) ∧ MAt w' p (linkM m f c) ∧ Wr p w w' := by
  have hp := H.lt
  have hfi : (f : Int) < 6 := by omega
  have B1 : Hid (decide (0 ≤ (f : Int) ∧ (f : Int) < 6) = true) := decide_eq_true ⟨by omega, hfi⟩
  have g3 : ((f : Int) == (m.me : Int)) = false := by simp; omega
  have g4 : decide (c < 0) = false := decide_eq_false (by omega)
  have g5 : decide (15 < c) = false := decide_eq_false (by omega)
  have HL : Hid (linkM m f c = lookTo (midM m f c) 6) := rfl
  have HC : Hid (∀ n r, 0 ≤ (lookTo (midM m f c) n).cost r ∧ (lookTo (midM m f c) n).cost r ≤ 15) := mid_cost hX h0 h1
  have HS := hide (mid_said hX f c)
  have c0 := H.me
  have c1 := H.cost hf
  have fz := ZArr.free H
  have SM : Hid (MAt (w.setCell ⟨p, 1 + f, none⟩ (iv c)) p (clrM m f c 0)) := by unfold Hid; rw [clr_zero]; exact H.setCost hf c
  have SW := hide ((Wr.refl p w).set (1 + f) (iv c))
  clear H h0 h1 hfm
  go_enter Tryz.func50, Tryz.ntmps50
  go_upto_region 4 with (first | (go_at_call 9; with_reducible refine (isNode_is B1.out _).mono ?_; rintro e w1 ⟨rfl, hw1⟩; have hw2 := hw1.symm; clear hw1; subst hw2))
  refine wp_gen (fun V => Hid (MAt V p (clrM m f c 0)) ∧ Hid (Wr p w V)) ⟨SM.out, SW.out⟩ ?_
  clear SM SW c0 c1 fz
  rintro V ⟨M0, W0⟩
  go_wp2_with fail
  go_loopw [7] (fun v7 wr => ∃ k : Nat, k ≤ 6 ∧ (c ≠ 0 → k = 0) ∧ v7 = .int .i64 (k : Int) ∧ Hid (MAt wr p (clrM m f c k)) ∧ Hid (Wr p w wr)) (fun v7 _ => (6 - intOf v7).toNat)
  case atStart => exact ⟨0, by omega, fun _ => rfl, rfl, M0, W0⟩
  case round =>
    clear M0 W0
    obtain ⟨k, hk6, hck, rfl, M0, W0⟩ := hrel
    by_cases hgo : k < 6 ∧ c = 0
    · obtain ⟨hk, rfl⟩ := hgo
      have hki : (k : Int) < 6 := by omega
      obtain ⟨q0, q1⟩ := M0.out.heard hf hk
      have fz := ZArr.free M0.out
      have hpl := M0.out.lt
      have SM : Hid (MAt ((wr.setCell ⟨p, 7 + f * 12 + k * 2, none⟩ (iv 0)).setCell ⟨p, 7 + f * 12 + k * 2 + 1, none⟩ (iv 200)) p (clrM m f 0 (k + 1))) := by unfold Hid; rw [← clr_succ]; exact M0.out.setHeard hf hk 0 200
      have SW := hide ((W0.out.set (7 + f * 12 + k * 2) (iv 0)).set (7 + f * 12 + k * 2 + 1) (iv 200))
      have wk : IntKind.i64.wrap ((k : Int) + 1) = (k : Int) + 1 := by rw [IntKind.wrap_i64]; omega
      clear M0 W0 hck
      go_wp2_with fail
      go_roundw
      case rel => exact ⟨k + 1, by omega, fun h => absurd rfl h, by congr 1, SM, SW⟩
      case measure => simp [intOf]; omega
    · have HE : Hid ((c = 0 ∧ k = 6) ∨ (c ≠ 0 ∧ k = 0)) := by
        by_cases e : c = 0
        · exact .inl ⟨e, by omega⟩
        · exact .inr ⟨e, hck e⟩
      have M1 := hide (clr_end M0.out HE.out)
      have HG : Hid (¬ (k < 6 ∧ c = 0)) := hgo
      clear M0 hck hgo
      have gk : decide ((k : Int) < 6) = true ∧ (c == 0) = false ∨ decide ((k : Int) < 6) = false := by
        by_cases e : k < 6
        · exact .inl ⟨decide_eq_true (by omega), by have := HG.out; simp; omega⟩
        · exact .inr (decide_eq_false (by omega))
      clear HG HE
      rcases gk with ⟨gk, gc⟩ | gk
      all_goals
        go_upto_region 8 with (fail)
        refine wp_gen (fun V => Hid (MAt V p (lookTo (midM m f c) 0)) ∧ Hid (Wr p w V)) ⟨M1.out, W0.out⟩ ?_
        clear M1 W0
        rintro V2 ⟨M2, W2⟩
        go_wp2_with fail
        go_loopw [8] (fun v8 wr => ∃ n : Nat, n ≤ 6 ∧ v8 = .int .i64 (n : Int) ∧ Hid (MAt wr p (lookTo (midM m f c) n)) ∧ Hid (Wr p w wr)) (fun v8 _ => (6 - intOf v8).toNat)
        case atStart => exact ⟨0, by omega, rfl, M2, W2⟩
        case round =>
          clear M2 W2
          obtain ⟨n, hn6, rfl, M2, W2⟩ := hrel
          by_cases hn : n < 6
          · have hni : decide ((n : Int) < 6) = true := decide_eq_true (by omega)
            have wk : IntKind.i64.wrap ((n : Int) + 1) = (n : Int) + 1 := by rw [IntKind.wrap_i64]; omega
            have HQ := hide (mlook_any M2.out hn (HC.out n) (HS.out n n))
            go_wp2_with (go_at_call 102; with_reducible refine HQ.out.mono ?_; rintro e V4 ⟨rfl, M4, W4⟩; have HM4 := hide M4; have HW4 := hide W4; clear M4 W4)
            go_roundw
            case rel => exact ⟨n + 1, by omega, by congr 1, HM4, W2.out.trans HW4.out⟩
            case measure => simp [intOf]; omega
          · have hni : decide ((n : Int) < 6) = false := decide_eq_false (by omega)
            have en : n = 6 := by omega
            subst en
            go_wp2_with fail
            go_ret
            exact ⟨rfl, by rw [HL.out]; exact M2.out, W2.out⟩

end Go.Proofs.YtfcknkanbcndjagGreatDoor

/- CONTRACTS OF handpostref: the codes of Mind.Link and Mind.Hear. -/
namespace Go.Proofs.YtfcknkanbcndjagGreatDoor
open Go.RowKit
attribute [local go_sem] Ext.all Ext.cell Ext.frozen Ext.lt Ext.lt1 Ext.lt2 Ext.ne Ext.ne'
set_option maxRecDepth 20000 in
set_option maxHeartbeats 8000000 in
theorem mlink_bad {w : World} {p : Nat} {m : Md} (H : MAt w p m) {f c : Int} (hb : ¬ (0 ≤ f ∧ f < 6) ∨ f = m.me ∨ c < 0 ∨ 15 < c) :
    Calls Tryz.prog 50 #[pv p, iv f, iv c] w fun e w' => e = .returned (iv 1) ∧ w' = w := by
  have hp := H.lt
  have c0 := H.me
  obtain ⟨b, B1⟩ : ∃ b, Hid (decide (0 ≤ f ∧ f < 6) = b) := ⟨_, rfl⟩
  have HB : Hid (b = false ∨ (f == (m.me : Int)) = true ∨ decide (c < 0) = true ∨ decide (15 < c) = true) := by
    rcases hb with h | h | h | h
    · exact .inl (by rw [← B1.out]; exact decide_eq_false h)
    · exact .inr (.inl (by simpa using h))
    · exact .inr (.inr (.inl (decide_eq_true h)))
    · exact .inr (.inr (.inr (decide_eq_true h)))
  clear hb H
  cases b
  · go_enter Tryz.func50, Tryz.ntmps50
    go_wp2_with (go_at_call 9; with_reducible refine (isNode_is B1.out _).mono ?_; rintro e w1 ⟨rfl, hw1⟩; have hw2 := hw1.symm; clear hw1; subst hw2)
    go_ret
    exact ⟨rfl, rfl⟩
  · cases g3 : (f == (m.me : Int))
    · cases g4 : decide (c < 0)
      · have g5 : decide (15 < c) = true := by have := HB.out; simpa [g3, g4] using this
        clear HB
        go_enter Tryz.func50, Tryz.ntmps50
        go_wp2_with (go_at_call 9; with_reducible refine (isNode_is B1.out _).mono ?_; rintro e w1 ⟨rfl, hw1⟩; have hw2 := hw1.symm; clear hw1; subst hw2)
        go_ret
        exact ⟨rfl, rfl⟩
      · clear HB
        go_enter Tryz.func50, Tryz.ntmps50
        go_wp2_with (go_at_call 9; with_reducible refine (isNode_is B1.out _).mono ?_; rintro e w1 ⟨rfl, hw1⟩; have hw2 := hw1.symm; clear hw1; subst hw2)
        go_ret
        exact ⟨rfl, rfl⟩
    · clear HB
      go_enter Tryz.func50, Tryz.ntmps50
      go_wp2_with (go_at_call 9; with_reducible refine (isNode_is B1.out _).mono ?_; rintro e w1 ⟨rfl, hw1⟩; have hw2 := hw1.symm; clear hw1; subst hw2)
      go_ret
      exact ⟨rfl, rfl⟩

set_option maxRecDepth 20000 in
set_option maxHeartbeats 8000000 in
theorem mhear_bad {w : World} {p : Nat} {m : Md} (H : MAt w p m) {f o z s d : Int} (hb : ¬ (0 ≤ f ∧ f < 6) ∨ ¬ (0 ≤ z ∧ z < 6) ∨ f = m.me ∨ s < 0 ∨ d < 0 ∨ 200 < d) :
    Calls Tryz.prog 53 #[pv p, .agg #[iv f, iv o, iv z, iv s, iv d]] w fun e w' => e = .returned (iv 1) ∧ Gr w w' := by
  have HM := hide (fun (X : World) (g : Gr w X) => H.gr g)
  have hp := H.lt
  obtain ⟨b, B1⟩ : ∃ b, Hid (decide (0 ≤ f ∧ f < 6) = b) := ⟨_, rfl⟩
  obtain ⟨b2, B2⟩ : ∃ b, Hid (decide (0 ≤ z ∧ z < 6) = b) := ⟨_, rfl⟩
  have HB : Hid (b = false ∨ b2 = false ∨ (f == (m.me : Int)) = true ∨ decide (s < 0) = true ∨ decide (d < 0) = true ∨ decide (200 < d) = true) := by
    rcases hb with h | h | h | h | h | h
    · exact .inl (by rw [← B1.out]; exact decide_eq_false h)
    · exact .inr (.inl (by rw [← B2.out]; exact decide_eq_false h))
    · exact .inr (.inr (.inl (by simpa using h)))
    · exact .inr (.inr (.inr (.inl (decide_eq_true h))))
    · exact .inr (.inr (.inr (.inr (.inl (decide_eq_true h)))))
    · exact .inr (.inr (.inr (.inr (.inr (decide_eq_true h)))))
  clear hb H
  cases b
  · clear HB
    go_enter Tryz.func53, Tryz.ntmps53
    go_upto_region 1 with (fail)
    refine wp_gen (fun V => Hid (ZArr V 114 5 w.heap.size (nwF f o z s d)) ∧ Hid (Gr w V)) ⟨ZArr.new w 114 5 (nwF f o z s d), (Gr.refl _).alloc _⟩ ?_
    rintro V ⟨A, gV⟩
    have k0 : V.cell? ⟨w.heap.size, 0, none⟩ = some (iv f) := A.out.cell (by omega)
    have k2 : V.cell? ⟨w.heap.size, 2, none⟩ = some (iv z) := A.out.cell (by omega)
    have k3 : V.cell? ⟨w.heap.size, 3, none⟩ = some (iv s) := A.out.cell (by omega)
    have k4 : V.cell? ⟨w.heap.size, 4, none⟩ = some (iv d) := A.out.cell (by omega)
    have c0 := (HM.out _ gV.out).me
    have j0 := A.out.lt
    have j1 := (HM.out _ gV.out).lt
    go_wp2_with fail
    refine wp_region_ext (by kernel_rfl) (by kernel_rfl) ?_
    repeat (go_big_quiet_step (first | (go_at_call 9; with_reducible exact isNode_ext B1.out _) | (go_at_call 9; with_reducible exact isNode_ext B2.out _)))
    refine wpQuiet_nil ?_
    rintro _ ⟨d1, rfl⟩
    go_wp2_with fail
    go_ret
    exact ⟨rfl, gV.out.trans d1.gr⟩
  · cases b2
    · clear HB
      go_enter Tryz.func53, Tryz.ntmps53
      go_upto_region 1 with (fail)
      refine wp_gen (fun V => Hid (ZArr V 114 5 w.heap.size (nwF f o z s d)) ∧ Hid (Gr w V)) ⟨ZArr.new w 114 5 (nwF f o z s d), (Gr.refl _).alloc _⟩ ?_
      rintro V ⟨A, gV⟩
      have k0 : V.cell? ⟨w.heap.size, 0, none⟩ = some (iv f) := A.out.cell (by omega)
      have k2 : V.cell? ⟨w.heap.size, 2, none⟩ = some (iv z) := A.out.cell (by omega)
      have k3 : V.cell? ⟨w.heap.size, 3, none⟩ = some (iv s) := A.out.cell (by omega)
      have k4 : V.cell? ⟨w.heap.size, 4, none⟩ = some (iv d) := A.out.cell (by omega)
      have c0 := (HM.out _ gV.out).me
      have j0 := A.out.lt
      have j1 := (HM.out _ gV.out).lt
      go_wp2_with fail
      refine wp_region_ext (by kernel_rfl) (by kernel_rfl) ?_
      repeat (go_big_quiet_step (first | (go_at_call 9; with_reducible exact isNode_ext B1.out _) | (go_at_call 9; with_reducible exact isNode_ext B2.out _)))
      refine wpQuiet_nil ?_
      rintro _ ⟨d1, rfl⟩
      go_wp2_with fail
      go_ret
      exact ⟨rfl, gV.out.trans d1.gr⟩
    · cases g3 : (f == (m.me : Int))
      · cases g4 : decide (s < 0)
        · cases g5 : decide (d < 0)
          · have g6 : decide (200 < d) = true := by have := HB.out; simpa [g3, g4, g5] using this
            clear HB
            go_enter Tryz.func53, Tryz.ntmps53
            go_upto_region 1 with (fail)
            refine wp_gen (fun V => Hid (ZArr V 114 5 w.heap.size (nwF f o z s d)) ∧ Hid (Gr w V)) ⟨ZArr.new w 114 5 (nwF f o z s d), (Gr.refl _).alloc _⟩ ?_
            rintro V ⟨A, gV⟩
            have k0 : V.cell? ⟨w.heap.size, 0, none⟩ = some (iv f) := A.out.cell (by omega)
            have k2 : V.cell? ⟨w.heap.size, 2, none⟩ = some (iv z) := A.out.cell (by omega)
            have k3 : V.cell? ⟨w.heap.size, 3, none⟩ = some (iv s) := A.out.cell (by omega)
            have k4 : V.cell? ⟨w.heap.size, 4, none⟩ = some (iv d) := A.out.cell (by omega)
            have c0 := (HM.out _ gV.out).me
            have j0 := A.out.lt
            have j1 := (HM.out _ gV.out).lt
            go_wp2_with fail
            refine wp_region_ext (by kernel_rfl) (by kernel_rfl) ?_
            repeat (go_big_quiet_step (first | (go_at_call 9; with_reducible exact isNode_ext B1.out _) | (go_at_call 9; with_reducible exact isNode_ext B2.out _)))
            refine wpQuiet_nil ?_
            rintro _ ⟨d1, rfl⟩
            go_wp2_with fail
            go_ret
            exact ⟨rfl, gV.out.trans d1.gr⟩
          · clear HB
            go_enter Tryz.func53, Tryz.ntmps53
            go_upto_region 1 with (fail)
            refine wp_gen (fun V => Hid (ZArr V 114 5 w.heap.size (nwF f o z s d)) ∧ Hid (Gr w V)) ⟨ZArr.new w 114 5 (nwF f o z s d), (Gr.refl _).alloc _⟩ ?_
            rintro V ⟨A, gV⟩
            have k0 : V.cell? ⟨w.heap.size, 0, none⟩ = some (iv f) := A.out.cell (by omega)
            have k2 : V.cell? ⟨w.heap.size, 2, none⟩ = some (iv z) := A.out.cell (by omega)
            have k3 : V.cell? ⟨w.heap.size, 3, none⟩ = some (iv s) := A.out.cell (by omega)
            have k4 : V.cell? ⟨w.heap.size, 4, none⟩ = some (iv d) := A.out.cell (by omega)
            have c0 := (HM.out _ gV.out).me
            have j0 := A.out.lt
            have j1 := (HM.out _ gV.out).lt
            go_wp2_with fail
            refine wp_region_ext (by kernel_rfl) (by kernel_rfl) ?_
            repeat (go_big_quiet_step (first | (go_at_call 9; with_reducible exact isNode_ext B1.out _) | (go_at_call 9; with_reducible exact isNode_ext B2.out _)))
            refine wpQuiet_nil ?_
            rintro _ ⟨d1, rfl⟩
            go_wp2_with fail
            go_ret
            exact ⟨rfl, gV.out.trans d1.gr⟩
        · clear HB
          go_enter Tryz.func53, Tryz.ntmps53
          go_upto_region 1 with (fail)
          refine wp_gen (fun V => Hid (ZArr V 114 5 w.heap.size (nwF f o z s d)) ∧ Hid (Gr w V)) ⟨ZArr.new w 114 5 (nwF f o z s d), (Gr.refl _).alloc _⟩ ?_
          rintro V ⟨A, gV⟩
          have k0 : V.cell? ⟨w.heap.size, 0, none⟩ = some (iv f) := A.out.cell (by omega)
          have k2 : V.cell? ⟨w.heap.size, 2, none⟩ = some (iv z) := A.out.cell (by omega)
          have k3 : V.cell? ⟨w.heap.size, 3, none⟩ = some (iv s) := A.out.cell (by omega)
          have k4 : V.cell? ⟨w.heap.size, 4, none⟩ = some (iv d) := A.out.cell (by omega)
          have c0 := (HM.out _ gV.out).me
          have j0 := A.out.lt
          have j1 := (HM.out _ gV.out).lt
          go_wp2_with fail
          refine wp_region_ext (by kernel_rfl) (by kernel_rfl) ?_
          repeat (go_big_quiet_step (first | (go_at_call 9; with_reducible exact isNode_ext B1.out _) | (go_at_call 9; with_reducible exact isNode_ext B2.out _)))
          refine wpQuiet_nil ?_
          rintro _ ⟨d1, rfl⟩
          go_wp2_with fail
          go_ret
          exact ⟨rfl, gV.out.trans d1.gr⟩
      · clear HB
        go_enter Tryz.func53, Tryz.ntmps53
        go_upto_region 1 with (fail)
        refine wp_gen (fun V => Hid (ZArr V 114 5 w.heap.size (nwF f o z s d)) ∧ Hid (Gr w V)) ⟨ZArr.new w 114 5 (nwF f o z s d), (Gr.refl _).alloc _⟩ ?_
        rintro V ⟨A, gV⟩
        have k0 : V.cell? ⟨w.heap.size, 0, none⟩ = some (iv f) := A.out.cell (by omega)
        have k2 : V.cell? ⟨w.heap.size, 2, none⟩ = some (iv z) := A.out.cell (by omega)
        have k3 : V.cell? ⟨w.heap.size, 3, none⟩ = some (iv s) := A.out.cell (by omega)
        have k4 : V.cell? ⟨w.heap.size, 4, none⟩ = some (iv d) := A.out.cell (by omega)
        have c0 := (HM.out _ gV.out).me
        have j0 := A.out.lt
        have j1 := (HM.out _ gV.out).lt
        go_wp2_with fail
        refine wp_region_ext (by kernel_rfl) (by kernel_rfl) ?_
        repeat (go_big_quiet_step (first | (go_at_call 9; with_reducible exact isNode_ext B1.out _) | (go_at_call 9; with_reducible exact isNode_ext B2.out _)))
        refine wpQuiet_nil ?_
        rintro _ ⟨d1, rfl⟩
        go_wp2_with fail
        go_ret
        exact ⟨rfl, gV.out.trans d1.gr⟩

set_option maxRecDepth 20000 in
set_option maxHeartbeats 8000000 in
theorem mhear_none {w : World} {p : Nat} {m : Md} (H : MAt w p m) {f z : Nat} {o s d : Int} (hf : f < 6) (hz : z < 6) (hfm : f ≠ m.me) (hc : m.cost f = 0) (hs : 0 ≤ s) (hd : 0 ≤ d) (hd2 : d ≤ 200) :
    Calls Tryz.prog 53 #[pv p, .agg #[iv f, iv o, iv z, iv s, iv d]] w fun e w' => e = .returned (iv 6) ∧ Gr w w' := by
  have hp := H.lt
  have hfi : (f : Int) < 6 := by omega
  have hzi : (z : Int) < 6 := by omega
  have B1 : Hid (decide (0 ≤ (f : Int) ∧ (f : Int) < 6) = true) := decide_eq_true ⟨by omega, hfi⟩
  have B2 : Hid (decide (0 ≤ (z : Int) ∧ (z : Int) < 6) = true) := decide_eq_true ⟨by omega, hzi⟩
  have g3 : ((f : Int) == (m.me : Int)) = false := by simp; omega
  have g4 : decide (s < 0) = false := decide_eq_false (by omega)
  have g5 : decide (d < 0) = false := decide_eq_false (by omega)
  have g6 : decide (200 < d) = false := decide_eq_false (by omega)
  have g7 : (m.cost f == 0) = true := by simpa using hc
  have HM := hide (fun (X : World) (g : Gr w X) => H.gr g)
  clear H hs hd hd2 hfm hc
  go_enter Tryz.func53, Tryz.ntmps53
  go_upto_region 1 with (fail)
  refine wp_gen (fun V => Hid (ZArr V 114 5 w.heap.size (nwF f o z s d)) ∧ Hid (Gr w V)) ⟨ZArr.new w 114 5 (nwF f o z s d), (Gr.refl _).alloc _⟩ ?_
  rintro V ⟨A, gV⟩
  have k0 : V.cell? ⟨w.heap.size, 0, none⟩ = some (iv f) := A.out.cell (by omega)
  have k2 : V.cell? ⟨w.heap.size, 2, none⟩ = some (iv z) := A.out.cell (by omega)
  have k3 : V.cell? ⟨w.heap.size, 3, none⟩ = some (iv s) := A.out.cell (by omega)
  have k4 : V.cell? ⟨w.heap.size, 4, none⟩ = some (iv d) := A.out.cell (by omega)
  have c0 := (HM.out _ gV.out).me
  have c1 := (HM.out _ gV.out).cost hf
  have j0 := A.out.lt
  have j1 := (HM.out _ gV.out).lt
  go_wp2_with fail
  refine wp_region_ext (by kernel_rfl) (by kernel_rfl) ?_
  repeat (go_big_quiet_step (first | (go_at_call 9; with_reducible exact isNode_ext B1.out _) | (go_at_call 9; with_reducible exact isNode_ext B2.out _)))
  refine wpQuiet_nil ?_
  rintro _ ⟨d1, rfl⟩
  go_upto_region 3 with (fail)
  refine wp_region_ext (by kernel_rfl) (by kernel_rfl) ?_
  repeat (go_big_quiet_step (fail))
  refine wpQuiet_nil ?_
  rintro _ ⟨d2, rfl⟩
  go_wp2_with fail
  go_ret
  exact ⟨rfl, (gV.out.trans d1.gr).trans d2.gr⟩

end Go.Proofs.YtfcknkanbcndjagGreatDoor

/- THE REFERENCE'S NODE: Link, Hear and Tick of whatever is handed in; steps of both. -/
namespace Go.Proofs.YtfcknkanbcndjagGreatDoor
open Go.RowKit

theorem mlinkN {w : World} {p : Nat} {m : Md} (H : MAt w p m) (hz : MdZ m) (f c : Int) :
    Calls Tryz.prog 50 #[pv p, iv f, iv c] w fun e w' => e = .returned (iv (lcode m f c)) ∧ MAt w' p (lnkM m f c) ∧ Wr p w w' := by
  unfold lcode lnkM
  by_cases q : lkOk m f c
  · rw [if_pos q, if_pos q]
    obtain ⟨k, rfl⟩ : ∃ k : Nat, f = (k : Int) := ⟨f.toNat, by omega⟩
    rw [Int.toNat_natCast]
    exact mlink_ok H hz.ok (f := k) (c := c) (by omega) (show k ≠ m.me by omega) q.2.1 q.2.2
  · rw [if_neg q, if_neg q]
    refine (mlink_bad H (f := f) (c := c) ?_).mono fun e w' ⟨h1, h2⟩ => ⟨h1, by rw [h2]; exact H, by rw [h2]; exact Wr.refl _ _⟩
    omega
theorem mhearN {w : World} {p : Nat} {m : Md} (H : MAt w p m) (hz : MdZ m) (f o z s d : Int) :
    Calls Tryz.prog 53 #[pv p, .agg #[iv f, iv o, iv z, iv s, iv d]] w fun e w' => e = .returned (iv (hcode m f z s d)) ∧ MAt w' p (hrM m f z s d) ∧ Wr p w w' := by
  unfold hcode hrM
  by_cases q : hrOk m f z s d
  · rw [if_pos q]
    obtain ⟨k, rfl⟩ : ∃ k : Nat, f = (k : Int) := ⟨f.toNat, by omega⟩
    obtain ⟨i, rfl⟩ : ∃ i : Nat, z = (i : Int) := ⟨z.toNat, by omega⟩
    rw [Int.toNat_natCast, Int.toNat_natCast]
    by_cases hc : m.cost k = 0
    · rw [if_pos hc, if_neg (fun x => x.2 hc)]
      exact (mhear_none H (f := k) (z := i) (o := o) (s := s) (d := d) (by omega) (by omega) (show k ≠ m.me by omega) hc q.2.2.1 q.2.2.2.1 q.2.2.2.2).mono fun e w' ⟨h1, h2⟩ => ⟨h1, H.gr h2, h2.wr p⟩
    · rw [if_neg hc, if_pos ⟨q, hc⟩]
      exact mhear_ok H hz.ok (f := k) (z := i) (o := o) (s := s) (d := d) (by omega) (by omega) (show k ≠ m.me by omega) hc q.2.2.1 q.2.2.2.1 q.2.2.2.2
  · rw [if_neg q, if_neg (fun x => q x.1)]
    refine (mhear_bad H (f := f) (o := o) (z := z) (s := s) (d := d) ?_).mono fun e w' ⟨h1, h2⟩ => ⟨h1, H.gr h2, h2.wr p⟩
    omega
theorem mtickN {w : World} {p : Nat} {m : Md} (H : MAt w p m) (hz : MdZ m) (ha : age m < 4611686018427387904) :
    Calls Tryz.prog 51 #[pv p] w fun e w' => e = .returned (.tuple #[]) ∧ MAt w' p (tickM m) ∧ Wr p w w' := by
  obtain ⟨s, h0, hw, _⟩ := hz.ok.self
  exact mtick_any H hz.ok.me (by rw [hw]; exact h0) ha

/-- A step of a law: Do, Cost, From, For, To, Seq, Dist. -/
structure Stp where
  k : Int
  c : Int
  f : Int
  o : Int
  z : Int
  s : Int
  d : Int
def Stp.val (x : Stp) : Value := .agg #[iv x.k, iv x.c, iv x.f, iv x.o, iv x.z, iv x.s, iv x.d]
end Go.Proofs.YtfcknkanbcndjagGreatDoor

/- THE REFERENCE'S Town: Settle. -/
namespace Go.Proofs.YtfcknkanbcndjagGreatDoor
open Go.RowKit
attribute [local go_sem] Ext.all Ext.cell Ext.frozen Ext.lt Ext.lt1 Ext.lt2 Ext.ne Ext.ne'
/-- The news are taken away. -/
theorem Tw.noNews {M : Nat → Prop} {B w : World} {p : Nat} {q : Nat → Nat} {v o : Value} {t : Tn} (h : Tw M B w p q v o t) : Tw M B (w.setCell ⟨p, 42, none⟩ (.slice none 0 0)) p q (.slice none 0 0) o { t with news := [] } :=
  h.newsPut (World.grownBy.refl _ _) (NwO.nil _ _) (.inl rfl)
end Go.Proofs.YtfcknkanbcndjagGreatDoor
