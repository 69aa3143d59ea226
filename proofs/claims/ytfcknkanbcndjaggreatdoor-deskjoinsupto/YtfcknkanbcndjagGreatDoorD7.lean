import Derived.Test.YtfcknkanbcndjagGreatDoorD3
import Derived.Test.YtfcknkanbcndjagGreatDoorD2
import Derived.Lib.SmallJoins
import Derived.Carry
/- CONTRACTS OF package node: forget, chooseAll. -/
namespace Go.Proofs.YtfcknkanbcndjagGreatDoor
open Go.RowKit
attribute [local go_sem] Ext.all Ext.cell Ext.frozen Ext.lt Ext.lt1 Ext.lt2 Ext.ne Ext.ne'
theorem NdAt.free {t : TypeId} {w : World} {p : Nat} {m : Md} (h : NdAt t w p m) (j : Nat) : w.frozen? ⟨p, j, none⟩ = false := ZArr.free h j
theorem Gr.drewTo {a b c : World} (h : Gr a b) (k : Gr b.drew c) : Gr a c := h.drew.trans k

def fgM (m : Md) (f : Nat) (k : Nat) : Md := { m with heard := fun j i => if j = f ∧ i < k then (0, 200) else m.heard j i }
theorem fg_zero (m : Md) (f : Nat) : fgM m f 0 = m := by
  unfold fgM
  have : (fun j i => if j = f ∧ i < 0 then ((0, 200) : Int × Int) else m.heard j i) = m.heard := by
    funext j i
    rw [if_neg (by omega)]
  rw [this]
theorem fg_succ (m : Md) (f : Nat) (k : Nat) : { fgM m f k with heard := updW (fgM m f k).heard f (updW ((fgM m f k).heard f) k (0, 200)) } = fgM m f (k + 1) := by
  unfold fgM
  dsimp only
  congr 1
  funext j i
  unfold updW
  by_cases e : j = f
  · subst e
    rw [if_pos rfl]
    dsimp only
    by_cases e2 : i = k
    · rw [if_pos e2, if_pos ⟨rfl, by omega⟩]
    · rw [if_neg e2]
      by_cases e3 : i < k
      · rw [if_pos ⟨rfl, e3⟩, if_pos ⟨rfl, by omega⟩]
      · rw [if_neg (by omega), if_neg (by omega)]
  · simp [e]
theorem fg_heard (m : Md) (f j : Nat) {k : Nat} (hk : k < 6) : (fgM m f 6).heard j k = updW m.heard f (fun _ => (0, 200)) j k := by
  unfold fgM updW
  by_cases e : j = f
  · simp [e, hk]
  · simp [e]
theorem fg_end {t : TypeId} {w : World} {p : Nat} {m : Md} {f : Nat} (h : NdAt t w p (fgM m f 6)) : NdAt t w p { m with heard := updW m.heard f (fun _ => (0, 200)) } := by
  refine ZArr.congr h fun i hi => ?_
  have E := fg_heard m f ((i - 7) / 12) (k := (i - 7) % 12 / 2) (by omega)
  unfold mdF
  rw [E]
  rfl

set_option maxRecDepth 20000 in
set_option maxHeartbeats 8000000 in
theorem nforget_any {w : World} {p : Nat} {m : Md} (H : DAt w p m) {f : Nat} (hf : f < 6) :
    Calls Tryz.prog 142 #[pv p, iv f] w fun e w' => e = .returned (.tuple #[]) ∧ DAt w' p { m with heard := updW m.heard f (fun _ => (0, 200)) } ∧ Wr p w w' := by
  have hfi : (f : Int) < 6 := by omega
  have M0 : Hid (DAt w p (fgM m f 0)) := by rw [fg_zero]; exact H
  clear H
  go_enter Tryz.func142, Tryz.ntmps142
  go_wp2_with fail
  go_loopw [5] (fun v5 wr => ∃ k : Nat, k ≤ 6 ∧ v5 = .int .i64 (k : Int) ∧ Hid (DAt wr p (fgM m f k)) ∧ Hid (Wr p w wr)) (fun v5 _ => (6 - intOf v5).toNat)
  case atStart => exact ⟨0, by omega, rfl, M0, Wr.refl _ _⟩
  case round =>
    clear M0
    obtain ⟨k, hk6, rfl, M0, W0⟩ := hrel
    by_cases hk : k < 6
    · have hki : decide ((k : Int) < 6) = true := decide_eq_true (by omega)
      have hk0 : (k : Int) < 6 := by omega
      have wk : IntKind.i64.wrap ((k : Int) + 1) = (k : Int) + 1 := by rw [IntKind.wrap_i64]; omega
      have hp := M0.out.lt
      have fz := ZArr.free M0.out
      obtain ⟨q0, q1⟩ := M0.out.heard hf hk
      go_upto_region 3 with (fail)
      go_region_with (go_at_call 143; with_reducible refine (nothing_any _).mono ?_; rintro e V ⟨rfl, d2, hV⟩; have gV : Hid (Gr wr V) := (by unfold Hid; rw [hV]; exact (Gr.refl _).drewTo d2.gr); clear hV d2; have hp2 := (M0.out.gr gV.out).lt; have fz2 := NdAt.free (M0.out.gr gV.out); obtain ⟨r0, r1⟩ := (M0.out.gr gV.out).heard hf hk)
      all_goals
        have SM := hide ((M0.out.gr gV.out).setHeard hf hk 0 200)
        have SW := hide (((W0.out.trans (gV.out.wr p)).set (7 + f * 12 + k * 2) (iv 0)).set (7 + f * 12 + k * 2 + 1) (iv 200))
        rw [fg_succ] at SM
        go_wp2_with fail
        go_roundw
        case rel => exact ⟨k + 1, by omega, by congr 1, SM, SW⟩
        case measure => simp [intOf]; omega
    · have hki : decide ((k : Int) < 6) = false := decide_eq_false (by omega)
      have ek : k = 6 := by omega
      subst ek
      go_wp2_with fail
      refine bodyPost_end (results_none rfl _ _ _) rfl ?_
      exact ⟨rfl, fg_end M0.out, W0.out⟩

/-- What the numbers of a node keep to. -/
structure Bd (m : Md) : Prop where
  cost : ∀ r, 0 ≤ m.cost r ∧ m.cost r ≤ 15
  said : ∀ r k, 0 ≤ (m.heard r k).2 ∧ (m.heard r k).2 ≤ 200
  best : ∀ k, (m.bests k).2 ≤ 200
theorem look_bd {m : Md} (h : Bd m) (z : Nat) : Bd (lookM m z) := by
  refine ⟨fun r => by rw [look_cost]; exact h.cost r, fun r k => by rw [look_heard]; exact h.said r k, fun k => ?_⟩
  by_cases e : k = z
  · subst e
    unfold lookM
    split
    · exact h.best k
    · dsimp only
      split
      · rw [updW_same]
        rcases pkD_is m k with ⟨j, _, mk, hw, _⟩ | ⟨_, hw⟩
        · obtain ⟨_, c1, _⟩ := may_iff.1 mk
          rw [hw]
          unfold wayBy
          simp only
          omega
        · rw [hw]; exact Int.le_refl _
      · exact h.best k
  · rw [(look_other m e).2]; exact h.best k
theorem lookTo_bd {m : Md} (h : Bd m) : ∀ n, Bd (lookTo m n)
  | 0 => h
  | n + 1 => look_bd (lookTo_bd h n) n

set_option maxRecDepth 20000 in
set_option maxHeartbeats 8000000 in
theorem nchooseAll_any {w : World} {p : Nat} {m : Md} (H : DAt w p m) (hB : Bd m) :
    Calls Tryz.prog 110 #[pv p] w fun e w' => e = .returned (.tuple #[]) ∧ DAt w' p (lookTo m 6) ∧ Wr p w w' := by
  have M0 : Hid (DAt w p (lookTo m 0)) := H
  clear H
  go_enter Tryz.func110, Tryz.ntmps110
  go_wp2_with fail
  go_loopw [3] (fun v3 wr => ∃ k : Nat, k ≤ 6 ∧ v3 = .int .i64 (k : Int) ∧ Hid (DAt wr p (lookTo m k)) ∧ Hid (Wr p w wr)) (fun v3 _ => (6 - intOf v3).toNat)
  case atStart => exact ⟨0, by omega, rfl, M0, Wr.refl _ _⟩
  case round =>
    clear M0
    obtain ⟨k, hk6, rfl, M0, W0⟩ := hrel
    by_cases hk : k < 6
    · have hki : decide ((k : Int) < 6) = true := decide_eq_true (by omega)
      have wk : IntKind.i64.wrap ((k : Int) + 1) = (k : Int) + 1 := by rw [IntKind.wrap_i64]; omega
      have hp := M0.out.lt
      have c0 := M0.out.me
      have hme := (lookTo_all m k).1
      rw [hme] at c0
      have HB := hide (lookTo_bd hB k)
      by_cases e : k = m.me
      · have g1 : ((k : Int) != (m.me : Int)) = false := by simp; omega
        have HE : Hid (lookTo m (k + 1) = lookTo m k) := by
          unfold Hid
          rw [lookTo]
          unfold lookM
          rw [if_pos (by rw [hme]; exact e)]
        clear e hme
        go_wp2_with fail
        go_roundw
        case rel => exact ⟨k + 1, by omega, by congr 1, by rw [HE.out]; exact M0, W0⟩
        case measure => simp [intOf]; omega
      · have g1 : ((k : Int) != (m.me : Int)) = true := by simp; omega
        have HQ := hide (nchoose_any M0.out hk (by rw [hme]; exact e) HB.out.cost (fun r => HB.out.said r k) (HB.out.best k))
        clear e hme
        go_wp2_with (go_at_call 147; with_reducible refine HQ.out.mono ?_; rintro e V4 ⟨rfl, M4, W4⟩; have HM4 := hide M4; have HW4 := hide W4; clear M4 W4)
        go_roundw
        case rel => exact ⟨k + 1, by omega, by congr 1, HM4, W0.out.trans HW4.out⟩
        case measure => simp [intOf]; omega
    · have hki : decide ((k : Int) < 6) = false := decide_eq_false (by omega)
      have ek : k = 6 := by omega
      subst ek
      go_wp2_with fail
      refine bodyPost_end (results_none rfl _ _ _) rfl ?_
      exact ⟨rfl, M0.out, W0.out⟩

end Go.Proofs.YtfcknkanbcndjagGreatDoor

/- CONTRACTS OF package node: Link, Hear, Tick. -/
namespace Go.Proofs.YtfcknkanbcndjagGreatDoor
open Go.RowKit
attribute [local go_sem] Ext.all Ext.cell Ext.frozen Ext.lt Ext.lt1 Ext.lt2 Ext.ne Ext.ne'
theorem cost_bd {m : Md} (h : Bd m) (f : Nat) {c : Int} (h0 : 0 ≤ c) (h1 : c ≤ 15) : Bd { m with cost := updW m.cost f c } := by
  refine ⟨fun r => ?_, h.said, h.best⟩
  show 0 ≤ updW m.cost f c r ∧ updW m.cost f c r ≤ 15
  unfold updW
  split
  · exact ⟨h0, h1⟩
  · exact h.cost r
theorem forget_bd {m : Md} (h : Bd m) (f : Nat) : Bd { m with heard := updW m.heard f (fun _ => (0, 200)) } := by
  refine ⟨h.cost, fun r k => ?_, h.best⟩
  show 0 ≤ (updW m.heard f (fun _ => (0, 200)) r k).2 ∧ (updW m.heard f (fun _ => (0, 200)) r k).2 ≤ 200
  by_cases e : r = f
  · rw [e, updW_same]; exact ⟨by decide, by decide⟩
  · rw [updW_ne _ _ e]; exact h.said r k
theorem heard_bd {m : Md} (h : Bd m) (f z : Nat) {s d : Int} (h0 : 0 ≤ d) (h1 : d ≤ 200) : Bd { m with heard := updW m.heard f (updW (m.heard f) z (s, d)) } := by
  refine ⟨h.cost, fun r k => ?_, h.best⟩
  show 0 ≤ (updW m.heard f (updW (m.heard f) z (s, d)) r k).2 ∧ (updW m.heard f (updW (m.heard f) z (s, d)) r k).2 ≤ 200
  by_cases e : r = f
  · rw [e, updW_same]
    by_cases e2 : k = z
    · rw [e2, updW_same]; exact ⟨h0, h1⟩
    · rw [updW_ne _ _ e2]; exact h.said f k
  · rw [updW_ne _ _ e]; exact h.said r k
set_option maxRecDepth 20000 in
set_option maxHeartbeats 8000000 in
theorem nlink_ok {w : World} {p : Nat} {m : Md} (H : DAt w p m) (hB : Bd m) {f : Nat} {c : Int} (hf : f < 6) (hfm : f ≠ m.me) (h0 : 0 ≤ c) (h1 : c ≤ 15) :
    Calls Tryz.prog 121 #[pv p, iv f, iv c] w fun e w' => e = .returned (iv 0) ∧ DAt w' p (linkM m f c) ∧ Wr p w w' := by
  have hp := H.lt
  have hfi : (f : Int) < 6 := by omega
  have HO : Hid (decide ((0 ≤ (f : Int) ∧ (f : Int) < 6) ∧ (f : Int) ≠ m.me) = true) := decide_eq_true ⟨by omega, by omega⟩
  have HN := hide (nother_is H HO.out)
  have g4 : decide (c < 0) = false := decide_eq_false (by omega)
  have g5 : decide (15 < c) = false := decide_eq_false (by omega)
  have k0 := H.cost hf
  have fz := NdAt.free H
  have SM := hide (H.setCost hf c)
  have SW := hide ((Wr.refl p w).set (1 + f) (iv c))
  have HB1 := hide (cost_bd hB f h0 h1)
  have HB2 := hide (forget_bd HB1.out f)
  by_cases hc : c = 0
  · have gc : (c == 0) = true := by simpa using hc
    have HL : Hid (linkM m f c = lookTo { { m with cost := updW m.cost f c } with heard := updW m.heard f (fun _ => (0, 200)) } 6) := by unfold Hid linkM; rw [if_pos hc]
    clear H hB hfm h0 h1 hc
    go_enter Tryz.func121, Tryz.ntmps121
    go_upto_region 7 with (go_at_call 109; with_reducible refine HN.out.mono ?_; rintro e w1 ⟨rfl, hw1⟩; have hw2 := hw1.symm; clear hw1; subst hw2)
    refine wp_gen (fun V => Hid (DAt V p { m with cost := updW m.cost f c }) ∧ Hid (Wr p w V)) ⟨SM, SW⟩ ?_
    clear SM SW k0 fz hp HN
    rintro V ⟨M1, W1⟩
    go_upto_region 8 with (go_at_call 142; with_reducible refine (nforget_any M1.out hf).mono ?_; rintro e V2 ⟨rfl, M2', W2'⟩; have M2 := hide M2'; have W2 := hide W2'; clear M2' W2')
    go_wp2_with (go_at_call 110; with_reducible refine (nchooseAll_any M2.out HB2.out).mono ?_; rintro e V3 ⟨rfl, M3', W3'⟩; have M3 := hide M3'; have W3 := hide W3'; clear M3' W3')
    go_ret
    exact ⟨rfl, by rw [HL.out]; exact M3.out, (W1.out.trans W2.out).trans W3.out⟩
  · have gc : (c == 0) = false := by simpa using hc
    have HL : Hid (linkM m f c = lookTo { m with cost := updW m.cost f c } 6) := by unfold Hid linkM; rw [if_neg hc]
    clear H hB hfm h0 h1 hc
    go_enter Tryz.func121, Tryz.ntmps121
    go_upto_region 8 with (go_at_call 109; with_reducible refine HN.out.mono ?_; rintro e w1 ⟨rfl, hw1⟩; have hw2 := hw1.symm; clear hw1; subst hw2)
    refine wp_gen (fun V => Hid (DAt V p { m with cost := updW m.cost f c }) ∧ Hid (Wr p w V)) ⟨SM, SW⟩ ?_
    clear SM SW k0 fz hp HN
    rintro V ⟨M1, W1⟩
    go_wp2_with (go_at_call 110; with_reducible refine (nchooseAll_any M1.out HB1.out).mono ?_; rintro e V3 ⟨rfl, M3', W3'⟩; have M3 := hide M3'; have W3 := hide W3'; clear M3' W3')
    go_ret
    exact ⟨rfl, by rw [HL.out]; exact M3.out, W1.out.trans W3.out⟩

set_option maxRecDepth 20000 in
set_option maxHeartbeats 8000000 in
theorem nlink_bad {w : World} {p : Nat} {m : Md} (H : DAt w p m) {f c : Int} (hb : ¬ (0 ≤ f ∧ f < 6) ∨ f = m.me ∨ c < 0 ∨ 15 < c) :
    Calls Tryz.prog 121 #[pv p, iv f, iv c] w fun e w' => e = .returned (iv 1) ∧ w' = w := by
  have hp := H.lt
  obtain ⟨b, B1⟩ : ∃ b, Hid (decide ((0 ≤ f ∧ f < 6) ∧ f ≠ m.me) = b) := ⟨_, rfl⟩
  have HN := hide (nother_is H B1.out)
  have HB : Hid (b = false ∨ decide (c < 0) = true ∨ decide (15 < c) = true) := by
    rcases hb with h | h | h | h
    · exact .inl (by rw [← B1.out]; exact decide_eq_false (fun q => h q.1))
    · exact .inl (by rw [← B1.out]; exact decide_eq_false (fun q => q.2 h))
    · exact .inr (.inl (decide_eq_true h))
    · exact .inr (.inr (decide_eq_true h))
  clear hb H
  cases b
  · clear HB
    go_enter Tryz.func121, Tryz.ntmps121
    go_wp2_with (go_at_call 109; with_reducible refine HN.out.mono ?_; rintro e w1 ⟨rfl, hw1⟩; have hw2 := hw1.symm; clear hw1; subst hw2)
    go_ret
    exact ⟨rfl, rfl⟩
  · cases g4 : decide (c < 0)
    · have g5 : decide (15 < c) = true := by have := HB.out; simpa [g4] using this
      clear HB
      go_enter Tryz.func121, Tryz.ntmps121
      go_wp2_with (go_at_call 109; with_reducible refine HN.out.mono ?_; rintro e w1 ⟨rfl, hw1⟩; have hw2 := hw1.symm; clear hw1; subst hw2)
      go_ret
      exact ⟨rfl, rfl⟩
    · clear HB
      go_enter Tryz.func121, Tryz.ntmps121
      go_wp2_with (go_at_call 109; with_reducible refine HN.out.mono ?_; rintro e w1 ⟨rfl, hw1⟩; have hw2 := hw1.symm; clear hw1; subst hw2)
      go_ret
      exact ⟨rfl, rfl⟩

set_option maxRecDepth 20000 in
set_option maxHeartbeats 8000000 in
theorem ntick_any {w : World} {p : Nat} {m : Md} (H : DAt w p m) (hme : m.me < 6) (hs : 0 ≤ (m.ways m.me).1) (hs2 : (m.ways m.me).1 < 4611686018427387904) :
    Calls Tryz.prog 29 #[pv p] w fun e w' => e = .returned (.tuple #[]) ∧ DAt w' p (tickD m) ∧ Wr p w w' := by
  have c0 := H.me
  have hp := H.lt
  have fz := NdAt.free H
  obtain ⟨q0, q1, q2⟩ := H.ways hme
  have hmi : (m.me : Int) < 6 := by omega
  have wb : IntKind.i64.wrap ((m.ways m.me).1 + 1) = (m.ways m.me).1 + 1 := by rw [IntKind.wrap_i64]; omega
  have SM := hide (H.setAge hme ((m.ways m.me).1 + 1))
  have SW := hide ((Wr.refl p w).set (79 + m.me * 3) (iv ((m.ways m.me).1 + 1)))
  have HT : Hid (tickD m = { m with ways := updW m.ways m.me ((m.ways m.me).1 + 1, (m.ways m.me).2.1, (m.ways m.me).2.2) }) := rfl
  clear H hs hs2
  go_enter Tryz.func29, Tryz.ntmps29
  go_upto_region 1 with (fail)
  go_still_tail 15, (by kernel_rfl)
  go_wp2_with fail
  refine bodyPost_end (results_none rfl _ _ _) rfl ?_
  exact ⟨rfl, by rw [HT.out]; exact SM.out.gr (Gr.refl _).drew, SW.out.trans ((Gr.refl _).drew.wr p)⟩

end Go.Proofs.YtfcknkanbcndjagGreatDoor

/- CONTRACTS OF package node: Hear. -/
namespace Go.Proofs.YtfcknkanbcndjagGreatDoor
open Go.RowKit
attribute [local go_sem] Ext.all Ext.cell Ext.frozen Ext.lt Ext.lt1 Ext.lt2 Ext.ne Ext.ne'
set_option maxRecDepth 20000 in
set_option maxHeartbeats 8000000 in
theorem nhear_ok {w : World} {p : Nat} {m : Md} (H : DAt w p m) (hB : Bd m) {f z : Nat} {o s d : Int} (hf : f < 6) (hz : z < 6) (hfm : f ≠ m.me) (hc : m.cost f ≠ 0) (hs : 0 ≤ s) (hd : 0 ≤ d) (hd2 : d ≤ 200) :
    Calls Tryz.prog 58 #[pv p, .agg #[iv f, iv o, iv z, iv s, iv d]] w fun e w' => e = .returned (iv 0) ∧ DAt w' p (hearD m f z s d) ∧ Wr p w w' := by
  have hp := H.lt
  have HPW := hide hp
  have hfi : (f : Int) < 6 := by omega
  have hzi : (z : Int) < 6 := by omega
  have HO : Hid (decide ((0 ≤ (f : Int) ∧ (f : Int) < 6) ∧ (f : Int) ≠ m.me) = true) := decide_eq_true ⟨by omega, by omega⟩
  have B2 : Hid (decide (0 ≤ (z : Int) ∧ (z : Int) < 6) = true) := decide_eq_true ⟨by omega, hzi⟩
  have g4 : decide (s < 0) = false := decide_eq_false (by omega)
  have g5 : decide (d < 0) = false := decide_eq_false (by omega)
  have g6 : decide (200 < d) = false := decide_eq_false (by omega)
  have g7 : (m.cost f == 0) = false := by simpa using hc
  have HM := hide (fun (X : World) (g : Gr w X) => H.gr g)
  have HL : Hid (hearD m f z s d = lookTo { m with heard := updW m.heard f (updW (m.heard f) z (s, d)) } 6) := rfl
  have HB1 := hide (heard_bd hB f z (s := s) hd hd2)
  clear H hs hd hd2 hfm hc
  go_enter Tryz.func58, Tryz.ntmps58
  go_upto_region 1 with (fail)
  refine wp_gen (fun V => Hid (ZArr V 114 5 w.heap.size (nwF f o z s d)) ∧ Hid (Gr w V)) ⟨ZArr.new w 114 5 (nwF f o z s d), (Gr.refl _).alloc _⟩ ?_
  clear hp
  rintro V ⟨A, gV⟩
  have k0 : V.cell? ⟨w.heap.size, 0, none⟩ = some (iv f) := A.out.cell (by omega)
  have k2 : V.cell? ⟨w.heap.size, 2, none⟩ = some (iv z) := A.out.cell (by omega)
  have k3 : V.cell? ⟨w.heap.size, 3, none⟩ = some (iv s) := A.out.cell (by omega)
  have k4 : V.cell? ⟨w.heap.size, 4, none⟩ = some (iv d) := A.out.cell (by omega)
  have c1 := (HM.out _ gV.out).cost hf
  have HN := hide (nother_is (HM.out _ gV.out) HO.out)
  have j0 := A.out.lt
  have j1 := (HM.out _ gV.out).lt
  go_upto_region 3 with (first | (go_at_call 109; with_reducible refine HN.out.mono ?_; rintro e w1 ⟨rfl, hw1⟩; have hw2 := hw1.symm; clear hw1; subst hw2) | (go_at_call 33; with_reducible refine (lnode_is B2.out _).mono ?_; rintro e w1 ⟨rfl, hw1⟩; have hw2 := hw1.symm; clear hw1; subst hw2))
  refine wp_region_ext (by kernel_rfl) (by kernel_rfl) ?_
  repeat (go_big_quiet_step (fail))
  refine wpQuiet_nil ?_
  rintro _ ⟨d2, rfl⟩
  go_upto_region 5 with (fail)
  refine wp_gen (fun V2 => Hid (ZArr V2 114 5 w.heap.size (nwF f o z s d)) ∧ Hid (Gr w V2)) ⟨A.out.gr d2.gr, gV.out.trans d2.gr⟩ ?_
  clear A gV k0 k2 k3 k4 c1 j0 j1 HN d2
  rintro V2 ⟨A, gV⟩
  have k0 : V2.cell? ⟨w.heap.size, 0, none⟩ = some (iv f) := A.out.cell (by omega)
  have k2 : V2.cell? ⟨w.heap.size, 2, none⟩ = some (iv z) := A.out.cell (by omega)
  have k3 : V2.cell? ⟨w.heap.size, 3, none⟩ = some (iv s) := A.out.cell (by omega)
  have k4 : V2.cell? ⟨w.heap.size, 4, none⟩ = some (iv d) := A.out.cell (by omega)
  obtain ⟨q0, q1⟩ := (HM.out _ gV.out).heard hf hz
  have fz := NdAt.free (HM.out _ gV.out)
  have j0 := A.out.lt
  have j1 := (HM.out _ gV.out).lt
  have SM := hide ((HM.out _ gV.out).setHeard hf hz s d)
  have SW := hide (((gV.out.wr p).set (7 + f * 12 + z * 2) (iv s)).set (7 + f * 12 + z * 2 + 1) (iv d))
  clear A gV
  go_still_tail 14, (by kernel_rfl)
  go_upto_region 6 with (fail)
  refine wp_gen (fun V3 => Hid (DAt V3 p { m with heard := updW m.heard f (updW (m.heard f) z (s, d)) }) ∧ Hid (Wr p w V3)) ⟨SM.out.gr (Gr.refl _).drew, SW.out.trans ((Gr.refl _).drew.wr p)⟩ ?_
  clear SM SW k0 k2 k3 k4 q0 q1 fz j0 j1
  rintro V3 ⟨M3, W3⟩
  go_wp2_with (go_at_call 110; with_reducible refine (nchooseAll_any M3.out HB1.out).mono ?_; rintro e V4 ⟨rfl, M4, W4⟩; have HM4 := hide M4; have HW4 := hide W4; clear M4 W4)
  go_ret
  exact ⟨rfl, by rw [HL.out]; exact HM4.out, W3.out.trans HW4.out⟩

set_option maxRecDepth 20000 in
set_option maxHeartbeats 8000000 in
theorem nhear_none {w : World} {p : Nat} {m : Md} (H : DAt w p m) {f z : Nat} {o s d : Int} (hf : f < 6) (hz : z < 6) (hfm : f ≠ m.me) (hc : m.cost f = 0) (hs : 0 ≤ s) (hd : 0 ≤ d) (hd2 : d ≤ 200) :
    Calls Tryz.prog 58 #[pv p, .agg #[iv f, iv o, iv z, iv s, iv d]] w fun e w' => e = .returned (iv 6) ∧ Gr w w' := by
  have hp := H.lt
  have hfi : (f : Int) < 6 := by omega
  have hzi : (z : Int) < 6 := by omega
  have HO : Hid (decide ((0 ≤ (f : Int) ∧ (f : Int) < 6) ∧ (f : Int) ≠ m.me) = true) := decide_eq_true ⟨by omega, by omega⟩
  have B2 : Hid (decide (0 ≤ (z : Int) ∧ (z : Int) < 6) = true) := decide_eq_true ⟨by omega, hzi⟩
  have g4 : decide (s < 0) = false := decide_eq_false (by omega)
  have g5 : decide (d < 0) = false := decide_eq_false (by omega)
  have g6 : decide (200 < d) = false := decide_eq_false (by omega)
  have g7 : (m.cost f == 0) = true := by simpa using hc
  have HM := hide (fun (X : World) (g : Gr w X) => H.gr g)
  clear H hs hd hd2 hfm hc
  go_enter Tryz.func58, Tryz.ntmps58
  go_upto_region 1 with (fail)
  refine wp_gen (fun V => Hid (ZArr V 114 5 w.heap.size (nwF f o z s d)) ∧ Hid (Gr w V)) ⟨ZArr.new w 114 5 (nwF f o z s d), (Gr.refl _).alloc _⟩ ?_
  clear hp
  rintro V ⟨A, gV⟩
  have k0 : V.cell? ⟨w.heap.size, 0, none⟩ = some (iv f) := A.out.cell (by omega)
  have k2 : V.cell? ⟨w.heap.size, 2, none⟩ = some (iv z) := A.out.cell (by omega)
  have k3 : V.cell? ⟨w.heap.size, 3, none⟩ = some (iv s) := A.out.cell (by omega)
  have k4 : V.cell? ⟨w.heap.size, 4, none⟩ = some (iv d) := A.out.cell (by omega)
  have c1 := (HM.out _ gV.out).cost hf
  have HN := hide (nother_is (HM.out _ gV.out) HO.out)
  have j0 := A.out.lt
  have j1 := (HM.out _ gV.out).lt
  go_upto_region 3 with (first | (go_at_call 109; with_reducible refine HN.out.mono ?_; rintro e w1 ⟨rfl, hw1⟩; have hw2 := hw1.symm; clear hw1; subst hw2) | (go_at_call 33; with_reducible refine (lnode_is B2.out _).mono ?_; rintro e w1 ⟨rfl, hw1⟩; have hw2 := hw1.symm; clear hw1; subst hw2))
  refine wp_region_ext (by kernel_rfl) (by kernel_rfl) ?_
  repeat (go_big_quiet_step (fail))
  refine wpQuiet_nil ?_
  rintro _ ⟨d2, rfl⟩
  go_wp2_with fail
  go_ret
  exact ⟨rfl, gV.out.trans d2.gr⟩

set_option maxRecDepth 20000 in
set_option maxHeartbeats 8000000 in
theorem nhear_bad {w : World} {p : Nat} {m : Md} (H : DAt w p m) {f o z s d : Int} (hb : ¬ (0 ≤ f ∧ f < 6) ∨ ¬ (0 ≤ z ∧ z < 6) ∨ f = m.me ∨ s < 0 ∨ d < 0 ∨ 200 < d) :
    Calls Tryz.prog 58 #[pv p, .agg #[iv f, iv o, iv z, iv s, iv d]] w fun e w' => e = .returned (iv 1) ∧ Gr w w' := by
  have HM := hide (fun (X : World) (g : Gr w X) => H.gr g)
  obtain ⟨b, B1⟩ : ∃ b, Hid (decide ((0 ≤ f ∧ f < 6) ∧ f ≠ m.me) = b) := ⟨_, rfl⟩
  obtain ⟨b2, B2⟩ : ∃ b, Hid (decide (0 ≤ z ∧ z < 6) = b) := ⟨_, rfl⟩
  have HB : Hid (b = false ∨ b2 = false ∨ decide (s < 0) = true ∨ decide (d < 0) = true ∨ decide (200 < d) = true) := by
    rcases hb with h | h | h | h | h | h
    · exact .inl (by rw [← B1.out]; exact decide_eq_false (fun q => h q.1))
    · exact .inr (.inl (by rw [← B2.out]; exact decide_eq_false h))
    · exact .inl (by rw [← B1.out]; exact decide_eq_false (fun q => q.2 h))
    · exact .inr (.inr (.inl (decide_eq_true h)))
    · exact .inr (.inr (.inr (.inl (decide_eq_true h))))
    · exact .inr (.inr (.inr (.inr (decide_eq_true h))))
  clear hb H
  go_enter Tryz.func58, Tryz.ntmps58
  go_upto_region 1 with (fail)
  refine wp_gen (fun V => Hid (ZArr V 114 5 w.heap.size (nwF f o z s d)) ∧ Hid (Gr w V)) ⟨ZArr.new w 114 5 (nwF f o z s d), (Gr.refl _).alloc _⟩ ?_
  rintro V ⟨A, gV⟩
  have k0 : V.cell? ⟨w.heap.size, 0, none⟩ = some (iv f) := A.out.cell (by omega)
  have k2 : V.cell? ⟨w.heap.size, 2, none⟩ = some (iv z) := A.out.cell (by omega)
  have k3 : V.cell? ⟨w.heap.size, 3, none⟩ = some (iv s) := A.out.cell (by omega)
  have k4 : V.cell? ⟨w.heap.size, 4, none⟩ = some (iv d) := A.out.cell (by omega)
  have HN := hide (nother_is (HM.out _ gV.out) B1.out)
  have j0 := A.out.lt
  clear HM
  cases b
  · clear HB
    go_wp2_with (first | (go_at_call 109; with_reducible refine HN.out.mono ?_; rintro e w1 ⟨rfl, hw1⟩; have hw2 := hw1.symm; clear hw1; subst hw2) | (go_at_call 33; with_reducible refine (lnode_is B2.out _).mono ?_; rintro e w1 ⟨rfl, hw1⟩; have hw2 := hw1.symm; clear hw1; subst hw2))
    go_ret
    exact ⟨rfl, gV.out⟩
  · cases b2
    · clear HB
      go_wp2_with (first | (go_at_call 109; with_reducible refine HN.out.mono ?_; rintro e w1 ⟨rfl, hw1⟩; have hw2 := hw1.symm; clear hw1; subst hw2) | (go_at_call 33; with_reducible refine (lnode_is B2.out _).mono ?_; rintro e w1 ⟨rfl, hw1⟩; have hw2 := hw1.symm; clear hw1; subst hw2))
      go_ret
      exact ⟨rfl, gV.out⟩
    · cases g4 : decide (s < 0)
      · cases g5 : decide (d < 0)
        · have g6 : decide (200 < d) = true := by have := HB.out; simpa [g4, g5] using this
          clear HB
          go_wp2_with (first | (go_at_call 109; with_reducible refine HN.out.mono ?_; rintro e w1 ⟨rfl, hw1⟩; have hw2 := hw1.symm; clear hw1; subst hw2) | (go_at_call 33; with_reducible refine (lnode_is B2.out _).mono ?_; rintro e w1 ⟨rfl, hw1⟩; have hw2 := hw1.symm; clear hw1; subst hw2))
          go_ret
          exact ⟨rfl, gV.out⟩
        · clear HB
          go_wp2_with (first | (go_at_call 109; with_reducible refine HN.out.mono ?_; rintro e w1 ⟨rfl, hw1⟩; have hw2 := hw1.symm; clear hw1; subst hw2) | (go_at_call 33; with_reducible refine (lnode_is B2.out _).mono ?_; rintro e w1 ⟨rfl, hw1⟩; have hw2 := hw1.symm; clear hw1; subst hw2))
          go_ret
          exact ⟨rfl, gV.out⟩
      · clear HB
        go_wp2_with (first | (go_at_call 109; with_reducible refine HN.out.mono ?_; rintro e w1 ⟨rfl, hw1⟩; have hw2 := hw1.symm; clear hw1; subst hw2) | (go_at_call 33; with_reducible refine (lnode_is B2.out _).mono ?_; rintro e w1 ⟨rfl, hw1⟩; have hw2 := hw1.symm; clear hw1; subst hw2))
        go_ret
        exact ⟨rfl, gV.out⟩

end Go.Proofs.YtfcknkanbcndjagGreatDoor

/- LISTS OF NEWS IN MEMORY. -/
namespace Go.Proofs.YtfcknkanbcndjagGreatDoor
open Go.RowKit

/-- News: From, For, To, Seq, Dist. -/
abbrev Nws := Int × Int × Int × Int × Int
def celn (l : List Nws) : List Value := l.flatMap fun x => [iv x.1, iv x.2.1, iv x.2.2.1, iv x.2.2.2.1, iv x.2.2.2.2]
theorem celn_cons (x : Nws) (l : List Nws) : celn (x :: l) = iv x.1 :: iv x.2.1 :: iv x.2.2.1 :: iv x.2.2.2.1 :: iv x.2.2.2.2 :: celn l := rfl
theorem celn_append (a b : List Nws) : celn (a ++ b) = celn a ++ celn b := by simp [celn]
theorem celn_at : ∀ (l : List Nws) (i : Nat) (h : i < l.length), (celn l)[i * 5]? = some (iv l[i].1) ∧ (celn l)[i * 5 + 1]? = some (iv l[i].2.1) ∧ (celn l)[i * 5 + 2]? = some (iv l[i].2.2.1) ∧ (celn l)[i * 5 + 3]? = some (iv l[i].2.2.2.1) ∧ (celn l)[i * 5 + 4]? = some (iv l[i].2.2.2.2)
  | x :: l, 0, _ => by simp [celn_cons]
  | x :: l, i + 1, h => by
    obtain ⟨h0, h1, h2, h3, h4⟩ := celn_at l i (by simpa using h)
    rw [celn_cons, show (i + 1) * 5 = i * 5 + 1 + 1 + 1 + 1 + 1 by omega]
    refine ⟨?_, ?_, ?_, ?_, ?_⟩
    · simpa using h0
    · rw [show i * 5 + 1 + 1 + 1 + 1 + 1 + 1 = (i * 5 + 1) + 1 + 1 + 1 + 1 + 1 by omega]; simpa using h1
    · rw [show i * 5 + 1 + 1 + 1 + 1 + 1 + 2 = (i * 5 + 2) + 1 + 1 + 1 + 1 + 1 by omega]; simpa using h2
    · rw [show i * 5 + 1 + 1 + 1 + 1 + 1 + 3 = (i * 5 + 3) + 1 + 1 + 1 + 1 + 1 by omega]; simpa using h3
    · rw [show i * 5 + 1 + 1 + 1 + 1 + 1 + 4 = (i * 5 + 4) + 1 + 1 + 1 + 1 + 1 by omega]; simpa using h4
/-- A list of news that is younger than B. -/
def OwnN (B w : World) (v : Value) (l : List Nws) : Prop := w.ownsRow B.heap.size 114 5 v l.length (celn l)
theorem OwnN.gr {B w w' : World} {v : Value} {l : List Nws} (h : OwnN B w v l) (g : Gr w w') : OwnN B w' v l := by
  refine ⟨h.1, ?_⟩
  rcases h.2 with hn | ⟨b, cap, cur, rfl, hb, hgg, rest⟩
  · exact .inl hn
  · exact .inr ⟨b, cap, cur, rfl, hb, by rw [g.block b (lt_of_block hgg)]; exact hgg, rest⟩
theorem OwnN.nil (B w : World) : OwnN B w (.slice none 0 0) [] := World.ownsRow_nil _ _ _ _
/-- A slice that reads as news. -/
def NewsAt (w : World) (ao : Option Addr) (l : List Nws) : Prop := l = [] ∨ ∃ b o, ao = some ⟨b, o, none⟩ ∧ b < w.heap.size ∧ ∀ i (h : i < l.length),
    w.cell? ⟨b, o + i * 5, none⟩ = some (iv l[i].1) ∧ w.cell? ⟨b, o + i * 5 + 1, none⟩ = some (iv l[i].2.1) ∧ w.cell? ⟨b, o + i * 5 + 2, none⟩ = some (iv l[i].2.2.1) ∧ w.cell? ⟨b, o + i * 5 + 3, none⟩ = some (iv l[i].2.2.2.1) ∧ w.cell? ⟨b, o + i * 5 + 4, none⟩ = some (iv l[i].2.2.2.2)
theorem OwnN.shape {B w : World} {v : Value} {l : List Nws} (h : OwnN B w v l) : ∃ ao c, v = .slice ao l.length c ∧ NewsAt w ao l ∧ ∀ b o, ao = some ⟨b, o, none⟩ → B.heap.size ≤ b := by
  rcases h.2 with ⟨rfl, hn⟩ | ⟨g, cap, cur, rfl, hb, hg, hn, hc, hs, ht⟩
  · have : l = [] := List.eq_nil_of_length_eq_zero hn
    subst this
    exact ⟨none, 0, rfl, .inl rfl, fun _ _ e => by cases e⟩
  · refine ⟨_, _, rfl, .inr ⟨g, 0, rfl, (Array.getElem?_eq_some_iff.1 hg).1, fun i hi => ?_⟩, fun b o e => by cases e; exact hb⟩
    have e : ∀ j, j < l.length * 5 → w.cell? ⟨g, 0 + j, none⟩ = (celn l)[j]? := by
      intro j hj
      rw [← ht, List.getElem?_take_of_lt hj]
      simp [World.cell?, hg]
    have ha := celn_at l i hi
    rw [Nat.add_assoc, Nat.add_assoc, Nat.add_assoc, Nat.add_assoc, e _ (by omega), e _ (by omega), e _ (by omega), e _ (by omega), e _ (by omega)]
    exact ha
theorem Tryz.info114 : (Tryz.prog.info? 114).map (fun i => (i.zero, i.size, i.bytes)) = some (some (.agg #[iv 0, iv 0, iv 0, iv 0, iv 0]), 5, 40) := by kernel_rfl
/-- 'append(l, x)'. -/
theorem OwnN.app {B X : World} {v : Value} {l : List Nws} (ty : TypeId) (hO : OwnN B X v l) (g : Gr B X) (x : Nws) (hm : l.length ≤ 1000) :
    ∃ v' w', (Builtin.append_ #[46, 46] ty #[v, .slice (some ⟨X.heap.size, 0, none⟩) 1 1]).run Tryz.prog (X.alloc (.cells #[iv x.1, iv x.2.1, iv x.2.2.1, iv x.2.2.2.1, iv x.2.2.2.2] 114)) = .ok v' w' ∧ OwnN B w' v' (l ++ [x]) ∧ Gr B w' := by
  obtain ⟨i0, hi, hz0, hz1, hz2⟩ := info_parts Tryz.info114
  have hY := hO.gr ((Gr.refl X).alloc (.cells #[iv x.1, iv x.2.1, iv x.2.2.1, iv x.2.2.2.1, iv x.2.2.2.2] 114))
  obtain ⟨v', w', h1, h2, h3, _⟩ := run_append_own (P := Tryz.prog) _ B.heap.size 46 ty 114 i0 _ 5 40 Tryz.underlying46 hi hz0 hz1 hz2 (by rfl) (by decide) v l.length (celn l) hY
      ⟨X.heap.size, 0, none⟩ 1 1 [iv x.1, iv x.2.1, iv x.2.2.1, iv x.2.2.2.1, iv x.2.2.2.2] rfl
      (fun j u hj => by
        have hl : j < 5 := (List.getElem?_eq_some_iff.1 hj).1
        have : j = 0 ∨ j = 1 ∨ j = 2 ∨ j = 3 ∨ j = 4 := by omega
        rcases this with rfl | rfl | rfl | rfl | rfl <;> (simp at hj; subst hj; simp [Addr.add, go_sem]))
      (by simp [Value.oneCell']) (by unfold maxLen; omega) (by omega) (by have := Below.size g; simp; omega)
  refine ⟨v', w', h1, ?_, (g.alloc _).grown h3 (fun k hk => (hO.lt k hk).1)⟩
  unfold OwnN
  rw [celn_append, List.length_append]
  exact h2
/-- What a node tells, of the first k nodes. -/
def tellL (m : Md) (who : Int) : Nat → List Nws
  | 0 => []
  | k + 1 => tellL m who k ++ [((m.me : Int), who, (k : Int), (m.ways k).1, (m.ways k).2.1)]
theorem tell_len (m : Md) (who : Int) : ∀ k, (tellL m who k).length = k
  | 0 => rfl
  | k + 1 => by rw [tellL, List.length_append, tell_len m who k]; rfl
end Go.Proofs.YtfcknkanbcndjagGreatDoor

/- CONTRACTS OF package node: Way, Best. -/
namespace Go.Proofs.YtfcknkanbcndjagGreatDoor
open Go.RowKit
attribute [local go_sem] Ext.all Ext.cell Ext.frozen Ext.lt Ext.lt1 Ext.lt2 Ext.ne Ext.ne'
def wayV (v : Int × Int × Int) : Value := .agg #[iv v.1, iv v.2.1, iv v.2.2]
/-- The way to a node, or none of the age 0. -/
def wayOf (m : Md) (k : Int) : Int × Int × Int := if 0 ≤ k ∧ k < 6 then m.ways k.toNat else (0, 200, -1)
theorem wayOf_nat (m : Md) {k : Nat} (h : k < 6) : wayOf m (k : Int) = m.ways k := by
  unfold wayOf
  rw [if_pos ⟨by omega, by omega⟩, Int.toNat_natCast]

set_option maxRecDepth 20000 in
set_option maxHeartbeats 8000000 in
theorem nway_any {w : World} {p : Nat} {m : Md} (H : DAt w p m) (k : Int) :
    Calls Tryz.prog 108 #[pv p, iv k] w fun e w' => e = .returned (wayV (wayOf m k)) ∧ ∃ d : Ext w, w' = d.out := by
  have hp := H.lt
  by_cases e : 0 ≤ k ∧ k < 6
  · have B1 : Hid (decide (0 ≤ k ∧ k < 6) = true) := decide_eq_true e
    obtain ⟨z, rfl⟩ : ∃ z : Nat, k = (z : Int) := ⟨k.toNat, by omega⟩
    have hz : z < 6 := by omega
    have hzi : (z : Int) < 6 := by omega
    obtain ⟨q0, q1, q2⟩ := H.ways hz
    have HV := hide (wayOf_nat m hz)
    generalize m.ways z = v at *
    obtain ⟨s, d, h⟩ := v
    simp only at q0 q1 q2
    clear H e
    go_enter Tryz.func108, Tryz.ntmps108
    go_wp2_with (go_at_call 33; with_reducible refine (lnode_is B1.out _).mono ?_; rintro e w1 ⟨rfl, hw1⟩; subst hw1)
    refine bodyPost_ret (v := .agg #[iv s, iv d, iv h]) (by simp [results, Tryz.results108, go_sem]) rfl ⟨by rw [HV.out]; rfl, ext_mk ?_⟩
    first
      | exact (Gr.refl _).alloc _
      | exact (((((Gr.refl _).alloc _).setCell (by simp) _).setCell (by simp) _).setCell (by simp) _)
  · have B1 : Hid (decide (0 ≤ k ∧ k < 6) = false) := decide_eq_false e
    have HV : Hid (wayOf m k = (0, 200, -1)) := by unfold Hid wayOf; rw [if_neg e]
    clear H e
    go_enter Tryz.func108, Tryz.ntmps108
    go_wp2_with (first | (go_at_call 33; with_reducible refine (lnode_is B1.out _).mono ?_; rintro e w1 ⟨rfl, hw1⟩; subst hw1) | (go_at_call 144; with_reducible refine (noWay_any 0 _).mono ?_; rintro e _ ⟨rfl, d1, rfl⟩))
    refine bodyPost_ret (v := .agg #[iv 0, iv 200, iv (-1)]) (by simp [results, Tryz.results108, go_sem]) rfl ⟨by rw [HV.out]; rfl, ext_mk ?_⟩
    exact (((((Gr.refl _).alloc _).trans d1.gr).setCell (by simp) _).setCell (by simp) _).setCell (by simp) _

end Go.Proofs.YtfcknkanbcndjagGreatDoor
