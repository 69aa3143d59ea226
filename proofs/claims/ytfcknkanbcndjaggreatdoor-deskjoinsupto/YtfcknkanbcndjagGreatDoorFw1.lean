import Derived.Test.YtfcknkanbcndjagGreatDoorTw17
import Derived.Test.YtfcknkanbcndjagGreatDoorS9c
import Derived.Test.YtfcknkanbcndjagGreatDoorPo0
import Derived.Test.YtfcknkanbcndjagGreatDoorE1
/- THE REFERENCE'S Town: Do, the kind own. -/
namespace Go.Proofs.YtfcknkanbcndjagGreatDoor
open Go.RowKit
attribute [local go_sem] Ext.all Ext.cell Ext.frozen Ext.lt Ext.lt1 Ext.lt2 Ext.ne Ext.ne'
section
variable {M N : Nat → Prop} {B w w' : World} {p : Nat} {q : Nat → Nat} {v o : Value} {t : Tn}
theorem Tw.ownCell (h : Tw M B w p q v o t) : w.cell? ⟨p, 43, none⟩ = some o := by
  have := h.blk.cell (j := 43) (by omega)
  unfold twF at this
  rw [if_neg (by omega), if_neg (by omega), if_neg (by omega)] at this
  exact this
theorem Tw.setOwn (h : Tw M B w p q v o t) (o' : Value) : Tw M B (w.setCell ⟨p, 43, none⟩ o') p q v o' t := by
  refine ⟨h.kp.set h.nop _ _, h.bd, h.blk.set fun i hi => ?_, h.six.keep (fun a ha => Below.heap_setCell w ⟨p, 43, none⟩ o' (q a) (h.pq a ha)), h.nw.keep (fun b e => Below.heap_setCell w ⟨p, 43, none⟩ o' b (h.vp b e).1), h.nop, h.noq, h.nov⟩
  unfold twF
  by_cases e1 : i < 36
  · rw [if_pos e1, if_pos e1, if_neg (by omega)]
  · rw [if_neg e1, if_neg e1]
    by_cases e2 : i < 42
    · rw [if_pos e2, if_pos e2, if_neg (by omega)]
    · rw [if_neg e2, if_neg e2]
      by_cases e3 : i = 42
      · rw [if_pos e3, if_pos e3, if_neg (by omega)]
      · rw [if_neg e3, if_neg e3, if_pos (by omega)]
/-- What the step leaves: the Town's own block alone is written. -/
def OwnO (M : Nat → Prop) (N : Nat → Prop) (B w w' : World) (p : Nat) (q : Nat → Nat) (v : Value) (t : Tn) (rs : List Rt) : Prop :=
  ∃ ao cp, Tw M B w' p q v (.slice ao rs.length cp) t ∧ rs.length ≤ cp ∧ RowAt w' (fun k => N k ∨ w.heap.size ≤ k) ao rs ∧ Kp (fun b => b ≠ p) w w'
set_option maxRecDepth 20000 in
set_option maxHeartbeats 8000000 in
theorem wdo_own {ao : Option Addr} {cp : Nat} {rs rs' : List Rt} {code : Int} (H : Tw M B w p q v (.slice ao rs.length cp) t) (hcp : rs.length ≤ cp) (hR : RowAt w N ao rs) (hN : ¬ N p) (hT : Tab rs) (a b n l bb : Int) (hc : ownC rs a n l bb = (rs', code)) :
    Calls Tryz.prog 28 #[pv p, .agg #[iv 7, iv a, iv b, iv n, iv l, iv bb]] w fun e w' => e = .returned (iv code) ∧ OwnO M N B w w' p q v t rs' := by
  have hp0 := H.blk.lt
  have g0 : Gr w (w.alloc (.cells #[iv 7, iv a, iv b, iv n, iv l, iv bb] 54)) := (Gr.refl w).alloc _
  have T0 := hide (H.ext g0)
  have S0 := hide (sp_new w 7 a b n (iv l) (iv bb))
  have R0 := hide (hR.gr g0)
  have HN := hide hN
  have HX : Hid (∀ X, Gr w X → OwnO M N B w X p q v t rs) := fun X g => ⟨ao, cp, H.ext g, hcp, (hR.gr g).mono (fun _ _ h => .inl h), g.kp _⟩
  have HT := hide hT
  have HCP := hide hcp
  clear H hR hN hT hcp
  by_cases ha : isN a
  · have B1 : Hid (decide (0 ≤ a ∧ a < 6) = true) := decide_eq_true ha
    unfold ownC at hc
    rw [if_pos ha] at hc
    obtain ⟨z, hz⟩ : ∃ z, (if n = 0 then -2 else a) = z := ⟨_, rfl⟩
    rw [hz] at hc
    have HS : Hid (∀ X : World, RowAt X N ao rs → Calls Tryz.prog 54 #[.slice ao rs.length cp, pfx l bb, .int .i64 z] X fun e w' => SetROc X w' N e rs' code (rs.length ≤ cp)) := fun X g => by have := setOfC_any X N ao cp rs l bb z g HT.out; rw [hc] at this; exact this
    clear hc HX HT
    by_cases hn : n = 0
    all_goals
      first | rw [if_pos hn] at hz | rw [if_neg hn] at hz
      subst hz
      first | (have en : (n == 0) = true := by simpa using hn) | (have en : (n == 0) = false := by simpa using hn)
      clear hn ha
      go_enter Tryz.func28, Tryz.ntmps28
      go_upto_region 45 with (go_at_call 9; with_reducible refine (isNode_is B1.out _).mono ?_; rintro e w1 ⟨rfl, hw1⟩; have hw2 := hw1.symm; clear hw1; subst hw2)
      refine wp_gen (fun V => Hid (Tw M B V p q v (.slice ao rs.length cp) t) ∧ Hid (VArr V 54 6 w.heap.size (spF 7 a b n (iv l) (iv bb))) ∧ Hid (RowAt V N ao rs) ∧ Hid (Gr w V)) ⟨T0.out, S0.out, R0.out, g0⟩ ?_
      clear T0 S0 R0 g0
      have hp0' := hp0
      generalize hX0 : w.heap.size = X at *
      rintro V ⟨T0, S0, R0, gV⟩
      have hX1 := hide hX0
      clear hX0
      have c1 : V.cell? ⟨X, 4, none⟩ = some (iv l) := S0.out.cell (j := 4) (by omega)
      have c2 : V.cell? ⟨X, 5, none⟩ = some (iv bb) := S0.out.cell (j := 5) (by omega)
      have c3 := T0.out.ownCell
      have hp := T0.out.blk.lt
      have hX := S0.out.lt
      have HS1 := hide (HS.out V.drew (R0.out.gr ((Gr.refl V).drew)))
      clear HS
      go_region_with (go_at_call 54; refine HS1.out.mono ?_; rintro e w2 ⟨ao', c', rfl, hcp', hrow', d, rfl⟩)
      all_goals
        have T1 := hide (T0.out.ext (((Gr.refl V).drew).trans d.gr))
        have RW := hide hrow'
        have GD := hide (gV.out.trans (((Gr.refl V).drew).trans d.gr))
        have hpd : p < d.out.heap.size := T1.out.blk.lt
        have e1 := T1.out.ownCell
        have e2 : d.out.frozen? ⟨p, 43, none⟩ = false := T1.out.blk.free 43
        have hsz : Hid (X ≤ V.drew.heap.size) := by rw [← hX1.out]; exact Below.size (gV.out.trans ((Gr.refl V).drew))
        generalize d.out = D at *
        clear hrow' HS1
        go_wp2_with fail
        go_ret
        refine ⟨rfl, ao', c', T1.out.setOwn _, hcp' HCP.out, ?_, (GD.out.kp _).set (fun h => h rfl) _ _⟩
        have K0 : Kp (fun b => b ≠ p) D (D.setCell ⟨p, 43, none⟩ (.slice ao' rs'.length c')) := (Kp.refl _ _).set (fun h => h rfl) _ _
        have hrow2 : RowAt D (fun k => k ≠ p ∧ (N k ∨ X ≤ k)) ao' rs' := RW.out.mono (fun k _ h => by
          rcases h with h | h
          · exact ⟨fun e => HN.out (e ▸ h), .inl h⟩
          · exact ⟨fun e => by have := hsz.out; omega, .inr (by have := hsz.out; omega)⟩)
        rw [hX1.out]
        exact (hrow2.kept (K0.mono fun k _ h => h.1)).mono (fun k _ h => h.2)
  · have B1 : Hid (decide (0 ≤ a ∧ a < 6) = false) := decide_eq_false ha
    unfold ownC at hc
    rw [if_neg ha] at hc
    cases hc
    go_enter Tryz.func28, Tryz.ntmps28
    go_wp2_with (go_at_call 9; with_reducible refine (isNode_is B1.out _).mono ?_; rintro e w1 ⟨rfl, hw1⟩; have hw2 := hw1.symm; clear hw1; subst hw2)
    go_ret
    exact ⟨rfl, HX.out _ g0⟩
end

end Go.Proofs.YtfcknkanbcndjagGreatDoor

/- THE REFERENCE'S Town: Full. -/
namespace Go.Proofs.YtfcknkanbcndjagGreatDoor
open Go.RowKit
attribute [local go_sem] Ext.all Ext.cell Ext.frozen Ext.lt Ext.lt1 Ext.lt2 Ext.ne Ext.ne' hopW_of
section
variable {M N : Nat → Prop} {B w w' : World} {p : Nat} {q : Nat → Nat} {v o : Value} {t : Tn}
/-- A route of these numbers, built. -/
theorem one_row (X : World) (l b h : Int) : RowAt (X.alloc (.cells #[iv l, iv b, iv h] 133)) (fun _ => True) (some ⟨X.heap.size, 0, none⟩) [(l, b, h)] := by
  refine .inr ⟨X.heap.size, 0, rfl, by simp, trivial, fun i hi => ?_⟩
  have : i = 0 := by simpa using hi
  subst this
  refine ⟨?_, ?_, ?_⟩ <;> simp [go_sem]
set_option maxRecDepth 20000 in
set_option maxHeartbeats 8000000 in
theorem wfull_any {ao : Option Addr} {cp : Nat} {rs : List Rt} (H : Tw M B w p q v (.slice ao rs.length cp) t) (hR : RowAt w N ao rs) (hm : rs.length ≤ 1000) (n : Int) :
    Calls Tryz.prog 97 #[pv p, iv n] w fun e w' => ∃ u, e = .returned u ∧ Own w w' u (fullL t n rs) ∧ Gr w w' := by
  have HM := hide (fun (X : World) (g : Gr w X) => H.ext g)
  have HR := hide hR
  clear H hR
  go_enter Tryz.func97, Tryz.ntmps97
  go_wp2_with fail
  go_loopw [5, 6] (fun v5 v6 wr => ∃ (k : Nat) (u : Value), u = v5 ∧ k ≤ rs.length ∧ v6 = .int .i64 (k : Int) ∧ Hid (Own w wr u (fullL t n (rs.take k))) ∧ Hid (Gr w wr)) (fun _ v6 _ => (rs.length - intOf v6).toNat)
  case atStart => exact ⟨0, _, rfl, by omega, rfl, Own.nil _ _, Gr.refl _⟩
  case round =>
    obtain ⟨k, u, rfl, hkn, rfl, O1, gw⟩ := hrel
    have TW := hide (HM.out _ gw.out)
    have c0 := TW.out.ownCell
    have hp := TW.out.blk.lt
    by_cases hk : k < rs.length
    · have hki : decide ((k : Int) < (rs.length : Int)) = true := decide_eq_true (by omega)
      have hk0 : (k : Int) < (rs.length : Int) := by omega
      have wk : IntKind.i64.wrap ((k : Int) + 1) = (k : Int) + 1 := by rw [IntKind.wrap_i64]; omega
      have HFT := hide (full_take t n hk)
      have HLN : Hid ((fullL t n (rs.take k)).length ≤ 1000) := by rw [full_len, List.length_take]; unfold Hid; omega
      rcases HR.out with h0 | ⟨b, o, hao, hb, _, hcs⟩
      · exfalso; rw [h0] at hk; simp at hk
      subst hao
      have hcs' := hcs k hk
      have HC : Hid (∀ X : World, Gr w X → X.cell? ⟨p, 43, none⟩ = some (.slice (some ⟨b, o, none⟩) rs.length cp) ∧ X.cell? ⟨b, o + k * 3, none⟩ = some (iv rs[k].1) ∧ X.cell? ⟨b, o + k * 3 + 1, none⟩ = some (iv rs[k].2.1) ∧ X.cell? ⟨b, o + k * 3 + 2, none⟩ = some (iv rs[k].2.2)) := fun X g =>
        ⟨(HM.out X g).ownCell, (Below.cell g (p := ⟨b, o + k * 3, none⟩) hb).trans hcs'.1, (Below.cell g (p := ⟨b, o + k * 3 + 1, none⟩) hb).trans hcs'.2.1, (Below.cell g (p := ⟨b, o + k * 3 + 2, none⟩) hb).trans hcs'.2.2⟩
      have hbw : b < wr.heap.size := Nat.lt_of_lt_of_le hb (Below.size gw.out)
      have HW : Hid (∀ X : World, Gr w X → Calls Tryz.prog 95 #[pv p, iv n, iv rs[k].2.2] X fun e w' => ∃ s d, e = .returned (.agg #[iv s, iv d, iv (hpT t n rs[k].2.2)]) ∧ Gr w w' ∧ ∃ d : Ext X, w' = d.out) := fun X g => by
        refine (wway_any (HM.out X g) n rs[k].2.2).mono fun e w' ⟨he, d', hd'⟩ => ⟨_, _, by rw [he, ← hp_way]; rfl, by rw [hd']; exact g.ext d', d', hd'⟩
      clear hcs hcs' HR
      generalize rs[k] = r at *
      obtain ⟨l, bb, hh⟩ := r
      simp only at HFT HC HW
      generalize hpT t n hh = z at *
      obtain ⟨c1, c2, c3, c4⟩ := HC.out _ gw.out
      go_upto_region 5 with (fail)
      have gD := hide gw.out.drew
      have OD := hide (O1.out.gr (Gr.refl wr).drew)
      go_region_held3 (fun W => W.cell? ⟨p, 43, none⟩ = some (.slice (some ⟨b, o, none⟩) rs.length cp) ∧ W.cell? ⟨b, o + k * 3, none⟩ = some (iv l) ∧ W.cell? ⟨b, o + k * 3 + 1, none⟩ = some (iv bb) ∧ W.cell? ⟨b, o + k * 3 + 2, none⟩ = some (iv hh)) (first | exact HC.out _ gD.out | exact HC.out _ G3.out | exact HC.out _ (G2.out.alloc _) | exact HC.out _ G2.out | go_keep)
        (first
        | (go_at_call 95; with_reducible refine (HW.out _ gD.out).mono ?_; rintro e w2 ⟨s, d, rfl, g2, d2, hd2⟩; have G2 := hide g2; have O2 := hide (show Own w w2 u (fullL t n (rs.take k)) by rw [hd2]; exact OD.out.gr d2.gr); clear g2 hd2; obtain ⟨v3, w3, hrun, hown, hgr⟩ := run_app (m := 1) (c := 1) 108 (O2.out.gr ((Gr.refl w2).alloc (.cells #[iv l, iv bb, iv z] 133))) (G2.out.alloc _) (one_row w2 l bb z) rfl (by decide) (by have := HLN.out; omega); have HRR := hide hrun; have HOW := hide hown; have G3 := hide hgr; clear hrun hown hgr)
        | (refine step_append_eqR rfl (.tmp 16) (.tmp 38) 108 108 rfl u (.slice (some ⟨w2.heap.size, 0, none⟩) 1 1) rfl rfl (v' := v3) (w' := w3) HRR.out ?_)
        | fail)
      all_goals
        go_wp2_with fail
        go_roundw
        case rel => exact ⟨k + 1, _, rfl, by omega, by congr 1, by rw [HFT.out]; exact HOW, G3⟩
        case measure => simp [intOf]; omega
    · have hki : decide ((k : Int) < (rs.length : Int)) = false := decide_eq_false (by omega)
      have ek : k = rs.length := by omega
      have HT : Hid (rs.take k = rs) := by rw [ek]; exact List.take_length
      clear ek
      go_wp2_with fail
      go_ret
      exact ⟨_, rfl, by rw [HT.out] at O1; exact O1.out, gw.out⟩
end

end Go.Proofs.YtfcknkanbcndjagGreatDoor
