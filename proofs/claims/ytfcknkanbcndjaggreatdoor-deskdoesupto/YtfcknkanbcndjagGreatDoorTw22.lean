/- THE REFERENCE'S Town: Do, the kind own. -/
import Derived.Test.YtfcknkanbcndjagGreatDoorTw13
import Derived.Test.YtfcknkanbcndjagGreatDoorS9c
import Derived.Test.YtfcknkanbcndjagGreatDoorPo0
namespace Go.Proofs.YtfcknkanbcndjagGreatDoor
open Go.RowKit
attribute [local go_sem] Ext.all Ext.cell Ext.frozen Ext.lt Ext.lt1 Ext.lt2 Ext.ne Ext.ne'
section
variable {M N : Nat → Prop} {B w w' : World} {p : Nat} {q : Nat → Nat} {v o : Value} {t : Tn}
theorem Tw.ownCell (h : Tw M B w p q v o t) : w.cell? ⟨p, 43, none⟩ = some o := by
  have := h.blk.cell (j := 43) (by omega)
  unfold twF at this
  rw [if_neg (by omega), if_neg (by omega), if_neg (by omega)] at this
  exact this
theorem Tw.setOwn (h : Tw M B w p q v o t) (o' : Value) : Tw M B (w.setCell ⟨p, 43, none⟩ o') p q v o' t := by
  refine ⟨h.kp.set h.nop _ _, h.bd, h.blk.set fun i hi => ?_, h.six.keep (fun a ha => Below.heap_setCell w ⟨p, 43, none⟩ o' (q a) (h.pq a ha)), h.nw.keep (fun b e => Below.heap_setCell w ⟨p, 43, none⟩ o' b (h.vp b e).1), h.nop, h.noq, h.nov⟩
  unfold twF
  by_cases e1 : i < 36
  · rw [if_pos e1, if_pos e1, if_neg (by omega)]
  · rw [if_neg e1, if_neg e1]
    by_cases e2 : i < 42
    · rw [if_pos e2, if_pos e2, if_neg (by omega)]
    · rw [if_neg e2, if_neg e2]
      by_cases e3 : i = 42
      · rw [if_pos e3, if_pos e3, if_neg (by omega)]
      · rw [if_neg e3, if_neg e3, if_pos (by omega)]
/-- What the step leaves: the Town's own block alone is written. -/
def OwnO (M : Nat → Prop) (N : Nat → Prop) (B w w' : World) (p : Nat) (q : Nat → Nat) (v : Value) (t : Tn) (rs : List Rt) : Prop :=
  ∃ ao cp, Tw M B w' p q v (.slice ao rs.length cp) t ∧ rs.length ≤ cp ∧ RowAt w' (fun k => N k ∨ w.heap.size ≤ k) ao rs ∧ Kp (fun b => b ≠ p) w w'
set_option maxRecDepth 20000 in
set_option maxHeartbeats 8000000 in
theorem wdo_own {ao : Option Addr} {cp : Nat} {rs rs' : List Rt} {code : Int} (H : Tw M B w p q v (.slice ao rs.length cp) t) (hcp : rs.length ≤ cp) (hR : RowAt w N ao rs) (hN : ¬ N p) (hT : Tab rs) (a b n l bb : Int) (hc : ownC rs a n l bb = (rs', code)) :
    Calls Tryz.prog 28 #[pv p, .agg #[iv 7, iv a, iv b, iv n, iv l, iv bb]] w fun e w' => e = .returned (iv code) ∧ OwnO M N B w w' p q v t rs' := by
  have hp0 := H.blk.lt
  have g0 : Gr w (w.alloc (.cells #[iv 7, iv a, iv b, iv n, iv l, iv bb] 54)) := (Gr.refl w).alloc _
  have T0 := hide (H.ext g0)
  have S0 := hide (sp_new w 7 a b n (iv l) (iv bb))
  have R0 := hide (hR.gr g0)
  have HN := hide hN
  have HX : Hid (∀ X, Gr w X → OwnO M N B w X p q v t rs) := fun X g => ⟨ao, cp, H.ext g, hcp, (hR.gr g).mono (fun _ _ h => .inl h), g.kp _⟩
  have HT := hide hT
  have HCP := hide hcp
  clear H hR hN hT hcp
  by_cases ha : isN a
  · have B1 : Hid (decide (0 ≤ a ∧ a < 6) = true) := decide_eq_true ha
    unfold ownC at hc
    rw [if_pos ha] at hc
    obtain ⟨z, hz⟩ : ∃ z, (if n = 0 then -2 else a) = z := ⟨_, rfl⟩
    rw [hz] at hc
    have HS : Hid (∀ X : World, RowAt X N ao rs → Calls Tryz.prog 54 #[.slice ao rs.length cp, pfx l bb, .int .i64 z] X fun e w' => SetROc X w' N e rs' code (rs.length ≤ cp)) := fun X g => by have := setOfC_any X N ao cp rs l bb z g HT.out; rw [hc] at this; exact this
    clear hc HX HT
    by_cases hn : n = 0
    all_goals
      first | rw [if_pos hn] at hz | rw [if_neg hn] at hz
      subst hz
      first | (have en : (n == 0) = true := by simpa using hn) | (have en : (n == 0) = false := by simpa using hn)
      clear hn ha
      go_enter Tryz.func28, Tryz.ntmps28
      go_upto_region 45 with (go_at_call 9; with_reducible refine (isNode_is B1.out _).mono ?_; rintro e w1 ⟨rfl, hw1⟩; have hw2 := hw1.symm; clear hw1; subst hw2)
      refine wp_gen (fun V => Hid (Tw M B V p q v (.slice ao rs.length cp) t) ∧ Hid (VArr V 54 6 w.heap.size (spF 7 a b n (iv l) (iv bb))) ∧ Hid (RowAt V N ao rs) ∧ Hid (Gr w V)) ⟨T0.out, S0.out, R0.out, g0⟩ ?_
      clear T0 S0 R0 g0
      have hp0' := hp0
      generalize hX0 : w.heap.size = X at *
      rintro V ⟨T0, S0, R0, gV⟩
      have hX1 := hide hX0
      clear hX0
      have c1 : V.cell? ⟨X, 4, none⟩ = some (iv l) := S0.out.cell (j := 4) (by omega)
      have c2 : V.cell? ⟨X, 5, none⟩ = some (iv bb) := S0.out.cell (j := 5) (by omega)
      have c3 := T0.out.ownCell
      have hp := T0.out.blk.lt
      have hX := S0.out.lt
      have HS1 := hide (HS.out V.drew (R0.out.gr ((Gr.refl V).drew)))
      clear HS
      go_region_with (go_at_call 54; refine HS1.out.mono ?_; rintro e w2 ⟨ao', c', rfl, hcp', hrow', d, rfl⟩)
      all_goals
        have T1 := hide (T0.out.ext (((Gr.refl V).drew).trans d.gr))
        have RW := hide hrow'
        have GD := hide (gV.out.trans (((Gr.refl V).drew).trans d.gr))
        have hpd : p < d.out.heap.size := T1.out.blk.lt
        have e1 := T1.out.ownCell
        have e2 : d.out.frozen? ⟨p, 43, none⟩ = false := T1.out.blk.free 43
        have hsz : Hid (X ≤ V.drew.heap.size) := by rw [← hX1.out]; exact Below.size (gV.out.trans ((Gr.refl V).drew))
        generalize d.out = D at *
        clear hrow' HS1
        go_wp2_with fail
        go_ret
        refine ⟨rfl, ao', c', T1.out.setOwn _, hcp' HCP.out, ?_, (GD.out.kp _).set (fun h => h rfl) _ _⟩
        have K0 : Kp (fun b => b ≠ p) D (D.setCell ⟨p, 43, none⟩ (.slice ao' rs'.length c')) := (Kp.refl _ _).set (fun h => h rfl) _ _
        have hrow2 : RowAt D (fun k => k ≠ p ∧ (N k ∨ X ≤ k)) ao' rs' := RW.out.mono (fun k _ h => by
          rcases h with h | h
          · exact ⟨fun e => HN.out (e ▸ h), .inl h⟩
          · exact ⟨fun e => by have := hsz.out; omega, .inr (by have := hsz.out; omega)⟩)
        rw [hX1.out]
        exact (hrow2.kept (K0.mono fun k _ h => h.1)).mono (fun k _ h => h.2)
  · have B1 : Hid (decide (0 ≤ a ∧ a < 6) = false) := decide_eq_false ha
    unfold ownC at hc
    rw [if_neg ha] at hc
    cases hc
    go_enter Tryz.func28, Tryz.ntmps28
    go_wp2_with (go_at_call 9; with_reducible refine (isNode_is B1.out _).mono ?_; rintro e w1 ⟨rfl, hw1⟩; have hw2 := hw1.symm; clear hw1; subst hw2)
    go_ret
    exact ⟨rfl, HX.out _ g0⟩
end

end Go.Proofs.YtfcknkanbcndjagGreatDoor
