/- THE REFERENCE'S Town: Full. -/
import Derived.Test.YtfcknkanbcndjagGreatDoorTw7
import Derived.Test.YtfcknkanbcndjagGreatDoorTw22
import Derived.Test.YtfcknkanbcndjagGreatDoorLookAid
import Derived.Test.YtfcknkanbcndjagGreatDoorMPlain
namespace Go.Proofs.YtfcknkanbcndjagGreatDoor
open Go.RowKit
attribute [local go_sem] Ext.all Ext.cell Ext.frozen Ext.lt Ext.lt1 Ext.lt2 Ext.ne Ext.ne' hopW_of
section
variable {M N : Nat → Prop} {B w w' : World} {p : Nat} {q : Nat → Nat} {v o : Value} {t : Tn}
/-- A route of these numbers, built. -/
theorem one_row (X : World) (l b h : Int) : RowAt (X.alloc (.cells #[iv l, iv b, iv h] 133)) (fun _ => True) (some ⟨X.heap.size, 0, none⟩) [(l, b, h)] := by
  refine .inr ⟨X.heap.size, 0, rfl, by simp, trivial, fun i hi => ?_⟩
  have : i = 0 := by simpa using hi
  subst this
  refine ⟨?_, ?_, ?_⟩ <;> simp [go_sem]
set_option maxRecDepth 20000 in
set_option maxHeartbeats 8000000 in
theorem wfull_any {ao : Option Addr} {cp : Nat} {rs : List Rt} (H : Tw M B w p q v (.slice ao rs.length cp) t) (hR : RowAt w N ao rs) (hm : rs.length ≤ 1000) (n : Int) :
    Calls Tryz.prog 97 #[pv p, iv n] w fun e w' => ∃ u, e = .returned u ∧ Own w w' u (fullL t n rs) ∧ Gr w w' := by
  have HM := hide (fun (X : World) (g : Gr w X) => H.ext g)
  have HR := hide hR
  clear H hR
  go_enter Tryz.func97, Tryz.ntmps97
  go_wp2_with fail
  go_loopw [5, 6] (fun v5 v6 wr => ∃ (k : Nat) (u : Value), u = v5 ∧ k ≤ rs.length ∧ v6 = .int .i64 (k : Int) ∧ Hid (Own w wr u (fullL t n (rs.take k))) ∧ Hid (Gr w wr)) (fun _ v6 _ => (rs.length - intOf v6).toNat)
  case atStart => exact ⟨0, _, rfl, by omega, rfl, Own.nil _ _, Gr.refl _⟩
  case round =>
    obtain ⟨k, u, rfl, hkn, rfl, O1, gw⟩ := hrel
    have TW := hide (HM.out _ gw.out)
    have c0 := TW.out.ownCell
    have hp := TW.out.blk.lt
    by_cases hk : k < rs.length
    · have hki : decide ((k : Int) < (rs.length : Int)) = true := decide_eq_true (by omega)
      have hk0 : (k : Int) < (rs.length : Int) := by omega
      have wk : IntKind.i64.wrap ((k : Int) + 1) = (k : Int) + 1 := by rw [IntKind.wrap_i64]; omega
      have HFT := hide (full_take t n hk)
      have HLN : Hid ((fullL t n (rs.take k)).length ≤ 1000) := by rw [full_len, List.length_take]; unfold Hid; omega
      rcases HR.out with h0 | ⟨b, o, hao, hb, _, hcs⟩
      · exfalso; rw [h0] at hk; simp at hk
      subst hao
      have hcs' := hcs k hk
      have HC : Hid (∀ X : World, Gr w X → X.cell? ⟨p, 43, none⟩ = some (.slice (some ⟨b, o, none⟩) rs.length cp) ∧ X.cell? ⟨b, o + k * 3, none⟩ = some (iv rs[k].1) ∧ X.cell? ⟨b, o + k * 3 + 1, none⟩ = some (iv rs[k].2.1) ∧ X.cell? ⟨b, o + k * 3 + 2, none⟩ = some (iv rs[k].2.2)) := fun X g =>
        ⟨(HM.out X g).ownCell, (Below.cell g (p := ⟨b, o + k * 3, none⟩) hb).trans hcs'.1, (Below.cell g (p := ⟨b, o + k * 3 + 1, none⟩) hb).trans hcs'.2.1, (Below.cell g (p := ⟨b, o + k * 3 + 2, none⟩) hb).trans hcs'.2.2⟩
      have hbw : b < wr.heap.size := Nat.lt_of_lt_of_le hb (Below.size gw.out)
      have HW : Hid (∀ X : World, Gr w X → Calls Tryz.prog 95 #[pv p, iv n, iv rs[k].2.2] X fun e w' => ∃ s d, e = .returned (.agg #[iv s, iv d, iv (hpT t n rs[k].2.2)]) ∧ Gr w w' ∧ ∃ d : Ext X, w' = d.out) := fun X g => by
        refine (wway_any (HM.out X g) n rs[k].2.2).mono fun e w' ⟨he, d', hd'⟩ => ⟨_, _, by rw [he, ← hp_way]; rfl, by rw [hd']; exact g.ext d', d', hd'⟩
      clear hcs hcs' HR
      generalize rs[k] = r at *
      obtain ⟨l, bb, hh⟩ := r
      simp only at HFT HC HW
      generalize hpT t n hh = z at *
      obtain ⟨c1, c2, c3, c4⟩ := HC.out _ gw.out
      go_upto_region 5 with (fail)
      have gD := hide gw.out.drew
      have OD := hide (O1.out.gr (Gr.refl wr).drew)
      go_region_held3 (fun W => W.cell? ⟨p, 43, none⟩ = some (.slice (some ⟨b, o, none⟩) rs.length cp) ∧ W.cell? ⟨b, o + k * 3, none⟩ = some (iv l) ∧ W.cell? ⟨b, o + k * 3 + 1, none⟩ = some (iv bb) ∧ W.cell? ⟨b, o + k * 3 + 2, none⟩ = some (iv hh)) (first | exact HC.out _ gD.out | exact HC.out _ G3.out | exact HC.out _ (G2.out.alloc _) | exact HC.out _ G2.out | go_keep)
        (first
        | (go_at_call 95; with_reducible refine (HW.out _ gD.out).mono ?_; rintro e w2 ⟨s, d, rfl, g2, d2, hd2⟩; have G2 := hide g2; have O2 := hide (show Own w w2 u (fullL t n (rs.take k)) by rw [hd2]; exact OD.out.gr d2.gr); clear g2 hd2; obtain ⟨v3, w3, hrun, hown, hgr⟩ := run_app (m := 1) (c := 1) 108 (O2.out.gr ((Gr.refl w2).alloc (.cells #[iv l, iv bb, iv z] 133))) (G2.out.alloc _) (one_row w2 l bb z) rfl (by decide) (by have := HLN.out; omega); have HRR := hide hrun; have HOW := hide hown; have G3 := hide hgr; clear hrun hown hgr)
        | (refine step_append_eqR rfl (.tmp 16) (.tmp 38) 108 108 rfl u (.slice (some ⟨w2.heap.size, 0, none⟩) 1 1) rfl rfl (v' := v3) (w' := w3) HRR.out ?_)
        | fail)
      all_goals
        go_wp2_with fail
        go_roundw
        case rel => exact ⟨k + 1, _, rfl, by omega, by congr 1, by rw [HFT.out]; exact HOW, G3⟩
        case measure => simp [intOf]; omega
    · have hki : decide ((k : Int) < (rs.length : Int)) = false := decide_eq_false (by omega)
      have ek : k = rs.length := by omega
      have HT : Hid (rs.take k = rs) := by rw [ek]; exact List.take_length
      clear ek
      go_wp2_with fail
      go_ret
      exact ⟨_, rfl, by rw [HT.out] at O1; exact O1.out, gw.out⟩
end

end Go.Proofs.YtfcknkanbcndjagGreatDoor
