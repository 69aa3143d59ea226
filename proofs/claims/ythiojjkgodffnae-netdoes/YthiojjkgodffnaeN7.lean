/- CONTRACTS OF handpostref: Mind.Tell, Mind.Way, SameNews. -/
import Derived.Test.YthiojjkgodffnaeN2
import Derived.Test.YthiojjkgodffnaeD8
import Derived.Test.YthiojjkgodffnaeSNw
namespace Go.Proofs.Ythiojjkgodffnae
open Go.RowKit
attribute [local go_sem] Ext.all Ext.cell Ext.frozen Ext.lt Ext.lt1 Ext.lt2 Ext.ne Ext.ne'

set_option maxRecDepth 20000 in
set_option maxHeartbeats 8000000 in
theorem mtell_any {w : World} {p : Nat} {m : Md} (H : MAt w p m) (who : Int) :
    Calls Try.prog 52 #[pv p, iv who] w fun e w' => ∃ v, e = .returned v ∧ OwnN w w' v (tellL m who 6) ∧ Gr w w' := by
  have HM := hide (fun (X : World) (g : Gr w X) => H.gr g)
  have HT : Hid (∀ k, tellL m who (k + 1) = tellL m who k ++ [((m.me : Int), who, (k : Int), (m.ways k).1, (m.ways k).2.1)]) := fun _ => rfl
  clear H
  go_enter Try.func52, Try.ntmps52
  go_wp2_with fail
  go_loopw [5, 6] (fun v5 v6 wr => ∃ (k : Nat) (u : Value), u = v5 ∧ k ≤ 6 ∧ v6 = .int .i64 (k : Int) ∧ Hid (OwnN w wr u (tellL m who k)) ∧ Hid (Gr w wr)) (fun _ v6 _ => (6 - intOf v6).toNat)
  case atStart => exact ⟨0, _, rfl, by omega, rfl, OwnN.nil _ _, Gr.refl _⟩
  case round =>
    obtain ⟨k, u, rfl, hk6, rfl, O1, gw⟩ := hrel
    by_cases hk : k < 6
    · have hki : decide ((k : Int) < 6) = true := decide_eq_true (by omega)
      have hk0 : (k : Int) < 6 := by omega
      have wk : IntKind.i64.wrap ((k : Int) + 1) = (k : Int) + 1 := by rw [IntKind.wrap_i64]; omega
      have HTK := hide (HT.out k)
      have hlen := tell_len m who k
      have HC : Hid (∀ X : World, Gr w X → X.cell? ⟨p, 0, none⟩ = some (iv (m.me : Int)) ∧ X.cell? ⟨p, 79 + k * 3, none⟩ = some (iv (m.ways k).1) ∧ X.cell? ⟨p, 79 + k * 3 + 1, none⟩ = some (iv (m.ways k).2.1)) := fun X g => ⟨(HM.out X g).me, ((HM.out X g).ways hk).1, ((HM.out X g).ways hk).2.1⟩
      have hpl := (HM.out _ gw.out).lt
      generalize m.ways k = v at *
      obtain ⟨s, d, h⟩ := v
      simp only at HTK HC
      go_upto_region 5 with (fail)
      obtain ⟨v', w', hrun, hown, hgr⟩ := OwnN.app 49 (O1.out.gr (Gr.refl wr).drew) gw.out.drew ((m.me : Int), who, (k : Int), s, d) (by omega)
      have HR : Hid ((Builtin.append_ #[49, 49] 49 #[u, .slice (some ⟨wr.heap.size, 0, none⟩) 1 1]).run Try.prog (wr.alloc (.cells #[iv (m.me : Int), iv who, iv (k : Int), iv s, iv d] 66)).drew = .ok v' w') := hrun
      have HW := hide hown
      have HG := hide hgr
      have HK1 := hide (HC.out _ gw.out.drew)
      have HK2 := hide (HC.out _ (gw.out.alloc (.cells #[iv (m.me : Int), iv who, iv (k : Int), iv s, iv d] 66)).drew)
      have HK3 := hide (HC.out _ HG.out)
      clear hrun hown hgr HC
      go_region_held3 (fun W => W.cell? ⟨p, 0, none⟩ = some (iv (m.me : Int)) ∧ W.cell? ⟨p, 79 + k * 3, none⟩ = some (iv s) ∧ W.cell? ⟨p, 79 + k * 3 + 1, none⟩ = some (iv d)) (first | exact HK1.out | exact HK2.out | exact HK3.out | go_keep)
        (first
        | (refine step_append_eq rfl (.tmp 11) (.tmp 33) 49 49 rfl u (.slice (some ⟨wr.heap.size, 0, none⟩) 1 1) rfl rfl (v' := v') (w' := w') HR.out ?_)
        | fail)
      all_goals
        go_wp2_with fail
        go_roundw
        case rel => exact ⟨k + 1, _, rfl, by omega, by congr 1, by rw [HTK.out]; exact HW, HG⟩
        case measure => simp [intOf]; omega
    · have hki : decide ((k : Int) < 6) = false := decide_eq_false (by omega)
      have ek : k = 6 := by omega
      subst ek
      go_wp2_with fail
      go_ret
      exact ⟨_, rfl, O1.out, gw.out⟩

set_option maxRecDepth 20000 in
set_option maxHeartbeats 8000000 in
theorem mway_any {w : World} {p : Nat} {m : Md} (H : MAt w p m) (k : Int) :
    Calls Try.prog 49 #[pv p, iv k] w fun e w' => e = .returned (wayV (wayOf m k)) ∧ ∃ d : Ext w, w' = d.out := by
  have hp := H.lt
  by_cases e : 0 ≤ k ∧ k < 6
  · have B1 : Hid (decide (0 ≤ k ∧ k < 6) = true) := decide_eq_true e
    obtain ⟨z, rfl⟩ : ∃ z : Nat, k = (z : Int) := ⟨k.toNat, by omega⟩
    have hz : z < 6 := by omega
    have hzi : (z : Int) < 6 := by omega
    obtain ⟨q0, q1, q2⟩ := H.ways hz
    have HV := hide (wayOf_nat m hz)
    generalize m.ways z = v at *
    obtain ⟨s, d, h⟩ := v
    simp only at q0 q1 q2
    clear H e
    go_enter Try.func49, Try.ntmps49
    go_wp2_with (go_at_call 29; with_reducible refine (isNode_is B1.out _).mono ?_; rintro e w1 ⟨rfl, hw1⟩; subst hw1)
    refine bodyPost_ret (v := .agg #[iv s, iv d, iv h]) (by simp [results, Try.results49, go_sem]) rfl ⟨by rw [HV.out]; rfl, ext_mk ?_⟩
    first
      | exact (Gr.refl _).alloc _
      | exact (((((Gr.refl _).alloc _).setCell (by simp) _).setCell (by simp) _).setCell (by simp) _)
  · have B1 : Hid (decide (0 ≤ k ∧ k < 6) = false) := decide_eq_false e
    have HV : Hid (wayOf m k = (0, 200, -1)) := by unfold Hid wayOf; rw [if_neg e]
    clear H e
    go_enter Try.func49, Try.ntmps49
    go_wp2_with (go_at_call 29; with_reducible refine (isNode_is B1.out _).mono ?_; rintro e w1 ⟨rfl, hw1⟩; subst hw1)
    refine bodyPost_ret (v := .agg #[iv 0, iv 200, iv (-1)]) (by simp [results, Try.results49, go_sem]) rfl ⟨by rw [HV.out]; rfl, ext_mk ?_⟩
    first
      | exact (Gr.refl _).alloc _
      | exact (((((Gr.refl _).alloc _).setCell (by simp) _).setCell (by simp) _).setCell (by simp) _)

end Go.Proofs.Ythiojjkgodffnae
