/- handpostlaw.FibDoes ANSWERS true. -/
import Derived.Test.YtgiifgjjmffphafGreatDoorL64
import Derived.Deep.RegionHeld3
namespace Go.Proofs.YtgiifgjjmffphafGreatDoor
open Go.RowKit
attribute [local go_sem] Ext.all Ext.cell Ext.frozen Ext.lt Ext.lt1 Ext.lt2 Ext.ne Ext.ne'
section
variable {w w1 w' : World} {P T n n' : Nat} {c c' : Nat → Nat → Nat} {t t' : Tn} {rs rs' : List Rt}
theorem Pt.post (H : Pt w w1 P T n c t rs n' c' t' rs') : ∃ S, Pq (fun b => b < w.heap.size) w w1 P S c t n rs := by
  obtain ⟨S1, S2, h1, h2, ap⟩ := H
  exact ⟨S1, h1⟩
theorem Pt.town (H : Pt w w1 P T n c t rs n' c' t' rs') : ∃ S, Tq (fun b => b < w.heap.size) w w1 T S c' t' n' rs' := by
  obtain ⟨S1, S2, h1, h2, ap⟩ := H
  exact ⟨S2, h2⟩
end
set_option maxRecDepth 20000 in
set_option maxHeartbeats 16000000 in
theorem fibDoes_any (w : World) (h64 : Tab64 w) (ao : Option Addr) (n cp : Nat) (l : List Sx) (x a : Int) (H : SpAt w ao l) (hn : l.length = n) :
    Calls Tryz.prog 3 #[.slice ao n cp, iv x, iv a] w fun e w' => e = .returned (.bool true) ∧ Gr w w' := by
  have HS := hide (fun (X : World) (g : Gr w X) => H.gr g)
  have H64 := hide h64
  have HNL := hide hn
  clear H hn h64
  go_enter Tryz.func3, Tryz.ntmps3
  go_upto_region 3 with (go_at_call 6; with_reducible refine (fibBegun_ok _).mono ?_; rintro e V0 ⟨rfl, g0'⟩; have G0 := hide g0'; clear g0')
  by_cases h150 : 150 < n
  · have gd : decide ((150 : Int) < (n : Int)) = true := decide_eq_true (by omega)
    go_wp2_with fail
    go_ret
    exact ⟨rfl, G0.out⟩
  · have gd : decide ((150 : Int) < (n : Int)) = false := decide_eq_false (by omega)
    have HPO := hide (posts_any V0 ao n cp l (HS.out _ G0.out) HNL.out (by omega))
    go_upto_region 6 with (go_at_call 7; with_reducible refine HPO.out.mono ?_; rintro e V1 ⟨P, T, c, t, rs, rfl, h1'⟩; have H1 := hide h1'; clear h1')
    clear HPO HS
    obtain ⟨SP, hpq⟩ := H1.out.post
    obtain ⟨ST, htq⟩ := H1.out.town
    have TR := hide H1.out.ows.tab
    have hlen : rs.length ≤ 40 := TR.out.len
    have AA := hide H1.out.a
    have PQ := hide hpq
    have TQ := hide htq
    have GW := hide (G0.out.trans H1.out.grw)
    clear hpq htq H1
    obtain ⟨ar, cr, hT, ct, hrow⟩ := TQ.out.owns
    have RW := hide hrow
    have HCT : Hid (∀ X, Gr V1 X → X.cell? ⟨T, 43, none⟩ = some (.slice ar rs.length cr)) := fun X g => (Below.cell g (p := ⟨T, 43, none⟩) hT).trans ct
    have ela : (lookL rs a == lookL rs a) = true := by simp
    have gD := hide ((Gr.refl V1).drew)
    have HOW : Hid (∀ X, Gr V1 X → Calls Tryz.prog 9 #[pv P] X fun e w' => ∃ ao cp, e = .returned (.slice ao rs.length cp) ∧ RowAt w' (fun k => X.heap.size ≤ k) ao rs ∧ Gr X w') := fun X g => (PQ.out.gr g).owners
    have HOO : Hid (∀ X, Gr V1 X → Calls Tryz.prog 10 #[pv P, iv a] X fun e w' => e = .returned (iv (lookL rs a)) ∧ Gr X w') := fun X g => (PQ.out.gr g).owner a
    have HRL : Hid (∀ X, Gr V1 X → Calls Tryz.prog 11 #[.slice ar rs.length cr, iv a] X fun e w' => e = .returned (iv (lookL rs a)) ∧ Gr X w') := fun X g => (rlook_any X _ ar rs.length cr rs a (RW.out.gr g) rfl TR.out.toSrt).mono fun _ _ ⟨he, d, hd⟩ => ⟨he, by rw [hd]; exact d.gr⟩
    clear hrow
    go_cut [46] (fun v46 wc => v46 = .bool false ∧ Hid (Gr V1 wc))
    case first =>
      go_region_held3 (fun W => W.cell? ⟨T, 43, none⟩ = some (.slice ar rs.length cr)) (first | exact HCT.out _ gD.out | exact HCT.out _ G5.out | exact HCT.out _ G4.out | exact HCT.out _ G3.out | exact HCT.out _ G2.out | go_keep)
        (first
        | (go_at_call 9; with_reducible refine (HOW.out _ gD.out).mono ?_; rintro e w2 ⟨ao2, c2, rfl, r2, g2⟩; have R2 := hide r2; have G2 := hide (gD.out.trans g2); clear r2 g2)
        | (go_at_call 8; with_reducible refine (same_gr (z := true) R2.out (RW.out.gr G2.out) (by omega) (by omega) (by simp) c2 cr).mono ?_; rintro e w3 ⟨rfl, g3⟩; have G3 := hide (G2.out.trans g3); clear g3)
        | (go_at_call 10; with_reducible refine (HOO.out _ G3.out).mono ?_; rintro e w4 ⟨rfl, g4⟩; have G4 := hide (G3.out.trans g4); clear g4)
        | (go_at_call 11; with_reducible refine (HRL.out _ G4.out).mono ?_; rintro e w5 ⟨rfl, g5⟩; have G5 := hide (G4.out.trans g5); clear g5)
        | fail)
      all_goals
        go_wp2_with fail
        go_meet
        case rel => exact ⟨rfl, G5⟩
    case rest =>
      obtain ⟨rfl, GC⟩ := hcut
      clear HOW HOO HRL HCT RW ct hT ela gD
      have PC := hide (PQ.out.gr GC.out)
      have TC := hide (TQ.out.gr GC.out)
      have GT := hide (GW.out.trans GC.out)
      have HC64 := hide (H64.out.gr GT.out)
      clear PQ TQ GW GC H64
      by_cases hx : isN x
      · have B1 : Hid (decide (0 ≤ x ∧ x < 6) = true) := decide_eq_true hx
        have HF := hide (PC.out.full hx)
        have TF := hide (full_tab AA.out x TR.out)
        have TL := hide (lst_tab TF.out)
        have HSM : Hid (∀ X, Gr wc X → Calls Tryz.prog 13 #[pv P, iv x] X fun e w' => ∃ ub, e = .returned (pv ub) ∧ Is w' ub (lstL (fullL t x rs)) ∧ Gr X w') := fun X g => (PC.out.gr g).small (HC64.out.gr g) hx
        have HWF : Hid (∀ X, Gr wc X → Calls Tryz.prog 16 #[pv T, iv x] X fun e w' => ∃ ao cp, e = .returned (.slice ao (fullL t x rs).length cp) ∧ RowAt w' (fun _ => True) ao (fullL t x rs) ∧ Gr X w') := fun X g => (TC.out.gr g).full' (by omega) x rfl
        have HWS : Hid (∀ X, Gr wc X → Calls Tryz.prog 17 #[pv T, iv x] X fun e w' => ∃ ao cp, e = .returned (.slice ao (lstL (fullL t x rs)).length cp) ∧ RowAt w' (fun _ => True) ao (lstL (fullL t x rs)) ∧ Gr X w') := fun X g => (TC.out.gr g).small' TR.out x rfl
        have fl : (fullL t x rs).length ≤ 40 := TF.out.len
        have sl : (lstL (fullL t x rs)).length ≤ 40 := TL.out.len
        clear PC TC HC64 hx
        generalize fullL t x rs = fs at *
        generalize lstL fs = ss at *
        go_wp2_with (first
          | (go_at_call 12; with_reducible refine HF.out.mono ?_; rintro e w2 ⟨ub, rfl, i2', g2'⟩; have I2 := hide i2'; have G2 := hide g2'; clear i2' g2')
          | (go_at_call 13; with_reducible refine (HSM.out _ G2.out).mono ?_; rintro e w3 ⟨vb, rfl, i3', g3'⟩; have J3 := hide i3'; have I3 := hide (I2.out.gr g3'); have G3 := hide (G2.out.trans g3'); clear i3' g3')
          | (go_at_call 14; with_reducible refine (isNode_is B1.out _).mono ?_; rintro e w1 ⟨rfl, hw1⟩; have hw2 := hw1.symm; clear hw1; subst hw2)
          | (go_at_call 15; with_reducible refine (I3.out.list TF.out).mono ?_; rintro e w4 ⟨ao4, c4, rfl, r4', g4'⟩; have R4 := hide r4'; have J4 := hide (J3.out.gr g4'); have G4 := hide (G3.out.trans g4'); clear r4' g4')
          | (go_at_call 16; with_reducible refine (HWF.out _ G4.out).mono ?_; rintro e w5 ⟨ao5, c5, rfl, r5', g5'⟩; have R5 := hide r5'; have Q5 := hide (R4.out.gr g5'); have J5 := hide (J4.out.gr g5'); have G5 := hide (G4.out.trans g5'); clear r5' g5')
          | (go_at_call 8; with_reducible refine (same_gr (z := true) Q5.out R5.out (by omega) (by omega) (by simp) c4 c5).mono ?_; rintro e w6 ⟨rfl, g6'⟩; have J6 := hide (J5.out.gr g6'); have G6 := hide (G5.out.trans g6'); clear g6')
          | (go_at_call 15; with_reducible refine (J6.out.list TL.out).mono ?_; rintro e w7 ⟨ao7, c7, rfl, r7', g7'⟩; have R7 := hide r7'; have G7 := hide (G6.out.trans g7'); clear r7' g7')
          | (go_at_call 17; with_reducible refine (HWS.out _ G7.out).mono ?_; rintro e w8 ⟨ao8, c8, rfl, r8', g8'⟩; have R8 := hide r8'; have Q8 := hide (R7.out.gr g8'); have G8 := hide (G7.out.trans g8'); clear r8' g8')
          | (go_at_call 8; with_reducible refine (same_gr (z := true) Q8.out R8.out (by omega) (by omega) (by simp) c7 c8).mono ?_; rintro e w9 ⟨rfl, g9'⟩; have G9 := hide (G8.out.trans g9'); clear g9')
          | fail)
        go_ret
        exact ⟨rfl, GT.out.trans G9.out⟩
      · have B1 : Hid (decide (0 ≤ x ∧ x < 6) = false) := decide_eq_false hx
        have HF := hide (PC.out.full_no hx)
        have HSM : Hid (∀ X, Gr wc X → Calls Tryz.prog 13 #[pv P, iv x] X fun e w' => e = .returned (.pointer none) ∧ Gr X w') := fun X g => (PC.out.gr g).small_no hx
        clear PC TC HC64 hx
        go_wp2_with (first
          | (go_at_call 12; with_reducible refine HF.out.mono ?_; rintro e w2 ⟨rfl, g2'⟩; have G2 := hide g2'; clear g2')
          | (go_at_call 13; with_reducible refine (HSM.out _ G2.out).mono ?_; rintro e w3 ⟨rfl, g3'⟩; have G3 := hide (G2.out.trans g3'); clear g3')
          | (go_at_call 14; with_reducible refine (isNode_is B1.out _).mono ?_; rintro e w1 ⟨rfl, hw1⟩; have hw2 := hw1.symm; clear hw1; subst hw2)
          | fail)
        go_ret
        exact ⟨rfl, GT.out.trans G3.out⟩

end Go.Proofs.YtgiifgjjmffphafGreatDoor
