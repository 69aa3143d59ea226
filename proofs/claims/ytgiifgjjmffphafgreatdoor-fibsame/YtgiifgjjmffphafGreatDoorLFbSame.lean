/- handpostlaw.FibSame ANSWERS true. -/
import Derived.Test.YtgiifgjjmffphafGreatDoorL64
namespace Go.Proofs.YtgiifgjjmffphafGreatDoor
open Go.RowKit
attribute [local go_sem] Ext.all Ext.cell Ext.frozen Ext.lt Ext.lt1 Ext.lt2 Ext.ne Ext.ne'
set_option maxRecDepth 20000 in
set_option maxHeartbeats 16000000 in
theorem fibSame_any (w : World) (h64 : Tab64 w) (ao : Option Addr) (n cp : Nat) (l : List Sx) (x a : Int) (H : SpAt w ao l) (hn : l.length = n) :
    Calls Tryz.prog 4 #[.slice ao n cp, iv x, iv a] w fun e w' => e = .returned (.bool true) ∧ Gr w w' := by
  have HS := hide (fun (X : World) (g : Gr w X) => H.gr g)
  have H64 := hide h64
  have HNL := hide hn
  clear H hn h64
  go_enter Tryz.func4, Tryz.ntmps4
  go_upto_region 3 with (go_at_call 6; with_reducible refine (fibBegun_ok _).mono ?_; rintro e V0 ⟨rfl, g0'⟩; have G0 := hide g0'; clear g0')
  by_cases h150 : 150 < n
  · have gd : decide ((150 : Int) < (n : Int)) = true := decide_eq_true (by omega)
    go_wp2_with fail
    go_ret
    exact ⟨rfl, G0.out⟩
  · have gd : decide ((150 : Int) < (n : Int)) = false := decide_eq_false (by omega)
    by_cases hx : isN x
    · have B1 : Hid (decide (0 ≤ x ∧ x < 6) = true) := decide_eq_true hx
      have HPO := hide (posts_any V0 ao n cp l (HS.out _ G0.out) HNL.out (by omega))
      go_upto_region 6 with (first
        | (go_at_call 14; with_reducible refine (isNode_is B1.out _).mono ?_; rintro e w1 ⟨rfl, hw1⟩; have hw2 := hw1.symm; clear hw1; subst hw2)
        | (go_at_call 7; with_reducible refine HPO.out.mono ?_; rintro e V1 ⟨P, T, c, t, rs, rfl, h1'⟩; have H1 := hide h1'; clear h1'))
      clear HPO HS
      obtain ⟨SP, ST, hpq, _, _⟩ := H1.out
      have TF := hide (full_tab H1.out.a x H1.out.ows.tab)
      have TL := hide (lst_tab TF.out)
      have GW := hide (G0.out.trans H1.out.grw)
      have HF := hide (hpq.full hx)
      have HC64 := hide (H64.out.gr GW.out)
      have HSM : Hid (∀ X, Gr V1 X → Calls Tryz.prog 13 #[pv P, iv x] X fun e w' => ∃ ub, e = .returned (pv ub) ∧ Is w' ub (lstL (fullL t x rs)) ∧ Gr X w') := fun X g => (hpq.gr g).small (HC64.out.gr g) hx
      have HEQ := hide (lst_eqF TF.out)
      have HLK := hide (lst_lookI TF.out a)
      have hle : (lstL (fullL t x rs)).length ≤ (fullL t x rs).length := lst_le TF.out
      clear hpq H1 hx
      generalize fullL t x rs = fs at *
      generalize lstL fs = ss at *
      obtain ⟨y, hy⟩ : ∃ y, lookL fs a = y := ⟨_, rfl⟩
      rw [hy] at HLK
      have HLY := hide hy
      clear hy
      have eyy : (y == y) = true := by simp
      have hlei : decide ((ss.length : Int) ≤ (fs.length : Int)) = true := decide_eq_true (by omega)
      have hlei2 : (ss.length : Int) ≤ (fs.length : Int) := by omega
      go_wp2_with (first
        | (go_at_call 12; with_reducible refine HF.out.mono ?_; rintro e w2 ⟨ub, rfl, i2', g2'⟩; have I2 := hide i2'; have G2 := hide g2'; clear i2' g2')
        | (go_at_call 13; with_reducible refine (HSM.out _ G2.out).mono ?_; rintro e w3 ⟨vb, rfl, i3', g3'⟩; have J3 := hide i3'; have I3 := hide (I2.out.gr g3'); have G3 := hide (G2.out.trans g3'); clear i3' g3')
        | (go_at_call 18; with_reducible refine (I3.out.tsame J3.out TF.out TL.out HEQ.out).mono ?_; rintro e w4 ⟨rfl, g4'⟩; have J4 := hide (J3.out.gr g4'); have I4 := hide (I3.out.gr g4'); have G4 := hide (G3.out.trans g4'); clear g4')
        | (go_at_call 19; with_reducible refine (I4.out.look TF.out HLY.out).mono ?_; rintro e w5 ⟨rfl, g5'⟩; have J5 := hide (J4.out.gr g5'); have I5 := hide (I4.out.gr g5'); have G5 := hide (G4.out.trans g5'); clear g5')
        | (go_at_call 19; with_reducible refine (J5.out.look TL.out HLK.out).mono ?_; rintro e w6 ⟨rfl, g6'⟩; have J6 := hide (J5.out.gr g6'); have I6 := hide (I5.out.gr g6'); have G6 := hide (G5.out.trans g6'); clear g6')
        | (go_at_call 15; with_reducible refine (J6.out.list TL.out).mono ?_; rintro e w7 ⟨ao7, c7, rfl, r7', g7'⟩; have I7 := hide (I6.out.gr g7'); have G7 := hide (G6.out.trans g7'); clear r7' g7')
        | (go_at_call 15; with_reducible refine (I7.out.list TF.out).mono ?_; rintro e w8 ⟨ao8, c8, rfl, r8', g8'⟩; have G8 := hide (G7.out.trans g8'); clear r8' g8')
        | fail)
      go_ret
      exact ⟨rfl, GW.out.trans G8.out⟩
    · have B1 : Hid (decide (0 ≤ x ∧ x < 6) = false) := decide_eq_false hx
      go_wp2_with (go_at_call 14; with_reducible refine (isNode_is B1.out _).mono ?_; rintro e w1 ⟨rfl, hw1⟩; have hw2 := hw1.symm; clear hw1; subst hw2)
      go_ret
      exact ⟨rfl, G0.out⟩

end Go.Proofs.YtgiifgjjmffphafGreatDoor
