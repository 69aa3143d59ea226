/- handpostlaw.FibOwns ANSWERS true. -/
import Derived.Test.YtgiifgjjmffphafDoorL64
namespace Go.Proofs.YtgiifgjjmffphafDoor
open Go.RowKit
attribute [local go_sem] Ext.all Ext.cell Ext.frozen Ext.lt Ext.lt1 Ext.lt2 Ext.ne Ext.ne' hopW_of
set_option maxRecDepth 20000 in
set_option maxHeartbeats 16000000 in
theorem fibOwns_any (w : World) (h64 : Tab64 w) (ao : Option Addr) (n cp : Nat) (l : List Sx) (x a : Int) (H : SpAt w ao l) (hn : l.length = n) :
    Calls Tryd.prog 3 #[.slice ao n cp, iv x, iv a] w fun e w' => e = .returned (.bool true) ∧ Gr w w' := by
  have HS := hide (fun (X : World) (g : Gr w X) => H.gr g)
  have H64 := hide h64
  have HNL := hide hn
  clear H hn h64
  go_enter Tryd.func3, Tryd.ntmps3
  go_upto_region 3 with (go_at_call 4; with_reducible refine (fibBegun_ok _).mono ?_; rintro e V0 ⟨rfl, g0'⟩; have G0 := hide g0'; clear g0')
  by_cases h150 : 150 < n
  · have gd : decide ((150 : Int) < (n : Int)) = true := decide_eq_true (by omega)
    go_wp2_with fail
    go_ret
    exact ⟨rfl, G0.out⟩
  · have gd : decide ((150 : Int) < (n : Int)) = false := decide_eq_false (by omega)
    by_cases hx : isN x
    · have B1 : Hid (decide (0 ≤ x ∧ x < 6) = true) := decide_eq_true hx
      have HPO := hide (posts_any V0 ao n cp l (HS.out _ G0.out) HNL.out (by omega))
      go_upto_region 6 with (first
        | (go_at_call 5; with_reducible refine (isNode_is B1.out _).mono ?_; rintro e w1 ⟨rfl, hw1⟩; have hw2 := hw1.symm; clear hw1; subst hw2)
        | (go_at_call 6; with_reducible refine HPO.out.mono ?_; rintro e V1 ⟨P, T, c, t, rs, rfl, h1'⟩; have H1 := hide h1'; clear h1'))
      clear HPO HS
      obtain ⟨SP, ST, hpq, _, _⟩ := H1.out
      have TF := hide (full_tab H1.out.a x H1.out.ows.tab)
      have TL := hide (lst_tab TF.out)
      have GW := hide (G0.out.trans H1.out.grw)
      have HSM := hide (hpq.small (H64.out.gr GW.out) hx)
      have HOO : Hid (∀ X, Gr V1 X → Calls Tryd.prog 9 #[pv P, iv a] X fun e w' => e = .returned (iv (lookL rs a)) ∧ Gr X w') := fun X g => (hpq.gr g).owner a
      obtain ⟨p, hP, hp0, HWY⟩ := hpq.way
      have HC : Hid (∀ X, Gr V1 X → X.cell? ⟨P, 0, none⟩ = some (pv p) ∧ P < X.heap.size) := fun X g => ⟨(Below.cell g (p := ⟨P, 0, none⟩) hP).trans hp0, Nat.lt_of_lt_of_le hP (Below.size g)⟩
      have HW2 := hide (fun (X : World) (g : Gr V1 X) => HWY X g x (lookL rs a))
      have HFO := hide (full_owns H1.out.a hx H1.out.ows a)
      have HLK := hide (lst_lookI TF.out a)
      generalize fullL t x rs = fs at *
      clear hpq H1 hx HWY hP hp0
      obtain ⟨y, hy⟩ : ∃ y, lookL rs a = y := ⟨_, rfl⟩
      rw [hy] at HOO HFO HW2
      clear hy
      obtain ⟨h, hh⟩ : ∃ h, lookL fs a = h := ⟨_, rfl⟩
      rw [hh] at HFO HLK
      clear hh
      generalize lstL fs = ss at *
      go_upto_region 10 with (first
        | (go_at_call 7; with_reducible refine HSM.out.mono ?_; rintro e w2 ⟨ub, rfl, i2', g2'⟩; have I2 := hide i2'; have G2 := hide g2'; clear i2' g2')
        | (go_at_call 8; with_reducible refine (I2.out.look TL.out HLK.out).mono ?_; rintro e w3 ⟨rfl, g3'⟩; have G3 := hide (G2.out.trans g3'); clear g3')
        | (go_at_call 9; with_reducible refine (HOO.out _ G3.out).mono ?_; rintro e w4 ⟨rfl, g4'⟩; have G4 := hide (G3.out.trans g4'); clear g4')
        | fail)
      obtain ⟨c0, c1⟩ := HC.out _ G4.out
      by_cases hy1 : y = -1
      · have e := HFO.out.1 hy1
        subst hy1
        subst e
        go_wp2_with fail
        go_ret
        exact ⟨rfl, GW.out.trans G4.out⟩
      · obtain ⟨e1, e2⟩ := HFO.out.2 hy1
        have ey : (y == -1) = false := by simpa using hy1
        have HW3 := hide (HW2.out _ G4.out)
        rw [← e1] at HW3
        have ehh : (h == h) = true := by simp
        have hcase : (h = x ∧ y = x) ∨ ((h == x) = false ∧ (y == x) = false ∧ h ≠ x ∧ y ≠ x) := by
          by_cases q : y = x
          · exact .inl ⟨e2.2 q, q⟩
          · exact .inr ⟨by simpa using fun z => q (e2.1 z), by simpa using q, fun z => q (e2.1 z), q⟩
        clear HFO e1 e2 HW2
        rcases hcase with ⟨q1, q2⟩ | ⟨q1, q2, q3, q4⟩
        · subst q1
          subst q2
          go_wp2_with (go_at_call 10; with_reducible refine HW3.out.mono ?_; rintro e w5 ⟨s5, d5, rfl, g5⟩)
          go_ret
          exact ⟨rfl, GW.out.trans (G4.out.trans g5)⟩
        · go_wp2_with (go_at_call 10; with_reducible refine HW3.out.mono ?_; rintro e w5 ⟨s5, d5, rfl, g5⟩)
          go_ret
          exact ⟨rfl, GW.out.trans (G4.out.trans g5)⟩
    · have B1 : Hid (decide (0 ≤ x ∧ x < 6) = false) := decide_eq_false hx
      go_wp2_with (go_at_call 5; with_reducible refine (isNode_is B1.out _).mono ?_; rintro e w1 ⟨rfl, hw1⟩; have hw2 := hw1.symm; clear hw1; subst hw2)
      go_ret
      exact ⟨rfl, G0.out⟩

end Go.Proofs.YtgiifgjjmffphafDoor
