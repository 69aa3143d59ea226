/- handpostlaw.WalkHome ANSWERS true. -/
import Derived.Test.YtcgflhjgllpohagGreatDoorLWkDoes
import Derived.Test.YtcgflhjgllpohagGreatDoorNe6
namespace Go.Proofs.YtcgflhjgllpohagGreatDoor
open Go.RowKit
attribute [local go_sem] Ext.all Ext.cell Ext.frozen Ext.lt Ext.lt1 Ext.lt2 Ext.ne Ext.ne' run_idx6
/-- The trip of a letter in a settled net. -/
theorem trip_settled {t : Tn} {c : Nat → Nat → Nat} (H : TnA t c) {rs : List Rt} (ho : Ows rs) (a : Int) {x : Nat} (hx : x < 6) :
    (lookL rs a = -1 ∧ goN (letH (settleT t 14) rs a) (fun u v => (c u v : Int)) 7 (x : Int) [] 0 = ([x], 0, -1)) ∨
    ∃ (z : Nat) (l : List Nat) (k e : Int), z < 6 ∧ lookL rs a = (z : Int) ∧ goN (letH (settleT t 14) rs a) (fun u v => (c u v : Int)) 7 (x : Int) [] 0 = (l, k, e) ∧ ((dst c (x : Int) z = 200 ∧ e = -1) ∨ (dst c (x : Int) z < 200 ∧ e = (z : Int) ∧ k = (dst c (x : Int) z : Int))) := by
  obtain ⟨H2, hS⟩ := H.settle (r := 14) (by decide)
  rcases Ows.look ho.hop a with q | q
  · exact .inl ⟨q, go_none _ hx (let_none ho q x)⟩
  · obtain ⟨z, hz⟩ : ∃ z : Nat, lookL rs a = (z : Int) := ⟨(lookL rs a).toNat, by have := q.1; omega⟩
    have hz6 : z < 6 := by have := q.2; omega
    obtain ⟨l, e, tr, h1, h2⟩ := trip_home (hS z hz6) H2 hz6 hx
    refine .inr ⟨z, l, _, _, hz6, hz, (goN_congr (g := hopT (settleT t 14) z) (fun y hy => let_own ho hz6 hz hy) _ _ _ _).trans (tr.go H2 hz6), ?_⟩
    have hb : dst c (x : Int) z = dst c (z : Int) x := dst_back H.s.tc.lk hx hz6
    rw [hb]
    by_cases hd : dst c (z : Int) x < 200
    · obtain ⟨e1, e2⟩ := h1 hd
      exact .inr ⟨hd, by rw [if_pos e1], by rw [e2]⟩
    · have hd2 : dst c (z : Int) x = 200 := by have := dst_le c (z : Int) x; omega
      exact .inl ⟨hd2, by rw [if_neg (h2 hd2)]⟩
set_option maxRecDepth 20000 in
set_option maxHeartbeats 16000000 in
theorem walkHome_any (w : World) (h64 : Tab64 w) (ao : Option Addr) (n cp : Nat) (l : List Sx) (fr a : Int) (H : SpAt w ao l) (hn : l.length = n) :
    Calls Tryz.prog 3 #[.slice ao n cp, iv fr, iv a] w fun e w' => e = .returned (.bool true) ∧ Gr w w' := by
  have HS := hide (fun (X : World) (g : Gr w X) => H.gr g)
  have HNL := hide hn
  have HB := hide (walkBegun_ok w h64)
  have H64 := hide h64
  clear H hn h64
  go_enter Tryz.func3, Tryz.ntmps3
  go_upto_region 3 with (go_at_call 6; with_reducible refine HB.out.mono ?_; rintro e V0 ⟨rfl, g0'⟩; have G0 := hide g0'; clear g0')
  by_cases h150 : 150 < n
  · have gd : decide ((150 : Int) < (n : Int)) = true := decide_eq_true (by omega)
    go_wp2_with fail
    go_ret
    exact ⟨rfl, G0.out⟩
  have gd : decide ((150 : Int) < (n : Int)) = false := decide_eq_false (by omega)
  by_cases hfr : isN fr
  · have B1 : Hid (decide (0 ≤ fr ∧ fr < 6) = true) := decide_eq_true hfr
    obtain ⟨x, rfl⟩ : ∃ x : Nat, fr = (x : Int) := ⟨fr.toNat, by have := hfr.1; omega⟩
    have hx : x < 6 := by have := hfr.2; omega
    have HPO := hide (posts_any V0 ao n cp l (HS.out _ G0.out) HNL.out (by omega))
    go_upto_region 6 with (first
      | (go_at_call 7; with_reducible refine (isNode_is B1.out _).mono ?_; rintro e w1 ⟨rfl, hw1⟩; have hw2 := hw1.symm; clear hw1; subst hw2)
      | (go_at_call 8; with_reducible refine HPO.out.mono ?_; rintro e V1 ⟨P, T, c, t, rs, rfl, h1'⟩; have H1 := hide h1'; clear h1'))
    clear HPO HS
    obtain ⟨SP, ST, hpq, _, _⟩ := H1.out
    have AA := hide H1.out.a
    have OW := hide H1.out.ows
    obtain ⟨p0, hP0, hp0, HST⟩ := hpq.settle (by omega)
    have HS14 := hide (HST 14 (by decide))
    have A2 : Hid (TnA (settleT t 14) c) := settle_a AA.out 14
    clear hpq H1 HST
    go_upto_region 7 with (go_at_call 9; with_reducible refine HS14.out.mono ?_; rintro e V2 ⟨rfl, S2, h2', _⟩; have H2 := hide h2'; clear h2')
    clear HS14 hP0 hp0
    have GW := hide (G0.out.trans H2.out.grw')
    have HN := hide (walkNew_any H2.out (H64.out.gr GW.out) true)
    have HOO : Hid (∀ V, Gr V2 V → Calls Tryz.prog 12 #[pv P, iv a] V fun e w' => e = .returned (iv (lookL rs a)) ∧ Gr V w') := fun V g => (H2.out.gr g).owner a
    rcases trip_settled AA.out OW.out a hx with ⟨hq, hgo⟩ | ⟨z, tl, tk, te, hz6, hq, hgo, hcase⟩
    · have HG : Hid (∀ (V : World) (X : Nat) (SW : Nat → Prop), Gr V2 V → Wq V X P SW (tabL (settleT t 14) rs true) → Calls Tryz.prog 11 #[pv X, iv (x : Int), iv a] V fun e w' => TripO V w' e [x] 0 (-1)) := fun V X SW g hw => hw.go (H2.out.gr g) A2.out OW.out (x : Int) a hgo
      rw [hq] at HOO
      clear hq hgo H2
      go_upto_region 8 with (first
        | (go_at_call 10; with_reducible refine HN.out.mono ?_; rintro e V3 ⟨X, SW, rfl, w3', g3', _⟩; have W3 := hide w3'; have G3 := hide g3'; clear w3' g3')
        | (go_at_call 11; refine (HG.out _ _ _ G3.out W3.out).mono ?_; rintro e V4 ⟨ao4, cp4, rfl, n4', g4'⟩; have G4 := hide (G3.out.trans g4'); clear n4' g4')
        | fail)
      have hbt := box_trip V4 (.slice ao4 [x].length cp4) (iv 0) (iv (-1)) 36
      refine wp_gen (fun V => Hid ((V.cell? ⟨V4.heap.size, 0, none⟩ = some (.slice ao4 1 cp4) ∧ V.cell? ⟨V4.heap.size, 1, none⟩ = some (iv 0) ∧ V.cell? ⟨V4.heap.size, 2, none⟩ = some (iv (-1))) ∧ V4.heap.size < V.heap.size) ∧ Hid (Gr V2 V)) ⟨hbt, G4.out.alloc _⟩ ?_
      clear hbt G4 W3 G3
      generalize V4.heap.size = Z at *
      rintro V ⟨CE, GV⟩
      have HCE : Hid (∀ Y, Gr V Y → (Y.cell? ⟨Z, 0, none⟩ = some (.slice ao4 1 cp4) ∧ Y.cell? ⟨Z, 1, none⟩ = some (iv 0) ∧ Y.cell? ⟨Z, 2, none⟩ = some (iv (-1))) ∧ Z < Y.heap.size) := fun Y g => ⟨⟨(Below.cell g (p := ⟨Z, 0, none⟩) CE.out.2).trans CE.out.1.1, (Below.cell g (p := ⟨Z, 1, none⟩) CE.out.2).trans CE.out.1.2.1, (Below.cell g (p := ⟨Z, 2, none⟩) CE.out.2).trans CE.out.1.2.2⟩, Nat.lt_of_lt_of_le CE.out.2 (Below.size g)⟩
      go_wp2_with (go_at_call 12; with_reducible refine (HOO.out _ GV.out).mono ?_; rintro e V6 ⟨rfl, g6'⟩; have G6 := hide g6'; obtain ⟨⟨c0, c1, c2⟩, c3⟩ := HCE.out V6 g6'; clear g6')
      go_ret
      exact ⟨rfl, GW.out.trans (GV.out.trans G6.out)⟩
    · have HG : Hid (∀ (V : World) (X : Nat) (SW : Nat → Prop), Gr V2 V → Wq V X P SW (tabL (settleT t 14) rs true) → Calls Tryz.prog 11 #[pv X, iv (x : Int), iv a] V fun e w' => TripO V w' e tl tk te) := fun V X SW g hw => hw.go (H2.out.gr g) A2.out OW.out (x : Int) a hgo
      rw [hq] at HOO
      have B2 : Hid (decide (0 ≤ (z : Int) ∧ (z : Int) < 6) = true) := decide_eq_true ⟨by omega, by omega⟩
      obtain ⟨p, k0, hPw, hpw, hkw, q0, q1, HKL⟩ := H2.out.links
      have HLF : Hid (∀ V, Gr V2 V → (V.cell? ⟨P, 0, none⟩ = some (pv p) ∧ V.cell? ⟨p, 0, none⟩ = some (pv k0) ∧ P < V.heap.size ∧ p < V.heap.size) ∧ Calls Tryz.prog 13 #[pv k0, iv (x : Int)] V fun e w' => e = .returned (.agg (ncells 6 (dst c (x : Int)))) ∧ Gr V w') := fun V g =>
        ⟨⟨(Below.cell g (p := ⟨P, 0, none⟩) hPw).trans q0, (Below.cell g (p := ⟨p, 0, none⟩) hpw).trans q1, Nat.lt_of_lt_of_le hPw (Below.size g), Nat.lt_of_lt_of_le hpw (Below.size g)⟩, lfar_any (HKL V g) AA.out.s.tc.lk (x : Int)⟩
      clear hq hgo H2 q0 q1 HKL hPw hpw hkw
      have ez : ((z : Int) == -1) = false := by simp
      have hz1 : (z : Int) ≠ -1 := by omega
      have hzi : (z : Int) < 6 := by omega
      have hz0 : (0 : Int) ≤ (z : Int) := by omega
      have HCS : Hid ((dst c (x : Int) z = 200 ∧ te = -1) ∨ (dst c (x : Int) z < 200 ∧ te = (z : Int) ∧ tk = (dst c (x : Int) z : Int))) := hcase
      clear hcase
      generalize hdd : dst c (x : Int) = dd at *
      clear hdd
      go_upto_region 8 with (first
        | (go_at_call 10; with_reducible refine HN.out.mono ?_; rintro e V3 ⟨X, SW, rfl, w3', g3', _⟩; have W3 := hide w3'; have G3 := hide g3'; clear w3' g3')
        | (go_at_call 11; refine (HG.out _ _ _ G3.out W3.out).mono ?_; rintro e V4 ⟨ao4, cp4, rfl, n4', g4'⟩; have G4 := hide (G3.out.trans g4'); clear n4' g4')
        | fail)
      have hbt := box_trip V4 (.slice ao4 tl.length cp4) (iv tk) (iv te) 36
      refine wp_gen (fun V => Hid ((V.cell? ⟨V4.heap.size, 0, none⟩ = some (.slice ao4 tl.length cp4) ∧ V.cell? ⟨V4.heap.size, 1, none⟩ = some (iv tk) ∧ V.cell? ⟨V4.heap.size, 2, none⟩ = some (iv te)) ∧ V4.heap.size < V.heap.size) ∧ Hid (Gr V2 V)) ⟨hbt, G4.out.alloc _⟩ ?_
      clear hbt G4 W3 G3
      generalize V4.heap.size = Z at *
      rintro V ⟨CE, GV⟩
      have HCE : Hid (∀ Y, Gr V Y → (Y.cell? ⟨Z, 1, none⟩ = some (iv tk) ∧ Y.cell? ⟨Z, 2, none⟩ = some (iv te)) ∧ Z < Y.heap.size) := fun Y g => ⟨⟨(Below.cell g (p := ⟨Z, 1, none⟩) CE.out.2).trans CE.out.1.2.1, (Below.cell g (p := ⟨Z, 2, none⟩) CE.out.2).trans CE.out.1.2.2⟩, Nat.lt_of_lt_of_le CE.out.2 (Below.size g)⟩
      clear CE
      go_upto_region 14 with (first
        | (go_at_call 12; with_reducible refine (HOO.out _ GV.out).mono ?_; rintro e V6 ⟨rfl, g6'⟩; have G6 := hide g6'; obtain ⟨⟨q0, q1, q2, q3⟩, hlf⟩ := HLF.out V6 (GV.out.trans g6'); have HLF6 := hide hlf; clear g6' hlf)
        | (go_at_call 7; with_reducible refine (isNode_is B2.out _).mono ?_; rintro e w1 ⟨rfl, hw1⟩; have hw2 := hw1.symm; clear hw1; subst hw2)
        | (go_at_call 13; with_reducible refine HLF6.out.mono ?_; rintro e V7 ⟨rfl, g7'⟩; have G7 := hide (G6.out.trans g7'); clear g7')
        | fail)
      obtain ⟨⟨c1, c2⟩, c3⟩ := HCE.out V7 G7.out
      rcases HCS.out with ⟨d1, d2⟩ | ⟨d1, d2, d3⟩
      · subst d2
        have hde : ((dd z : Int) == 200) = true := by rw [d1]; rfl
        rw [d1]
        go_wp2_with fail
        go_ret
        exact ⟨rfl, GW.out.trans (GV.out.trans G7.out)⟩
      · subst d2
        subst d3
        have hde : ((dd z : Int) == 200) = false := by simp; omega
        have hde2 : (dd z : Int) ≠ 200 := by omega
        have e1 : ((z : Int) == (z : Int)) = true := by simp
        have e2 : ((dd z : Int) == (dd z : Int)) = true := by simp
        go_wp2_with fail
        go_ret
        exact ⟨rfl, GW.out.trans (GV.out.trans G7.out)⟩
  · have B1 : Hid (decide (0 ≤ fr ∧ fr < 6) = false) := decide_eq_false hfr
    go_wp2_with (go_at_call 7; with_reducible refine (isNode_is B1.out _).mono ?_; rintro e w1 ⟨rfl, hw1⟩; have hw2 := hw1.symm; clear hw1; subst hw2)
    go_ret
    exact ⟨rfl, G0.out⟩

end Go.Proofs.YtcgflhjgllpohagGreatDoor
