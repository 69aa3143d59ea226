/- CONTRACTS OF trie.Of AND trie.Same; of handpostref.SameRoutes at two lists that may be other ones. -/
import Derived.Test.YtimbgijpeomfcacGreatDoorT3
import Derived.Test.YtimbgijpeomfcacGreatDoorE1
namespace Go.Proofs.YtimbgijpeomfcacGreatDoor
open Go.RowKit
attribute [local go_sem] Ext.all Ext.cell Ext.frozen Ext.lt Ext.lt1 Ext.lt2 Ext.ne Ext.ne'

/-- All, as cells of numbers. -/
theorem all_nums {w : World} {M : Nat → Prop} {tb : Nat} {v : Value} {rs : List Rt} (S : TabS w M tb v rs) (hm : rs.length ≤ 1000) (wX : World) (gX : Gr w wX) :
    Calls Tryz.prog 41 #[.pointer (some ⟨tb, 0, none⟩)] wX fun e w' => ∃ g, e = .returned (.slice (some ⟨g, 0, none⟩) 256 256) ∧ Nums w' g 0 256 (fun j => lookL rs j) ∧ Gr wX w' := by
  refine (all_is (S.gr gX) hm ⟨wX, Gr.refl wX⟩).mono ?_
  rintro e w' ⟨g, rfl, _, h2, h3, d, hd⟩
  exact ⟨g, rfl, ⟨h2, fun j hj => by rw [Nat.zero_add]; exact h3 j hj⟩, by rw [hd]; exact d.gr⟩

theorem equal_eq (w : World) (g1 g2 : Nat) (f g : Nat → Int) (H : Nums w g1 0 256 f) (K : Nums w g2 0 256 g) :
    Calls Tryz.prog 40 #[.slice (some ⟨g1, 0, none⟩) 256 256, .slice (some ⟨g2, 0, none⟩) 256 256] w fun e w' => e = .returned (.bool (eqF f g)) ∧ ∃ d : Ext w, w' = d.out := by
  have h := equal_any w g1 g2 f g H K 256 256
  have e : eqF f g = decide (∀ j : Nat, j < 256 → f j = g j) := by unfold eqF; rfl
  rw [e]
  exact h

set_option maxRecDepth 20000 in
theorem tof_is {w : World} {M : Nat → Prop} {tb : Nat} {v : Value} {rs : List Rt} (S : TabS w M tb v rs) (hm : rs.length ≤ 1000) (wX : World) (gX : Gr w wX) :
    Calls Tryz.prog 25 #[.pointer (some ⟨tb, 0, none⟩)] wX fun e w' => ∃ q, e = .returned (pv q) ∧ Tr w' (trT rs) q ∧ Gr wX w' := by
  have HA := hide (all_nums S hm wX gX)
  have HP := hide (fun (wY : World) (g : Nat) (hN : Nums wY g 0 256 (fun j => lookL rs j)) => part_any (fun j => lookL rs j) g 8 0 0 0 256 256 wY Sp.root (by decide) (by decide) hN)
  have HT : Hid (trT rs = tri (fun j => lookL rs j) 8 0 0 0) := by unfold Hid trT triT; rfl
  clear S
  go_enter Tryz.func25, Tryz.ntmps25
  go_wp2_with (first
    | (go_at_call 41; refine HA.out.mono ?_; rintro e w1 ⟨g1, rfl, n1, gr1⟩; have N1 := hide n1; have G1 := hide gr1; clear n1 gr1)
    | (go_at_call 49; refine (HP.out w1 g1 N1.out).mono ?_; rintro e w2 ⟨q, rfl, t2, d2, hd2⟩; have TQ := hide t2; have G2 := hide (show Gr w1 w2 by rw [hd2]; exact d2.gr); clear t2 hd2))
  go_ret
  exact ⟨_, rfl, by rw [HT.out]; exact TQ.out, G1.out.trans G2.out⟩

set_option maxRecDepth 20000 in
theorem tsame_is {w : World} {M N : Nat → Prop} {tb ub : Nat} {v u : Value} {rs ss : List Rt} (S : TabS w M tb v rs) (U : TabS w N ub u ss) (hm : rs.length ≤ 1000) (hn : ss.length ≤ 1000) (wX : World) (gX : Gr w wX) :
    Calls Tryz.prog 19 #[.pointer (some ⟨tb, 0, none⟩), .pointer (some ⟨ub, 0, none⟩)] wX fun e w' => e = .returned (.bool (eqF (fun j => lookL rs j) (fun j => lookL ss j))) ∧ Gr wX w' := by
  have HA := hide (all_nums S hm wX gX)
  have HB := hide (fun (wY : World) (gY : Gr wX wY) => all_nums U hn wY (gX.trans gY))
  have HE := hide (fun (wY : World) (g1 g2 : Nat) (h1 : Nums wY g1 0 256 (fun j => lookL rs j)) (h2 : Nums wY g2 0 256 (fun j => lookL ss j)) => equal_eq wY g1 g2 _ _ h1 h2)
  clear S U
  generalize eqF (fun j : Nat => lookL rs j) (fun j : Nat => lookL ss j) = z at *
  go_enter Tryz.func19, Tryz.ntmps19
  go_wp2_with (first
    | (go_at_call 41; with_reducible refine HA.out.mono ?_; rintro e w1 ⟨g1, rfl, n1, gr1⟩; have N1 := hide n1; have G1 := hide gr1; clear n1 gr1)
    | (go_at_call 41; with_reducible refine (HB.out w1 G1.out).mono ?_; rintro e w2 ⟨g2, rfl, n2, gr2⟩; have N2 := hide n2; have N1' := hide (N1.out.gr gr2); have G2 := hide (G1.out.trans gr2); clear n2 gr2)
    | (go_at_call 40; refine (HE.out w2 g1 g2 N1'.out N2.out).mono ?_; rintro e _ ⟨rfl, d3, rfl⟩))
  go_ret
  exact ⟨rfl, G2.out.ext d3⟩

set_option maxRecDepth 20000 in
/-- Two lists that may be other ones. -/
theorem same2_any (w : World) (M N : Nat → Prop) (ao bo : Option Addr) (c c' : Nat) (rs ss : List Rt) (H : RowAt w M ao rs) (K : RowAt w N bo ss) (hm : rs.length ≤ 1000) (hn : ss.length ≤ 1000) :
    Calls Tryz.prog 9 #[.slice ao rs.length c, .slice bo ss.length c'] w fun e w' => e = .returned (.bool (decide (rs = ss))) ∧ ∃ d : Ext w, w' = d.out := by
  by_cases hl : rs.length = ss.length
  · have hl2 : ((rs.length : Int) != (ss.length : Int)) = false := by simp [hl]
    have HV : Hid ((∀ j (h1 : j < rs.length) (h2 : j < ss.length), rs[j] = ss[j]) → decide (rs = ss) = true) := fun h => decide_eq_true (List.ext_getElem hl h)
    have HN : Hid (∀ j (h1 : j < rs.length) (h2 : j < ss.length), rs[j] ≠ ss[j] → decide (rs = ss) = false) := fun j h1 h2 h => decide_eq_false fun e => h (by subst e; rfl)
    generalize decide (rs = ss) = z at *
    rw [← hl]
    go_enter Tryz.func9, Tryz.ntmps9
    go_wp2
    go_loopw [5] (fun i wr => ∃ k : Nat, k ≤ rs.length ∧ i = .int .i64 k ∧ Hid (∀ j (h1 : j < rs.length) (h2 : j < ss.length), j < k → rs[j] = ss[j]) ∧ Gr w wr) (fun i _ => rs.length - (intOf i).toNat)
    case atStart => exact ⟨0, by omega, rfl, (fun j _ _ hj => by omega), Gr.refl _⟩
    case round =>
      obtain ⟨k, hk, rfl, HE, g⟩ := hrel
      obtain ⟨d, rfl⟩ := ext_mk g
      by_cases hlt : k < rs.length
      · have hks : k < ss.length := by omega
        rcases H with rfl | ⟨rb, o, rfl, hb, hM, hcs⟩
        · simp at hlt
        rcases K with rfl | ⟨qb, q, rfl, hqb, hN, kcs⟩
        · simp at hks
        obtain ⟨c1, c2, c3⟩ := hcs k hlt
        obtain ⟨k1, k2, k3⟩ := kcs k hks
        have HN2 := hide (HN.out k hlt hks)
        have HE2 : Hid (rs[k] = ss[k] → ∀ j (h1 : j < rs.length) (h2 : j < ss.length), j < k + 1 → rs[j] = ss[j]) := fun he j h1 h2 hj => by
          rcases Nat.lt_or_eq_of_le (Nat.le_of_lt_succ hj) with h | h
          · exact HE.out j h1 h2 h
          · subst h; exact he
        clear hcs kcs HN
        generalize rs[k] = r at *
        generalize ss[k] = s at *
        obtain ⟨rl, rbb, rh⟩ := r
        obtain ⟨sl, sbb, sh⟩ := s
        simp only at c1 c2 c3 k1 k2 k3
        by_cases e1 : rl = sl
        · by_cases e2 : rbb = sbb
          · by_cases e3 : rh = sh
            · subst e1 e2 e3
              have HX := hide (HE2.out rfl)
              clear HE2 HN2
              go_wp2_with fail
              refine wp_region_ext_of (by kernel_rfl) (by kernel_rfl) ?_
              repeat (go_big_quiet_step (fail))
              refine wpQuiet_nil ?_
              rintro _ ⟨d1, rfl⟩
              go_wp2
              go_roundw
              case rel => exact ⟨k + 1, by omega, by go_num, HX, d1.gr⟩
              case measure => simp [intOf]; omega
            · have b3 : (rh == sh) = false := by simpa using e3
              have b3' : (rh != sh) = true := by simpa using e3
              have HX := hide (HN2.out (fun h => e3 (by cases h; rfl)))
              clear HE2 HN2 e3
              subst e1 e2
              go_wp2_with fail
              refine wp_region_ext_of (by kernel_rfl) (by kernel_rfl) ?_
              repeat (go_big_quiet_step (fail))
              refine wpQuiet_nil ?_
              rintro _ ⟨d1, rfl⟩
              go_wp2
              go_ret
              exact ⟨ret_bool HX.out.symm, _, rfl⟩
          · have b2 : (rbb == sbb) = false := by simpa using e2
            have HX := hide (HN2.out (fun h => e2 (by cases h; rfl)))
            clear HE2 HN2 e2
            subst e1
            go_wp2_with fail
            refine wp_region_ext_of (by kernel_rfl) (by kernel_rfl) ?_
            repeat (go_big_quiet_step (fail))
            refine wpQuiet_nil ?_
            rintro _ ⟨d1, rfl⟩
            go_wp2
            go_ret
            exact ⟨ret_bool HX.out.symm, _, rfl⟩
        · have b1 : (rl == sl) = false := by simpa using e1
          have HX := hide (HN2.out (fun h => e1 (by cases h; rfl)))
          clear HE2 HN2 e1
          go_wp2_with fail
          refine wp_region_ext_of (by kernel_rfl) (by kernel_rfl) ?_
          repeat (go_big_quiet_step (fail))
          refine wpQuiet_nil ?_
          rintro _ ⟨d1, rfl⟩
          go_wp2
          go_ret
          exact ⟨ret_bool HX.out.symm, _, rfl⟩
      · have HX := hide (HV.out fun j h1 h2 => HE.out j h1 h2 (by omega))
        clear H K HE HV HN
        go_wp2
        go_ret
        exact ⟨ret_bool HX.out.symm, _, rfl⟩
  · have hl2 : ((rs.length : Int) != (ss.length : Int)) = true := by simp; omega
    have hlc : ¬ (rs.length : Int) = (ss.length : Int) := by omega
    have HX : Hid (decide (rs = ss) = false) := decide_eq_false fun e => hl (by rw [e])
    generalize decide (rs = ss) = z at *
    clear H K
    go_enter Tryz.func9, Tryz.ntmps9
    go_wp2
    go_ret
    exact ⟨ret_bool HX.out.symm, ext_mk (Gr.refl _)⟩

end Go.Proofs.YtimbgijpeomfcacGreatDoor
