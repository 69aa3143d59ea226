/- CONTRACT OF handpostref.SameChanges. -/
import Derived.Test.YtimbgijpeomfcacGreatDoorChMem
namespace Go.Proofs.YtimbgijpeomfcacGreatDoor
open Go.RowKit
attribute [local go_sem] Ext.all Ext.cell Ext.frozen Ext.lt Ext.lt1 Ext.lt2 Ext.ne Ext.ne'

set_option maxRecDepth 20000 in
theorem sameCh_any (w : World) (M N : Nat → Prop) (ao bo : Option Addr) (c c' : Nat) (rs ss : List Ch) (H : ChAt w M ao rs) (K : ChAt w N bo ss) (hm : rs.length ≤ 1000) (hn : ss.length ≤ 1000) :
    Calls Tryz.prog 12 #[.slice ao rs.length c, .slice bo ss.length c'] w fun e w' => e = .returned (.bool (decide (rs = ss))) ∧ ∃ d : Ext w, w' = d.out := by
  by_cases hl : rs.length = ss.length
  · have hl2 : ((rs.length : Int) != (ss.length : Int)) = false := by simp [hl]
    have HV : Hid ((∀ j (h1 : j < rs.length) (h2 : j < ss.length), rs[j] = ss[j]) → decide (rs = ss) = true) := fun h => decide_eq_true (List.ext_getElem hl h)
    have HN : Hid (∀ j (h1 : j < rs.length) (h2 : j < ss.length), rs[j] ≠ ss[j] → decide (rs = ss) = false) := fun j h1 h2 h => decide_eq_false fun e => h (by subst e; rfl)
    generalize decide (rs = ss) = z at *
    rw [← hl]
    go_enter Tryz.func12, Tryz.ntmps12
    go_wp2
    go_loopw [5] (fun i wr => ∃ k : Nat, k ≤ rs.length ∧ i = .int .i64 k ∧ Hid (∀ j (h1 : j < rs.length) (h2 : j < ss.length), j < k → rs[j] = ss[j]) ∧ Gr w wr) (fun i _ => rs.length - (intOf i).toNat)
    case atStart => exact ⟨0, by omega, rfl, (fun j _ _ hj => by omega), Gr.refl _⟩
    case round =>
      obtain ⟨k, hk, rfl, HE, g⟩ := hrel
      obtain ⟨d, rfl⟩ := ext_mk g
      by_cases hlt : k < rs.length
      · have hks : k < ss.length := by omega
        rcases H with rfl | ⟨rb, o, rfl, hb, hM, hcs⟩
        · simp at hlt
        rcases K with rfl | ⟨qb, q, rfl, hqb, hN, kcs⟩
        · simp at hks
        obtain ⟨c1, c2, c3, c4⟩ := hcs k hlt
        obtain ⟨k1, k2, k3, k4⟩ := kcs k hks
        have HN2 := hide (HN.out k hlt hks)
        have HE2 : Hid (rs[k] = ss[k] → ∀ j (h1 : j < rs.length) (h2 : j < ss.length), j < k + 1 → rs[j] = ss[j]) := fun he j h1 h2 hj => by
          rcases Nat.lt_or_eq_of_le (Nat.le_of_lt_succ hj) with h | h
          · exact HE.out j h1 h2 h
          · subst h; exact he
        clear hcs kcs HN
        generalize rs[k] = r at *
        generalize ss[k] = s at *
        obtain ⟨rl, rbb, rh, rn⟩ := r
        obtain ⟨sl, sbb, sh, sn⟩ := s
        simp only at c1 c2 c3 c4 k1 k2 k3 k4
        by_cases hq : (rl, rbb, rh, rn) = (sl, sbb, sh, sn)
        · simp only [Prod.mk.injEq] at hq
          obtain ⟨rfl, rfl, rfl, rfl⟩ := hq
          have HX := hide (HE2.out rfl)
          clear HE2 HN2
          go_wp2_with fail
          refine wp_region_ext_of (by kernel_rfl) (by kernel_rfl) ?_
          repeat (go_big_quiet_step (fail))
          refine wpQuiet_nil ?_
          rintro _ ⟨d1, rfl⟩
          go_wp2
          go_roundw
          case rel => exact ⟨k + 1, by omega, by go_num, HX, d1.gr⟩
          case measure => simp [intOf]; omega
        · have HX := hide (HN2.out hq)
          have ways : (rl == sl) = false ∨ (rl = sl ∧ (rbb == sbb) = false) ∨ (rl = sl ∧ rbb = sbb ∧ (rh == sh) = false) ∨ (rl = sl ∧ rbb = sbb ∧ rh = sh ∧ (rn == sn) = false) := by
            by_cases e1 : rl = sl
            · by_cases e2 : rbb = sbb
              · by_cases e3 : rh = sh
                · by_cases e4 : rn = sn
                  · exact absurd (by rw [e1, e2, e3, e4]) hq
                  · exact .inr (.inr (.inr ⟨e1, e2, e3, by simpa using e4⟩))
                · exact .inr (.inr (.inl ⟨e1, e2, by simpa using e3⟩))
              · exact .inr (.inl ⟨e1, by simpa using e2⟩)
            · exact .inl (by simpa using e1)
          clear HE2 HN2 hq
          rcases ways with b1 | ⟨rfl, b1⟩ | ⟨rfl, rfl, b1⟩ | ⟨rfl, rfl, rfl, b1⟩
          all_goals
            go_wp2_with fail
            refine wp_region_ext_of (by kernel_rfl) (by kernel_rfl) ?_
            repeat (go_big_quiet_step (fail))
            refine wpQuiet_nil ?_
            rintro _ ⟨d1, rfl⟩
            go_wp2
            go_ret
            exact ⟨ret_bool HX.out.symm, _, rfl⟩
      · have HX := hide (HV.out fun j h1 h2 => HE.out j h1 h2 (by omega))
        clear H K HE HV HN
        go_wp2
        go_ret
        exact ⟨ret_bool HX.out.symm, _, rfl⟩
  · have hl2 : ((rs.length : Int) != (ss.length : Int)) = true := by simp; omega
    have hlc : ¬ (rs.length : Int) = (ss.length : Int) := by omega
    have HX : Hid (decide (rs = ss) = false) := decide_eq_false fun e => hl (by rw [e])
    generalize decide (rs = ss) = z at *
    clear H K
    go_enter Tryz.func12, Tryz.ntmps12
    go_wp2
    go_ret
    exact ⟨ret_bool HX.out.symm, ext_mk (Gr.refl _)⟩

end Go.Proofs.YtimbgijpeomfcacGreatDoor
