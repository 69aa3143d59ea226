/- CONTRACTS OF handpostref: GetOf, SameRoutes. -/
import Derived.Test.YtfcknkanbcndjagGreatDoorS7
namespace Go.Proofs.YtfcknkanbcndjagGreatDoor
open Go.RowKit
attribute [local go_sem] Ext.all Ext.cell Ext.frozen Ext.lt Ext.lt1 Ext.lt2 Ext.ne Ext.ne'
theorem getR_drop {rs : List Rt} {k : Nat} (hk : k < rs.length) (l b : Int) : getR (rs.drop k) l b = if sameB rs[k] l b && okB l b then rs[k].2.2 else getR (rs.drop (k + 1)) l b := by
  rw [List.drop_eq_getElem_cons hk]
  unfold getR
  rw [List.find?_cons]
  cases sameB rs[k] l b && okB l b <;> simp

set_option maxRecDepth 20000 in
theorem getOf_any (w : World) (M : Nat → Prop) (ao : Option Addr) (n c : Nat) (rs : List Rt) (l b : Int) (H : RowAt w M ao rs) (hn : rs.length = n) (hm : n ≤ 1000) :
    Calls Tryz.prog 106 #[.slice ao n c, pfx l b] w fun e w' => e = .returned (.int .i64 (getR rs l b)) ∧ ∃ d : Ext w, w' = d.out := by
  obtain ⟨W, hW, g0, b0, b1, s0⟩ := box_gr w l b
  have HW : Hid (W = _) := hW
  clear hW
  have hrow := H.gr g0
  clear H
  go_enter Tryz.func106, Tryz.ntmps106
  go_wp2
  rw [← HW.out]
  go_loopw [5] (fun i wr => ∃ k : Nat, k ≤ n ∧ i = .int .i64 k ∧ Hid (getR (rs.drop k) l b = getR rs l b) ∧ Gr W wr) (fun i _ => n - (intOf i).toNat)
  case atStart => exact ⟨0, by omega, rfl, rfl, Gr.refl _⟩
  case round =>
    obtain ⟨k, hk, rfl, HL, g⟩ := hrel
    obtain ⟨d, rfl⟩ := ext_mk g
    by_cases hlt : k < n
    · have hkr : k < rs.length := by omega
      rcases hrow with rfl | ⟨rb, o, rfl, hb, hM, hcs⟩
      · simp at hkr
      obtain ⟨c1, c2, c3⟩ := hcs k hkr
      have HS : Hid (getR (rs.drop k) l b = if sameB rs[k] l b && okB l b then rs[k].2.2 else getR (rs.drop (k + 1)) l b) := getR_drop hkr l b
      clear hcs
      generalize rs[k] = r at *
      obtain ⟨rl, rbb, rh⟩ := r
      simp only at c1 c2 c3
      have e3 : ((rl == l) = false ∧ Hid (sameB (rl, rbb, rh) l b = false)) ∨ ((rl == l) = true ∧ (rbb == b) = false ∧ Hid (sameB (rl, rbb, rh) l b = false)) ∨ ((rl == l) = true ∧ (rbb == b) = true ∧ Hid (sameB (rl, rbb, rh) l b = true)) := by
        unfold Hid sameB
        cases h1 : rl == l <;> cases h2 : rbb == b <;> simp at h1 h2 <;> simp [h1, h2]
      rcases e3 with ⟨e1, es⟩ | ⟨e1, e2, es⟩ | ⟨e1, e2, es⟩
      · have HR : Hid (getR (rs.drop (k + 1)) l b = getR rs l b) := by unfold Hid; rw [← HL.out, HS.out, es.out]; simp
        clear HS HL es
        go_wp2_with fail
        refine wp_region_ext_of (by kernel_rfl) (by kernel_rfl) ?_
        repeat (go_big_quiet_step (fail))
        refine wpQuiet_nil ?_
        rintro _ ⟨d1, rfl⟩
        go_wp2
        go_roundw
        case rel => exact ⟨k + 1, by omega, by go_num, HR, d1.gr⟩
        case measure => simp [intOf]; omega
      · have HR : Hid (getR (rs.drop (k + 1)) l b = getR rs l b) := by unfold Hid; rw [← HL.out, HS.out, es.out]; simp
        clear HS HL es
        go_wp2_with fail
        refine wp_region_ext_of (by kernel_rfl) (by kernel_rfl) ?_
        repeat (go_big_quiet_step (fail))
        refine wpQuiet_nil ?_
        rintro _ ⟨d1, rfl⟩
        go_wp2
        go_roundw
        case rel => exact ⟨k + 1, by omega, by go_num, HR, d1.gr⟩
        case measure => simp [intOf]; omega
      · cases ho : okB l b
        · have HR : Hid (getR (rs.drop (k + 1)) l b = getR rs l b) := by unfold Hid; rw [← HL.out, HS.out, es.out, ho]; simp
          have HO : Hid (okB l b = false) := ho
          clear HS HL es ho
          go_wp2_with fail
          refine wp_region_ext_of (by kernel_rfl) (by kernel_rfl) ?_
          repeat (go_big_quiet_step ((go_at_call 104; with_reducible exact Calls.ext_of (isp_is HO.out _))))
          refine wpQuiet_nil ?_
          rintro _ ⟨d1, rfl⟩
          go_wp2
          go_roundw
          case rel => exact ⟨k + 1, by omega, by go_num, HR, d1.gr⟩
          case measure => simp [intOf]; omega
        · have HR : Hid (rh = getR rs l b) := by unfold Hid; rw [← HL.out, HS.out, es.out, ho]; simp
          have HO : Hid (okB l b = true) := ho
          clear HS HL es ho
          go_wp2_with fail
          refine wp_region_ext_of (by kernel_rfl) (by kernel_rfl) ?_
          repeat (go_big_quiet_step ((go_at_call 104; with_reducible exact Calls.ext_of (isp_is HO.out _))))
          refine wpQuiet_nil ?_
          rintro _ ⟨d1, rfl⟩
          go_wp2
          go_ret
          exact ⟨ret_int HR.out, ext_mk (g0.ext d1)⟩
    · have HR : Hid (-2 = getR rs l b) := by unfold Hid; rw [← HL.out, List.drop_of_length_le (by omega)]; rfl
      clear HL hrow
      go_wp2
      go_ret
      exact ⟨ret_int HR.out, ext_mk (g0.ext d)⟩

end Go.Proofs.YtfcknkanbcndjagGreatDoor
