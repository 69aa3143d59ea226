/- CONTRACT OF handpostlaw.whole: a trie that is one of its prefix, with no two like leaves that are halves of one. -/
import Derived.Test.YtmlmcpopkcgflabT4
namespace Go.Proofs.Ytmlmcpopkcgflab
open Go.RowKit
attribute [local go_sem] Ext.all Ext.cell Ext.frozen Ext.lt Ext.lt1 Ext.lt2 Ext.ne Ext.ne'

theorem wrap_sm (x : Int) (h : -1000 ≤ x) (k : x ≤ 1000) : IntKind.i64.wrap x = x := by
  rw [IntKind.wrap_i64]; omega

set_option maxRecDepth 50000 in
set_option maxHeartbeats 1000000 in
theorem whole_any : ∀ (T : TT) (w : World) (q : Nat) (l b : Int), Tr w T q → T.Whole l b →
    Calls Try.prog 28 #[pv q, pfx l b] w fun e w' => e = .returned (.bool true) ∧ ∃ d : Ext w, w' = d.out
  | .leaf l' b' hp, w, q, l, b, h, hW => by
    obtain ⟨rfl, rfl⟩ : l' = l ∧ b' = b := hW
    obtain ⟨W, hBW, gW, b0, b1, s0⟩ := pbox_gr w l' b'
    have hW' := h.gr gW
    obtain ⟨c0, c1, c2⟩ := hW'.cells
    obtain ⟨c3, c4⟩ := hW'.leafc
    simp only [TT.len, TT.bits, TT.hop] at c0 c1 c2
    have hq := hW'.lt
    have HL := hide (fun (d : Ext W) => leaf_is hW' (v := true) rfl d)
    have HBW := hide hBW
    clear h hW' hBW
    go_enter Try.func28, Try.ntmps28
    go_upto_region 1 with (fail)
    rw [← HBW.out]
    refine wp_region_ext (by kernel_rfl) (by kernel_rfl) ?_
    repeat (go_big_quiet_step (fail))
    refine wpQuiet_nil ?_
    rintro _ ⟨d1, rfl⟩
    go_wp2_with (first
      | (go_at_call 31; refine (HL.out d1).mono ?_; rintro e _ ⟨rfl, d2, rfl⟩))
    go_ret
    exact ⟨rfl, ext_mk (gW.ext d2)⟩
  | .node l' b' lo hi, w, q, l, b, h, hW => by
    obtain ⟨rfl, rfl, l0, l8, bb0, bb8, hne, hw1, hw2⟩ := hW
    obtain ⟨W, hBW, gW, b0, b1, s0⟩ := pbox_gr w l' b'
    have hW' := h.gr gW
    obtain ⟨c0, c1, c2⟩ := hW'.cells
    obtain ⟨x, y, c3, c4, hlo, hhi⟩ := hW'.nodec
    obtain ⟨_, _, e2⟩ := hlo.cells
    obtain ⟨_, _, f2⟩ := hhi.cells
    simp only [TT.len, TT.bits, TT.hop] at c0 c1 c2
    have hq := hW'.lt
    have hx := hlo.lt
    have hy := hhi.lt
    have HL := hide (fun (d : Ext W) => leaf_is hW' (v := false) rfl d)
    have H1 := hide (fun (d : Ext W) => Calls.ext_of (whole_any lo d.out x (l' + 1) (b' * 2) (hlo.gr d.gr) hw1))
    have H2 := hide (fun (d : Ext W) => Calls.ext_of (whole_any hi d.out y (l' + 1) (b' * 2 + 1) (hhi.gr d.gr) hw2))
    have wl := wrap_sm (l' + 1) (by omega) (by omega)
    have wb := wrap_sm (b' * 2) (by omega) (by omega)
    have wc := wrap_sm (b' * 2 + 1) (by omega) (by omega)
    have hl8 : ¬ 8 ≤ l' := by omega
    have hd8 : decide (8 ≤ l') = false := by simpa using hl8
    have ways : (lo.isLeaf = false) ∨ (lo.isLeaf = true ∧ hi.isLeaf = false) ∨ (lo.isLeaf = true ∧ hi.isLeaf = true ∧ (lo.hop == hi.hop) = false) := by
      cases e1 : lo.isLeaf
      · exact .inl rfl
      · cases e2 : hi.isLeaf
        · exact .inr (.inl ⟨rfl, rfl⟩)
        · exact .inr (.inr ⟨rfl, rfl, by simpa using fun e => hne ⟨e1, e2, e⟩⟩)
    have HLo := hide (fun (v : Bool) (e : lo.isLeaf = v) (d : Ext W) => leaf_is hlo e d)
    have HHi := hide (fun (v : Bool) (e : hi.isLeaf = v) (d : Ext W) => leaf_is hhi e d)
    generalize lo.hop = h1 at *
    generalize hi.hop = h2 at *
    have HBW := hide hBW
    clear h hW' hBW hne hw1 hw2 hlo hhi
    rcases ways with v1 | ⟨v1, v2⟩ | ⟨v1, v2, v3⟩
    · have HV1 := hide (HLo.out false v1)
      clear v1 HLo HHi
      go_enter Try.func28, Try.ntmps28
      go_upto_region 1 with (fail)
      rw [← HBW.out]
      refine wp_region_ext (by kernel_rfl) (by kernel_rfl) ?_
      repeat (go_big_quiet_step (fail))
      refine wpQuiet_nil ?_
      rintro _ ⟨d1, rfl⟩
      go_wp2_with (first
        | (go_at_call 31; refine (HL.out d1).mono ?_; rintro e _ ⟨rfl, d2, rfl⟩))
      refine wp_region_ext_of (by kernel_rfl) (by kernel_rfl) ?_
      repeat (go_big_quiet_step ((go_at_call 31; with_reducible exact HV1.out _)))
      refine wpQuiet_nil ?_
      rintro _ ⟨d3, rfl⟩
      go_wp2_with fail
      refine wp_region_ext_of (by kernel_rfl) (by kernel_rfl) ?_
      repeat (go_big_quiet_step (first | (go_at_call 28; with_reducible exact H1.out _) | (go_at_call 28; with_reducible exact H2.out _)))
      refine wpQuiet_nil ?_
      rintro _ ⟨d4, rfl⟩
      go_wp2
      go_ret
      exact ⟨rfl, ext_mk (gW.ext d4)⟩
    · have HV1 := hide (HLo.out true v1)
      have HV2 := hide (HHi.out false v2)
      clear v1 v2 HLo HHi
      go_enter Try.func28, Try.ntmps28
      go_upto_region 1 with (fail)
      rw [← HBW.out]
      refine wp_region_ext (by kernel_rfl) (by kernel_rfl) ?_
      repeat (go_big_quiet_step (fail))
      refine wpQuiet_nil ?_
      rintro _ ⟨d1, rfl⟩
      go_wp2_with (first
        | (go_at_call 31; refine (HL.out d1).mono ?_; rintro e _ ⟨rfl, d2, rfl⟩))
      refine wp_region_ext_of (by kernel_rfl) (by kernel_rfl) ?_
      repeat (go_big_quiet_step (first | (go_at_call 31; with_reducible exact HV1.out _) | (go_at_call 31; with_reducible exact HV2.out _)))
      refine wpQuiet_nil ?_
      rintro _ ⟨d3, rfl⟩
      go_wp2_with fail
      refine wp_region_ext_of (by kernel_rfl) (by kernel_rfl) ?_
      repeat (go_big_quiet_step (first | (go_at_call 28; with_reducible exact H1.out _) | (go_at_call 28; with_reducible exact H2.out _)))
      refine wpQuiet_nil ?_
      rintro _ ⟨d4, rfl⟩
      go_wp2
      go_ret
      exact ⟨rfl, ext_mk (gW.ext d4)⟩
    · have HV1 := hide (HLo.out true v1)
      have HV2 := hide (HHi.out true v2)
      clear v1 v2 HLo HHi
      go_enter Try.func28, Try.ntmps28
      go_upto_region 1 with (fail)
      rw [← HBW.out]
      refine wp_region_ext (by kernel_rfl) (by kernel_rfl) ?_
      repeat (go_big_quiet_step (fail))
      refine wpQuiet_nil ?_
      rintro _ ⟨d1, rfl⟩
      go_wp2_with (first
        | (go_at_call 31; refine (HL.out d1).mono ?_; rintro e _ ⟨rfl, d2, rfl⟩))
      refine wp_region_ext_of (by kernel_rfl) (by kernel_rfl) ?_
      repeat (go_big_quiet_step (first | (go_at_call 31; with_reducible exact HV1.out _) | (go_at_call 31; with_reducible exact HV2.out _)))
      refine wpQuiet_nil ?_
      rintro _ ⟨d3, rfl⟩
      go_wp2_with fail
      refine wp_region_ext_of (by kernel_rfl) (by kernel_rfl) ?_
      repeat (go_big_quiet_step (first | (go_at_call 28; with_reducible exact H1.out _) | (go_at_call 28; with_reducible exact H2.out _)))
      refine wpQuiet_nil ?_
      rintro _ ⟨d4, rfl⟩
      go_wp2
      go_ret
      exact ⟨rfl, ext_mk (gW.ext d4)⟩

end Go.Proofs.Ytmlmcpopkcgflab
