/- THE LAW PrefixSpan: the walk. -/
import Derived.Test.YtceclaboeajcaaaE
import Derived.Test.YtceclaboeajcaaaSpanPlain
import Derived.Deep.DeepCutAuto
namespace Go.Proofs.Ytceclaboeajcaaa
open Go.RowKit
attribute [local go_sem] Ext.all Ext.cell Ext.frozen Ext.lt Ext.lt1 Ext.lt2 Ext.ne Ext.ne'

set_option maxHeartbeats 1000000 in
theorem span_no (l b m c a : Int) (H1 : Hid (okB l b = false)) (F1 : Hid (firstI l b = -1)) (F2 : Hid (lastI l b = -1)) (F3 : Hid (hasB l b a = false)) (F4 : Hid (textL l b = [])) (w : World) :
    Calls Try.prog 7 #[pfx l b, pfx m c, .int .i64 a] w fun e w' => e = .returned (.bool true) ∧ ∃ d : Ext w, w' = d.out := by
  go_enter Try.func7, Try.ntmps7
  go_wp2_with (first
    | (go_at_call 8; refine (begun_any _).mono ?_; rintro e _ ⟨rfl, d0, rfl⟩)
    | (go_at_call 11; with_reducible refine (Calls.ext_of (check_is H1.out _)).mono ?_; rintro e _ ⟨rfl, d1, rfl⟩)
    | (go_at_call 14; with_reducible refine (Calls.ext_of (first_is F1.out _)).mono ?_; rintro e _ ⟨rfl, d1, rfl⟩)
    | (go_at_call 16; with_reducible refine (Calls.ext_of (last_is F2.out _)).mono ?_; rintro e _ ⟨rfl, d1, rfl⟩)
    | (go_at_call 18; with_reducible refine (Calls.ext_of (has_is F3.out _)).mono ?_; rintro e _ ⟨rfl, d1, rfl⟩)
    | (go_at_call 22; with_reducible refine (Calls.ext_of (text_is F4.out _)).mono ?_; rintro e _ ⟨rfl, d1, rfl⟩))
  go_ret
  exact ⟨rfl, ext_mk ((((Gr.refl _).alloc _).alloc _).ext d1)⟩

set_option maxRecDepth 100000 in
set_option maxHeartbeats 4000000 in
theorem span_yes (l b m c a X Y : Int) (H1 : Hid (okB l b = true)) (F1 : Hid (firstI l b = X)) (F2 : Hid (lastI l b = Y)) (x0 : 0 ≤ X) (xy : X ≤ Y) (y1 : Y ≤ 255) (w : World) :
    Calls Try.prog 7 #[pfx l b, pfx m c, .int .i64 a] w fun e w' => e = .returned (.bool true) ∧ ∃ d : Ext w, w' = d.out := by
  have SH := hide (@span_has l b a H1.out)
  go_enter Try.func7, Try.ntmps7
  go_wp2_with (first
    | (go_at_call 8; refine (begun_any _).mono ?_; rintro e _ ⟨rfl, d0, rfl⟩)
    | (go_at_call 11; with_reducible refine (Calls.ext_of (check_is H1.out _)).mono ?_; rintro e _ ⟨rfl, d1, rfl⟩))
  refine wp_region_ext_of (by kernel_rfl) (by kernel_rfl) ?_
  repeat (go_big_quiet_step (first | (go_at_call 14; exact Calls.ext_of (first_is F1.out _)) | (go_at_call 16; exact Calls.ext_of (last_is F2.out _))))
  refine wpQuiet_nil ?_
  clear d1
  rintro _ ⟨d1, rfl⟩
  go_upto_region 6 with fail
  go_cut [63] (fun s wc => s = .bool false ∧ ∃ d : Ext ((w.alloc (.cells #[.int .i64 l, .int .i64 b] 23)).alloc (.cells #[.int .i64 m, .int .i64 c] 23)), wc = d.out)
  case first =>
    obtain ⟨_, _, _, hiff⟩ := SH.out
    rw [F1.out, F2.out] at hiff
    clear SH
    cases ha : hasB l b a
    · have HA := hide ha
      have hn : ¬ (X ≤ a ∧ a ≤ Y) := fun h => by rw [hiff.2 h] at ha; cases ha
      clear hiff ha
      by_cases hx : X ≤ a
      · have hy : Y < a := by omega
        clear hn
        go_wp2_with (go_at_call 18; with_reducible refine (Calls.ext_of (has_is HA.out _)).mono ?_; rintro e _ ⟨rfl, d2, rfl⟩)
        go_meet
        case rel => exact ⟨congrArg Value.bool (by simp; omega), d2, rfl⟩
      · clear hn
        go_wp2_with (go_at_call 18; with_reducible refine (Calls.ext_of (has_is HA.out _)).mono ?_; rintro e _ ⟨rfl, d2, rfl⟩)
        go_meet
        case rel => exact ⟨congrArg Value.bool (by simp; omega), d2, rfl⟩
    · have HA := hide ha
      obtain ⟨hx, hy⟩ := hiff.1 ha
      clear hiff ha
      go_wp2_with (go_at_call 18; with_reducible refine (Calls.ext_of (has_is HA.out _)).mono ?_; rintro e _ ⟨rfl, d2, rfl⟩)
      go_meet
      case rel => exact ⟨congrArg Value.bool (by simp; omega), d2, rfl⟩
  case rest =>
    obtain ⟨rfl, d2, rfl⟩ := hcut
    clear d0 d1 SH
    by_cases h8 : l < 8
    · obtain ⟨cok, cl, ce, cf0, cf1⟩ := span_child H1.out h8
      rw [F2.out] at cl
      rw [F1.out, F2.out] at ce
      generalize hZ : firstI (l + 1) (b * 2 + 1) = Z at ce cf0 cf1
      have CL := hide cl; have CZ := hide hZ
      have ce1 : 2 * (Y - Z + 1) ≤ Y - X + 1 := by omega
      have ce2 : Y - X + 1 ≤ 2 * (Y - Z + 1) := by omega
      clear cok cl hZ ce
      go_upto_region 11 with (first
        | (go_at_call 24; with_reducible refine (Calls.ext_of (child_yes1 l b H1.out h8 _)).mono ?_; rintro e _ ⟨rfl, d3, rfl⟩)
        | (go_at_call 16; with_reducible refine (last_is CL.out _).mono ?_; rintro e _ ⟨rfl, d4, rfl⟩)
        | (go_at_call 14; with_reducible refine (Calls.ext_of (first_is CZ.out _)).mono ?_; rintro e _ ⟨rfl, d4, rfl⟩))
      obtain ⟨d5, hd5⟩ := ext_mk ((d3.gr.alloc _).ext d4)
      rw [hd5]
      clear hd5 d4 d2 ce1 ce2 cf0 cf1 CL CZ
      cases hq : okB m c
      · have HQ := hide hq
        clear hq
        refine wp_region_ext_of (by kernel_rfl) (by kernel_rfl) ?_
        repeat (go_big_quiet_step (first | (go_at_call 11; exact Calls.ext_of (check_is HQ.out _))))
        refine wpQuiet_nil ?_
        rintro _ ⟨d6, rfl⟩
        go_wp2
        go_ret
        exact ⟨rfl, ext_mk ((((Gr.refl _).alloc _).alloc _).ext d6)⟩
      have HQ := hide hq
      clear hq
      by_cases hU : firstI m c = X
      · have Q1 := hide hU
        by_cases hV : lastI m c = Y
        · have Q2 := hide hV
          obtain ⟨rfl, rfl⟩ := span_same H1.out HQ.out (hU.trans F1.out.symm) (hV.trans F2.out.symm)
          clear hU hV
          refine wp_region_ext_of (by kernel_rfl) (by kernel_rfl) ?_
          repeat (go_big_quiet_step (first | (go_at_call 11; exact Calls.ext_of (check_is HQ.out _)) | (go_at_call 14; exact Calls.ext_of (first_is Q1.out _)) | (go_at_call 16; exact Calls.ext_of (last_is Q2.out _))))
          refine wpQuiet_nil ?_
          rintro _ ⟨d6, rfl⟩
          go_wp2
          go_ret
          exact ⟨rfl, ext_mk ((((Gr.refl _).alloc _).alloc _).ext d6)⟩
        · generalize hv : lastI m c = V at hV
          have Q2 := hide hv
          have hv' : (V == Y) = false := by simpa using hV
          have hne : ¬ (l = m ∧ b = c) := fun ⟨e1, e2⟩ => hV (by rw [← hv, ← e1, ← e2]; exact F2.out)
          clear hU hv hV
          by_cases hlm : l = m
          · have hbc : ¬ b = c := fun e => hne ⟨hlm, e⟩
            subst hlm
            clear hne
            refine wp_region_ext_of (by kernel_rfl) (by kernel_rfl) ?_
            repeat (go_big_quiet_step (first | (go_at_call 11; exact Calls.ext_of (check_is HQ.out _)) | (go_at_call 14; exact Calls.ext_of (first_is Q1.out _)) | (go_at_call 16; exact Calls.ext_of (last_is Q2.out _))))
            refine wpQuiet_nil ?_
            rintro _ ⟨d6, rfl⟩
            go_wp2
            go_ret
            exact ⟨rfl, ext_mk ((((Gr.refl _).alloc _).alloc _).ext d6)⟩
          · clear hne
            refine wp_region_ext_of (by kernel_rfl) (by kernel_rfl) ?_
            repeat (go_big_quiet_step (first | (go_at_call 11; exact Calls.ext_of (check_is HQ.out _)) | (go_at_call 14; exact Calls.ext_of (first_is Q1.out _)) | (go_at_call 16; exact Calls.ext_of (last_is Q2.out _))))
            refine wpQuiet_nil ?_
            rintro _ ⟨d6, rfl⟩
            go_wp2
            go_ret
            exact ⟨rfl, ext_mk ((((Gr.refl _).alloc _).alloc _).ext d6)⟩
      · generalize hu : firstI m c = U at hU
        have Q1 := hide hu
        have hu' : (U == X) = false := by simpa using hU
        have hne : ¬ (l = m ∧ b = c) := fun ⟨e1, e2⟩ => hU (by rw [← hu, ← e1, ← e2]; exact F1.out)
        clear hu hU
        by_cases hlm : l = m
        · have hbc : ¬ b = c := fun e => hne ⟨hlm, e⟩
          subst hlm
          clear hne
          refine wp_region_ext_of (by kernel_rfl) (by kernel_rfl) ?_
          repeat (go_big_quiet_step (first | (go_at_call 11; exact Calls.ext_of (check_is HQ.out _)) | (go_at_call 14; exact Calls.ext_of (first_is Q1.out _))))
          refine wpQuiet_nil ?_
          rintro _ ⟨d6, rfl⟩
          go_wp2
          go_ret
          exact ⟨rfl, ext_mk ((((Gr.refl _).alloc _).alloc _).ext d6)⟩
        · clear hne
          refine wp_region_ext_of (by kernel_rfl) (by kernel_rfl) ?_
          repeat (go_big_quiet_step (first | (go_at_call 11; exact Calls.ext_of (check_is HQ.out _)) | (go_at_call 14; exact Calls.ext_of (first_is Q1.out _))))
          refine wpQuiet_nil ?_
          rintro _ ⟨d6, rfl⟩
          go_wp2
          go_ret
          exact ⟨rfl, ext_mk ((((Gr.refl _).alloc _).alloc _).ext d6)⟩
    · have e8 : l = 8 := by have := (ok_iff.1 H1.out).2.1; omega
      have E8 := hide e8
      clear h8 e8
      go_upto_region 11 with (go_at_call 24; with_reducible refine (Calls.ext_of (child_no l b 1 (.inr (.inl E8.out)) _)).mono ?_; rintro e _ ⟨rfl, d3, rfl⟩)
      obtain ⟨d5, hd5⟩ := ext_mk (d3.gr.alloc _)
      rw [hd5]
      clear hd5 d2
      cases hq : okB m c
      · have HQ := hide hq
        clear hq
        refine wp_region_ext_of (by kernel_rfl) (by kernel_rfl) ?_
        repeat (go_big_quiet_step (first | (go_at_call 11; exact Calls.ext_of (check_is HQ.out _))))
        refine wpQuiet_nil ?_
        rintro _ ⟨d6, rfl⟩
        go_wp2
        go_ret
        exact ⟨rfl, ext_mk ((((Gr.refl _).alloc _).alloc _).ext d6)⟩
      have HQ := hide hq
      clear hq
      by_cases hU : firstI m c = X
      · have Q1 := hide hU
        by_cases hV : lastI m c = Y
        · have Q2 := hide hV
          obtain ⟨rfl, rfl⟩ := span_same H1.out HQ.out (hU.trans F1.out.symm) (hV.trans F2.out.symm)
          clear hU hV
          refine wp_region_ext_of (by kernel_rfl) (by kernel_rfl) ?_
          repeat (go_big_quiet_step (first | (go_at_call 11; exact Calls.ext_of (check_is HQ.out _)) | (go_at_call 14; exact Calls.ext_of (first_is Q1.out _)) | (go_at_call 16; exact Calls.ext_of (last_is Q2.out _))))
          refine wpQuiet_nil ?_
          rintro _ ⟨d6, rfl⟩
          go_wp2
          go_ret
          exact ⟨rfl, ext_mk ((((Gr.refl _).alloc _).alloc _).ext d6)⟩
        · generalize hv : lastI m c = V at hV
          have Q2 := hide hv
          have hv' : (V == Y) = false := by simpa using hV
          have hne : ¬ (l = m ∧ b = c) := fun ⟨e1, e2⟩ => hV (by rw [← hv, ← e1, ← e2]; exact F2.out)
          clear hU hv hV
          by_cases hlm : l = m
          · have hbc : ¬ b = c := fun e => hne ⟨hlm, e⟩
            subst hlm
            clear hne
            refine wp_region_ext_of (by kernel_rfl) (by kernel_rfl) ?_
            repeat (go_big_quiet_step (first | (go_at_call 11; exact Calls.ext_of (check_is HQ.out _)) | (go_at_call 14; exact Calls.ext_of (first_is Q1.out _)) | (go_at_call 16; exact Calls.ext_of (last_is Q2.out _))))
            refine wpQuiet_nil ?_
            rintro _ ⟨d6, rfl⟩
            go_wp2
            go_ret
            exact ⟨rfl, ext_mk ((((Gr.refl _).alloc _).alloc _).ext d6)⟩
          · clear hne
            refine wp_region_ext_of (by kernel_rfl) (by kernel_rfl) ?_
            repeat (go_big_quiet_step (first | (go_at_call 11; exact Calls.ext_of (check_is HQ.out _)) | (go_at_call 14; exact Calls.ext_of (first_is Q1.out _)) | (go_at_call 16; exact Calls.ext_of (last_is Q2.out _))))
            refine wpQuiet_nil ?_
            rintro _ ⟨d6, rfl⟩
            go_wp2
            go_ret
            exact ⟨rfl, ext_mk ((((Gr.refl _).alloc _).alloc _).ext d6)⟩
      · generalize hu : firstI m c = U at hU
        have Q1 := hide hu
        have hu' : (U == X) = false := by simpa using hU
        have hne : ¬ (l = m ∧ b = c) := fun ⟨e1, e2⟩ => hU (by rw [← hu, ← e1, ← e2]; exact F1.out)
        clear hu hU
        by_cases hlm : l = m
        · have hbc : ¬ b = c := fun e => hne ⟨hlm, e⟩
          subst hlm
          clear hne
          refine wp_region_ext_of (by kernel_rfl) (by kernel_rfl) ?_
          repeat (go_big_quiet_step (first | (go_at_call 11; exact Calls.ext_of (check_is HQ.out _)) | (go_at_call 14; exact Calls.ext_of (first_is Q1.out _))))
          refine wpQuiet_nil ?_
          rintro _ ⟨d6, rfl⟩
          go_wp2
          go_ret
          exact ⟨rfl, ext_mk ((((Gr.refl _).alloc _).alloc _).ext d6)⟩
        · clear hne
          refine wp_region_ext_of (by kernel_rfl) (by kernel_rfl) ?_
          repeat (go_big_quiet_step (first | (go_at_call 11; exact Calls.ext_of (check_is HQ.out _)) | (go_at_call 14; exact Calls.ext_of (first_is Q1.out _))))
          refine wpQuiet_nil ?_
          rintro _ ⟨d6, rfl⟩
          go_wp2
          go_ret
          exact ⟨rfl, ext_mk ((((Gr.refl _).alloc _).alloc _).ext d6)⟩

theorem span_any (l b m c a : Int) (w : World) :
    Calls Try.prog 7 #[pfx l b, pfx m c, .int .i64 a] w fun e w' => e = .returned (.bool true) ∧ ∃ d : Ext w, w' = d.out := by
  cases h1 : okB l b
  · exact span_no l b m c a h1 (by simp [firstI, h1, Hid]) (by simp [lastI, h1, Hid]) (by simp [hasB, h1, Hid]) (by simp [textL, h1, Hid]) w
  · obtain ⟨x0, xy, y1, _⟩ := @span_has l b a h1
    exact span_yes l b m c a _ _ h1 rfl rfl x0 xy y1 w

end Go.Proofs.Ytceclaboeajcaaa
