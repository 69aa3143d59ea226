/- THE LAW PrefixHalves: the walk. -/
import Derived.Test.YtceclaboeajcaaaE
import Derived.Test.YtceclaboeajcaaaHalvesPlain
import Derived.Deep.DeepCutAuto
namespace Go.Proofs.Ytceclaboeajcaaa
open Go.RowKit
attribute [local go_sem] Ext.all Ext.cell Ext.frozen Ext.lt Ext.lt1 Ext.lt2 Ext.ne Ext.ne'

/-- A struct of two cells that was laid, in a world that has grown since. -/
theorem Gr.two {A B : World} {u v : Value} (g : Gr (A.alloc (.cells #[u, v] 23)) B) : B.cell? ⟨A.heap.size, 0, none⟩ = some u ∧ B.cell? ⟨A.heap.size, 1, none⟩ = some v ∧ A.heap.size < B.heap.size := by
  have hs : (A.alloc (.cells #[u, v] 23)).heap.size = A.heap.size + 1 := World.size_alloc _ _
  refine ⟨?_, ?_, ?_⟩
  · rw [Below.cell g (p := ⟨A.heap.size, 0, none⟩) (by rw [hs]; exact Nat.lt_succ_self _)]; simp [go_sem]
  · rw [Below.cell g (p := ⟨A.heap.size, 1, none⟩) (by rw [hs]; exact Nat.lt_succ_self _)]; simp [go_sem]
  · have := Below.size g; omega

theorem parent_to {l b m c : Int} (ho : okB l b = true) (h : 0 < l) (e1 : l - 1 = m) (e2 : b / 2 = c) (w : World) :
    Calls Try.prog 25 #[pfx l b] w fun e w' => e = .returned (.tuple #[pfx m c, .bool true]) ∧ ∃ d : Ext w, w' = d.out := by subst e1 e2; exact parent_yes l b ho h w

/-- Two structs of two cells that were laid one behind the other. -/
theorem Ext.sizes2 {w : World} {o1 o2 : Obj} (d : Ext ((w.alloc o1).alloc o2)) : w.heap.size < d.out.heap.size ∧ w.heap.size + 1 < d.out.heap.size := by
  have h1 := Below.size d.gr
  have h2 : ((w.alloc o1).alloc o2).heap.size = w.heap.size + 2 := by rw [World.size_alloc, World.size_alloc]
  omega

theorem Ext.size1 {A : World} {o : Obj} (d : Ext (A.alloc o)) : A.heap.size < d.out.heap.size := by
  have h1 := Below.size d.gr
  rw [World.size_alloc] at h1
  exact h1

set_option maxRecDepth 100000 in
set_option maxHeartbeats 4000000 in
theorem halves_no (l b m c a : Int) (HN : Hid (okB l b = false ∨ l = 8)) (vp vq v1 v2 : Bool) (P1 : Hid (hasB l b a = vp)) (P2 : Hid (hasB m c a = vq)) (C1 : Hid (covB l b m c = v1)) (C2 : Hid (covB m c l b = v2)) (hh : vp = true → vq = true → v1 = false → v2 = true) (w : World) :
    Calls Try.prog 4 #[pfx l b, pfx m c, .int .i64 a] w fun e w' => e = .returned (.bool true) ∧ ∃ d : Ext w, w' = d.out := by
  have HH := hide hh
  clear hh
  go_enter Try.func4, Try.ntmps4
  go_upto_region 12 with (first
    | (go_at_call 8; refine (begun_any _).mono ?_; rintro e _ ⟨rfl, d0, rfl⟩)
    | (go_at_call 24; with_reducible refine (Calls.ext_of (child_no l b 0 (HN.out.elim .inl (fun e => .inr (.inl e))) _)).mono ?_; rintro e _ ⟨rfl, d1, rfl⟩; obtain ⟨z1, z2⟩ := d1.sizes2)
    | (go_at_call 24; with_reducible refine (child_no l b 1 (HN.out.elim .inl (fun e => .inr (.inl e))) _).mono ?_; rintro e _ ⟨rfl, d2, rfl⟩))
  have gB : Gr ((w.alloc (.cells #[.int .i64 l, .int .i64 b] 23)).alloc (.cells #[.int .i64 m, .int .i64 c] 23)) (d2.out.alloc (.cells #[.int .i64 0, .int .i64 0] 23)) := ((d1.gr.alloc _).ext d2).alloc _
  clear z1 z2
  generalize d2.out.alloc (.cells #[.int .i64 0, .int .i64 0] 23) = B at gB ⊢
  obtain ⟨dB, rfl⟩ := ext_mk gB
  clear gB d0
  cases vp
  · clear HH
    go_wp2_with (first
      | (go_at_call 18; with_reducible refine (Calls.ext_of (has_is P1.out _)).mono ?_; rintro e _ ⟨rfl, dE, rfl⟩)
      | (go_at_call 18; with_reducible refine (Calls.ext_of (has_is P2.out _)).mono ?_; rintro e _ ⟨rfl, dE, rfl⟩)
      | (go_at_call 26; with_reducible refine (Calls.ext_of (covers_is C1.out _)).mono ?_; rintro e _ ⟨rfl, dE, rfl⟩)
      | (go_at_call 26; with_reducible refine (Calls.ext_of (covers_is C2.out _)).mono ?_; rintro e _ ⟨rfl, dE, rfl⟩))
    go_ret
    exact ⟨rfl, ext_mk ((((Gr.refl _).alloc _).alloc _).ext dE)⟩
  cases vq
  · clear HH
    go_wp2_with (first
      | (go_at_call 18; with_reducible refine (Calls.ext_of (has_is P1.out _)).mono ?_; rintro e _ ⟨rfl, dE, rfl⟩)
      | (go_at_call 18; with_reducible refine (Calls.ext_of (has_is P2.out _)).mono ?_; rintro e _ ⟨rfl, dE, rfl⟩)
      | (go_at_call 26; with_reducible refine (Calls.ext_of (covers_is C1.out _)).mono ?_; rintro e _ ⟨rfl, dE, rfl⟩)
      | (go_at_call 26; with_reducible refine (Calls.ext_of (covers_is C2.out _)).mono ?_; rintro e _ ⟨rfl, dE, rfl⟩))
    go_ret
    exact ⟨rfl, ext_mk ((((Gr.refl _).alloc _).alloc _).ext dE)⟩
  cases v1
  · have e2 : v2 = true := HH.out rfl rfl rfl
    subst e2
    clear HH
    go_wp2_with (first
      | (go_at_call 18; with_reducible refine (Calls.ext_of (has_is P1.out _)).mono ?_; rintro e _ ⟨rfl, dE, rfl⟩)
      | (go_at_call 18; with_reducible refine (Calls.ext_of (has_is P2.out _)).mono ?_; rintro e _ ⟨rfl, dE, rfl⟩)
      | (go_at_call 26; with_reducible refine (Calls.ext_of (covers_is C1.out _)).mono ?_; rintro e _ ⟨rfl, dE, rfl⟩)
      | (go_at_call 26; with_reducible refine (Calls.ext_of (covers_is C2.out _)).mono ?_; rintro e _ ⟨rfl, dE, rfl⟩))
    go_ret
    exact ⟨rfl, ext_mk ((((Gr.refl _).alloc _).alloc _).ext dE)⟩
  · clear HH
    go_wp2_with (first
      | (go_at_call 18; with_reducible refine (Calls.ext_of (has_is P1.out _)).mono ?_; rintro e _ ⟨rfl, dE, rfl⟩)
      | (go_at_call 18; with_reducible refine (Calls.ext_of (has_is P2.out _)).mono ?_; rintro e _ ⟨rfl, dE, rfl⟩)
      | (go_at_call 26; with_reducible refine (Calls.ext_of (covers_is C1.out _)).mono ?_; rintro e _ ⟨rfl, dE, rfl⟩)
      | (go_at_call 26; with_reducible refine (Calls.ext_of (covers_is C2.out _)).mono ?_; rintro e _ ⟨rfl, dE, rfl⟩))
    go_ret
    exact ⟨rfl, ext_mk ((((Gr.refl _).alloc _).alloc _).ext dE)⟩

set_option maxRecDepth 100000 in
set_option maxHeartbeats 8000000 in
theorem halves_yes (l b m c a : Int) (H1 : Hid (okB l b = true)) (h8 : l < 8) (vp vq v1 v2 : Bool) (P1 : Hid (hasB l b a = vp)) (P2 : Hid (hasB m c a = vq)) (C1 : Hid (covB l b m c = v1)) (C2 : Hid (covB m c l b = v2)) (hh : vp = true → vq = true → v1 = false → v2 = true) (w : World) :
    Calls Try.prog 4 #[pfx l b, pfx m c, .int .i64 a] w fun e w' => e = .returned (.bool true) ∧ ∃ d : Ext w, w' = d.out := by
  have HH := hide hh
  clear hh
  obtain ⟨ok0, ok1, three⟩ := @halves l b a H1.out h8
  have K0 := hide ok0; have K1 := hide ok1; have T3 := hide three
  clear ok0 ok1 three
  have hl0 : 0 ≤ l := (ok_iff.1 H1.out).1
  go_enter Try.func4, Try.ntmps4
  go_upto_region 10 with (first
    | (go_at_call 8; refine (begun_any _).mono ?_; rintro e _ ⟨rfl, d0, rfl⟩)
    | (go_at_call 24; with_reducible refine (Calls.ext_of (child_yes0 l b H1.out h8 _)).mono ?_; rintro e _ ⟨rfl, d1, rfl⟩; obtain ⟨z1, z2⟩ := d1.sizes2)
    | (go_at_call 24; with_reducible refine (child_yes1 l b H1.out h8 _).mono ?_; rintro e _ ⟨rfl, d2, rfl⟩; have z3 := d2.size1; have z4 := Nat.lt_trans z1 z3)
    | (go_at_call 25; with_reducible refine (parent_to (m := l) (c := b) K0.out (by omega) (by omega) (by omega) _).mono ?_; rintro e _ ⟨rfl, d3, rfl⟩; have z5 := d3.size1)
    | (go_at_call 25; with_reducible refine (parent_to (m := l) (c := b) K1.out (by omega) (by omega) (by omega) _).mono ?_; rintro e _ ⟨rfl, d4, rfl⟩))
  have gv := Gr.refl (d4.out.alloc (.cells #[.int .i64 l, .int .i64 b] 23))
  have gu := (Gr.refl (d3.out.alloc (.cells #[.int .i64 l, .int .i64 b] 23))).ext d4 |>.alloc (.cells #[.int .i64 l, .int .i64 b] 23)
  have gy := (((Gr.refl (d2.out.alloc (.cells #[.int .i64 (l + 1), .int .i64 (b * 2 + 1)] 23))).ext d3).alloc (.cells #[.int .i64 l, .int .i64 b] 23)).trans gu
  have gx := (((Gr.refl (d1.out.alloc (.cells #[.int .i64 (l + 1), .int .i64 (b * 2)] 23))).ext d2).alloc (.cells #[.int .i64 (l + 1), .int .i64 (b * 2 + 1)] 23)).trans gy
  have gq := (d1.gr.alloc (.cells #[.int .i64 (l + 1), .int .i64 (b * 2)] 23)).trans gx
  have gp := ((Gr.refl (w.alloc (.cells #[.int .i64 l, .int .i64 b] 23))).alloc (.cells #[.int .i64 m, .int .i64 c] 23)).trans gq
  have gw := ((Gr.refl w).alloc (.cells #[.int .i64 l, .int .i64 b] 23)).trans gp
  have GW := hide gw
  clear z1 z2 z3 z4 z5
  obtain ⟨v0, v1', vz⟩ := gv.two
  obtain ⟨u0, u1, uz⟩ := gu.two
  obtain ⟨y0, y1, yz⟩ := gy.two
  obtain ⟨x0, x1, xz⟩ := gx.two
  obtain ⟨q0, q1, qz⟩ := gq.two
  obtain ⟨p0, p1, pz⟩ := gp.two
  rw [World.size_alloc] at q0 q1 qz
  clear gv gu gy gx gq gp gw
  generalize d4.out.alloc (.cells #[.int .i64 l, .int .i64 b] 23) = B at *
  go_cut [80] (fun s wc => s = .bool false ∧ ∃ d : Ext B, wc = d.out)
  case first =>
    rcases T3.out with ⟨t0, t1, tp⟩ | ⟨t0, t1, tp⟩ | ⟨t0, t1, tp⟩
    · have T0 := hide t0; have T1 := hide t1; have TP := hide tp
      clear t0 t1 tp
      refine wp_region_ext (by kernel_rfl) (by kernel_rfl) ?_
      repeat (go_big_quiet_step (first | (go_at_call 18; with_reducible exact Calls.ext_of (has_is T0.out _)) | (go_at_call 18; with_reducible exact Calls.ext_of (has_is T1.out _)) | (go_at_call 18; with_reducible exact Calls.ext_of (has_is TP.out _))))
      refine wpQuiet_nil ?_
      rintro _ ⟨dF, rfl⟩
      go_wp2_with fail
      go_meet
      case rel => exact ⟨rfl, dF, rfl⟩
    · have T0 := hide t0; have T1 := hide t1; have TP := hide tp
      clear t0 t1 tp
      refine wp_region_ext (by kernel_rfl) (by kernel_rfl) ?_
      repeat (go_big_quiet_step (first | (go_at_call 18; with_reducible exact Calls.ext_of (has_is T0.out _)) | (go_at_call 18; with_reducible exact Calls.ext_of (has_is T1.out _)) | (go_at_call 18; with_reducible exact Calls.ext_of (has_is TP.out _))))
      refine wpQuiet_nil ?_
      rintro _ ⟨dF, rfl⟩
      go_wp2_with fail
      go_meet
      case rel => exact ⟨rfl, dF, rfl⟩
    · have T0 := hide t0; have T1 := hide t1; have TP := hide tp
      clear t0 t1 tp
      refine wp_region_ext (by kernel_rfl) (by kernel_rfl) ?_
      repeat (go_big_quiet_step (first | (go_at_call 18; with_reducible exact Calls.ext_of (has_is T0.out _)) | (go_at_call 18; with_reducible exact Calls.ext_of (has_is T1.out _)) | (go_at_call 18; with_reducible exact Calls.ext_of (has_is TP.out _))))
      refine wpQuiet_nil ?_
      rintro _ ⟨dF, rfl⟩
      go_wp2_with fail
      go_meet
      case rel => exact ⟨rfl, dF, rfl⟩
  case rest =>
    obtain ⟨rfl, dB, rfl⟩ := hcut
    clear v0 v1' vz u0 u1 uz y0 y1 yz x0 x1 xz
    cases vp
    · clear HH
      go_wp2_with (first
        | (go_at_call 18; with_reducible refine (Calls.ext_of (has_is P1.out _)).mono ?_; rintro e _ ⟨rfl, dE, rfl⟩)
        | (go_at_call 18; with_reducible refine (Calls.ext_of (has_is P2.out _)).mono ?_; rintro e _ ⟨rfl, dE, rfl⟩)
        | (go_at_call 26; with_reducible refine (Calls.ext_of (covers_is C1.out _)).mono ?_; rintro e _ ⟨rfl, dE, rfl⟩)
        | (go_at_call 26; with_reducible refine (Calls.ext_of (covers_is C2.out _)).mono ?_; rintro e _ ⟨rfl, dE, rfl⟩))
      go_ret
      exact ⟨rfl, ext_mk (GW.out.ext dE)⟩
    cases vq
    · clear HH
      go_wp2_with (first
        | (go_at_call 18; with_reducible refine (Calls.ext_of (has_is P1.out _)).mono ?_; rintro e _ ⟨rfl, dE, rfl⟩)
        | (go_at_call 18; with_reducible refine (Calls.ext_of (has_is P2.out _)).mono ?_; rintro e _ ⟨rfl, dE, rfl⟩)
        | (go_at_call 26; with_reducible refine (Calls.ext_of (covers_is C1.out _)).mono ?_; rintro e _ ⟨rfl, dE, rfl⟩)
        | (go_at_call 26; with_reducible refine (Calls.ext_of (covers_is C2.out _)).mono ?_; rintro e _ ⟨rfl, dE, rfl⟩))
      go_ret
      exact ⟨rfl, ext_mk (GW.out.ext dE)⟩
    cases v1
    · have e2 : v2 = true := HH.out rfl rfl rfl
      subst e2
      clear HH
      go_wp2_with (first
        | (go_at_call 18; with_reducible refine (Calls.ext_of (has_is P1.out _)).mono ?_; rintro e _ ⟨rfl, dE, rfl⟩)
        | (go_at_call 18; with_reducible refine (Calls.ext_of (has_is P2.out _)).mono ?_; rintro e _ ⟨rfl, dE, rfl⟩)
        | (go_at_call 26; with_reducible refine (Calls.ext_of (covers_is C1.out _)).mono ?_; rintro e _ ⟨rfl, dE, rfl⟩)
        | (go_at_call 26; with_reducible refine (Calls.ext_of (covers_is C2.out _)).mono ?_; rintro e _ ⟨rfl, dE, rfl⟩))
      go_ret
      exact ⟨rfl, ext_mk (GW.out.ext dE)⟩
    · clear HH
      go_wp2_with (first
        | (go_at_call 18; with_reducible refine (Calls.ext_of (has_is P1.out _)).mono ?_; rintro e _ ⟨rfl, dE, rfl⟩)
        | (go_at_call 18; with_reducible refine (Calls.ext_of (has_is P2.out _)).mono ?_; rintro e _ ⟨rfl, dE, rfl⟩)
        | (go_at_call 26; with_reducible refine (Calls.ext_of (covers_is C1.out _)).mono ?_; rintro e _ ⟨rfl, dE, rfl⟩)
        | (go_at_call 26; with_reducible refine (Calls.ext_of (covers_is C2.out _)).mono ?_; rintro e _ ⟨rfl, dE, rfl⟩))
      go_ret
      exact ⟨rfl, ext_mk (GW.out.ext dE)⟩

theorem halves_any (l b m c a : Int) (w : World) :
    Calls Try.prog 4 #[pfx l b, pfx m c, .int .i64 a] w fun e w' => e = .returned (.bool true) ∧ ∃ d : Ext w, w' = d.out := by
  have hh : hasB l b a = true → hasB m c a = true → covB l b m c = false → covB m c l b = true := fun h1 h2 h3 => by
    rcases shared h1 h2 with h | h
    · rw [h] at h3; cases h3
    · exact h
  by_cases h : okB l b = true ∧ l < 8
  · exact halves_yes l b m c a h.1 h.2 _ _ _ _ rfl rfl rfl rfl hh w
  · refine halves_no l b m c a ?_ _ _ _ _ rfl rfl rfl rfl hh w
    show _ ∨ _
    cases ho : okB l b
    · exact .inl rfl
    · right
      have := (ok_iff.1 ho).2.1
      have : ¬ l < 8 := fun e => h ⟨ho, e⟩
      omega

end Go.Proofs.Ytceclaboeajcaaa
