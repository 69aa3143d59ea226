/- THE LAW PrefixDoes: the walk. -/
import Derived.Test.YtceclaboeajcaaaDoesPlain
import Derived.Deep.DeepCutAuto
namespace Go.Proofs.Ytceclaboeajcaaa
open Go.RowKit
attribute [local go_sem] Ext.all Ext.cell Ext.frozen Ext.lt Ext.lt1 Ext.lt2 Ext.ne Ext.ne'

theorem Ext.sizes {w : World} {o1 o2 : Obj} (d : Ext ((w.alloc o1).alloc o2)) : w.heap.size < d.out.heap.size ∧ w.heap.size + 1 < d.out.heap.size := by
  have h1 := Below.size d.gr
  have h2 : ((w.alloc o1).alloc o2).heap.size = w.heap.size + 2 := by rw [World.size_alloc, World.size_alloc]
  omega
theorem Gr.keep {A B : World} {n o : Nat} {v : Value} (g : Gr A B) (h : A.cell? ⟨n, o, none⟩ = some v) (hn : n < A.heap.size) : B.cell? ⟨n, o, none⟩ = some v := by
  rw [Below.cell g (p := ⟨n, o, none⟩) hn]; exact h
theorem Ext.past {A : World} {o : Obj} (d : Ext (A.alloc o)) : A.heap.size < d.out.heap.size := by
  have h1 := Below.size d.gr
  rw [World.size_alloc] at h1
  exact h1

set_option maxRecDepth 100000 in
set_option maxHeartbeats 1000000 in
theorem does_long (l b m c a t : Int) (s : ByteArray) (hs : s.size ≤ maxLen) (h : 1000 < s.size) (w : World) :
    Calls Try.prog 3 #[pfx l b, pfx m c, .int .i64 a, .int .i64 t, .string s] w fun e w' => e = .returned (.bool true) ∧ ∃ d : Ext w, w' = d.out := by
  unfold maxLen at hs
  go_enter Try.func3, Try.ntmps3
  go_wp2_with (go_at_call 8; refine (begun_any _).mono ?_; rintro e _ ⟨rfl, d0, rfl⟩)
  go_ret
  exact ⟨rfl, ext_mk ((((Gr.refl _).alloc _).alloc _).ext d0)⟩

set_option maxRecDepth 100000 in
set_option maxHeartbeats 4000000 in
theorem does_short (l b m c a t : Int) (s : ByteArray) (h : s.size ≤ 1000) (xl xb : Int) (xv : Bool)
    (P1 : Hid (∀ w, Calls Try.prog 9 #[.string s] w fun e w' => e = .returned (.tuple #[pfx xl xb, .bool xv]) ∧ ∃ d : Ext w, w' = d.out))
    (P2 : Hid (∀ w, Calls Try.prog 10 #[.string s] w fun e w' => e = .returned (.tuple #[pfx xl xb, .bool xv]) ∧ ∃ d : Ext w, w' = d.out))
    (cl cb : Int) (cv : Bool) (C1 : Hid (∀ w, Calls Try.prog 24 #[pfx l b, .int .i64 t] w fun e w' => e = .returned (.tuple #[pfx cl cb, .bool cv]) ∧ ∃ d : Ext w, w' = d.out))
    (pl pb : Int) (pv : Bool) (C2 : Hid (∀ w, Calls Try.prog 25 #[pfx l b] w fun e w' => e = .returned (.tuple #[pfx pl pb, .bool pv]) ∧ ∃ d : Ext w, w' = d.out))
    (MC : Hid (okB l b = false ∧ cv = false ∨ okB l b = true ∧ l = 8 ∧ cv = false ∨ okB l b = true ∧ l < 8 ∧ t = 0 ∧ cv = true ∨ okB l b = true ∧ l < 8 ∧ t = 1 ∧ cv = true ∨ okB l b = true ∧ l < 8 ∧ t ≠ 0 ∧ t ≠ 1 ∧ cv = false))
    (LC : Hid (okB l b = false ∧ pv = false ∨ okB l b = true ∧ l = 0 ∧ pv = false ∨ okB l b = true ∧ 0 < l ∧ pv = true))
    (ZC : Hid (cv = false → cl = 0 ∧ cb = 0)) (ZP : Hid (pv = false → pl = 0 ∧ pb = 0))
    (TP TT TD TX : List UInt8) (n : Nat)
    (YC : Hid (cv = true → cl = l + 1 ∧ 0 ≤ l ∧ l ≤ 7 ∧ 0 ≤ cb ∧ cb < 1024 ∧ 0 ≤ b ∧ b < 1024 ∧ 0 ≤ t ∧ t < 1024 ∧ TP.length ≤ 8 ∧ TT.length ≤ 8 ∧ bitsL cl.toNat cb = TP ++ TT ∧ bitsL l.toNat b = TP ∧ bitsL (1 : Int).toNat t = TT))
    (YP : Hid (pv = true → pl = n ∧ l = n + 1 ∧ n ≤ 7 ∧ 0 ≤ pb ∧ pb < 1024 ∧ 0 ≤ b ∧ b < 1024 ∧ n ≤ TX.length ∧ TX.take n = TD ∧ bitsL pl.toNat pb = TD ∧ bitsL l.toNat b = TX)) (w : World) :
    Calls Try.prog 3 #[pfx l b, pfx m c, .int .i64 a, .int .i64 t, .string s] w fun e w' => e = .returned (.bool true) ∧ ∃ d : Ext w, w' = d.out := by
  go_enter Try.func3, Try.ntmps3
  go_upto_region 7 with (first
    | (go_at_call 8; refine (begun_any _).mono ?_; rintro e _ ⟨rfl, d0, rfl⟩)
    | (go_at_call 9; with_reducible refine (Calls.ext_of (P1.out _)).mono ?_; rintro e _ ⟨rfl, d1, rfl⟩; obtain ⟨z1, z2⟩ := d1.sizes)
    | (go_at_call 10; with_reducible refine (P2.out _).mono ?_; rintro e _ ⟨rfl, d2, rfl⟩; have z3 := d2.past))
  have gy := Gr.refl (d2.out.alloc (.cells #[.int .i64 xl, .int .i64 xb] 23))
  have gx := ((Gr.refl (d1.out.alloc (.cells #[.int .i64 xl, .int .i64 xb] 23))).ext d2).alloc (.cells #[.int .i64 xl, .int .i64 xb] 23)
  have gq := (d1.gr.alloc (.cells #[.int .i64 xl, .int .i64 xb] 23)).trans gx
  have gp := ((Gr.refl (w.alloc (.cells #[.int .i64 l, .int .i64 b] 23))).alloc (.cells #[.int .i64 m, .int .i64 c] 23)).trans gq
  have gw := ((Gr.refl w).alloc (.cells #[.int .i64 l, .int .i64 b] 23)).trans gp
  have GW := hide gw
  clear z1 z2 z3
  obtain ⟨y0, y1, yz, _, _⟩ := gy.pair
  obtain ⟨x0, x1, xz, _, _⟩ := gx.pair
  obtain ⟨q0, q1, qz, _, _⟩ := gq.pair
  obtain ⟨p0, p1, pz, _, _⟩ := gp.pair
  rw [World.size_alloc] at q0 q1 qz
  clear gy gx gq gp gw
  generalize d2.out.alloc (.cells #[.int .i64 xl, .int .i64 xb] 23) = B at *
  simp only [List.append_eq, List.cons_append, List.nil_append]
  go_cut [102] (fun s wc => s = .bool false ∧ ∃ d : Ext B, wc = d.out)
  case first => as_aux_lemma =>
    by_cases ha : 0 ≤ a
    · have hd : decide (0 ≤ a) = true := by simpa using ha
      have hd2 : adB a = decide (a < 256) := by unfold adB; congr 1; simp only [eq_iff_iff]; omega
      have HD := hide hd2
      clear hd2
      refine wp_region_ext (by kernel_rfl) (by kernel_rfl) ?_
      repeat (go_big_quiet_step (first
        | (go_at_call 11; with_reducible exact Calls.ext_of (check_any l b _))
        | (go_at_call 12; with_reducible exact Calls.ext_of (isp_any l b _))
        | (go_at_call 13; with_reducible exact Calls.ext_of (addr_is HD.out _))
        | (go_at_call 14; with_reducible exact Calls.ext_of (first_any l b _))
        | (go_at_call 15; with_reducible exact Calls.ext_of (rfirst_any l b _))
        | (go_at_call 16; with_reducible exact Calls.ext_of (last_any l b _))
        | (go_at_call 17; with_reducible exact Calls.ext_of (rlast_any l b _))
        | (go_at_call 18; with_reducible exact Calls.ext_of (has_any l b a _))
        | (go_at_call 19; with_reducible exact Calls.ext_of (rhas_any l b a _))
        | (go_at_call 20; with_reducible exact Calls.ext_of (less_any l b m c _))
        | (go_at_call 21; with_reducible exact Calls.ext_of (rless_any l b m c _))
        | (go_at_call 22; with_reducible exact Calls.ext_of (text_any l b _))
        | (go_at_call 23; with_reducible exact Calls.ext_of (rtext_any l b _))))
      refine wpQuiet_nil ?_
      rintro _ ⟨dF, rfl⟩
      go_wp2_with fail
      go_meet
      case rel => exact ⟨rfl, dF, rfl⟩
    · have hd : decide (0 ≤ a) = false := by simpa using ha
      have hd2 : adB a = false := by unfold adB; simp; omega
      have HD := hide hd2
      clear hd2
      refine wp_region_ext (by kernel_rfl) (by kernel_rfl) ?_
      repeat (go_big_quiet_step (first
        | (go_at_call 11; with_reducible exact Calls.ext_of (check_any l b _))
        | (go_at_call 12; with_reducible exact Calls.ext_of (isp_any l b _))
        | (go_at_call 13; with_reducible exact Calls.ext_of (addr_is HD.out _))
        | (go_at_call 14; with_reducible exact Calls.ext_of (first_any l b _))
        | (go_at_call 15; with_reducible exact Calls.ext_of (rfirst_any l b _))
        | (go_at_call 16; with_reducible exact Calls.ext_of (last_any l b _))
        | (go_at_call 17; with_reducible exact Calls.ext_of (rlast_any l b _))
        | (go_at_call 18; with_reducible exact Calls.ext_of (has_any l b a _))
        | (go_at_call 19; with_reducible exact Calls.ext_of (rhas_any l b a _))
        | (go_at_call 20; with_reducible exact Calls.ext_of (less_any l b m c _))
        | (go_at_call 21; with_reducible exact Calls.ext_of (rless_any l b m c _))
        | (go_at_call 22; with_reducible exact Calls.ext_of (text_any l b _))
        | (go_at_call 23; with_reducible exact Calls.ext_of (rtext_any l b _))))
      refine wpQuiet_nil ?_
      rintro _ ⟨dF, rfl⟩
      go_wp2_with fail
      go_meet
      case rel => exact ⟨rfl, dF, rfl⟩
  case rest =>
    obtain ⟨rfl, dB, rfl⟩ := hcut
    clear y0 y1 yz x0 x1 xz
    go_upto_region 9 with fail
    go_cut [15] (fun s wc => s = .bool (allB l b m c 0) ∧ ∃ d : Ext B, wc = d.out)
    case first => as_aux_lemma =>
      cases h1 : okB l b
      · have H1 := hide h1
        clear h1
        go_wp2_with (go_at_call 12; with_reducible refine (Calls.ext_of (isp_is H1.out _)).mono ?_; rintro e _ ⟨rfl, dF, rfl⟩)
        go_meet
        case rel => exact ⟨by simp [allB, H1.out], dF, rfl⟩
      · have H1 := hide h1
        clear h1
        go_wp2_with (first
          | (go_at_call 12; with_reducible refine (Calls.ext_of (isp_is H1.out _)).mono ?_; rintro e _ ⟨rfl, dF, rfl⟩)
          | (go_at_call 12; with_reducible refine (Calls.ext_of (isp_any m c _)).mono ?_; rintro e _ ⟨rfl, dF, rfl⟩))
        go_meet
        case rel => exact ⟨by simp [allB, H1.out], dF, rfl⟩
    case rest =>
      obtain ⟨rfl, dC, rfl⟩ := hcut
      go_wp2
      go_loopw [15, 16] (fun v i wr => ∃ k : Nat, k ≤ 256 ∧ v = .bool (allB l b m c k) ∧ i = .int .i64 k ∧ ∃ d : Ext B, wr = d.out) (fun _ i _ => 256 - (intOf i).toNat)
      case atStart => exact ⟨0, by omega, rfl, rfl, dC, rfl⟩
      case round => as_aux_lemma =>
        obtain ⟨k, hk, rfl, rfl, dr, rfl⟩ := hrel
        by_cases hlt : k < 256
        · cases hA : allB l b m c k
          · have HA := hide hA
            clear hA
            go_wp2
            go_roundw
            case rel => exact ⟨k + 1, by omega, by simp [allB, HA.out], by go_num, dr, rfl⟩
            case measure => simp [intOf]; omega
          · have HA := hide hA
            clear hA
            cases hq : hasB m c k
            · have HQ := hide hq
              clear hq
              go_wp2_with (go_at_call 19; with_reducible refine (Calls.ext_of (rhas_is HQ.out _)).mono ?_; rintro e _ ⟨rfl, dF, rfl⟩)
              go_roundw
              case rel => exact ⟨k + 1, by omega, by simp [allB, HA.out, HQ.out], by go_num, dF, rfl⟩
              case measure => simp [intOf]; omega
            · have HQ := hide hq
              clear hq
              go_wp2_with (first
                | (go_at_call 19; with_reducible refine (Calls.ext_of (rhas_is HQ.out _)).mono ?_; rintro e _ ⟨rfl, dF, rfl⟩)
                | (go_at_call 19; with_reducible refine (Calls.ext_of (rhas_any l b k _)).mono ?_; rintro e _ ⟨rfl, dF, rfl⟩))
              go_roundw
              case rel => exact ⟨k + 1, by omega, by simp [allB, HA.out, HQ.out], by go_num, dF, rfl⟩
              case measure => simp [intOf]; omega
        · have e : k = 256 := by omega
          subst e
          rw [allB_cov]
          clear hlt hk dC dB
          go_upto_region 16 with (first
            | (go_at_call 24; with_reducible refine (Calls.ext_of (C1.out _)).mono ?_; rintro e _ ⟨rfl, d3, rfl⟩)
            | (go_at_call 25; with_reducible refine (C2.out _).mono ?_; rintro e _ ⟨rfl, d4, rfl⟩))
          have gE : Gr B (d4.out.alloc (.cells #[.int .i64 pl, .int .i64 pb] 23)) := ((d3.gr.alloc _).ext d4).alloc _
          have GE := hide (GW.out.trans gE)
          obtain ⟨dd0, dd1, ddz, _, _⟩ := (Gr.refl (d4.out.alloc (.cells #[.int .i64 pl, .int .i64 pb] 23))).pair
          obtain ⟨cc0, cc1, ccz, _, _⟩ := (((Gr.refl (d3.out.alloc (.cells #[.int .i64 cl, .int .i64 cb] 23))).ext d4).alloc (.cells #[.int .i64 pl, .int .i64 pb] 23)).pair
          have p0' := gE.keep p0 pz
          have p1' := gE.keep p1 pz
          have q0' := gE.keep q0 qz
          have q1' := gE.keep q1 qz
          have pz' := Nat.lt_of_lt_of_le pz (Below.size gE)
          have qz' := Nat.lt_of_lt_of_le qz (Below.size gE)
          clear gE p0 p1 pz q0 q1 qz GW
          generalize d4.out.alloc (.cells #[.int .i64 pl, .int .i64 pb] 23) = E at *
          go_cut [21] (fun s wc => s = .bool cv ∧ ∃ d : Ext E, wc = d.out)
          case first => as_aux_lemma =>
            rcases MC.out with ⟨h1, h2⟩ | ⟨h1, h3, h2⟩ | ⟨h1, h3, h4, h2⟩ | ⟨h1, h3, h4, h2⟩ | ⟨h1, h3, h4, h5, h2⟩
            · have H1 := hide h1; have H2 := hide h2
              clear h1 h2
              go_wp2_with (go_at_call 12; with_reducible refine (isp_is H1.out _).mono ?_; rintro e _ ⟨rfl, dF, rfl⟩)
              go_meet
              case rel => exact ⟨by rw [H2.out], dF, rfl⟩
            · have H1 := hide h1; have H2 := hide h2
              have h3' : decide (l < 8) = false := by simp; omega
              clear h1 h2 h3
              go_wp2_with (go_at_call 12; with_reducible refine (isp_is H1.out _).mono ?_; rintro e _ ⟨rfl, dF, rfl⟩)
              go_meet
              case rel => exact ⟨by rw [H2.out], dF, rfl⟩
            · have H1 := hide h1; have H2 := hide h2
              have h3' : decide (l < 8) = true := by simpa using h3
              have h4' : (t == 0) = true := by simpa using h4
              clear h1 h2 h4
              go_wp2_with (go_at_call 12; with_reducible refine (isp_is H1.out _).mono ?_; rintro e _ ⟨rfl, dF, rfl⟩)
              go_meet
              case rel => exact ⟨by rw [H2.out], dF, rfl⟩
            · have H1 := hide h1; have H2 := hide h2
              have h3' : decide (l < 8) = true := by simpa using h3
              have h4' : (t == 0) = false := by simp; omega
              have h5' : (t == 1) = true := by simpa using h4
              clear h1 h2 h4
              go_wp2_with (go_at_call 12; with_reducible refine (isp_is H1.out _).mono ?_; rintro e _ ⟨rfl, dF, rfl⟩)
              go_meet
              case rel => exact ⟨by rw [H2.out], dF, rfl⟩
            · have H1 := hide h1; have H2 := hide h2
              have h3' : decide (l < 8) = true := by simpa using h3
              have h4' : (t == 0) = false := by simpa using h4
              have h5' : (t == 1) = false := by simpa using h5
              clear h1 h2 h4 h5
              go_wp2_with (go_at_call 12; with_reducible refine (isp_is H1.out _).mono ?_; rintro e _ ⟨rfl, dF, rfl⟩)
              go_meet
              case rel => exact ⟨by rw [H2.out], dF, rfl⟩
          case rest =>
            obtain ⟨rfl, dG, rfl⟩ := hcut
            go_upto_region 17 with fail
            go_cut [22] (fun s wc => s = .bool pv ∧ ∃ d : Ext E, wc = d.out)
            case first => as_aux_lemma =>
              rcases LC.out with ⟨h1, h2⟩ | ⟨h1, h3, h2⟩ | ⟨h1, h3, h2⟩
              · have H1 := hide h1; have H2 := hide h2
                clear h1 h2
                go_wp2_with (go_at_call 12; with_reducible refine (Calls.ext_of (isp_is H1.out _)).mono ?_; rintro e _ ⟨rfl, dF, rfl⟩)
                go_meet
                case rel => exact ⟨by rw [H2.out], dF, rfl⟩
              · have H1 := hide h1; have H2 := hide h2
                have h3' : decide (0 < l) = false := by simp; omega
                clear h1 h2 h3
                go_wp2_with (go_at_call 12; with_reducible refine (Calls.ext_of (isp_is H1.out _)).mono ?_; rintro e _ ⟨rfl, dF, rfl⟩)
                go_meet
                case rel => exact ⟨by rw [H2.out], dF, rfl⟩
              · have H1 := hide h1; have H2 := hide h2
                have h3' : decide (0 < l) = true := by simpa using h3
                clear h1 h2
                go_wp2_with (go_at_call 12; with_reducible refine (Calls.ext_of (isp_is H1.out _)).mono ?_; rintro e _ ⟨rfl, dF, rfl⟩)
                go_meet
                case rel => exact ⟨by rw [H2.out], dF, rfl⟩
            case rest =>
              obtain ⟨rfl, dH, rfl⟩ := hcut
              clear dG
              go_upto_region 18 with fail
              go_cut [190] (fun s wc => s = .bool false ∧ ∃ d : Ext E, wc = d.out)
              case first => as_aux_lemma =>
                cases cv
                · obtain ⟨rfl, rfl⟩ := ZC.out rfl
                  cases pv
                  · obtain ⟨rfl, rfl⟩ := ZP.out rfl
                    go_wp2_with (go_at_call 26; with_reducible refine (Calls.ext_of (covers_any l b m c _)).mono ?_; rintro e _ ⟨rfl, dF, rfl⟩)
                    go_meet
                    case rel => exact ⟨rfl, dF, rfl⟩
                  · go_wp2_with (go_at_call 26; with_reducible refine (Calls.ext_of (covers_any l b m c _)).mono ?_; rintro e _ ⟨rfl, dF, rfl⟩)
                    go_meet
                    case rel => exact ⟨rfl, dF, rfl⟩
                · cases pv
                  · obtain ⟨rfl, rfl⟩ := ZP.out rfl
                    go_wp2_with (go_at_call 26; with_reducible refine (Calls.ext_of (covers_any l b m c _)).mono ?_; rintro e _ ⟨rfl, dF, rfl⟩)
                    go_meet
                    case rel => exact ⟨rfl, dF, rfl⟩
                  · go_wp2_with (go_at_call 26; with_reducible refine (Calls.ext_of (covers_any l b m c _)).mono ?_; rintro e _ ⟨rfl, dF, rfl⟩)
                    go_meet
                    case rel => exact ⟨rfl, dF, rfl⟩
              case rest =>
                obtain ⟨rfl, dI, rfl⟩ := hcut
                clear dH
                go_upto_region 20 with fail
                go_cut [215] (fun s wc => s = .bool false ∧ ∃ d : Ext E, wc = d.out)
                case first => as_aux_lemma =>
                  cases cv
                  · refine wp_region_ext_of (by kernel_rfl) (by kernel_rfl) ?_
                    repeat (go_big_quiet_step (fail))
                    refine wpQuiet_nil ?_
                    rintro _ ⟨dF, rfl⟩
                    go_wp2_with fail
                    go_meet
                    case rel => exact ⟨rfl, dF, rfl⟩
                  · obtain ⟨rfl, k1, k2, k3, k4, k5, k6, k7, k8, k9, k10, e1, e2, e3⟩ := YC.out rfl
                    have hcat := cat TP TT
                    have E1 := hide e1; have E2 := hide e2; have E3 := hide e3
                    clear e1 e2 e3
                    refine wp_region_ext_of (by kernel_rfl) (by kernel_rfl) ?_
                    repeat (go_big_quiet_step (first
                      | (go_at_call 27; with_reducible exact Calls.ext_of (bitsOf_is (l := l + 1) (b := cb) (by omega) (by omega) k3 k4 E1.out _))
                      | (go_at_call 27; with_reducible exact Calls.ext_of (bitsOf_is (l := l) (b := b) (by omega) (by omega) k5 k6 E2.out _))
                      | (go_at_call 27; with_reducible exact Calls.ext_of (bitsOf_is (l := 1) (b := t) (by omega) (by omega) k7 k8 E3.out _))))
                    refine wpQuiet_nil ?_
                    rintro _ ⟨dF, rfl⟩
                    go_wp2_with fail
                    go_meet
                    case rel => exact ⟨rfl, dF, rfl⟩
                case rest =>
                  obtain ⟨rfl, dJ, rfl⟩ := hcut
                  clear dI
                  go_wp2_with fail
                  cases pv
                  · as_aux_lemma =>
                      refine wp_region_ext_of (by kernel_rfl) (by kernel_rfl) ?_
                      repeat (go_big_quiet_step (fail))
                      refine wpQuiet_nil ?_
                      rintro _ ⟨dF, rfl⟩
                      go_wp2
                      go_ret
                      exact ⟨rfl, ext_mk (GE.out.ext dF)⟩
                  · obtain ⟨rfl, e0, k1, k2, k3, k4, k5, k6, k7, e1, e2⟩ := YP.out rfl
                    subst e0
                    have E1 := hide e1; have E2 := hide e2
                    have hsl := slice_take TX TD n k6 k7
                    clear e1 e2 k6 k7
                    refine wp_region_ext_of (by kernel_rfl) (by kernel_rfl) ?_
                    repeat (go_big_quiet_step (first
                      | (go_at_call 27; with_reducible exact Calls.ext_of (bitsOf_is (l := n + 1) (b := b) (by omega) (by omega) k4 k5 E2.out _))
                      | (go_at_call 27; with_reducible exact Calls.ext_of (bitsOf_is (l := n) (b := pb) (by omega) (by omega) k2 k3 E1.out _))))
                    refine wpQuiet_nil ?_
                    rintro _ ⟨dF, rfl⟩
                    go_wp2
                    go_ret
                    exact ⟨rfl, ext_mk (GE.out.ext dF)⟩

end Go.Proofs.Ytceclaboeajcaaa
