/- TableDoes: the walk. -/
import Derived.Test.YtajcdfnfbmahdaaD2
import Derived.Deep.RegionHeld3
namespace Go.Proofs.Ytajcdfnfbmahdaa
open Go.RowKit
attribute [local go_sem] Ext.all Ext.cell Ext.frozen Ext.lt Ext.lt1 Ext.lt2 Ext.ne Ext.ne'

theorem St.getOf {w w1 : World} {tb : Nat} {ro : Option Addr} {rs was : List Rt} {l b : Int} (h : St w w1 tb rs ro was) (hT : Tab was) (c : Nat) :
    Calls Try.prog 34 #[.slice ro was.length c, pfx l b] w1 fun e w2 => e = .returned (.int .i64 (getL was l b)) ∧ ∃ d : Ext w1, w2 = d.out := by
  obtain ⟨M, v, hS, hR, hM⟩ := h.tab
  have := getOf_any w1 M ro was.length c was l b hR rfl (by have := hT.len; omega)
  rw [hT.getR] at this
  exact this
theorem St.rlook {w w1 : World} {tb : Nat} {ro : Option Addr} {rs was : List Rt} {a x : Int} (h : St w w1 tb rs ro was) (hT : Tab was) (e : lookL was a = x) (c : Nat) :
    Calls Try.prog 36 #[.slice ro was.length c, .int .i64 a] w1 fun e w2 => e = .returned (.int .i64 x) ∧ ∃ d : Ext w1, w2 = d.out := by
  subst e
  obtain ⟨M, v, hS, hR, hM⟩ := h.tab
  exact rlook_any w1 M ro was.length c was a hR rfl hT
theorem St.allOf {w w1 : World} {tb : Nat} {ro : Option Addr} {rs was : List Rt} (h : St w w1 tb rs ro was) (hT : Tab was) (c : Nat) :
    Calls Try.prog 39 #[.slice ro was.length c] w1 fun e w2 => ∃ g, e = .returned (.slice (some ⟨g, 0, none⟩) 256 256) ∧ g < w2.heap.size ∧ (∀ j : Nat, j < 256 → w2.cell? ⟨g, j, none⟩ = some (iv (lookL was j))) ∧ ∃ d : Ext w1, w2 = d.out := by
  obtain ⟨M, v, hS, hR, hM⟩ := h.tab
  exact allOf_any w1 M ro was.length c was hR rfl hT

/-- Two lists of where all goes: the first made ahead of the second. -/
theorem same_all {w1 w2 : World} (d : Ext w1) (hd : w2 = d.out) {g1 g2 : Nat} {rs : List Rt} (h1 : g1 < w1.heap.size) (c1 : ∀ j : Nat, j < 256 → w1.cell? ⟨g1, j, none⟩ = some (iv (lookL rs j))) (h2 : g2 < w2.heap.size) (c2 : ∀ j : Nat, j < 256 → w2.cell? ⟨g2, j, none⟩ = some (iv (lookL rs j))) :
    Calls Try.prog 37 #[.slice (some ⟨g1, 0, none⟩) 256 256, .slice (some ⟨g2, 0, none⟩) 256 256] w2 fun e w' => e = .returned (.bool true) ∧ ∃ d : Ext w2, w' = d.out := by
  subst hd
  exact sameInts_any d.out g1 g2 (fun j => lookL rs j) (d.lt g1 h1) h2 (fun j hj => (d.cell g1 j h1).trans (c1 j hj)) c2

set_option maxRecDepth 20000 in
set_option maxHeartbeats 4000000 in
theorem does_any (w : World) (N N2 : Nat → Prop) (ao bo : Option Addr) (n m c c' : Nat) (ls raws : List Rt) (l b a : Int) (H : n ≤ 120 → RowAt w N ao ls ∧ ls.length = n) (K : m ≤ 120 → RowAt w N2 bo raws ∧ raws.length = m) :
    Calls Try.prog 8 #[.slice ao n c, .slice bo m c', pfx l b, .int .i64 a] w fun e w' => e = .returned (.bool true) ∧ ∃ d : Ext w, w' = d.out := by
  obtain ⟨W, hW, g0, b0, b1, s0⟩ := box_gr w l b
  have HW := hide hW
  clear hW
  by_cases hbig : 120 < n
  · have hd : decide ((120 : Int) < (n : Int)) = true := decide_eq_true (by omega)
    clear H K
    go_enter Try.func8, Try.ntmps8
    go_wp2_with (go_at_call 29; rw [← HW.out]; refine (begun_any _).mono ?_; rintro e _ ⟨rfl, d1, rfl⟩)
    go_ret
    exact ⟨rfl, ext_mk (g0.ext d1)⟩
  obtain ⟨hrow, rfl⟩ := H (by omega)
  clear H
  have hd : decide ((120 : Int) < (ls.length : Int)) = false := by simp; omega
  by_cases hbig2 : 120 < m
  · have hd2 : decide ((120 : Int) < (m : Int)) = true := decide_eq_true (by omega)
    clear K hrow
    go_enter Try.func8, Try.ntmps8
    go_wp2_with (go_at_call 29; rw [← HW.out]; refine (begun_any _).mono ?_; rintro e _ ⟨rfl, d1, rfl⟩)
    go_ret
    exact ⟨rfl, ext_mk (g0.ext d1)⟩
  obtain ⟨krow, rfl⟩ := K (by omega)
  clear K
  have hd2 : decide ((120 : Int) < (raws.length : Int)) = false := by simp; omega
  have HTB := hide (fun d : Ext W => tables_st d N ao c ls (hrow.gr g0) (by omega))
  have HT := hide (setAll_tab ls)
  have HRW := hide (fun d : Ext W => krow.gr (g0.ext d))
  clear hrow krow
  generalize setAll ls = rs at *
  have hm : rs.length ≤ 1000 := by have := HT.out.len; omega
  go_enter Try.func8, Try.ntmps8
  go_upto_region 6 with (first
    | (go_at_call 29; rw [← HW.out]; refine (begun_any _).mono ?_; rintro e _ ⟨rfl, d1, rfl⟩)
    | (go_at_call 30; refine (HTB.out d1).mono ?_; rintro e w2 ⟨tb, ro, c2, rfl, B2⟩; have HB := hide B2; clear B2))
  have HK := hide (fun (wX : World) (hst : St d1.out wX tb rs ro rs) => (show wX.cell? ⟨w.heap.size, 0, none⟩ = some (iv l) ∧ wX.cell? ⟨w.heap.size, 1, none⟩ = some (iv b) from ⟨hst.cell (d1.lt _ s0) ((d1.cell _ _ s0).trans b0), hst.cell (d1.lt _ s0) ((d1.cell _ _ s0).trans b1)⟩))
  go_cut [72] (fun s72 wc => s72 = .bool false ∧ Hid (St d1.out wc tb rs ro rs))
  case first => as_aux_lemma =>
    have HB0 := hide (HB.out.gr (Gr.refl _).drew)
    obtain ⟨q0, q1⟩ := HK.out _ HB.out
    go_region_held3 (fun w' => w'.cell? ⟨w.heap.size, 0, none⟩ = some (iv l) ∧ w'.cell? ⟨w.heap.size, 1, none⟩ = some (iv b)) (first | exact HK.out _ H13.out | exact HK.out _ H12.out | exact HK.out _ H11.out | exact HK.out _ H10.out | exact HK.out _ H9.out | exact HK.out _ H8.out | exact HK.out _ H7.out | exact HK.out _ H6.out | exact HK.out _ H5.out | exact HK.out _ H4.out | exact HK.out _ H3.out | exact HK.out _ HB0.out | go_keep)
      (first
      | (go_at_call 32; have X := HB0.out.list HT.out; refine X.mono ?_; clear X; rintro e _ ⟨aw, c3, rfl, L1, L2, d3, rfl⟩; have HL := hide L1; have H3 := hide L2; clear L1 L2)
      | (go_at_call 31; have X := HL.out.same H3.out c3 c2 hm; refine X.mono ?_; clear X; rintro e _ ⟨rfl, d4, rfl⟩; have H4 := hide (H3.out.gr d4.gr))
      | (go_at_call 33; have X := H4.out.get (l := l) (b := b) HT.out rfl; refine X.mono ?_; clear X; rintro e _ ⟨rfl, d5, rfl⟩; have H5 := hide (H4.out.gr d5.gr))
      | (go_at_call 34; have X := H5.out.getOf (l := l) (b := b) HT.out c2; refine X.mono ?_; clear X; rintro e _ ⟨rfl, d6, rfl⟩; have H6 := hide (H5.out.gr d6.gr))
      | (go_at_call 35; have X := H6.out.look (a := a) HT.out rfl; refine X.mono ?_; clear X; rintro e _ ⟨rfl, d7, rfl⟩; have H7 := hide (H6.out.gr d7.gr))
      | (go_at_call 36; have X := H7.out.rlook (a := a) HT.out rfl c2; refine X.mono ?_; clear X; rintro e _ ⟨rfl, d8, rfl⟩; have H8 := hide (H7.out.gr d8.gr))
      | (go_at_call 38; have X := H8.out.all HT.out; refine X.mono ?_; clear X; rintro e w9 ⟨g9, rfl, hg9, hc9, d9, hd9⟩; have H9 := hide (show St d1.out w9 tb rs ro rs by rw [hd9]; exact H8.out.gr d9.gr); have C9 := hide hc9; clear hc9 hd9)
      | (go_at_call 39; have X := H9.out.allOf HT.out c2; refine X.mono ?_; clear X; rintro e w10 ⟨g10, rfl, hg10, hc10, d10, hd10⟩; have H10 := hide (show St d1.out w10 tb rs ro rs by rw [hd10]; exact H9.out.gr d10.gr); have X11 := hide (same_all d10 hd10 hg9 C9.out hg10 hc10); clear hc10 hd10)
      | (go_at_call 37; have X := X11.out; refine X.mono ?_; clear X; rintro e _ ⟨rfl, d11, rfl⟩; have H11 := hide (H10.out.gr d11.gr))
      | (go_at_call 40; have X := hop_any a d11.out; refine X.mono ?_; clear X; rintro e _ ⟨rfl, d12, rfl⟩; have H12 := hide (H11.out.gr d12.gr))
      | (go_at_call 41; have X := isHop_any a d12.out; refine X.mono ?_; clear X; rintro e _ ⟨rfl, d13, rfl⟩; have H13 := hide (H12.out.gr d13.gr))
      | fail)
    all_goals
      go_wp2
      go_meet
      case rel => exact ⟨by simp, H13.out⟩
  case rest =>
    obtain ⟨rfl, HS⟩ := hcut
    have GC := hide (HS.out.gr0 (g0.ext d1))
    have HR0 := hide ((HRW.out d1).gr HS.out.old)
    clear HB HK HS HTB HRW
    obtain ⟨code, hcode⟩ : ∃ code, chkL raws = code := ⟨_, rfl⟩
    have HCD := hide hcode
    have HF1 := hide (fun (wX : World) (hx : RowAt wX N2 bo raws) => hcode ▸ rfault_any wX N2 bo raws.length c' raws hx rfl)
    have HF3 := hide (fun (wX : World) (hx : RowAt wX N2 bo raws) => hcode ▸ check2_any wX N2 bo raws.length c' raws hx rfl)
    by_cases hc0 : code = 0
    · subst hc0
      have HTR := hide (chk_tab hcode)
      have HF2 := hide (fun (wX : World) (hx : RowAt wX N2 bo raws) => of_any wX N2 bo raws.length c' raws hx rfl hcode)
      have hmr : raws.length ≤ 1000 := by have := HTR.out.len; omega
      clear hcode
      go_wp2_with (first
        | (go_at_call 42; have X := HF1.out _ HR0.out; refine X.mono ?_; clear X; rintro e _ ⟨rfl, d3, rfl⟩; have HR3 := hide (HR0.out.gr d3.gr); have G3 := hide (GC.out.ext d3))
        | (go_at_call 43; have X := HF2.out _ HR3.out; refine X.mono ?_; clear X; rintro e w4 ⟨tb2, v2, rfl, S2, d4, hd4⟩; have g34 := hide (show Gr d3.out w4 by rw [hd4]; exact d4.gr); have HU := hide (show St d3.out w4 tb2 raws bo raws from ⟨⟨_, v2, S2, (HR3.out.mono (fun k hk _ => hk)).gr g34.out, fun k hk => hk⟩, g34.out⟩); clear S2 hd4)
        | (go_at_call 44; have X := HF3.out w4 (HR3.out.gr g34.out); refine X.mono ?_; clear X; rintro e _ ⟨rfl, d5, rfl⟩; have HU5 := hide (HU.out.gr d5.gr))
        | (go_at_call 32; have X := HU5.out.list HTR.out; refine X.mono ?_; clear X; rintro e _ ⟨aw, c6, rfl, L1, L2, d6, rfl⟩; have HL1 := hide L1; have HL2 := hide L2; clear L1 L2)
        | (go_at_call 31; have X := HL1.out.same HL2.out c6 c' hmr; refine X.mono ?_; clear X; rintro e _ ⟨rfl, d7, rfl⟩; have HU7 := hide (HL2.out.gr d7.gr))
        | (go_at_call 38; have X := HU7.out.all HTR.out; refine X.mono ?_; clear X; rintro e w8 ⟨g8, rfl, hg8, hc8, d8, hd8⟩; have HU8 := hide (show St d3.out w8 tb2 raws bo raws by rw [hd8]; exact HU7.out.gr d8.gr); have C8 := hide hc8; clear hc8 hd8)
        | (go_at_call 39; have X := HU8.out.allOf HTR.out c'; refine X.mono ?_; clear X; rintro e w9 ⟨g9, rfl, hg9, hc9, d9, hd9⟩; have HU9 := hide (show St d3.out w9 tb2 raws bo raws by rw [hd9]; exact HU8.out.gr d9.gr); have X10 := hide (same_all d9 hd9 hg8 C8.out hg9 hc9); clear hc9 hd9)
        | (go_at_call 37; have X := X10.out; refine X.mono ?_; clear X; rintro e _ ⟨rfl, d10, rfl⟩))
      go_ret
      exact ⟨rfl, ext_mk ((HU9.out.gr0 G3.out).ext d10)⟩
    · have HF2 := hide (fun (wX : World) (hx : RowAt wX N2 bo raws) => (show Calls Try.prog 43 #[.slice bo raws.length c'] wX fun e w' => e = .returned (.tuple #[.pointer none, .int .i64 code]) ∧ ∃ d : Ext wX, w' = d.out from hcode ▸ of_not wX N2 bo raws.length c' raws hx rfl (hcode ▸ hc0)))
      have hcb : (code == 0) = false := by simpa using hc0
      clear hcode
      go_wp2_with (first
        | (go_at_call 42; have X := HF1.out _ HR0.out; refine X.mono ?_; clear X; rintro e _ ⟨rfl, d3, rfl⟩; have HR3 := hide (HR0.out.gr d3.gr))
        | (go_at_call 43; have X := HF2.out _ HR3.out; refine X.mono ?_; clear X; rintro e _ ⟨rfl, d4, rfl⟩; have HR4 := hide (HR3.out.gr d4.gr))
        | (go_at_call 44; have X := HF3.out _ HR4.out; refine X.mono ?_; clear X; rintro e _ ⟨rfl, d5, rfl⟩))
      go_ret
      exact ⟨rfl, ext_mk (((GC.out.ext d3).ext d4).ext d5)⟩

end Go.Proofs.Ytajcdfnfbmahdaa
