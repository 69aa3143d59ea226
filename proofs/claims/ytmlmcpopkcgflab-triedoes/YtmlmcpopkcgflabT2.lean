/- CONTRACTS OF package trie: Size, Look; of slices.Equal at 256 numbers. -/
import Derived.Test.YtmlmcpopkcgflabT1
import Derived.Deep.LoopGhost
namespace Go.Proofs.Ytmlmcpopkcgflab
open Go.RowKit
attribute [local go_sem] Ext.all Ext.cell Ext.frozen Ext.lt Ext.lt1 Ext.lt2 Ext.ne Ext.ne'

theorem size_any : ∀ (T : TT) (w : World) (q : Nat), Tr w T q → T.leaves.length ≤ 1000 →
    Calls Try.prog 24 #[pv q] w fun e w' => e = .returned (.int .i64 T.leaves.length) ∧ ∃ d : Ext w, w' = d.out
  | .leaf l b hp, w, q, h, hm => by
    have HL := hide (leaf_any h)
    clear h
    go_enter Try.func24, Try.ntmps24
    go_wp2_with (go_at_call 31; refine HL.out.mono ?_; rintro e _ ⟨rfl, d1, rfl⟩)
    go_ret
    exact ⟨rfl, _, rfl⟩
  | .node l b lo hi, w, q, h, hm => by
    have HL := hide (leaf_any h)
    have hq := h.lt
    obtain ⟨x, y, c3, c4, hlo, hhi⟩ := h.nodec
    have hm2 : lo.leaves.length + hi.leaves.length ≤ 1000 := by simpa [TT.leaves] using hm
    have H1 := hide (fun (d : Ext w) => size_any lo d.out x (hlo.gr d.gr) (by omega))
    have H2 := hide (fun (d : Ext w) => size_any hi d.out y (hhi.gr d.gr) (by omega))
    have HE : Hid ((TT.node l b lo hi).leaves.length = lo.leaves.length + hi.leaves.length) := by unfold Hid; simp [TT.leaves]
    clear h hlo hhi hm
    generalize lo.leaves.length = n1 at *
    generalize hi.leaves.length = n2 at *
    go_enter Try.func24, Try.ntmps24
    go_wp2_with (go_at_call 31; refine HL.out.mono ?_; rintro e _ ⟨rfl, d1, rfl⟩)
    refine wp_region_ext_of (by kernel_rfl) (by kernel_rfl) ?_
    repeat (go_big_quiet_step (first | (go_at_call 24; with_reducible exact Calls.ext_of (H1.out _)) | (go_at_call 24; with_reducible exact Calls.ext_of (H2.out _))))
    refine wpQuiet_nil ?_
    rintro _ ⟨d2, rfl⟩
    go_wp2
    go_ret
    exact ⟨ret_int (by rw [HE.out]; omega), _, rfl⟩

theorem look_step (l b : Int) (lo hi : TT) (a : Int) (h : hasB l b a = true) (v : Bool) (hv : hasB lo.len lo.bits a = v) : (TT.node l b lo hi).look a = (if v then lo else hi).look a := by
  subst hv
  rw [TT.look, if_pos h]
  cases hasB lo.len lo.bits a <;> rfl
theorem depth_half (lo hi : TT) (v : Bool) (l b : Int) : (if v then lo else hi).depth < (TT.node l b lo hi).depth := by
  rw [TT.depth]
  cases v
  · show hi.depth < _; omega
  · show lo.depth < _; omega
theorem Tr.half {w : World} {lo hi : TT} {x y : Nat} (h1 : Tr w lo x) (h2 : Tr w hi y) (v : Bool) : Tr w (if v then lo else hi) (if v then x else y) := by
  cases v
  · exact h2
  · exact h1

theorem tlook_any (T : TT) (w : World) (q : Nat) (a : Int) (h : Tr w T q) :
    Calls Try.prog 25 #[pv q, .int .i64 a] w fun e w' => e = .returned (.int .i64 (T.look a)) ∧ ∃ d : Ext w, w' = d.out := by
  go_enter Try.func25, Try.ntmps25
  go_wp2_with fail
  go_loopg [0] T.depth (fun k p wr => ∃ (T' : TT) (q' : Nat), T'.depth ≤ k ∧ p = pv q' ∧ Hid (Tr w T' q') ∧ Hid (T'.look a = T.look a) ∧ Gr w wr)
  case atStart => exact ⟨T, q, Nat.le_refl _, rfl, h, rfl, Gr.refl _⟩
  case round =>
    clear h
    obtain ⟨T', q', hd, rfl, HT, HK, g⟩ := hrel
    obtain ⟨d, rfl⟩ := ext_mk g
    have hq := HT.out.lt
    obtain ⟨c0, c1, c2⟩ := HT.out.cells
    have HLf := hide (fun (d : Ext w) => leaf_is HT.out rfl d)
    cases hh : hasB T'.len T'.bits a
    · have HH := hide hh
      have HR : Hid (-1 = T.look a) := by
        unfold Hid
        rw [← HK.out]
        cases T' with
        | leaf l b hp => rw [TT.look, if_neg (by rw [show hasB l b a = false from hh]; simp)]
        | node l b lo hi => rw [TT.look, if_neg (by rw [show hasB l b a = false from hh]; simp)]
      clear hh HK HT HLf
      go_wp2_with (go_at_call 38; with_reducible refine (Calls.ext_of (has_is HH.out _)).mono ?_; rintro e _ ⟨rfl, d1, rfl⟩)
      go_ret
      exact ⟨ret_int HR.out, _, rfl⟩
    · have HH := hide hh
      cases T' with
      | leaf l b hp =>
        have HR : Hid (hp = T.look a) := by
          unfold Hid
          rw [← HK.out, TT.look, if_pos (show hasB l b a = true from hh)]
        clear hh HK HT
        go_wp2_with (first
          | (go_at_call 38; with_reducible refine (Calls.ext_of (has_is HH.out _)).mono ?_; rintro e _ ⟨rfl, d1, rfl⟩)
          | (go_at_call 31; refine (HLf.out d1).mono ?_; rintro e _ ⟨rfl, d2, rfl⟩))
        go_ret
        exact ⟨ret_int HR.out, _, rfl⟩
      | node l b lo hi =>
        obtain ⟨x, y, c3, c4, hlo, hhi⟩ := HT.out.nodec
        obtain ⟨v, hv⟩ : ∃ v, hasB lo.len lo.bits a = v := ⟨_, rfl⟩
        have HHf := hide (fun (d : Ext w) => half_any a ((d.cell q' 3 hq).trans c3) ((d.cell q' 4 hq).trans c4) (hlo.gr d.gr) v hv)
        have HN := hide (Tr.half hlo hhi v)
        have HK2 := hide ((look_step l b lo hi a hh v hv).symm.trans HK.out)
        have HD := hide (depth_half lo hi v l b)
        generalize (if v = true then lo else hi) = N at HN HK2 HD
        generalize (if v = true then x else y) = z at HN HHf
        clear hh HK HT hlo hhi hv
        go_wp2_with (first
          | (go_at_call 38; with_reducible refine (Calls.ext_of (has_is HH.out _)).mono ?_; rintro e _ ⟨rfl, d1, rfl⟩)
          | (go_at_call 31; refine (HLf.out d1).mono ?_; rintro e _ ⟨rfl, d2, rfl⟩)
          | (go_at_call 47; refine (Calls.ext_of (HHf.out d2)).mono ?_; rintro e _ ⟨rfl, d3, rfl⟩))
        go_roundg N.depth
        case rel => exact ⟨_, _, Nat.le_refl _, rfl, HN.out, HK2.out, d3.gr⟩
        case measure => exact Nat.lt_of_lt_of_le HD.out hd

set_option maxRecDepth 20000 in
theorem equal_any (w : World) (g1 g2 : Nat) (f g : Nat → Int) (H : Nums w g1 0 256 f) (K : Nums w g2 0 256 g) (c1' c2' : Nat) :
    Calls Try.prog 48 #[.slice (some ⟨g1, 0, none⟩) 256 c1', .slice (some ⟨g2, 0, none⟩) 256 c2'] w fun e w' => e = .returned (.bool (decide (∀ j : Nat, j < 256 → f j = g j))) ∧ ∃ d : Ext w, w' = d.out := by
  obtain ⟨h1, HH0⟩ := H
  obtain ⟨h2, HK0⟩ := K
  have HH : Hid (∀ j : Nat, j < 256 → w.cell? ⟨g1, j, none⟩ = some (iv (f j))) := fun j hj => by have := HH0 j hj; simpa using this
  have HK : Hid (∀ j : Nat, j < 256 → w.cell? ⟨g2, j, none⟩ = some (iv (g j))) := fun j hj => by have := HK0 j hj; simpa using this
  clear HH0 HK0
  obtain ⟨v, hv⟩ : ∃ v, v = decide (∀ j : Nat, j < 256 → f j = g j) := ⟨_, rfl⟩
  rw [← hv]
  have HV := hide hv
  clear hv
  go_enter Try.func48, Try.ntmps48
  go_wp2
  go_loopw [5, 13] (fun _ i wr => ∃ k : Nat, k ≤ 256 ∧ i = .int .i64 k ∧ Hid (∀ j : Nat, j < k → f j = g j) ∧ Gr w wr) (fun _ i _ => 256 - (intOf i).toNat)
  case atStart => exact ⟨0, by omega, rfl, (fun j hj => by omega), Gr.refl _⟩
  case round =>
    obtain ⟨k, hk, rfl, HE, gg⟩ := hrel
    obtain ⟨d, rfl⟩ := ext_mk gg
    by_cases hlt : k < 256
    · have c1 := HH.out k hlt
      have c2 := HK.out k hlt
      have hkb : (k : Int) < 256 := by omega
      by_cases he : f k = g k
      · have hb : (f k != g k) = false := by simpa using he
        have HX : Hid (∀ j : Nat, j < k + 1 → f j = g j) := fun j hj => by
          rcases Nat.lt_or_eq_of_le (Nat.le_of_lt_succ hj) with h | h
          · exact HE.out j h
          · rw [h]; exact he
        clear he
        go_wp2_with fail
        refine wp_region_ext_of (by kernel_rfl) (by kernel_rfl) ?_
        repeat (go_big_quiet_step (fail))
        refine wpQuiet_nil ?_
        rintro _ ⟨d1, rfl⟩
        go_wp2
        go_roundw
        case rel => exact ⟨k + 1, by omega, by go_num, HX, d1.gr⟩
        case measure => simp [intOf]; omega
      · have hb : (f k != g k) = true := by simpa using he
        have HX : Hid (v = false) := by unfold Hid; rw [HV.out]; exact decide_eq_false fun q => he (q k hlt)
        clear he
        go_wp2_with fail
        refine wp_region_ext_of (by kernel_rfl) (by kernel_rfl) ?_
        repeat (go_big_quiet_step (fail))
        refine wpQuiet_nil ?_
        rintro _ ⟨d1, rfl⟩
        go_wp2
        go_ret
        exact ⟨ret_bool HX.out.symm, _, rfl⟩
    · have : k = 256 := by omega
      subst this
      have HX : Hid (v = true) := by unfold Hid; rw [HV.out]; exact decide_eq_true HE.out
      clear HE
      go_wp2
      go_ret
      exact ⟨ret_bool HX.out.symm, _, rfl⟩

end Go.Proofs.Ytmlmcpopkcgflab
