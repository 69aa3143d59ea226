import Derived.Test.YtimbgijpeomfcacGreatDoorTMem
import Derived.Deep.RegionHeld3
import Derived.Deep.DeepCutAuto
/- CONTRACTS OF package trie: Leaf, alike. -/
namespace Go.Proofs.YtimbgijpeomfcacGreatDoor
open Go.RowKit
attribute [local go_sem] Ext.all Ext.cell Ext.frozen Ext.lt Ext.lt1 Ext.lt2 Ext.ne Ext.ne'

theorem leaf_any {w : World} {T : TT} {q : Nat} (h : Tr w T q) :
    Calls Tryz.prog 65 #[pv q] w fun e w' => e = .returned (.bool T.isLeaf) ∧ ∃ d : Ext w, w' = d.out := by
  cases T with
  | leaf l b hp =>
    obtain ⟨c3, c4⟩ := h.leafc
    clear h
    go_enter Tryz.func65, Tryz.ntmps65
    go_wp2
    go_ret
    exact ⟨rfl, ext_mk (Gr.refl _)⟩
  | node l b lo hi =>
    obtain ⟨x, y, c3, c4, _, _⟩ := h.nodec
    clear h
    go_enter Tryz.func65, Tryz.ntmps65
    go_wp2
    go_ret
    exact ⟨rfl, ext_mk (Gr.refl _)⟩
theorem leaf_is {w : World} {T : TT} {q : Nat} {v : Bool} (h : Tr w T q) (e : T.isLeaf = v) (d : Ext w) :
    Calls Tryz.prog 65 #[pv q] d.out fun e w' => e = .returned (.bool v) ∧ ∃ d' : Ext w, w' = d'.out := by
  subst e
  exact Calls.ext_of (leaf_any (h.gr d.gr))

theorem leaf_as {w : World} {T : TT} {q : Nat} {v : Bool} (h : Tr w T q) (e : T.isLeaf = v) :
    Calls Tryz.prog 65 #[pv q] w fun e w' => e = .returned (.bool v) ∧ ∃ d : Ext w, w' = d.out := by
  subst e
  exact leaf_any h

/-- Cells of numbers. -/
def Nums (w : World) (g o n : Nat) (f : Nat → Int) : Prop := g < w.heap.size ∧ ∀ j : Nat, j < n → w.cell? ⟨g, o + j, none⟩ = some (iv (f (o + j)))
theorem Nums.gr {w w' : World} {g o n : Nat} {f : Nat → Int} (h : Nums w g o n f) (k : Gr w w') : Nums w' g o n f :=
  ⟨Nat.lt_of_lt_of_le h.1 (Below.size k), fun j hj => (Below.cell k (p := ⟨g, o + j, none⟩) h.1).trans (h.2 j hj)⟩
theorem Nums.low {w : World} {g o n m : Nat} {f : Nat → Int} (h : Nums w g o n f) (hm : m ≤ n) : Nums w g o m f := ⟨h.1, fun j hj => h.2 j (by omega)⟩
theorem Nums.high {w : World} {g o n m : Nat} {f : Nat → Int} (h : Nums w g o n f) (hm : m + m ≤ n) : Nums w g (o + m) m f :=
  ⟨h.1, fun j hj => by rw [Nat.add_assoc]; exact h.2 (m + j) (by omega)⟩

set_option maxRecDepth 20000 in
theorem alike_any (w : World) (g o n c : Nat) (f : Nat → Int) (H : Nums w g o n f) (h0 : 0 < n) (hm : n ≤ 256) :
    Calls Tryz.prog 67 #[.slice (some ⟨g, o, none⟩) n c] w fun e w' => e = .returned (.bool (decide (Alk f o n))) ∧ ∃ d : Ext w, w' = d.out := by
  obtain ⟨hg, HC⟩ := H
  have c0 := HC 0 h0
  rw [Nat.add_zero] at c0
  have HCh := hide HC
  clear HC
  go_enter Tryz.func67, Tryz.ntmps67
  go_wp2
  go_loopw [4, 7] (fun _ i wr => ∃ k : Nat, k ≤ n ∧ i = .int .i64 k ∧ Hid (∀ j : Nat, j < k → f (o + j) = f o) ∧ Gr w wr) (fun _ i _ => n - (intOf i).toNat)
  case atStart => exact ⟨0, by omega, rfl, (fun j hj => by omega), Gr.refl _⟩
  case round =>
    obtain ⟨k, hk, rfl, HE, gg⟩ := hrel
    obtain ⟨d, rfl⟩ := ext_mk gg
    by_cases hlt : k < n
    · have c1 := HCh.out k hlt
      by_cases he : f (o + k) = f o
      · have hb : (f (o + k) != f o) = false := by simpa using he
        have HX : Hid (∀ j : Nat, j < k + 1 → f (o + j) = f o) := fun j hj => by
          rcases Nat.lt_or_eq_of_le (Nat.le_of_lt_succ hj) with h | h
          · exact HE.out j h
          · rw [h]; exact he
        clear he
        go_wp2
        go_roundw
        case rel => exact ⟨k + 1, by omega, by go_num, HX, d.gr⟩
        case measure => simp [intOf]; omega
      · have hb : (f (o + k) != f o) = true := by simpa using he
        have HX : Hid (decide (Alk f o n) = false) := decide_eq_false fun q => he (q k hlt)
        clear he
        go_wp2
        go_ret
        exact ⟨ret_bool HX.out.symm, _, rfl⟩
    · have HX : Hid (decide (Alk f o n) = true) := decide_eq_true fun j hj => HE.out j (by omega)
      clear HE
      go_wp2
      go_ret
      exact ⟨ret_bool HX.out.symm, _, rfl⟩

end Go.Proofs.YtimbgijpeomfcacGreatDoor

/- CONTRACT OF slices.Equal at 256 numbers. -/
namespace Go.Proofs.YtimbgijpeomfcacGreatDoor
open Go.RowKit
attribute [local go_sem] Ext.all Ext.cell Ext.frozen Ext.lt Ext.lt1 Ext.lt2 Ext.ne Ext.ne'

set_option maxRecDepth 20000 in
theorem equal_any (w : World) (g1 g2 : Nat) (f g : Nat → Int) (H : Nums w g1 0 256 f) (K : Nums w g2 0 256 g) (c1' c2' : Nat) :
    Calls Tryz.prog 40 #[.slice (some ⟨g1, 0, none⟩) 256 c1', .slice (some ⟨g2, 0, none⟩) 256 c2'] w fun e w' => e = .returned (.bool (decide (∀ j : Nat, j < 256 → f j = g j))) ∧ ∃ d : Ext w, w' = d.out := by
  obtain ⟨h1, HH0⟩ := H
  obtain ⟨h2, HK0⟩ := K
  have HH : Hid (∀ j : Nat, j < 256 → w.cell? ⟨g1, j, none⟩ = some (iv (f j))) := fun j hj => by have := HH0 j hj; simpa using this
  have HK : Hid (∀ j : Nat, j < 256 → w.cell? ⟨g2, j, none⟩ = some (iv (g j))) := fun j hj => by have := HK0 j hj; simpa using this
  clear HH0 HK0
  obtain ⟨v, hv⟩ : ∃ v, v = decide (∀ j : Nat, j < 256 → f j = g j) := ⟨_, rfl⟩
  rw [← hv]
  have HV := hide hv
  clear hv
  go_enter Tryz.func40, Tryz.ntmps40
  go_wp2
  go_loopw [5, 13] (fun _ i wr => ∃ k : Nat, k ≤ 256 ∧ i = .int .i64 k ∧ Hid (∀ j : Nat, j < k → f j = g j) ∧ Gr w wr) (fun _ i _ => 256 - (intOf i).toNat)
  case atStart => exact ⟨0, by omega, rfl, (fun j hj => by omega), Gr.refl _⟩
  case round =>
    obtain ⟨k, hk, rfl, HE, gg⟩ := hrel
    obtain ⟨d, rfl⟩ := ext_mk gg
    by_cases hlt : k < 256
    · have c1 := HH.out k hlt
      have c2 := HK.out k hlt
      have hkb : (k : Int) < 256 := by omega
      by_cases he : f k = g k
      · have hb : (f k != g k) = false := by simpa using he
        have HX : Hid (∀ j : Nat, j < k + 1 → f j = g j) := fun j hj => by
          rcases Nat.lt_or_eq_of_le (Nat.le_of_lt_succ hj) with h | h
          · exact HE.out j h
          · rw [h]; exact he
        clear he
        go_wp2_with fail
        refine wp_region_ext_of (by kernel_rfl) (by kernel_rfl) ?_
        repeat (go_big_quiet_step (fail))
        refine wpQuiet_nil ?_
        rintro _ ⟨d1, rfl⟩
        go_wp2
        go_roundw
        case rel => exact ⟨k + 1, by omega, by go_num, HX, d1.gr⟩
        case measure => simp [intOf]; omega
      · have hb : (f k != g k) = true := by simpa using he
        have HX : Hid (v = false) := by unfold Hid; rw [HV.out]; exact decide_eq_false fun q => he (q k hlt)
        clear he
        go_wp2_with fail
        refine wp_region_ext_of (by kernel_rfl) (by kernel_rfl) ?_
        repeat (go_big_quiet_step (fail))
        refine wpQuiet_nil ?_
        rintro _ ⟨d1, rfl⟩
        go_wp2
        go_ret
        exact ⟨ret_bool HX.out.symm, _, rfl⟩
    · have : k = 256 := by omega
      subst this
      have HX : Hid (v = true) := by unfold Hid; rw [HV.out]; exact decide_eq_true HE.out
      clear HE
      go_wp2
      go_ret
      exact ⟨ret_bool HX.out.symm, _, rfl⟩

end Go.Proofs.YtimbgijpeomfcacGreatDoor

/- CONTRACT OF trie.part: the trie of a prefix, out of where its addresses go. -/
namespace Go.Proofs.YtimbgijpeomfcacGreatDoor
open Go.RowKit
attribute [local go_sem] Ext.all Ext.cell Ext.frozen Ext.lt Ext.lt1 Ext.lt2 Ext.ne Ext.ne'

/-- All alike: a leaf. -/
theorem part_leaf (f : Nat → Int) (g : Nat) (k : Nat) (l b : Int) (o n c : Nat) (w : World) (hn : 2 ^ k = n) (hm : n ≤ 256) (H : Nums w g o n f) (hk : Alk f o n) :
    Calls Tryz.prog 49 #[pfx l b, .slice (some ⟨g, o, none⟩) n c] w fun e w' => ∃ q, e = .returned (pv q) ∧ Tr w' (tri f k l b o) q ∧ ∃ d : Ext w, w' = d.out := by
  have h0 : 0 < n := by rw [← hn]; exact Nat.pow_pos (by decide)
  have c0 := H.2 0 h0
  have hg := H.1
  rw [Nat.add_zero] at c0
  rw [tri_alk (show Alk f o (2 ^ k) by rw [hn]; exact hk)]
  obtain ⟨W, hW, gW, b0, b1, s0⟩ := pbox_gr w l b
  have HA := hide (alike_any W g o n c f (H.gr gW) h0 hm)
  rw [decide_eq_true hk] at HA
  rw [← Below.cell gW (p := ⟨g, o, none⟩) hg] at c0
  have hg2 : g < W.heap.size := Nat.lt_of_lt_of_le hg (Below.size gW)
  have HW := hide hW
  clear hW H hk
  go_enter Tryz.func49, Tryz.ntmps49
  go_wp2_with (go_at_call 67; rw [← HW.out]; refine HA.out.mono ?_; rintro e _ ⟨rfl, d1, rfl⟩)
  go_region
  all_goals
    go_wp2
    go_ret
    exact ⟨_, rfl, heap_alloc_new _ _, ext_mk ((gW.ext d1).drew.alloc _)⟩

set_option maxHeartbeats 1000000 in
theorem part_any (f : Nat → Int) (g : Nat) : ∀ (k : Nat) (l b : Int) (o n c : Nat) (w : World), Sp k l b o → 2 ^ k = n → n ≤ c → Nums w g o n f →
    Calls Tryz.prog 49 #[pfx l b, .slice (some ⟨g, o, none⟩) n c] w fun e w' => ∃ q, e = .returned (pv q) ∧ Tr w' (tri f k l b o) q ∧ ∃ d : Ext w, w' = d.out := by
  intro k
  induction k with
  | zero =>
    intro l b o n c w hS hn hc H
    refine part_leaf f g 0 l b o n c w hn (by have := hS.top; omega) H ?_
    rw [← hn]; exact alk_one f o
  | succ k ih =>
    intro l b o n c w hS hn hc H
    by_cases hk : Alk f o n
    · exact part_leaf f g (k + 1) l b o n c w hn (by have := hS.top; omega) H hk
    · rw [tri_not (show ¬ Alk f o (2 ^ (k + 1)) by rw [hn]; exact hk)]
      have hm : n ≤ 256 := by have := hS.top; omega
      obtain ⟨m, hmk⟩ : ∃ m, 2 ^ k = m := ⟨_, rfl⟩
      have hnm : n = m + m := by rw [← hn, ← hmk, Nat.pow_succ]; omega
      have h0 : 0 < m := by rw [← hmk]; exact Nat.pow_pos (by decide)
      have hg := H.1
      obtain ⟨bl0, bl8, bb0, bb8⟩ := hS.bd
      have hl8 : l < 8 := by have := hS.1; omega
      obtain ⟨W, hW, gW, b0, b1, s0⟩ := pbox_gr w l b
      have HA := hide (alike_any W g o n c f (H.gr gW) (by omega) hm)
      rw [decide_eq_false hk] at HA
      have hg2 : g < W.heap.size := Nat.lt_of_lt_of_le hg (Below.size gW)
      have HC0 := hide (fun (d : Ext W) => Calls.ext_of (child_yes0 l b hS.2.1 hl8 d.out))
      have HC1 := hide (fun (wX : World) => child_yes1 l b hS.2.1 hl8 wX)
      have H1 := hide (fun (wX : World) (gX : Gr W wX) => ih (l + 1) (b * 2) o m c wX hS.low hmk (by omega) ((H.low (by omega)).gr (gW.trans gX)))
      have H2 := hide (fun (wX : World) (gX : Gr W wX) => ih (l + 1) (b * 2 + 1) (o + m) m (c - m) wX (hmk ▸ hS.high) hmk (by omega) ((H.high (by omega)).gr (gW.trans gX)))
      have HW := hide hW
      rw [hmk]
      clear hW H hk hn hmk ih hS
      subst hnm
      have e1 : ((m : Int) + (m : Int)) / 2 = m := by omega
      have hcc : (m : Int) ≤ c := by omega
      have hmm : (m : Int) ≤ (m : Int) + m := by omega
      go_enter Tryz.func49, Tryz.ntmps49
      go_upto_region 4 with (first
        | (go_at_call 67; rw [← HW.out]; refine HA.out.mono ?_; rintro e _ ⟨rfl, d1, rfl⟩)
        | (go_at_call 68; with_reducible refine (HC0.out d1).mono ?_; rintro e _ ⟨rfl, d2, rfl⟩))
      refine wp_gen (fun X => Gr W X ∧ d2.out.heap.size < X.heap.size ∧ W.heap.size ≤ d2.out.heap.size ∧ X.cell? ⟨d2.out.heap.size, 0, none⟩ = some (iv (l + 1)) ∧ X.cell? ⟨d2.out.heap.size, 1, none⟩ = some (iv (b * 2))) ⟨d2.gr.alloc _, by simp, Below.size d2.gr, by simp [go_sem], by simp [go_sem]⟩ ?_
      rintro X ⟨gX, sX, sW, x0, x1⟩
      generalize d2.out.heap.size = q at *
      have y0 := (Below.cell gX (p := ⟨w.heap.size, 0, none⟩) s0).trans b0
      have y1 := (Below.cell gX (p := ⟨w.heap.size, 1, none⟩) s0).trans b1
      have s1 : w.heap.size < X.heap.size := by omega
      clear b0 b1 HA HC0 HW
      go_upto_region 6 with (first
        | (go_at_call 68; with_reducible refine (HC1.out _).mono ?_; rintro e _ ⟨rfl, d3, rfl⟩))
      refine wp_gen (fun Y => Gr X Y ∧ d3.out.heap.size < Y.heap.size ∧ X.heap.size ≤ d3.out.heap.size ∧ Y.cell? ⟨d3.out.heap.size, 0, none⟩ = some (iv (l + 1)) ∧ Y.cell? ⟨d3.out.heap.size, 1, none⟩ = some (iv (b * 2 + 1))) ⟨d3.gr.alloc _, by simp, Below.size d3.gr, by simp [go_sem], by simp [go_sem]⟩ ?_
      rintro Y ⟨gY, sY, sZ, z0, z1⟩
      generalize d3.out.heap.size = q2 at *
      have HK := hide (fun (wX : World) (hg : Gr Y wX) => (show (wX.cell? ⟨w.heap.size, 0, none⟩ = some (iv l) ∧ wX.cell? ⟨w.heap.size, 1, none⟩ = some (iv b)) ∧ (wX.cell? ⟨q, 0, none⟩ = some (iv (l + 1)) ∧ wX.cell? ⟨q, 1, none⟩ = some (iv (b * 2))) ∧ (wX.cell? ⟨q2, 0, none⟩ = some (iv (l + 1)) ∧ wX.cell? ⟨q2, 1, none⟩ = some (iv (b * 2 + 1))) from
        ⟨⟨(Below.cell (gY.trans hg) (p := ⟨w.heap.size, 0, none⟩) s1).trans y0, (Below.cell (gY.trans hg) (p := ⟨w.heap.size, 1, none⟩) s1).trans y1⟩, ⟨(Below.cell (gY.trans hg) (p := ⟨q, 0, none⟩) sX).trans x0, (Below.cell (gY.trans hg) (p := ⟨q, 1, none⟩) sX).trans x1⟩, ⟨(Below.cell hg (p := ⟨q2, 0, none⟩) sY).trans z0, (Below.cell hg (p := ⟨q2, 1, none⟩) sY).trans z1⟩⟩))
      have gWY : Hid (Gr W Y) := gX.trans gY
      have g0 := hide (gW.trans gWY.out)
      obtain ⟨⟨a0, a1⟩, ⟨a2, a3⟩, a4, a5⟩ := HK.out Y (Gr.refl Y)
      clear x0 x1 y0 y1 z0 z1 gX gY HC1 sZ sW
      have gD := hide ((Gr.refl Y).drew)
      go_wp2_with fail
      go_region_held3 (fun w' => (w'.cell? ⟨w.heap.size, 0, none⟩ = some (iv l) ∧ w'.cell? ⟨w.heap.size, 1, none⟩ = some (iv b)) ∧ (w'.cell? ⟨q, 0, none⟩ = some (iv (l + 1)) ∧ w'.cell? ⟨q, 1, none⟩ = some (iv (b * 2))) ∧ (w'.cell? ⟨q2, 0, none⟩ = some (iv (l + 1)) ∧ w'.cell? ⟨q2, 1, none⟩ = some (iv (b * 2 + 1)))) (first | exact HK.out _ G2.out | exact HK.out _ G1.out | exact HK.out _ gD.out | go_keep)
        (first
        | (go_at_call 49; with_reducible refine (H1.out _ (gWY.out.trans gD.out)).mono ?_; rintro e w1 ⟨r1, rfl, t1, d1, hd1⟩; have T1 := hide t1; have G1 := hide (show Gr Y w1 by rw [hd1]; exact gD.out.ext d1); clear t1 hd1)
        | (go_at_call 49; with_reducible refine (H2.out _ (gWY.out.trans G1.out)).mono ?_; rintro e w2 ⟨r2, rfl, t2, d2, hd2⟩; have T2 := hide t2; have G2 := hide (show Gr Y w2 by rw [hd2]; exact G1.out.ext d2); have T12 := hide (show Tr w2 _ r1 from Tr.gr (by rw [hd2]; exact d2.gr) T1.out); clear t2 hd2)
        | fail)
      all_goals
        go_wp2
        go_ret
        exact ⟨_, rfl, ⟨r1, r2, heap_alloc_new _ _, Tr.gr ((Gr.refl w2).alloc _) T12.out, Tr.gr ((Gr.refl w2).alloc _) T2.out⟩, ext_mk ((g0.out.trans G2.out).alloc _)⟩

end Go.Proofs.YtimbgijpeomfcacGreatDoor
