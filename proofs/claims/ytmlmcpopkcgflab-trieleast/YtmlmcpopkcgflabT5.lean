/- CONTRACTS OF trie.Leaves AND OF handpostref.LeavesOf: the leaves, from the left, in new memory. -/
import Derived.Test.YtmlmcpopkcgflabT4
namespace Go.Proofs.Ytmlmcpopkcgflab
open Go.RowKit
attribute [local go_sem] Ext.all Ext.cell Ext.frozen Ext.lt Ext.lt1 Ext.lt2 Ext.ne Ext.ne'

theorem leaves_any {w : World} {T : TT} {q : Nat} (h : Tr w T q) (hm : T.leaves.length ≤ 1000) :
    Calls Try.prog 23 #[pv q] w fun e w' => ∃ v, e = .returned v ∧ Own w w' v T.leaves ∧ Gr w w' := by
  have HB := hide (behind_any w T q w (.slice none 0 0) [] h (Gr.refl w) (Own.nil w w) (by simpa using hm))
  clear h hm
  go_enter Try.func23, Try.ntmps23
  go_wp2_with (go_at_call 46; refine HB.out.mono ?_; rintro e w1 ⟨v1, rfl, g1, o1⟩; have G1 := hide g1; have O1 := hide o1; clear g1 o1)
  go_ret
  exact ⟨_, rfl, O1.out, G1.out⟩

theorem Own.mono {A B w : World} {v : Value} {rs : List Rt} (h : Own B w v rs) (g : Gr A B) : Own A w v rs := by
  have hs := Below.size g
  refine ⟨h.1, ?_⟩
  rcases h.2 with hn | ⟨g', cap, cur, rfl, hb, rest⟩
  · exact .inl hn
  · exact .inr ⟨g', cap, cur, rfl, by omega, rest⟩
theorem own_one {B X : World} (g : Gr B X) (l b h : Int) : Own B (X.alloc (.cells #[iv l, iv b, iv h] 35)) (.slice (some ⟨X.heap.size, 0, none⟩) 1 1) [(l, b, h)] :=
  ⟨rfl, .inr ⟨X.heap.size, 1, _, rfl, Below.size g, heap_alloc_new X _, Nat.le_refl _, by unfold maxLen; decide, rfl, rfl⟩⟩

theorem wrap_in (x : Int) (h : -1000 ≤ x) (k : x ≤ 1000) : IntKind.i64.wrap x = x := by
  rw [IntKind.wrap_i64]; omega

theorem lv_leaf (f : Nat → Int) (g : Nat) (k : Nat) (l b : Int) (o n c : Nat) (w : World) (hn : 2 ^ k = n) (hm : n ≤ 256) (H : Nums w g o n f) (hk : Alk f o n) :
    Calls Try.prog 20 #[pfx l b, .slice (some ⟨g, o, none⟩) n c] w fun e w' => ∃ v, e = .returned v ∧ Own w w' v (tri f k l b o).leaves ∧ Gr w w' := by
  have h0 : 0 < n := by rw [← hn]; exact Nat.pow_pos (by decide)
  have c0 := H.2 0 h0
  have hg := H.1
  rw [Nat.add_zero] at c0
  rw [tri_alk (show Alk f o (2 ^ k) by rw [hn]; exact hk), TT.leaves]
  obtain ⟨W, hW, gW, b0, b1, s0⟩ := pbox_gr w l b
  have HA := hide (ralike_any W g o n c f (H.gr gW) h0 hm)
  rw [decide_eq_true hk] at HA
  rw [← Below.cell gW (p := ⟨g, o, none⟩) hg] at c0
  have hg2 : g < W.heap.size := Nat.lt_of_lt_of_le hg (Below.size gW)
  have HW := hide hW
  clear hW H hk
  go_enter Try.func20, Try.ntmps20
  go_wp2_with (go_at_call 45; rw [← HW.out]; refine HA.out.mono ?_; rintro e _ ⟨rfl, d1, rfl⟩)
  go_region
  all_goals
    go_wp2
    go_ret
    refine ⟨_, rfl, own_one (gW.ext d1).drew l b (f o), (gW.ext d1).drew.alloc _⟩

set_option maxHeartbeats 1000000 in
theorem leavesOf_any (f : Nat → Int) (g : Nat) : ∀ (k : Nat) (l b : Int) (o n c : Nat) (w : World), Sp k l b o → 2 ^ k = n → n ≤ c → Nums w g o n f →
    Calls Try.prog 20 #[pfx l b, .slice (some ⟨g, o, none⟩) n c] w fun e w' => ∃ v, e = .returned v ∧ Own w w' v (tri f k l b o).leaves ∧ Gr w w' := by
  intro k
  induction k with
  | zero =>
    intro l b o n c w hS hn hc H
    refine lv_leaf f g 0 l b o n c w hn (by have := hS.top; omega) H ?_
    rw [← hn]; exact alk_one f o
  | succ k ih =>
    intro l b o n c w hS hn hc H
    by_cases hk : Alk f o n
    · exact lv_leaf f g (k + 1) l b o n c w hn (by have := hS.top; omega) H hk
    · rw [tri_not (show ¬ Alk f o (2 ^ (k + 1)) by rw [hn]; exact hk), TT.leaves]
      have hm : n ≤ 256 := by have := hS.top; omega
      obtain ⟨m, hmk⟩ : ∃ m, 2 ^ k = m := ⟨_, rfl⟩
      have hnm : n = m + m := by rw [← hn, ← hmk, Nat.pow_succ]; omega
      have h0 : 0 < m := by rw [← hmk]; exact Nat.pow_pos (by decide)
      have hg := H.1
      obtain ⟨bl0, bl8, bb0, bb8⟩ := hS.bd
      obtain ⟨W, hW, gW, b0, b1, s0⟩ := pbox_gr w l b
      have HA := hide (ralike_any W g o n c f (H.gr gW) (by omega) hm)
      rw [decide_eq_false hk] at HA
      have H1 := hide (fun (wX : World) (gX : Gr W wX) => ih (l + 1) (b * 2) o m c wX hS.low hmk (by omega) ((H.low (by omega)).gr (gW.trans gX)))
      have H2 := hide (fun (wX : World) (gX : Gr W wX) => ih (l + 1) (b * 2 + 1) (o + m) m (c - m) wX (hmk ▸ hS.high) hmk (by omega) ((H.high (by omega)).gr (gW.trans gX)))
      have HW := hide hW
      have L1 : (tri f k (l + 1) (b * 2) o).leaves.length ≤ 256 := by have := (chn_tri (f := f) hS.low).length; have := hS.low.top; omega
      have L2 : 0 < (tri f k (l + 1) (b * 2 + 1) (o + m)).leaves.length ∧ (tri f k (l + 1) (b * 2 + 1) (o + m)).leaves.length ≤ 256 := by
        have hh := hS.high
        rw [hmk] at hh
        have h1 := chn_tri (f := f) hh
        have h2 := h1.length
        have h3 := hh.top
        refine ⟨?_, by omega⟩
        rcases Nat.eq_zero_or_pos (tri f k (l + 1) (b * 2 + 1) (o + m)).leaves.length with e | e
        · rw [List.eq_nil_of_length_eq_zero e] at h1
          have h4 : ((o + m : Nat) : Int) = ((o + m + 2 ^ k : Nat) : Int) := h1
          omega
        · exact e
      rw [hmk]
      clear hW H hk hn hmk ih hS
      subst hnm
      have e1 : ((m : Int) + (m : Int)) / 2 = m := by omega
      have hcc : (m : Int) ≤ c := by omega
      have hmm : (m : Int) ≤ (m : Int) + m := by omega
      have hcm : ¬ c = m := by omega
      have wl := wrap_in (l + 1) (by omega) (by omega)
      have wb := wrap_in (b * 2) (by omega) (by omega)
      have wc := wrap_in (b * 2 + 1) (by omega) (by omega)
      generalize (tri f k (l + 1) (b * 2) o).leaves = A at *
      generalize (tri f k (l + 1) (b * 2 + 1) (o + m)).leaves = Z at *
      have HK := hide (fun (wX : World) (gX : Gr W wX) => (show wX.cell? ⟨w.heap.size, 0, none⟩ = some (iv l) ∧ wX.cell? ⟨w.heap.size, 1, none⟩ = some (iv b) from ⟨(Below.cell gX (p := ⟨w.heap.size, 0, none⟩) s0).trans b0, (Below.cell gX (p := ⟨w.heap.size, 1, none⟩) s0).trans b1⟩))
      go_enter Try.func20, Try.ntmps20
      go_upto_region 4 with (first
        | (go_at_call 45; rw [← HW.out]; refine HA.out.mono ?_; rintro e _ ⟨rfl, d1, rfl⟩))
      refine wp_gen (fun X => Gr W X) d1.gr ?_
      intro X gX
      obtain ⟨x0, x1⟩ := HK.out X gX
      have gD := hide gX.drew
      clear b0 b1 HA HW
      go_wp2_with fail
      go_region_held3 (fun w' => w'.cell? ⟨w.heap.size, 0, none⟩ = some (iv l) ∧ w'.cell? ⟨w.heap.size, 1, none⟩ = some (iv b)) (first | exact HK.out _ G1.out | exact HK.out _ gD.out | go_keep)
        (first
        | (go_at_call 20; with_reducible refine (H1.out _ gD.out).mono ?_; rintro e w1 ⟨v1, rfl, o1, g1⟩; have G1 := hide (gD.out.trans g1); have O1 := hide (o1.mono gD.out); clear g1 o1)
        | fail)
      all_goals
        go_upto_region 5 with (fail)
        clear x0 x1
        obtain ⟨x0, x1⟩ := HK.out _ G1.out
        have gE := hide G1.out.drew
        have OE := hide (O1.out.gr (Gr.refl _).drew)
        go_wp2_with fail
        go_region_held3 (fun w' => w'.cell? ⟨w.heap.size, 0, none⟩ = some (iv l) ∧ w'.cell? ⟨w.heap.size, 1, none⟩ = some (iv b)) (first | exact HK.out _ G3.out | exact HK.out _ G2.out | exact HK.out _ gE.out | go_keep)
          (first
          | (go_at_call 20; with_reducible refine (H2.out _ gE.out).mono ?_; rintro e w2 ⟨v2, rfl, o2, g2⟩; have G2 := hide (gE.out.trans g2); obtain ⟨ao2, c2, hv2, hc2, R2⟩ := o2.shape; subst hv2; obtain ⟨v3, w3, hrun, hown, hgr⟩ := run_app (c := c2) 22 (OE.out.gr g2) G2.out R2 rfl L2.1 (by omega); have HR := hide hrun; have HOW := hide hown; have G3 := hide hgr; clear g2 o2 R2 hrun hown hgr)
          | (refine step_append_eq rfl (.tmp 29) (.tmp 41) 22 22 rfl v1 (.slice ao2 Z.length c2) rfl rfl (v' := v3) (w' := w3) HR.out ?_)
          | fail)
        all_goals
          go_wp2
          go_ret
          exact ⟨_, rfl, HOW.out.mono gW, gW.trans G3.out⟩

end Go.Proofs.Ytmlmcpopkcgflab
