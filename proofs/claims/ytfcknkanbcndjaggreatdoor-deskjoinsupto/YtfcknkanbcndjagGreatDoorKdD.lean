import Derived.Test.YtfcknkanbcndjagGreatDoorDkVal
import Derived.Deep.Cut
import Derived.Deep.CutBlock
/- DeskJoins answers true. -/
namespace Go.Proofs.YtfcknkanbcndjagGreatDoor
open Go.RowKit
attribute [local go_sem] Ext.all Ext.cell Ext.frozen Ext.lt Ext.lt1 Ext.lt2 Ext.ne Ext.ne'
theorem fltGo_iff : ∀ (ls : List Tx) (i : Nat), (fltGo ls i = (0, 0) ↔ ∀ y ∈ ls, (10 : UInt8) ∉ y) ∧ ((fltGo ls i).1 = 0 → fltGo ls i = (0, 0))
  | [], i => by simp [fltGo]
  | a :: r, i => by
    obtain ⟨h1, h2⟩ := fltGo_iff r (i + 1)
    unfold fltGo
    split
    · rename_i h
      refine ⟨⟨fun e => ?_, fun e => absurd h (e a (by simp))⟩, fun e => ?_⟩
      · simp at e
      · simp at e
    · rename_i h
      refine ⟨⟨fun e y hy => ?_, fun e => h1.2 fun y hy => e y (by simp [hy])⟩, h2⟩
      rcases List.mem_cons.1 hy with rfl | hy
      · exact h
      · exact h1.1 e y hy
theorem flt_iff {ls : List Tx} (h : ls.length ≤ 150) : fltD ls = (0, 0) ↔ ∀ y ∈ ls, (10 : UInt8) ∉ y := by
  unfold fltD
  rw [if_neg (by omega)]
  exact (fltGo_iff ls 0).1
theorem flt_code {ls : List Tx} (h : (fltD ls).1 = 0) : fltD ls = (0, 0) := by
  unfold fltD at *
  split at h
  · simp at h
  · rename_i q
    rw [if_neg q]
    exact (fltGo_iff ls 0).2 h
theorem cut_at (c : Int) (N : Nat) (hN : N ≤ 2000000) : ∃ k : Nat, wrap64 ((IntKind.u64.wrap c).tmod ((N : Int) + 1)) = (k : Int) ∧ k ≤ N := by
  have h0 : 0 ≤ IntKind.u64.wrap c := by rw [IntKind.wrap_u64]; omega
  rw [Int.tmod_eq_emod_of_nonneg h0]
  have h1 := Int.emod_nonneg (IntKind.u64.wrap c) (show ((N : Int) + 1) ≠ 0 by omega)
  have h2 := Int.emod_lt_of_pos (IntKind.u64.wrap c) (show (0 : Int) < (N : Int) + 1 by omega)
  generalize IntKind.u64.wrap c % ((N : Int) + 1) = z at *
  refine ⟨z.toNat, ?_, by omega⟩
  unfold wrap64
  omega
theorem ValAt.take {w : World} {ao : Option Addr} {ls : List Tx} (h : ValAt w ao (ls.map sv)) (k : Nat) : ValAt w ao ((ls.take k).map sv) := by
  rcases h with h | ⟨b, o, ha, hb, hc⟩
  · left
    have : ls = [] := by simpa using h
    rw [this]; simp
  · refine .inr ⟨b, o, ha, hb, fun i hi => ?_⟩
    have hi' : i < ls.length := by simp at hi; omega
    have := hc i (by simpa using hi')
    rw [this]
    simp
theorem ValAt.drop {w : World} {b o : Nat} {ls : List Tx} (h : ValAt w (some ⟨b, o, none⟩) (ls.map sv)) (k : Nat) : ValAt w (some ⟨b, o + k, none⟩) ((ls.drop k).map sv) := by
  rcases h with h | ⟨b', o', ha, hb, hc⟩
  · left
    have : ls = [] := by simpa using h
    rw [this]; simp
  · cases ha
    refine .inr ⟨b, o + k, rfl, hb, fun i hi => ?_⟩
    have hi' : k + i < ls.length := by simp at hi; omega
    have := hc (k + i) (by simpa using hi')
    rw [Nat.add_assoc, this]
    simp
/-- Do of the first of two desks. -/
theorem TwoK.do1 {W w : World} {K K2 : Nat} {S S2 : Nat → Prop} {s s2 : Dk} {n n2 : Nat} (H : TwoK W w K S s n K2 S2 s2 n2) (hL : Lb W) {ao : Option Addr} {cp : Nat} {ls : List Tx} (hv : ValAt W ao (ls.map sv)) {N : Nat} (hN : ls.length = N) (hl : ls.length ≤ 2000000) (hn : n ≤ 99000) (hy : ∀ y ∈ ls, y.length ≤ 90000) :
    Calls Tryz.prog 23 #[pv K, .slice ao N cp] w fun e w' => e = .returned (.tuple #[sv (toldK s ls), .agg #[iv (fltD ls).1, iv (fltD ls).2]]) ∧ (toldK s ls).length ≤ 2000000 ∧ ∃ S', TwoK W w' K S' (doK s ls) (n + N) K2 S2 s2 n2 ∧ Chg w w' (fun b => S b ∨ S2 b) (fun b => S' b ∨ S2 b) := by
  subst hN
  obtain ⟨B, h1⟩ := H.k1
  refine (h1.do hL H.gW H.y1 (hv.gr H.gW) (fun b o hne e hb => ?_) hl hn hy).mono ?_
  · rcases hv with h | ⟨b', o', ha, hb', _⟩
    · exact hne (by simpa using h)
    · rw [ha] at e
      cases e
      have := H.y1 _ hb
      omega
  · rintro e w' ⟨he, hlen, S', hk, hc⟩
    obtain ⟨t, c⟩ := H.chg1 hk ⟨s, n, h1⟩ hc
    exact ⟨he, hlen, S', t, c⟩
set_option maxRecDepth 50000 in
set_option maxHeartbeats 16000000 in
theorem deskJoins_any {W : World} (hL : Lb W) {ao : Option Addr} {cp : Nat} {ls : List Tx} (hv : ValAt W ao (ls.map sv)) (hl : ls.length ≤ 2000000) (hcp : ls.length ≤ cp) (hao : cp = 0 ∨ ∃ b o, ao = some ⟨b, o, none⟩) (hy : ∀ y ∈ ls, y.length ≤ 2000000) (c : Int) (hc : i64B c) :
    Calls Tryz.prog 7 #[.slice ao ls.length cp, iv c] W fun e w' => e = .returned (.bool true) ∧ Gr W w' := by
  have HL := hide hL
  have HAO := hide hao
  have HV := hide hv
  have HY := hide hy
  have HB := hide (deskBegun_ok hL (Gr.refl W))
  obtain ⟨c0, c1⟩ := hc
  clear hL hv hy hao
  by_cases h150 : 150 < ls.length
  · have hI : decide ((150 : Int) < (ls.length : Int)) = true := decide_eq_true (by omega)
    go_enter Tryz.func7, Tryz.ntmps7
    go_wp2_with (go_at_call 19; refine HB.out.mono ?_; rintro e w1 ⟨rfl, g1⟩; have G1 := hide g1; clear g1)
    go_ret
    exact ⟨rfl, G1.out⟩
  have hI : decide ((150 : Int) < (ls.length : Int)) = false := decide_eq_false (by omega)
  have HSL := hide (fun (X : World) (g : Gr W X) => slow_any (cp := cp) (HV.out.gr g) hl HY.out)
  go_enter Tryz.func7, Tryz.ntmps7
  go_upto_if 24 with (first
    | (go_at_call 19; refine HB.out.mono ?_; rintro e w1 ⟨rfl, g1⟩; have G1 := hide g1; clear g1)
    | (go_at_call 20; refine (HSL.out _ G1.out).mono ?_; rintro e w2 ⟨t, rfl, ht, g2⟩; have HT := hide ht; have G2 := hide (G1.out.trans g2); clear ht g2)
    | fail)
  cases t
  · have hlen := HT.out rfl
    have HYL : Hid (∀ y ∈ ls, y.length ≤ 90000) := fun y hy => by have := len_mem hy; omega
    clear HT HSL HB
    obtain ⟨k, HK, hk⟩ := cut_at c ls.length hl
    go_upto_region 6 with (fail)
    rw [HK]
    clear HK
    have hs2 := Below.size G2.out
    have HN1 := hide (deskNew_k w2 (fun b => b < W.heap.size) (fun b hb => by omega))
    have HN : Hid (∀ X, Gr W X → Calls Tryz.prog 21 #[] X fun e w' => ∃ K S, e = .returned (pv K) ∧ Kq (fun b => b < W.heap.size) X w' K S dk0 0 ∧ Gr X w' ∧ ∀ b, S b → X.heap.size ≤ b) := fun X g => deskNew_k X _ (fun b hb => by have := Below.size g; omega)
    have htl : (ls.take k).length = k := by rw [List.length_take]; omega
    have hdl : (ls.drop k).length = ls.length - k := List.length_drop
    have HYT : Hid (∀ y ∈ ls.take k, y.length ≤ 90000) := fun y hy => HYL.out y (List.mem_of_mem_take hy)
    have HYD : Hid (∀ y ∈ ls.drop k, y.length ≤ 90000) := fun y hy => HYL.out y (List.mem_of_mem_drop hy)
    have D1 : Hid (∀ (X : World) (K1 : Nat) (S1 : Nat → Prop) (K2 : Nat) (S2 : Nat → Prop), TwoK W X K1 S1 dk0 0 K2 S2 dk0 0 → Calls Tryz.prog 23 #[pv K1, .slice ao k cp] X fun e w' => e = .returned (.tuple #[sv (toldK dk0 (ls.take k)), .agg #[iv (fltD (ls.take k)).1, iv (fltD (ls.take k)).2]]) ∧ (toldK dk0 (ls.take k)).length ≤ 2000000 ∧ ∃ S', TwoK W w' K1 S' (doK dk0 (ls.take k)) (0 + k) K2 S2 dk0 0 ∧ Chg X w' (fun b => S1 b ∨ S2 b) (fun b => S' b ∨ S2 b)) := fun X K1 S1 K2 S2 h =>
      h.do1 HL.out (HV.out.take k) htl (by omega) (by omega) HYT.out
    have D2 : Hid (∀ (X : World) (K1 : Nat) (S1 : Nat → Prop) (s1 : Dk) (n1 : Nat) (K2 : Nat) (S2 : Nat → Prop), TwoK W X K1 S1 s1 n1 K2 S2 dk0 0 → Calls Tryz.prog 23 #[pv K2, .slice ao ls.length cp] X fun e w' => e = .returned (.tuple #[sv (toldK dk0 ls), .agg #[iv (fltD ls).1, iv (fltD ls).2]]) ∧ (toldK dk0 ls).length ≤ 2000000 ∧ ∃ S', TwoK W w' K1 S1 s1 n1 K2 S' (doK dk0 ls) (0 + ls.length) ∧ Chg X w' (fun b => S1 b ∨ S2 b) (fun b => S1 b ∨ S' b)) := fun X K1 S1 s1 n1 K2 S2 h =>
      (h.swap.do1 HL.out HV.out rfl hl (by omega) HYL.out).mono fun e w' ⟨he, hlen, S', ht, hc⟩ => ⟨he, hlen, S', ht.swap, swap_chg hc⟩
    have D3 : Hid (∀ (X : World) (K1 : Nat) (S1 : Nat → Prop) (s1 : Dk) (K2 : Nat) (S2 : Nat → Prop) (s2 : Dk) (n2 : Nat) (ao2 : Option Addr) (cp2 M : Nat), ls.length - k = M → TwoK W X K1 S1 s1 (0 + k) K2 S2 s2 n2 → ValAt W ao2 ((ls.drop k).map sv) → Calls Tryz.prog 23 #[pv K1, .slice ao2 M cp2] X fun e w' => e = .returned (.tuple #[sv (toldK s1 (ls.drop k)), .agg #[iv (fltD (ls.drop k)).1, iv (fltD (ls.drop k)).2]]) ∧ (toldK s1 (ls.drop k)).length ≤ 2000000 ∧ ∃ S', TwoK W w' K1 S' (doK s1 (ls.drop k)) (0 + k + M) K2 S2 s2 n2 ∧ Chg X w' (fun b => S1 b ∨ S2 b) (fun b => S' b ∨ S2 b)) := fun X K1 S1 s1 K2 S2 s2 n2 ao2 cp2 M hM h hv2 =>
      h.do1 HL.out hv2 (hdl.trans hM) (by omega) (by omega) HYD.out
    clear HN1
    go_upto_region 9 with (first
      | (go_at_call 21; refine (HN.out w2 G2.out).mono ?_; rintro e w3 ⟨K1, S1, rfl, k1, g3, y1⟩; have Q1 := hide k1; have G3 := hide (G2.out.trans g3); have Y1 := hide y1; have GG3 := hide g3; clear k1 g3 y1)
      | (go_at_call 21; refine (HN.out w3 G3.out).mono ?_; rintro e w4 ⟨K2, S2, rfl, k2, g4, y2⟩; have T4 : Hid (TwoK W w4 K1 S1 dk0 0 K2 S2 dk0 0) := ⟨⟨_, Q1.out.gr g4⟩, ⟨_, k2⟩, fun b h1 h2 => by have := Q1.out.lt h1; have := y2 b h2; omega, fun b h => by have := Y1.out b h; omega, fun b h => by have := y2 b h; have := Below.size G3.out; omega, G3.out.trans g4⟩; clear k2 g4 y2)
      | (go_at_call 23; (with_reducible refine (D1.out _ K1 S1 K2 S2 T4.out).mono ?_); rintro e w5 ⟨rfl, len1, S1', t5, k5⟩; have T5 := hide t5; clear t5 k5)
      | (go_at_call 23; (with_reducible refine (D2.out _ K1 S1' _ _ K2 S2 (T5.out.gr ((Gr.refl _).alloc _))).mono ?_); rintro e w6 ⟨rfl, len2, S2', t6, k6⟩; have T6 := hide t6; have BF := hide (Bx.chg (S := fun b => S1' b ∨ S2 b) ⟨heap_alloc_new w5 _, fun h => by rcases h with h | h; (obtain ⟨B, q⟩ := T5.out.k1; have := q.lt h; omega); (obtain ⟨B, q⟩ := T5.out.k2; have := q.lt h; omega)⟩ k6); clear t6 k6)
      | fail)
    have NE : Hid (fltD ls = (0, 0) ↔ (fltD (ls.take k) = (0, 0) ∧ fltD (ls.drop k) = (0, 0))) := by
      unfold Hid
      rw [flt_iff (by omega), flt_iff (by rw [htl]; omega), flt_iff (by rw [hdl]; omega)]
      conv => lhs; rw [← List.take_append_drop k ls]
      simp only [List.mem_append]
      exact ⟨fun h => ⟨fun y hy => h y (.inl hy), fun y hy => h y (.inr hy)⟩, fun h y hy => hy.elim (h.1 y) (h.2 y)⟩
    have hq5 : w5.heap.size < w6.heap.size := lt_of_block BF.out.1
    obtain ⟨q5, hq⟩ : ∃ q5, w5.heap.size = q5 := ⟨_, rfl⟩
    rw [hq] at BF hq5 ⊢
    clear hq
    have hkI : (k : Int) ≤ (ls.length : Int) := by omega
    have hkC : (k : Int) ≤ (cp : Int) := by omega
    have HN4 : Hid (∀ (X : World) (B : World) (K3 : Nat) (S3 : Nat → Prop), Kq (fun b => b < W.heap.size) B X K3 S3 dk0 0 → Gr W X → (∀ b, S3 b → W.heap.size ≤ b) → Calls Tryz.prog 23 #[pv K3, .slice ao ls.length cp] X fun e w' => e = .returned (.tuple #[sv (toldK dk0 ls), .agg #[iv (fltD ls).1, iv (fltD ls).2]]) ∧ ∃ S', Chg X w' S3 S' ∧ Gr W w') := fun X B K3 S3 h g y => by
      refine (h.do HL.out g y (HV.out.gr g) (fun b o hne e hb => ?_) hl (by omega) HYL.out).mono ?_
      · rcases HV.out with q | ⟨b', o', ha, hb', _⟩
        · exact hne (by simpa using q)
        · rw [ha] at e
          cases e
          have := y _ hb
          omega
      · rintro e w' ⟨he, _, S', _, hc⟩
        exact ⟨he, S', hc, (chg_gr hc g y).1⟩
    have cas : (cp = k ∧ Hid (ValAt W ao ((ls.drop k).map sv))) ∨ (cp ≠ k ∧ ∃ b o, ao = some ⟨b, o, none⟩) := by
      by_cases h2 : cp = k
      · exact .inl ⟨h2, .inl (by rw [List.drop_of_length_le (by omega)]; rfl)⟩
      · rcases HAO.out with h | h
        · omega
        · exact .inr ⟨h2, h⟩
    rcases cas with ⟨h2, HVD⟩ | ⟨h2, b, o, hao⟩
    · have h3 := h2.symm
      clear h2
      subst h3
      go_upto_region 10 with (first
        | (go_at_call 23; (with_reducible refine (D3.out _ K1 S1' _ K2 S2' _ _ _ _ _ (by omega) (T6.out.gr ((Gr.refl _).alloc _)) HVD.out).mono ?_); rintro e w7 ⟨rfl, len3, S1'', t7, k7⟩; have T7 := hide t7; have BH := hide (Bx.chg (S := fun b => S1' b ∨ S2' b) ⟨heap_alloc_new w6 _, fun h => by rcases h with h | h; (obtain ⟨B, q⟩ := T6.out.k1; have := q.lt h; omega); (obtain ⟨B, q⟩ := T6.out.k2; have := q.lt h; omega)⟩ k7); have BF7 := hide ((BF.out.gr ((Gr.refl _).alloc _)).chg k7); clear t7 k7)
        | fail)
      have hs6 : w6.heap.size < w7.heap.size := lt_of_block BH.out.1
      obtain ⟨q6, hq⟩ : ∃ q6, w6.heap.size = q6 := ⟨_, rfl⟩
      rw [hq] at BH hs6 hq5 ⊢
      clear hq
      have BG : Hid (Bx (w7.alloc (.cells #[iv (fltD (ls.drop k)).1, iv (fltD (ls.drop k)).2] 66)) (fun b => S1'' b ∨ S2' b) w7.heap.size (fltD (ls.drop k)).1 (fltD (ls.drop k)).2) := ⟨heap_alloc_new w7 _, fun h => by rcases h with h | h; (obtain ⟨B, q⟩ := T7.out.k1; have := q.lt h; omega); (obtain ⟨B, q⟩ := T7.out.k2; have := q.lt h; omega)⟩
      refine wp_gen (fun X => Hid (Bx X (fun b => S1'' b ∨ S2' b) q5 (fltD (ls.take k)).1 (fltD (ls.take k)).2) ∧ Hid (Bx X (fun b => S1'' b ∨ S2' b) q6 (fltD ls).1 (fltD ls).2) ∧ Hid (Bx X (fun b => S1'' b ∨ S2' b) w7.heap.size (fltD (ls.drop k)).1 (fltD (ls.drop k)).2) ∧ Hid (Gr W X)) ⟨BF7.out.gr ((Gr.refl _).alloc _), BH.out.gr ((Gr.refl _).alloc _), BG.out, T7.out.gW.trans ((Gr.refl _).alloc _)⟩ ?_
      clear BG BF7 BH
      obtain ⟨q7, hq⟩ : ∃ q7, w7.heap.size = q7 := ⟨_, rfl⟩
      rw [hq]
      clear hq hs6
      rintro X ⟨BF, BH, BG, GX⟩
      obtain ⟨f0, f1, f2⟩ := BF.out.cells
      obtain ⟨p0, p1, p2⟩ := BH.out.cells
      obtain ⟨r0, r1, r2⟩ := BG.out.cells
      by_cases hF : fltD ls = (0, 0)
      · obtain ⟨hF1, hF2⟩ := NE.out.1 hF
        have HTA : Hid (toldK dk0 (ls.take k) = (linesD dk0 (ls.take k)).2 ∧ toldK dk0 ls = (linesD dk0 ls).2 ∧ toldK (doK dk0 (ls.take k)) (ls.drop k) = (linesD (linesD dk0 (ls.take k)).1 (ls.drop k)).2) := by
          unfold toldK doK
          rw [if_pos hF, if_pos hF1, if_pos hF2, if_pos hF1]
          exact ⟨rfl, rfl, rfl⟩
        have HJ : Hid (toldK dk0 (ls.take k) ++ toldK (doK dk0 (ls.take k)) (ls.drop k) = toldK dk0 ls) := by
          unfold Hid
          rw [HTA.out.1, HTA.out.2.1, HTA.out.2.2]
          have := lines_append (ls.take k) (ls.drop k) dk0
          rw [List.take_append_drop] at this
          rw [this]
        rw [hF1] at f0 f1 BF
        rw [hF] at p0 p1
        rw [hF2] at r0 r1 BG
        rw [hF] at HN4
        simp only at f0 f1 p0 p1 r0 r1 HN4 BF BG
        generalize toldK dk0 (ls.take k) = ta at *
        generalize toldK (doK dk0 (ls.take k)) (ls.drop k) = tb at *
        generalize toldK dk0 ls = ts at *
        obtain ⟨u, HU, eu⟩ := add_run ⟨ta.toArray⟩ ⟨tb.toArray⟩ (by rw [size_of_list, size_of_list]; omega)
        have hu : (u.toList == ts) = true := by
          rw [HU.out, cat, HJ.out]
          simp
        clear HU HJ HTA
        go_wp2_with (first
          | (go_at_call 21; refine (HN.out X GX.out).mono ?_; rintro e w8 ⟨K3, S3, rfl, k3, g8, y3⟩; have HC4 := hide (HN4.out w8 _ K3 S3 k3 (GX.out.trans g8) (fun b h => by have := y3 b h; have := Below.size GX.out; omega)); have GX8 := hide g8; have Y3 := hide y3; clear k3 g8 y3)
          | (go_at_call 23; refine HC4.out.mono ?_; rintro e w9 ⟨rfl, S3', k9, g9⟩; have G9 := hide g9; have bf : Bx w9 S3' q5 0 0 := Bx.chg (S := S3) ⟨(Below.block GX8.out q5 f2).trans BF.out.1, fun h => (by have := Y3.out q5 h; omega)⟩ k9; have bg : Bx w9 S3' q7 0 0 := Bx.chg (S := S3) ⟨(Below.block GX8.out q7 r2).trans BG.out.1, fun h => (by have := Y3.out q7 h; omega)⟩ k9; obtain ⟨ff0, ff1, ff2⟩ := bf.cells; obtain ⟨rr0, rr1, rr2⟩ := bg.cells; clear k9 g9 bf bg)
          | fail)
        go_ret
        exact ⟨rfl, G9.out.alloc _⟩
      · have hp : ((fltD ls).1 != 0) = true := by
          simp only [bne_iff_ne, ne_eq]
          exact fun h => hF (flt_code h)
        by_cases h1 : (fltD (ls.take k)).1 = 0
        · have e1 : ((fltD (ls.take k)).1 != 0) = false := by rw [h1]; rfl
          have e2 : ((fltD (ls.drop k)).1 != 0) = true := by
            simp only [bne_iff_ne, ne_eq]
            exact fun h => hF (NE.out.2 ⟨flt_code h1, flt_code h⟩)
          clear h1 hF
          generalize (fltD (ls.take k)).1 = x1 at *
          generalize (fltD (ls.drop k)).1 = x2 at *
          generalize (fltD ls).1 = x3 at *
          go_wp2_with fail
          go_ret
          exact ⟨rfl, GX.out⟩
        · have e1 : ((fltD (ls.take k)).1 != 0) = true := by
            simp only [bne_iff_ne, ne_eq]
            exact h1
          clear h1 hF
          generalize (fltD (ls.take k)).1 = x1 at *
          generalize (fltD ls).1 = x3 at *
          go_wp2_with fail
          go_ret
          exact ⟨rfl, GX.out⟩
    · have HVD : Hid (ValAt W (some ⟨b, o + k, none⟩) ((ls.drop k).map sv)) := by
        have := HV.out
        rw [hao] at this
        exact this.drop k
      subst hao
      go_upto_region 10 with (first
        | (go_at_call 23; (with_reducible refine (D3.out _ K1 S1' _ K2 S2' _ _ _ _ _ (by omega) (T6.out.gr ((Gr.refl _).alloc _)) HVD.out).mono ?_); rintro e w7 ⟨rfl, len3, S1'', t7, k7⟩; have T7 := hide t7; have BH := hide (Bx.chg (S := fun b => S1' b ∨ S2' b) ⟨heap_alloc_new w6 _, fun h => by rcases h with h | h; (obtain ⟨B, q⟩ := T6.out.k1; have := q.lt h; omega); (obtain ⟨B, q⟩ := T6.out.k2; have := q.lt h; omega)⟩ k7); have BF7 := hide ((BF.out.gr ((Gr.refl _).alloc _)).chg k7); clear t7 k7)
        | fail)
      have hs6 : w6.heap.size < w7.heap.size := lt_of_block BH.out.1
      obtain ⟨q6, hq⟩ : ∃ q6, w6.heap.size = q6 := ⟨_, rfl⟩
      rw [hq] at BH hs6 hq5 ⊢
      clear hq
      have BG : Hid (Bx (w7.alloc (.cells #[iv (fltD (ls.drop k)).1, iv (fltD (ls.drop k)).2] 66)) (fun b => S1'' b ∨ S2' b) w7.heap.size (fltD (ls.drop k)).1 (fltD (ls.drop k)).2) := ⟨heap_alloc_new w7 _, fun h => by rcases h with h | h; (obtain ⟨B, q⟩ := T7.out.k1; have := q.lt h; omega); (obtain ⟨B, q⟩ := T7.out.k2; have := q.lt h; omega)⟩
      refine wp_gen (fun X => Hid (Bx X (fun b => S1'' b ∨ S2' b) q5 (fltD (ls.take k)).1 (fltD (ls.take k)).2) ∧ Hid (Bx X (fun b => S1'' b ∨ S2' b) q6 (fltD ls).1 (fltD ls).2) ∧ Hid (Bx X (fun b => S1'' b ∨ S2' b) w7.heap.size (fltD (ls.drop k)).1 (fltD (ls.drop k)).2) ∧ Hid (Gr W X)) ⟨BF7.out.gr ((Gr.refl _).alloc _), BH.out.gr ((Gr.refl _).alloc _), BG.out, T7.out.gW.trans ((Gr.refl _).alloc _)⟩ ?_
      clear BG BF7 BH
      obtain ⟨q7, hq⟩ : ∃ q7, w7.heap.size = q7 := ⟨_, rfl⟩
      rw [hq]
      clear hq hs6
      rintro X ⟨BF, BH, BG, GX⟩
      obtain ⟨f0, f1, f2⟩ := BF.out.cells
      obtain ⟨p0, p1, p2⟩ := BH.out.cells
      obtain ⟨r0, r1, r2⟩ := BG.out.cells
      by_cases hF : fltD ls = (0, 0)
      · obtain ⟨hF1, hF2⟩ := NE.out.1 hF
        have HTA : Hid (toldK dk0 (ls.take k) = (linesD dk0 (ls.take k)).2 ∧ toldK dk0 ls = (linesD dk0 ls).2 ∧ toldK (doK dk0 (ls.take k)) (ls.drop k) = (linesD (linesD dk0 (ls.take k)).1 (ls.drop k)).2) := by
          unfold toldK doK
          rw [if_pos hF, if_pos hF1, if_pos hF2, if_pos hF1]
          exact ⟨rfl, rfl, rfl⟩
        have HJ : Hid (toldK dk0 (ls.take k) ++ toldK (doK dk0 (ls.take k)) (ls.drop k) = toldK dk0 ls) := by
          unfold Hid
          rw [HTA.out.1, HTA.out.2.1, HTA.out.2.2]
          have := lines_append (ls.take k) (ls.drop k) dk0
          rw [List.take_append_drop] at this
          rw [this]
        rw [hF1] at f0 f1 BF
        rw [hF] at p0 p1
        rw [hF2] at r0 r1 BG
        rw [hF] at HN4
        simp only at f0 f1 p0 p1 r0 r1 HN4 BF BG
        generalize toldK dk0 (ls.take k) = ta at *
        generalize toldK (doK dk0 (ls.take k)) (ls.drop k) = tb at *
        generalize toldK dk0 ls = ts at *
        obtain ⟨u, HU, eu⟩ := add_run ⟨ta.toArray⟩ ⟨tb.toArray⟩ (by rw [size_of_list, size_of_list]; omega)
        have hu : (u.toList == ts) = true := by
          rw [HU.out, cat, HJ.out]
          simp
        clear HU HJ HTA
        go_wp2_with (first
          | (go_at_call 21; refine (HN.out X GX.out).mono ?_; rintro e w8 ⟨K3, S3, rfl, k3, g8, y3⟩; have HC4 := hide (HN4.out w8 _ K3 S3 k3 (GX.out.trans g8) (fun b h => by have := y3 b h; have := Below.size GX.out; omega)); have GX8 := hide g8; have Y3 := hide y3; clear k3 g8 y3)
          | (go_at_call 23; refine HC4.out.mono ?_; rintro e w9 ⟨rfl, S3', k9, g9⟩; have G9 := hide g9; have bf : Bx w9 S3' q5 0 0 := Bx.chg (S := S3) ⟨(Below.block GX8.out q5 f2).trans BF.out.1, fun h => (by have := Y3.out q5 h; omega)⟩ k9; have bg : Bx w9 S3' q7 0 0 := Bx.chg (S := S3) ⟨(Below.block GX8.out q7 r2).trans BG.out.1, fun h => (by have := Y3.out q7 h; omega)⟩ k9; obtain ⟨ff0, ff1, ff2⟩ := bf.cells; obtain ⟨rr0, rr1, rr2⟩ := bg.cells; clear k9 g9 bf bg)
          | fail)
        go_ret
        exact ⟨rfl, G9.out.alloc _⟩
      · have hp : ((fltD ls).1 != 0) = true := by
          simp only [bne_iff_ne, ne_eq]
          exact fun h => hF (flt_code h)
        by_cases h1 : (fltD (ls.take k)).1 = 0
        · have e1 : ((fltD (ls.take k)).1 != 0) = false := by rw [h1]; rfl
          have e2 : ((fltD (ls.drop k)).1 != 0) = true := by
            simp only [bne_iff_ne, ne_eq]
            exact fun h => hF (NE.out.2 ⟨flt_code h1, flt_code h⟩)
          clear h1 hF
          generalize (fltD (ls.take k)).1 = x1 at *
          generalize (fltD (ls.drop k)).1 = x2 at *
          generalize (fltD ls).1 = x3 at *
          go_wp2_with fail
          go_ret
          exact ⟨rfl, GX.out⟩
        · have e1 : ((fltD (ls.take k)).1 != 0) = true := by
            simp only [bne_iff_ne, ne_eq]
            exact h1
          clear h1 hF
          generalize (fltD (ls.take k)).1 = x1 at *
          generalize (fltD ls).1 = x3 at *
          go_wp2_with fail
          go_ret
          exact ⟨rfl, GX.out⟩
  · go_wp2_with fail
    go_ret
    exact ⟨rfl, G2.out⟩

end Go.Proofs.YtfcknkanbcndjagGreatDoor

/- DeskDoes answers true. -/
namespace Go.Proofs.YtfcknkanbcndjagGreatDoor
open Go.RowKit
attribute [local go_sem] Ext.all Ext.cell Ext.frozen Ext.lt Ext.lt1 Ext.lt2 Ext.ne Ext.ne'
/-- A desk of the program and one of the reference beside each other, both younger than W. -/
structure KD (W w : World) (K : Nat) (S : Nat → Prop) (s : Dk) (n : Nat) (D T : Nat) (S2 : Nat → Prop) (s2 : Dk) (n2 : Nat) (told : Tx) : Prop where
  k : ∃ B, Kq (fun b => b < W.heap.size) B w K S s n
  d : ∃ B, Dq W (fun b => b < W.heap.size) B w D T S2 s2 n2 told
  ap : ∀ b, S b → ¬ ownD D S2 b
  y : ∀ b, S b → W.heap.size ≤ b
/-- Whose blocks the two are. -/
def bothD (S : Nat → Prop) (D : Nat) (S2 : Nat → Prop) (b : Nat) : Prop := S b ∨ ownD D S2 b
theorem blk_chg {w w' : World} {U U' : Nat → Prop} {q : Nat} {o : Obj} (h : w.heap[q]? = some o ∧ ¬ U q) (k : Chg w w' U U') : w'.heap[q]? = some o ∧ ¬ U' q := by
  have hq : q < w.heap.size := (Array.getElem?_eq_some_iff.1 h.1).1
  refine ⟨(k.kp.block q hq ⟨hq, h.2⟩).trans h.1, fun e => ?_⟩
  rcases k.nw q e with r | r
  · exact h.2 r
  · omega
theorem cells2' {w : World} {P : Nat} {a b : Value} {T : TypeId} (h : w.heap[P]? = some (.cells #[a, b] T (0, 0))) : w.cell? ⟨P, 0, none⟩ = some a ∧ w.cell? ⟨P, 1, none⟩ = some b := cells2 h
theorem Dq.lt {W : World} {M : Nat → Prop} {B w : World} {D T : Nat} {S : Nat → Prop} {s : Dk} {n : Nat} {told : Tx} (H : Dq W M B w D T S s n told) {b : Nat} (hb : ownD D S b) : b < w.heap.size := by
  rcases hb with rfl | hb
  · exact lt_of_block H.at'
  · exact H.town.lt hb
theorem Dq.keep {W : World} {B w w' : World} {D T : Nat} {S : Nat → Prop} {N : Nat → Prop} {s : Dk} {n : Nat} {told : Tx} (H : Dq W (fun b => b < W.heap.size) B w D T S s n told) (hk : Kp N w w') (hW : ∀ b, b < W.heap.size → N b) (hN : ∀ b, ownD D S b → N b) : Dq W (fun b => b < W.heap.size) B w' D T S s n told :=
  ⟨(hk.block D (lt_of_block H.at') (hN D (.inl rfl))).trans H.at', H.town.keep hk hW (fun b hb => hN b (.inr hb)), H.ows, H.nS, H.nM, Below.trans H.gW (hk.below (Below.size H.gW) hW), H.hD, H.hS⟩
section
variable {W w w' : World} {K : Nat} {S S' : Nat → Prop} {D T : Nat} {S2 S2' : Nat → Prop} {s s2 : Dk} {n n2 : Nat} {told : Tx}
theorem KD.gr (H : KD W w K S s n D T S2 s2 n2 told) (g : Gr w w') : KD W w' K S s n D T S2 s2 n2 told := ⟨H.k.imp fun _ h => h.gr g, H.d.imp fun _ h => h.gr g, H.ap, H.y⟩
theorem KD.gW (H : KD W w K S s n D T S2 s2 n2 told) : Gr W w := by
  obtain ⟨B, h⟩ := H.d
  exact h.gW
theorem KD.lt (H : KD W w K S s n D T S2 s2 n2 told) {b : Nat} (hb : bothD S D S2 b) : b < w.heap.size := by
  rcases hb with hb | hb
  · obtain ⟨B, h⟩ := H.k
    exact h.lt hb
  · obtain ⟨B, h⟩ := H.d
    exact h.lt hb
theorem KD.young (H : KD W w K S s n D T S2 s2 n2 told) {b : Nat} (hb : bothD S D S2 b) : W.heap.size ≤ b := by
  rcases hb with hb | hb
  · exact H.y b hb
  · obtain ⟨B, h⟩ := H.d
    rcases hb with rfl | hb
    · exact h.hD
    · exact h.hS b hb
theorem KD.more (H : KD W w K S s n D T S2 s2 n2 told) {m2 : Nat} (h : n2 ≤ m2) : KD W w K S s n D T S2 s2 m2 told := ⟨H.k, H.d.imp fun _ q => q.more h, H.ap, H.y⟩
/-- The program's Do. -/
theorem KD.do (H : KD W w K S s n D T S2 s2 n2 told) (hL : Lb W) {ao : Option Addr} {cp : Nat} {ls : List Tx} (hv : ValAt W ao (ls.map sv)) (hl : ls.length ≤ 2000000) (hn : n ≤ 99000) (hy : ∀ y ∈ ls, y.length ≤ 90000) :
    Calls Tryz.prog 23 #[pv K, .slice ao ls.length cp] w fun e w' => e = .returned (.tuple #[sv (toldK s ls), .agg #[iv (fltD ls).1, iv (fltD ls).2]]) ∧ (toldK s ls).length ≤ 2000000 ∧ ∃ S', KD W w' K S' (doK s ls) (n + ls.length) D T S2 s2 n2 told ∧ Chg w w' (bothD S D S2) (bothD S' D S2) := by
  obtain ⟨B, hk⟩ := H.k
  obtain ⟨B2, hd⟩ := H.d
  refine (hk.do hL H.gW H.y (hv.gr H.gW) (fun b o hne e hb => ?_) hl hn hy).mono ?_
  · rcases hv with h | ⟨b', o', ha, hb', _⟩
    · exact hne (by simpa using h)
    · rw [ha] at e
      cases e
      have := H.y _ hb
      omega
  · rintro e w' ⟨he, hlen, S', hk', hc⟩
    refine ⟨he, hlen, S', ⟨⟨B, hk'⟩, ⟨B2, hd.keep hc.kp (fun b hb => ⟨Nat.lt_of_lt_of_le hb (Below.size H.gW), fun h => by have := H.y b h; omega⟩) (fun b hb => ⟨hd.lt hb, fun h => H.ap b h hb⟩)⟩, fun b h1 h2 => ?_, (chg_gr hc H.gW H.y).2⟩, hc.kp.mono fun b _ hb => ⟨hb.1, fun h => hb.2 (.inl h)⟩, ?_⟩
    · rcases hc.nw b h1 with q | q
      · exact H.ap b q h2
      · have := hd.lt h2; omega
    · rintro b (h | h)
      · rcases hc.nw b h with q | q
        · exact .inl (.inl q)
        · exact .inr q
      · exact .inl (.inr h)
/-- The reference's Do. -/
theorem KD.rdo (H : KD W w K S s n D T S2 s2 n2 told) (hL : Lb W) {ao : Option Addr} {cp : Nat} {ls : List Tx} (hv : ValAt W ao (ls.map sv)) (hl : ls.length ≤ 150) (hn : n2 ≤ 99000) (hy : ∀ y ∈ ls, y.length ≤ 90000) (ht : told.length ≤ 4000000) :
    Calls Tryz.prog 25 #[pv D, .slice ao ls.length cp] w fun e w' => e = .returned (sv (linesD s2 ls).2) ∧ ∃ S2', KD W w' K S s n D T S2' (linesD s2 ls).1 (n2 + ls.length) (linesD s2 ls).2 ∧ Chg w w' (bothD S D S2) (bothD S D S2') := by
  obtain ⟨B, hk⟩ := H.k
  obtain ⟨B2, hd⟩ := H.d
  refine (rdo_any hd hL (hv.gr H.gW) (fun b o hne e hb => ?_) hl hn hy ht).mono ?_
  · rcases hv with h | ⟨b', o', ha, hb', _⟩
    · exact hne (by simpa using h)
    · rw [ha] at e
      cases e
      have := H.young (.inr hb)
      omega
  · rintro e w' ⟨he, S2', hd', hc⟩
    refine ⟨he, S2', ⟨⟨B, hk.keep hc.kp (fun b hb => ⟨Nat.lt_of_lt_of_le hb (Below.size H.gW), fun h => by have := H.young (.inr h); omega⟩) (fun b hb => ⟨hk.lt hb, fun h => H.ap b hb h⟩)⟩, ⟨B2, hd'⟩, fun b h1 h2 => ?_, H.y⟩, hc.kp.mono fun b _ hb => ⟨hb.1, fun h => hb.2 (.inr h)⟩, ?_⟩
    · rcases hc.nw b h2 with q | q
      · exact H.ap b h1 q
      · have := hk.lt h1; omega
    · rintro b (h | h)
      · exact .inl (.inl h)
      · rcases hc.nw b h with q | q
        · exact .inl (.inr q)
        · exact .inr q
end
set_option maxRecDepth 50000 in
set_option maxHeartbeats 16000000 in
theorem deskDoes_any {W : World} (hL : Lb W) {aoA aoB : Option Addr} {cpA cpB : Nat} {la lb : List Tx} (hvA : ValAt W aoA (la.map sv)) (hvB : ValAt W aoB (lb.map sv)) (hlA : la.length ≤ 2000000) (hlB : lb.length ≤ 2000000) (hyA : ∀ y ∈ la, y.length ≤ 2000000) (hyB : ∀ y ∈ lb, y.length ≤ 2000000) :
    Calls Tryz.prog 6 #[.slice aoA la.length cpA, .slice aoB lb.length cpB] W fun e w' => e = .returned (.bool true) ∧ Gr W w' := by
  have HL := hide hL
  have HVA := hide hvA
  have HVB := hide hvB
  have HB := hide (deskBegun_ok hL (Gr.refl W))
  have SA := hide (fun (X : World) (g : Gr W X) => slow_is (cp := cpA) (hvA.gr g) hlA hyA)
  have SB := hide (fun (X : World) (g : Gr W X) => slow_is (cp := cpB) (hvB.gr g) hlB hyB)
  clear hL hvA hvB hyA hyB
  by_cases h1 : 200 < la.length
  · have i1 : decide ((200 : Int) < (la.length : Int)) = true := decide_eq_true (by omega)
    go_enter Tryz.func6, Tryz.ntmps6
    go_wp2_with (go_at_call 19; refine HB.out.mono ?_; rintro e w1 ⟨rfl, g1⟩; have G1 := hide g1; clear g1)
    go_ret
    exact ⟨rfl, G1.out⟩
  have i1 : decide ((200 : Int) < (la.length : Int)) = false := decide_eq_false (by omega)
  by_cases h2 : 200 < lb.length
  · have i2 : decide ((200 : Int) < (lb.length : Int)) = true := decide_eq_true (by omega)
    go_enter Tryz.func6, Tryz.ntmps6
    go_wp2_with (go_at_call 19; refine HB.out.mono ?_; rintro e w1 ⟨rfl, g1⟩; have G1 := hide g1; clear g1)
    go_ret
    exact ⟨rfl, G1.out⟩
  have i2 : decide ((200 : Int) < (lb.length : Int)) = false := decide_eq_false (by omega)
  cases hsa : slowB la
  case true =>
    rw [hsa] at SA
    go_enter Tryz.func6, Tryz.ntmps6
    go_wp2_with (first
      | (go_at_call 19; refine HB.out.mono ?_; rintro e w1 ⟨rfl, g1⟩; have G1 := hide g1; clear g1)
      | (go_at_call 20; (with_reducible refine (SA.out _ G1.out).mono ?_); rintro e w2 ⟨rfl, g2⟩; have G2 := hide (G1.out.trans g2); clear g2)
      | fail)
    go_ret
    exact ⟨rfl, G2.out⟩
  cases hsb : slowB lb
  case true =>
    rw [hsa] at SA
    rw [hsb] at SB
    go_enter Tryz.func6, Tryz.ntmps6
    go_wp2_with (first
      | (go_at_call 19; refine HB.out.mono ?_; rintro e w1 ⟨rfl, g1⟩; have G1 := hide g1; clear g1)
      | (go_at_call 20; (with_reducible refine (SA.out w1 G1.out).mono ?_); rintro e w2 ⟨rfl, g2⟩; have G2 := hide (G1.out.trans g2); clear g2)
      | (go_at_call 20; (with_reducible refine (SB.out _ G2.out).mono ?_); rintro e w3 ⟨rfl, g3⟩; have G3 := hide (G2.out.trans g3); clear g3)
      | fail)
    go_ret
    exact ⟨rfl, G3.out⟩
  have YA : Hid (∀ y ∈ la, y.length ≤ 90000) := fun y hy => by have := len_mem hy; have := slowB_len hsa; omega
  have YB : Hid (∀ y ∈ lb, y.length ≤ 90000) := fun y hy => by have := len_mem hy; have := slowB_len hsb; omega
  rw [hsa] at SA
  rw [hsb] at SB
  clear hsa hsb
  have HN : Hid (∀ X, Gr W X → Calls Tryz.prog 21 #[] X fun e w' => ∃ K S, e = .returned (pv K) ∧ Kq (fun b => b < W.heap.size) X w' K S dk0 0 ∧ Gr X w' ∧ ∀ b, S b → X.heap.size ≤ b) := fun X g => deskNew_k X _ (fun b hb => by have := Below.size g; omega)
  have HR : Hid (∀ X, Gr W X → Calls Tryz.prog 22 #[] X fun e w' => ∃ D T S, e = .returned (pv D) ∧ Dq W (fun b => b < W.heap.size) X w' D T S dk0 0 [] ∧ Gr X w' ∧ ∀ b, ownD D S b → X.heap.size ≤ b) := fun X g => newDesk_ok g (fun _ h => h)
  go_enter Tryz.func6, Tryz.ntmps6
  go_upto_region 8 with (first
    | (go_at_call 19; refine HB.out.mono ?_; rintro e w1 ⟨rfl, g1⟩; have G1 := hide g1; clear g1)
    | (go_at_call 20; (with_reducible refine (SA.out w1 G1.out).mono ?_); rintro e w2 ⟨rfl, g2⟩; have G2 := hide (G1.out.trans g2); clear g2)
    | (go_at_call 20; (with_reducible refine (SB.out _ G2.out).mono ?_); rintro e w3 ⟨rfl, g3⟩; have G3 := hide (G2.out.trans g3); clear g3)
    | (go_at_call 21; refine (HN.out w3 G3.out).mono ?_; rintro e w4 ⟨K, S, rfl, k4, g4, y4⟩; have Q4 := hide k4; have G4 := hide (G3.out.trans g4); have Y4 := hide y4; clear k4 g4 y4)
    | (go_at_call 22; refine (HR.out w4 G4.out).mono ?_; rintro e w5 ⟨D, T, S2, rfl, d5, g5, y5⟩; have H5 : Hid (KD W w5 K S dk0 0 D T S2 dk0 0 []) := ⟨⟨_, Q4.out.gr g5⟩, ⟨_, d5⟩, fun b h1 h2 => by have := Q4.out.lt h1; have := y5 b h2; omega, fun b h => by have := Y4.out b h; have := Below.size G3.out; omega⟩; clear d5 g5 y5)
    | fail)
  have hq0 := heap_alloc_new w5 (.cells #[.slice aoA la.length cpA, .slice aoB lb.length cpB] 58)
  refine wp_gen (fun X => Hid (KD W X K S dk0 0 D T S2 dk0 0 []) ∧ Hid (X.heap[w5.heap.size]? = some (.cells #[.slice aoA la.length cpA, .slice aoB lb.length cpB] 58 (0, 0)) ∧ ¬ bothD S D S2 w5.heap.size)) ⟨H5.out.gr ((Gr.refl _).alloc _), hq0, fun h => by have := H5.out.lt h; omega⟩ ?_
  clear hq0 H5 Q4 Y4 HN HR SA SB HB
  obtain ⟨q, hq⟩ : ∃ q, w5.heap.size = q := ⟨_, rfl⟩
  rw [hq]
  clear hq
  rintro X ⟨HX, QX⟩
  go_wp2_with fail
  go_loopw [8] (fun v8 wr => ∃ i : Nat, i ≤ 2 ∧ v8 = .int .i64 (i : Int) ∧ Hid (∃ S S2 s n told, KD W wr K S s n D T S2 s n told ∧ n ≤ 200 * i ∧ told.length ≤ 4000000 ∧ wr.heap[q]? = some (.cells #[.slice aoA la.length cpA, .slice aoB lb.length cpB] 58 (0, 0)) ∧ ¬ bothD S D S2 q)) (fun v8 _ => 2 - (intOf v8).toNat)
  case atStart => exact ⟨0, by omega, rfl, S, S2, dk0, 0, [], HX.out, by omega, by simp, QX.out.1, QX.out.2⟩
  case round =>
    obtain ⟨i, hi, rfl, HI⟩ := hrel
    obtain ⟨S1, S3, s, n, told, hkd, hn, htl, hqb, hqn⟩ := HI.out
    have HK := hide hkd
    have QQ := hide (And.intro hqb hqn)
    clear HI hkd hqb hqn
    by_cases hlt : i < 2
    · have hiI : (i : Int) < 2 := by omega
      have wri : IntKind.i64.wrap ((i : Int) + 1) = (i : Int) + 1 := by rw [IntKind.wrap_i64]; omega
      obtain ⟨ls, ao, cp, HCL, HV, HYL, hl200⟩ : ∃ (ls : List Tx) (ao : Option Addr) (cp : Nat), Hid (∀ Z : World, Z.heap[q]? = some (.cells #[.slice aoA la.length cpA, .slice aoB lb.length cpB] 58 (0, 0)) → Z.cell? ⟨q, i, none⟩ = some (.slice ao ls.length cp) ∧ q < Z.heap.size) ∧ Hid (ValAt W ao (ls.map sv)) ∧ Hid (∀ y ∈ ls, y.length ≤ 90000) ∧ ls.length ≤ 200 := by
        rcases (show i = 0 ∨ i = 1 by omega) with rfl | rfl
        · exact ⟨la, aoA, cpA, fun Z h => ⟨(cells2' h).1, lt_of_block h⟩, HVA, YA, by omega⟩
        · exact ⟨lb, aoB, cpB, fun Z h => ⟨(cells2' h).2, lt_of_block h⟩, HVB, YB, by omega⟩
      obtain ⟨cl, ql⟩ := HCL.out wr QQ.out.1
      have HD := hide (HK.out.do (cp := cp) HL.out HV.out (by omega) (by omega) HYL.out)
      have HLF := hide (fun (Z : World) (g : Gr W Z) => linesFault_any (cp := cp) (HV.out.gr g) (by omega) (fun y hy => by have := HYL.out y hy; omega))
      by_cases hF : fltD ls = (0, 0)
      · have h150 : ls.length ≤ 150 := by
          by_cases h : ls.length ≤ 150
          · exact h
          · exfalso
            unfold fltD at hF
            rw [if_pos (by omega)] at hF
            simp at hF
        have HTK : Hid (toldK s ls = (linesD s ls).2 ∧ doK s ls = (linesD s ls).1) := by
          unfold toldK doK
          rw [if_pos hF, if_pos hF]
          exact ⟨rfl, rfl⟩
        rw [HTK.out.1, HTK.out.2, hF] at HD
        rw [hF] at HLF
        simp only at HD HLF
        clear HTK hF
        have HRD : Hid (∀ (Z : World) (S4 : Nat → Prop), KD W Z K S4 (linesD s ls).1 (n + ls.length) D T S3 s n told → Calls Tryz.prog 25 #[pv D, .slice ao ls.length cp] Z fun e w' => e = .returned (sv (linesD s ls).2) ∧ ∃ S2', KD W w' K S4 (linesD s ls).1 (n + ls.length) D T S2' (linesD s ls).1 (n + ls.length) (linesD s ls).2 ∧ Chg Z w' (bothD S4 D S3) (bothD S4 D S2')) := fun Z S4 h => h.rdo HL.out HV.out h150 (by omega) HYL.out htl
        generalize (linesD s ls).2 = tx at *
        generalize (linesD s ls).1 = s' at *
        go_wp2_with (first
          | (go_at_call 23; refine HD.out.mono ?_; rintro e w6 ⟨rfl, ltx, S4, k6, c6⟩; have K6 := hide k6; have Q6 := hide (blk_chg QQ.out c6); obtain ⟨cl6, ql6⟩ := HCL.out _ (((Below.block ((Gr.refl w6).alloc (.cells #[iv 0, iv 0] 66)) q (lt_of_block Q6.out.1)).trans Q6.out.1)); clear k6 c6)
          | (go_at_call 24; refine (HLF.out _ (K6.out.gW.trans ((Gr.refl _).alloc _))).mono ?_; rintro e w7 ⟨rfl, g7⟩; obtain ⟨d7, hd7⟩ := ext_mk g7; subst hd7; have K7 := hide ((K6.out.gr ((Gr.refl _).alloc _)).gr d7.gr); have Q7 := hide ((Below.block d7.gr q ql6).trans ((Below.block ((Gr.refl w6).alloc (.cells #[iv 0, iv 0] 66)) q (lt_of_block Q6.out.1)).trans Q6.out.1)); have HR4 := hide (HRD.out _ S4 (K7.out.gr ((Gr.refl _).alloc (.cells #[iv 0, iv 0] 66)))); obtain ⟨cl7, ql7⟩ := HCL.out _ ((Below.block ((Gr.refl d7.out).alloc (.cells #[iv 0, iv 0] 66)) q (lt_of_block Q7.out)).trans Q7.out); clear g7)
          | (go_at_call 25; refine HR4.out.mono ?_; rintro e w8 ⟨rfl, S5, k8, c8⟩; have K8 := hide k8; have Q8 := hide (blk_chg (U := bothD S4 D S3) ⟨(Below.block ((Gr.refl d7.out).alloc (.cells #[iv 0, iv 0] 66)) q (lt_of_block Q7.out)).trans Q7.out, Q6.out.2⟩ c8); clear k8 c8)
          | fail)
        go_roundw
        case rel => exact ⟨i + 1, by omega, by congr 1, S4, S5, s', n + ls.length, tx, K8.out, by omega, by omega, Q8.out.1, Q8.out.2⟩
        case measure => simp [intOf]; omega
      · have HTK : Hid (toldK s ls = [] ∧ doK s ls = s) := by
          unfold toldK doK
          rw [if_neg hF, if_neg hF]
          exact ⟨rfl, rfl⟩
        rw [HTK.out.1, HTK.out.2] at HD
        have hc0 : ((fltD ls).1 == 0) = false := by
          simp only [beq_eq_false_iff_ne, ne_eq]
          exact fun h => hF (flt_code h)
        have hc1 : ((fltD ls).1 != 0) = true := by simp only [bne_iff_ne, ne_eq]; exact fun h => hF (flt_code h)
        clear HTK hF
        generalize (fltD ls).1 = c at *
        generalize (fltD ls).2 = a at *
        go_wp2_with (first
          | (go_at_call 23; refine HD.out.mono ?_; rintro e w6 ⟨rfl, ltx, S4, k6, c6⟩; have K6 := hide k6; have Q6 := hide (blk_chg QQ.out c6); obtain ⟨cl6, ql6⟩ := HCL.out _ (((Below.block ((Gr.refl w6).alloc (.cells #[iv c, iv a] 66)) q (lt_of_block Q6.out.1)).trans Q6.out.1)); clear k6 c6)
          | (go_at_call 24; refine (HLF.out _ (K6.out.gW.trans ((Gr.refl _).alloc _))).mono ?_; rintro e w7 ⟨rfl, g7⟩; obtain ⟨d7, hd7⟩ := ext_mk g7; subst hd7; have K7 := hide ((K6.out.gr ((Gr.refl _).alloc _)).gr d7.gr); have Q7 := hide ((Below.block d7.gr q ql6).trans ((Below.block ((Gr.refl w6).alloc (.cells #[iv c, iv a] 66)) q (lt_of_block Q6.out.1)).trans Q6.out.1)); clear g7)
          | fail)
        go_roundw
        case rel => exact ⟨i + 1, by omega, by congr 1, S4, S3, s, n + ls.length, told, ((K7.out.gr ((Gr.refl _).alloc _)).more (by omega)), by omega, by omega, (Below.block ((Gr.refl d7.out).alloc _) q (lt_of_block Q7.out)).trans Q7.out, Q6.out.2⟩
        case measure => simp [intOf]; omega
    · have hiI : decide ((i : Int) < 2) = false := decide_eq_false (by omega)
      go_wp2_with fail
      go_ret
      exact ⟨rfl, HK.out.gW⟩

end Go.Proofs.YtfcknkanbcndjagGreatDoor
