/- THE REFERENCE'S Town: Do, news that are heard. -/
import Derived.Test.YtfcknkanbcndjagGreatDoorTw17
import Derived.Test.YtfcknkanbcndjagGreatDoorNe8
import Derived.Deep.DeepCutAuto
namespace Go.Proofs.YtfcknkanbcndjagGreatDoor
open Go.RowKit
attribute [local go_sem] Ext.all Ext.cell Ext.frozen Ext.lt Ext.lt1 Ext.lt2 Ext.ne Ext.ne'
section
variable {M : Nat → Prop} {B w : World} {p : Nat} {q : Nat → Nat} {v o : Value} {t : Tn}
set_option maxRecDepth 20000 in
set_option maxHeartbeats 16000000 in
theorem wdo_hear {c : Nat → Nat → Nat} (H : Tw M B w p q v o t) (A : TnA t c) (hl : t.news.length ≤ 40) {a b : Int} {n : Nat} (hn : n < t.news.length) {y5 : Nw} (hy5 : y5 = t.news[n]) (x y : Value) :
    Calls Tryz.prog 28 #[pv p, .agg #[iv 4, iv a, iv b, iv (n : Int), x, y]] w fun e w' => ∃ v', e = .returned (iv (hearC { t with news := dropAt t.news n } y5).2) ∧ Tw M B w' p q v' o (hearC { t with news := dropAt t.news n } y5).1 := by
  obtain ⟨g, cap, cur, hv, R0⟩ := H.row hn
  subst hv
  have hni : (n : Int) < (t.news.length : Int) := by omega
  have T0 := hide (H.ext ((Gr.refl w).alloc (.cells #[iv 4, iv a, iv b, iv (n : Int), x, y] 54)))
  have R1 := hide (R0.gr ((Gr.refl w).alloc (.cells #[iv 4, iv a, iv b, iv (n : Int), x, y] 54)))
  have S0 := hide (sp_new w 4 a b (n : Int) x y)
  have h1 : decide ((n : Int) < 0) = false := decide_eq_false (by omega)
  have h2 : decide ((t.news.length : Int) ≤ (n : Int)) = false := decide_eq_false (by omega)
  have hgX : g < w.heap.size := lt_of_block R0.block
  have hlen := newsL_len t.news
  have hm : y5 ∈ t.news := by rw [hy5]; exact List.getElem_mem hn
  obtain ⟨q1, q2, q3, q4, q5, q6, q7, _⟩ := A.ok.news y5 hm
  have hg6 : (y5.g : Int) < 6 := by omega
  have E1 : (hearC { t with news := dropAt t.news n } y5).2 = (hearC t y5).2 := by unfold hearC; dsimp only; split <;> rfl
  have E2 : (hearC { t with news := dropAt t.news n } y5).1 = { t with news := dropAt t.news n, nd := (hearC t y5).1.nd } := by unfold hearC hearT; dsimp only; split <;> rfl
  rw [E1, E2]
  have HC : Hid (∀ (V : World) (v' : Value), Tw M B V p q v' o { t with news := dropAt t.news n } → Calls Tryz.prog 53 #[pv (q y5.g), nwV y5] V fun e w' => e = .returned (iv (hearC t y5).2) ∧ Tw M B w' p q v' o { t with news := dropAt t.news n, nd := (hearC t y5).1.nd } ∧ Wr (q y5.g) V w') := fun V v' h => by
    obtain ⟨e1, e2⟩ := hear_step A hm
    refine (mhearN (h.six.at_ y5.g q2) (A.s.z y5.g q2) (y5.f : Int) (y5.g : Int) (y5.to : Int) y5.s y5.d).mono fun e w' ⟨he, hm, hw⟩ => ⟨by rw [he, e1], ?_, hw⟩
    have := h.put q2 hw hm
    rw [← e2]
    exact this
  clear A hm E1 E2 q1 q3 q4 q5 q6 q7
  generalize (hearC t y5).2 = rr at *
  generalize (hearC t y5).1.nd = nd' at *
  have HCN : Hid (∀ W, NRow W g t.news.length cap cur (newsL t.news) → W.cell? ⟨g, n * 5, none⟩ = some (iv (y5.f : Int)) ∧ W.cell? ⟨g, n * 5 + 1, none⟩ = some (iv (y5.g : Int)) ∧ W.cell? ⟨g, n * 5 + 2, none⟩ = some (iv (y5.to : Int)) ∧ W.cell? ⟨g, n * 5 + 3, none⟩ = some (iv y5.s) ∧ W.cell? ⟨g, n * 5 + 4, none⟩ = some (iv y5.d)) := fun W R => by
    have hcn := celn_at (newsL t.news) n (by omega)
    have hx5 : (newsL t.news)[n]'(by omega) = ((y5.f : Int), (y5.g : Int), (y5.to : Int), y5.s, y5.d) := by
      unfold newsL
      rw [List.getElem_map, hy5]
    rw [hx5] at hcn
    obtain ⟨a0, a1, a2, a3, a4⟩ := hcn
    exact ⟨R.cell _ _ a0, R.cell _ _ a1, R.cell _ _ a2, R.cell _ _ a3, R.cell _ _ a4⟩
  have hle := R0.le
  have hmax : cap ≤ 9223372036854775807 := R0.max
  have HL := hide hl
  clear H R0 hy5 hlen hl
  go_enter Tryz.func28, Tryz.ntmps28
  go_upto_region 26 with (fail)
  refine wp_gen (fun V => Hid (Tw M B V p q (.slice (some ⟨g, 0, none⟩) t.news.length cap) o t) ∧ Hid (VArr V 54 6 w.heap.size (spF 4 a b (n : Int) x y)) ∧ Hid (NRow V g t.news.length cap cur (newsL t.news))) ⟨T0.out, S0.out, R1.out⟩ ?_
  clear T0 S0 R1
  generalize hX0 : w.heap.size = X at *
  clear hX0
  rintro V ⟨T0, S0, R0⟩
  obtain ⟨s1, s2, s3⟩ := sp_cells S0.out
  have hp := T0.out.blk.lt
  have hX := S0.out.lt
  have c2 := T0.out.news
  refine wp_region_ext (by kernel_rfl) (by kernel_rfl) ?_
  repeat (go_big_quiet_step (fail))
  refine wpQuiet_nil ?_
  rintro _ ⟨d5, rfl⟩
  go_upto_region 28 with (fail)
  refine wp_gen (fun V => Hid (Tw M B V p q (.slice (some ⟨g, 0, none⟩) t.news.length cap) o t) ∧ Hid (VArr V 54 6 X (spF 4 a b (n : Int) x y)) ∧ Hid (NRow V g t.news.length cap cur (newsL t.news))) ⟨T0.out.ext d5.gr, S0.out.gr d5.gr, R0.out.gr d5.gr⟩ ?_
  clear T0 S0 R0 s1 s2 s3 hp hX c2 d5
  rintro V2 ⟨T0, S0, R0⟩
  obtain ⟨s1, s2, s3⟩ := sp_cells S0.out
  have s0 : V2.cell? ⟨X, 0, none⟩ = some (iv 4) := S0.out.cell (j := 0) (by omega)
  obtain ⟨d0, d1, d2, d3, d4⟩ := HCN.out _ R0.out
  have hp := T0.out.blk.lt
  have hX := S0.out.lt
  have hg := lt_of_block R0.out.block
  have c2 := T0.out.news
  go_big_region
  all_goals
    go_upto_region 35 with (fail)
    refine wp_gen (fun V => Hid (Tw M B V p q (.slice (some ⟨g, 0, none⟩) t.news.length cap) o t) ∧ Hid (VArr V 54 6 X (spF 4 a b (n : Int) x y)) ∧ Hid (NRow V g t.news.length cap cur (newsL t.news)) ∧ Hid (ZArr V 114 5 V2.heap.size (nsF y5))) ⟨T0.out.ext ((Gr.refl _).alloc _).drew, S0.out.gr ((Gr.refl _).alloc _).drew, R0.out.gr ((Gr.refl _).alloc _).drew, ZArr.gr (show ZArr _ 114 5 V2.heap.size (nsF y5) from heap_alloc_new V2 _) (Gr.refl _).drew⟩ ?_
    clear T0 S0 R0 s0 s1 s2 s3 d0 d1 d2 d3 d4 hp hX hg c2 HCN
    generalize V2.heap.size = Y at *
    rintro V3 ⟨T0, S0, R0, Z0⟩
    have wn : IntKind.i64.wrap ((n : Int) + 1) = (n : Int) + 1 := by rw [IntKind.wrap_i64]; have := HL.out; omega
    go_cut [] (fun wc => ∃ v', Hid (Tw M B wc p q v' o { t with news := dropAt t.news n }) ∧ Hid (VArr wc 54 6 X (spF 4 a b (n : Int) x y)) ∧ Hid (ZArr wc 114 5 Y (nsF y5)))
    case first =>
      obtain ⟨s1, s2, s3⟩ := sp_cells S0.out
      have hp := T0.out.blk.lt
      have hX := S0.out.lt
      have c2 := T0.out.news
      obtain ⟨A, a1, c1, w1, a2, n2, c2', w2, hA, r1, r2, k1, k2, TF⟩ := T0.out.cut R0.out HL.out hn
      have HR1 := hide r1
      have HR2 := hide r2
      have HTF := hide TF
      have hp1 : VArr w1 110 44 p (twF t.cst q (.slice (some ⟨g, 0, none⟩) t.news.length cap) o) := (k1 p hp).trans T0.out.blk
      have hp2 : VArr w2 110 44 p (twF t.cst q (.slice (some ⟨g, 0, none⟩) t.news.length cap) o) := (k2 p hp).trans T0.out.blk
      have hs1 : VArr w1 54 6 X (spF 4 a b (n : Int) x y) := (k1 X hX).trans S0.out
      have hs2 : VArr w2 54 6 X (spF 4 a b (n : Int) x y) := (k2 X hX).trans S0.out
      have hz2 : ZArr w2 114 5 Y (nsF y5) := (k2 Y Z0.out.lt).trans Z0.out
      have m1 := hp1.cell (j := 42) (by omega)
      have m2 := hp2.cell (j := 42) (by omega)
      unfold twF at m1 m2
      rw [if_neg (by omega), if_neg (by omega), if_pos rfl] at m1 m2
      obtain ⟨_, _, u3⟩ := sp_cells hs1
      have lp1 := hp1.lt
      have lx1 := hs1.lt
      have lp2 := hp2.lt
      have fz2 := hp2.free 42
      have hXp : X ≠ p := blk_ne S0.out T0.out.blk (by decide)
      have hYp : Y ≠ p := blk_ne Z0.out T0.out.blk (by decide)
      have HS2 := hide (hs2.other hXp 42 (.slice a2 n2 c2'))
      have HZ2 := hide (hz2.other hYp 42 (.slice a2 n2 c2'))
      have hnc : n ≤ cap := by omega
      have hnc1 : n + 1 ≤ cap := by omega
      have hnl1 : n + 1 ≤ t.news.length := by omega
      have hnl2 : (n : Int) + 1 ≤ (t.news.length : Int) := by omega
      have hnl3 : (n : Int) < (t.news.length : Int) := by omega
      have hnl4 : (0 : Int) ≤ (n : Int) + 1 := by omega
      clear r1 r2 TF k1 k2 hp1 hp2 hs1 hs2 hz2 T0 S0 R0 Z0 hXp hYp hle hmax HL
      go_region_law (first
        | (refine step_append_eq rfl _ _ 46 46 rfl _ _ (by first | (simp [Act.eval]; done) | simp [Act.eval, Act.put]) (by first | (simp [Act.eval]; done) | simp [Act.eval, Act.put]) HR1.out ?_)
        | (refine step_append_eq rfl _ _ 46 46 rfl _ _ (by first | (simp [Act.eval]; done) | simp [Act.eval, Act.put]) (by first | (simp [Act.eval]; done) | simp [Act.eval, Act.put]) HR2.out ?_))
      all_goals
        go_wp2_with fail
        go_meet
        case rel => exact ⟨_, HTF, HS2, HZ2⟩
    case rest =>
      clear T0 S0 R0 Z0
      obtain ⟨v', T1, S1, Z1⟩ := hcut
      have s0 : wc.cell? ⟨X, 0, none⟩ = some (iv 4) := S1.out.cell (j := 0) (by omega)
      have hX := S1.out.lt
      have hp := T1.out.blk.lt
      go_upto_region 37 with (fail)
      obtain ⟨y0, y1, y2, y3, y4⟩ := nsF_cells Z1.out
      have hY := Z1.out.lt
      have n0 := T1.out.node q2
      have HCW := hide (HC.out _ _ (T1.out.ext (Gr.refl wc).drew))
      have hYq : Hid (Y ≠ q y5.g) := blk_ne Z1.out (T1.out.six.at_ y5.g q2) (by decide)
      simp only [nwV] at HCW
      clear HC s0 hX S1
      go_region_held3 (fun W => W.cell? ⟨p, 36 + y5.g, none⟩ = some (pv (q y5.g)) ∧ W.cell? ⟨Y, 0, none⟩ = some (iv (y5.f : Int)) ∧ W.cell? ⟨Y, 1, none⟩ = some (iv (y5.g : Int)) ∧ W.cell? ⟨Y, 2, none⟩ = some (iv (y5.to : Int)) ∧ W.cell? ⟨Y, 3, none⟩ = some (iv y5.s) ∧ W.cell? ⟨Y, 4, none⟩ = some (iv y5.d)) (first | exact ⟨n0, y0, y1, y2, y3, y4⟩ | exact ⟨T2.out.node q2, nsF_cells Z2.out⟩ | go_keep) (first | (go_at_call 53; with_reducible refine HCW.out.mono ?_; rintro e V4 ⟨rfl, T2', W2'⟩; have T2 := hide T2'; have Z2 := hide (W2'.arr (Z1.out.gr (Gr.refl wc).drew) hYq.out); clear T2' W2'))
      all_goals
        go_wp2_with fail
        go_ret
        exact ⟨_, rfl, T2.out⟩
end

end Go.Proofs.YtfcknkanbcndjagGreatDoor
