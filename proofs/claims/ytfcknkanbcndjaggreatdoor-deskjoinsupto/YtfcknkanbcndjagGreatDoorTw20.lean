/- THE REFERENCE'S Town: Do, news that are doubled. -/
import Derived.Test.YtfcknkanbcndjagGreatDoorTw17
namespace Go.Proofs.YtfcknkanbcndjagGreatDoor
open Go.RowKit
attribute [local go_sem] Ext.all Ext.cell Ext.frozen Ext.lt Ext.lt1 Ext.lt2 Ext.ne Ext.ne'
section
variable {M : Nat → Prop} {B w : World} {p : Nat} {q : Nat → Nat} {v o : Value} {t : Tn}
/-- All news once more, in new memory. -/
theorem Tw.copy {W : World} {g cap : Nat} {cur : Array Value} (R : NRow W g t.news.length cap cur (newsL t.news)) (hl : t.news.length ≤ 40) :
    ∃ a1 c1 w1, (Builtin.append_ #[46, 46] 46 #[.slice none 0 0, .slice (some ⟨g, 0, none⟩) t.news.length cap]).run Tryz.prog W = .ok (.slice a1 t.news.length c1) w1 ∧ w1.ownsRow W.heap.size 114 5 (.slice a1 t.news.length c1) t.news.length (celn (newsL t.news)) ∧ W.grownBy w1 none := by
  obtain ⟨v1, w1, r1, o1, g1⟩ := app_none (W := W) (a := ⟨g, 0, none⟩) (m := t.news.length) (c := cap) (xs := newsL t.news) 46 (newsL_len _) (fun j u hj => by
    rw [Addr.add_lit, Nat.zero_add]
    exact R.cell j u hj) (by omega)
  obtain ⟨a1, c1, rfl⟩ := own_shape o1
  exact ⟨a1, c1, w1, r1, o1, g1⟩
/-- And one behind them. -/
theorem Tw.dbl {W w1 : World} {v1 : Value} {b : Nat} {y5 : Nw} (H : Tw M B W p q v o t) (hO : w1.ownsRow W.heap.size 114 5 v1 t.news.length (celn (newsL t.news))) (hg : W.grownBy w1 none) (hl : t.news.length ≤ 40)
    (hc : w1.heap[b]? = some (.cells #[iv (y5.f : Int), iv (y5.g : Int), iv (y5.to : Int), iv y5.s, iv y5.d] 114 (0, 0))) :
    ∃ a2 n2 c2 w2, (Builtin.append_ #[46, 46] 46 #[v1, .slice (some ⟨b, 0, none⟩) 1 1]).run Tryz.prog w1 = .ok (.slice a2 n2 c2) w2 ∧ (w2.cell? ⟨p, 42, none⟩ = some v ∧ w2.frozen? ⟨p, 42, none⟩ = false ∧ p < w2.heap.size) ∧ Tw M B (w2.setCell ⟨p, 42, none⟩ (.slice a2 n2 c2)) p q (.slice a2 n2 c2) o { t with news := t.news ++ [y5] } := by
  obtain ⟨v2, w2, r2, o2, g2⟩ := app_more (W := W) (a := ⟨b, 0, none⟩) (k := 1) (c := 1) (ys := newsL [y5]) 46 hO hg rfl (fun j u hj => by
    have hj5 : j < 5 := by
      have := (List.getElem?_eq_some_iff.1 hj).1
      simpa [celn, newsL] using this
    rw [Addr.add_lit, Nat.zero_add]
    simp only [World.cell?, hc]
    rcases (show j = 0 ∨ j = 1 ∨ j = 2 ∨ j = 3 ∨ j = 4 by omega) with rfl | rfl | rfl | rfl | rfl <;> (simp [celn, newsL] at hj; subst hj; rfl)) (by omega)
  obtain ⟨a2, c2, rfl⟩ := own_shape o2
  rw [← newsL_app] at o2
  obtain ⟨hb, hT⟩ := H.anew o2 (by rw [List.length_append, List.length_singleton]) (g2 _)
  have m1 := hb.cell (j := 42) (by omega)
  unfold twF at m1
  rw [if_neg (by omega), if_neg (by omega), if_pos rfl] at m1
  exact ⟨a2, _, c2, w2, r2, ⟨m1, hb.free 42, hb.lt⟩, hT⟩
set_option maxRecDepth 20000 in
set_option maxHeartbeats 16000000 in
theorem wdo_full (H : Tw M B w p q v o t) (hl : 40 ≤ t.news.length) {a b : Int} {n : Nat} (hn : n < t.news.length) {y5 : Nw} (hy5 : y5 = t.news[n]) (x y : Value) :
    Calls Tryz.prog 28 #[pv p, .agg #[iv 6, iv a, iv b, iv (n : Int), x, y]] w fun e w' => ∃ v', e = .returned (iv 9) ∧ Tw M B w' p q v' o t := by
  obtain ⟨g, cap, cur, hv, R0⟩ := H.row hn
  subst hv
  have hni : (n : Int) < (t.news.length : Int) := by omega
  have T0 := hide (H.ext ((Gr.refl w).alloc (.cells #[iv 6, iv a, iv b, iv (n : Int), x, y] 54)))
  have R1 := hide (R0.gr ((Gr.refl w).alloc (.cells #[iv 6, iv a, iv b, iv (n : Int), x, y] 54)))
  have S0 := hide (sp_new w 6 a b (n : Int) x y)
  have h1 : decide ((n : Int) < 0) = false := decide_eq_false (by omega)
  have h2 : decide ((t.news.length : Int) ≤ (n : Int)) = false := decide_eq_false (by omega)
  have hgX : g < w.heap.size := lt_of_block R0.block
  have hlen := newsL_len t.news
  have h40 : decide ((40 : Int) ≤ (t.news.length : Int)) = true := decide_eq_true (by omega)
  have HCN : Hid (∀ W, NRow W g t.news.length cap cur (newsL t.news) → W.cell? ⟨g, n * 5, none⟩ = some (iv (y5.f : Int)) ∧ W.cell? ⟨g, n * 5 + 1, none⟩ = some (iv (y5.g : Int)) ∧ W.cell? ⟨g, n * 5 + 2, none⟩ = some (iv (y5.to : Int)) ∧ W.cell? ⟨g, n * 5 + 3, none⟩ = some (iv y5.s) ∧ W.cell? ⟨g, n * 5 + 4, none⟩ = some (iv y5.d)) := fun W R => by
    have hcn := celn_at (newsL t.news) n (by omega)
    have hx5 : (newsL t.news)[n]'(by omega) = ((y5.f : Int), (y5.g : Int), (y5.to : Int), y5.s, y5.d) := by
      unfold newsL
      rw [List.getElem_map, hy5]
    rw [hx5] at hcn
    obtain ⟨a0, a1, a2, a3, a4⟩ := hcn
    exact ⟨R.cell _ _ a0, R.cell _ _ a1, R.cell _ _ a2, R.cell _ _ a3, R.cell _ _ a4⟩
  have hle := R0.le
  clear H R0 hy5 hlen hl
  go_enter Tryz.func28, Tryz.ntmps28
  go_upto_region 26 with (fail)
  refine wp_gen (fun V => Hid (Tw M B V p q (.slice (some ⟨g, 0, none⟩) t.news.length cap) o t) ∧ Hid (VArr V 54 6 w.heap.size (spF 6 a b (n : Int) x y)) ∧ Hid (NRow V g t.news.length cap cur (newsL t.news))) ⟨T0.out, S0.out, R1.out⟩ ?_
  clear T0 S0 R1
  generalize hX0 : w.heap.size = X at *
  clear hX0
  rintro V ⟨T0, S0, R0⟩
  obtain ⟨s1, s2, s3⟩ := sp_cells S0.out
  have hp := T0.out.blk.lt
  have hX := S0.out.lt
  have c2 := T0.out.news
  refine wp_region_ext (by kernel_rfl) (by kernel_rfl) ?_
  repeat (go_big_quiet_step (fail))
  refine wpQuiet_nil ?_
  rintro _ ⟨d5, rfl⟩
  go_upto_region 28 with (fail)
  refine wp_gen (fun V => Hid (Tw M B V p q (.slice (some ⟨g, 0, none⟩) t.news.length cap) o t) ∧ Hid (VArr V 54 6 X (spF 6 a b (n : Int) x y)) ∧ Hid (NRow V g t.news.length cap cur (newsL t.news))) ⟨T0.out.ext d5.gr, S0.out.gr d5.gr, R0.out.gr d5.gr⟩ ?_
  clear T0 S0 R0 s1 s2 s3 hp hX c2 d5
  rintro V2 ⟨T0, S0, R0⟩
  obtain ⟨s1, s2, s3⟩ := sp_cells S0.out
  have s0 : V2.cell? ⟨X, 0, none⟩ = some (iv 6) := S0.out.cell (j := 0) (by omega)
  obtain ⟨d0, d1, d2, d3, d4⟩ := HCN.out _ R0.out
  have hp := T0.out.blk.lt
  have hX := S0.out.lt
  have hg := lt_of_block R0.out.block
  have c2 := T0.out.news
  go_big_region
  all_goals
    have T9 := hide (T0.out.ext ((Gr.refl V2).alloc (.cells #[iv (y5.f : Int), iv (y5.g : Int), iv (y5.to : Int), iv y5.s, iv y5.d] 114)).drew)
    go_wp2_with fail
    go_ret
    exact ⟨_, rfl, T9.out⟩
set_option maxRecDepth 20000 in
set_option maxHeartbeats 16000000 in
theorem wdo_double (H : Tw M B w p q v o t) (hl : t.news.length < 40) {a b : Int} {n : Nat} (hn : n < t.news.length) {y5 : Nw} (hy5 : y5 = t.news[n]) (x y : Value) :
    Calls Tryz.prog 28 #[pv p, .agg #[iv 6, iv a, iv b, iv (n : Int), x, y]] w fun e w' => ∃ v', e = .returned (iv 0) ∧ Tw M B w' p q v' o { t with news := t.news ++ [y5] } := by
  obtain ⟨g, cap, cur, hv, R0⟩ := H.row hn
  subst hv
  have hni : (n : Int) < (t.news.length : Int) := by omega
  have T0 := hide (H.ext ((Gr.refl w).alloc (.cells #[iv 6, iv a, iv b, iv (n : Int), x, y] 54)))
  have R1 := hide (R0.gr ((Gr.refl w).alloc (.cells #[iv 6, iv a, iv b, iv (n : Int), x, y] 54)))
  have S0 := hide (sp_new w 6 a b (n : Int) x y)
  have h1 : decide ((n : Int) < 0) = false := decide_eq_false (by omega)
  have h2 : decide ((t.news.length : Int) ≤ (n : Int)) = false := decide_eq_false (by omega)
  have hgX : g < w.heap.size := lt_of_block R0.block
  have hlen := newsL_len t.news
  have h40 : decide ((40 : Int) ≤ (t.news.length : Int)) = false := decide_eq_false (by omega)
  have HCN : Hid (∀ W, NRow W g t.news.length cap cur (newsL t.news) → W.cell? ⟨g, n * 5, none⟩ = some (iv (y5.f : Int)) ∧ W.cell? ⟨g, n * 5 + 1, none⟩ = some (iv (y5.g : Int)) ∧ W.cell? ⟨g, n * 5 + 2, none⟩ = some (iv (y5.to : Int)) ∧ W.cell? ⟨g, n * 5 + 3, none⟩ = some (iv y5.s) ∧ W.cell? ⟨g, n * 5 + 4, none⟩ = some (iv y5.d)) := fun W R => by
    have hcn := celn_at (newsL t.news) n (by omega)
    have hx5 : (newsL t.news)[n]'(by omega) = ((y5.f : Int), (y5.g : Int), (y5.to : Int), y5.s, y5.d) := by
      unfold newsL
      rw [List.getElem_map, hy5]
    rw [hx5] at hcn
    obtain ⟨a0, a1, a2, a3, a4⟩ := hcn
    exact ⟨R.cell _ _ a0, R.cell _ _ a1, R.cell _ _ a2, R.cell _ _ a3, R.cell _ _ a4⟩
  have hle := R0.le
  have hmax : cap ≤ 9223372036854775807 := R0.max
  have HL := hide hl
  clear H R0 hy5 hlen hl
  go_enter Tryz.func28, Tryz.ntmps28
  go_upto_region 26 with (fail)
  refine wp_gen (fun V => Hid (Tw M B V p q (.slice (some ⟨g, 0, none⟩) t.news.length cap) o t) ∧ Hid (VArr V 54 6 w.heap.size (spF 6 a b (n : Int) x y)) ∧ Hid (NRow V g t.news.length cap cur (newsL t.news))) ⟨T0.out, S0.out, R1.out⟩ ?_
  clear T0 S0 R1
  generalize hX0 : w.heap.size = X at *
  clear hX0
  rintro V ⟨T0, S0, R0⟩
  obtain ⟨s1, s2, s3⟩ := sp_cells S0.out
  have hp := T0.out.blk.lt
  have hX := S0.out.lt
  have c2 := T0.out.news
  refine wp_region_ext (by kernel_rfl) (by kernel_rfl) ?_
  repeat (go_big_quiet_step (fail))
  refine wpQuiet_nil ?_
  rintro _ ⟨d5, rfl⟩
  go_upto_region 28 with (fail)
  refine wp_gen (fun V => Hid (Tw M B V p q (.slice (some ⟨g, 0, none⟩) t.news.length cap) o t) ∧ Hid (VArr V 54 6 X (spF 6 a b (n : Int) x y)) ∧ Hid (NRow V g t.news.length cap cur (newsL t.news))) ⟨T0.out.ext d5.gr, S0.out.gr d5.gr, R0.out.gr d5.gr⟩ ?_
  clear T0 S0 R0 s1 s2 s3 hp hX c2 d5
  rintro V2 ⟨T0, S0, R0⟩
  obtain ⟨s1, s2, s3⟩ := sp_cells S0.out
  have s0 : V2.cell? ⟨X, 0, none⟩ = some (iv 6) := S0.out.cell (j := 0) (by omega)
  obtain ⟨d0, d1, d2, d3, d4⟩ := HCN.out _ R0.out
  have hp := T0.out.blk.lt
  have hX := S0.out.lt
  have hg := lt_of_block R0.out.block
  have c2 := T0.out.news
  go_big_region
  all_goals
    go_upto_region 33 with (fail)
    refine wp_gen (fun V => Hid (Tw M B V p q (.slice (some ⟨g, 0, none⟩) t.news.length cap) o t) ∧ Hid (NRow V g t.news.length cap cur (newsL t.news)) ∧ Hid (ZArr V 114 5 V2.heap.size (nsF y5))) ⟨T0.out.ext ((Gr.refl _).alloc _).drew, R0.out.gr ((Gr.refl _).alloc _).drew, ZArr.gr (show ZArr _ 114 5 V2.heap.size (nsF y5) from heap_alloc_new V2 _) (Gr.refl _).drew⟩ ?_
    clear T0 S0 R0 s0 s1 s2 s3 d0 d1 d2 d3 d4 hp hX hg c2 HCN
    generalize V2.heap.size = Y at *
    rintro V3 ⟨T0, R0, Z0⟩
    have hp := T0.out.blk.lt
    have c2 := T0.out.news
    have hY := Z0.out.lt
    obtain ⟨y0, y1, y2, y3, y4⟩ := nsF_cells Z0.out
    -- the news first
    obtain ⟨a1, c1, w1, r1, o1, g1⟩ := Tw.copy (t := t) (R0.out.gr (Gr.refl V3).drew) (by have := HL.out; omega)
    obtain ⟨y0', y1', y2', y3', y4'⟩ := nsF_cells (show ZArr w1 114 5 Y (nsF y5) from (g1.block Y hY (fun e => by cases e)).trans Z0.out)
    have hY1 : Y < w1.heap.size := Nat.lt_of_lt_of_le hY g1.size
    have gA : V3.drew.grownBy (w1.alloc (.cells #[iv (y5.f : Int), iv (y5.g : Int), iv (y5.to : Int), iv y5.s, iv y5.d] 114)) none := ⟨g1.os, g1.tape, g1.output, Nat.le_trans g1.size (by simp), fun k hk hn => (Below.block ((Gr.refl w1).alloc _) k (Nat.lt_of_lt_of_le hk g1.size)).trans (g1.block k hk hn)⟩
    obtain ⟨a2, n2, c2', w2, r2, ⟨f1, f2, f3⟩, TA⟩ := (T0.out.ext (Gr.refl V3).drew).dbl (y5 := y5) (own_gr o1 ((Gr.refl w1).alloc (.cells #[iv (y5.f : Int), iv (y5.g : Int), iv (y5.to : Int), iv y5.s, iv y5.d] 114))) gA (by have := HL.out; omega) (heap_alloc_new w1 _)
    -- the one first
    have gB := ((Gr.refl V3).alloc (.cells #[iv (y5.f : Int), iv (y5.g : Int), iv (y5.to : Int), iv y5.s, iv y5.d] 114)).drew
    obtain ⟨b1, e1, z1, p1, p2, p3⟩ := Tw.copy (t := t) (R0.out.gr gB) (by have := HL.out; omega)
    obtain ⟨b2, m2, e2, z2, p4, ⟨f4, f5, f6⟩, TB⟩ := (T0.out.ext gB).dbl (y5 := y5) (b := V3.heap.size) p2 p3 (by have := HL.out; omega) ((p3.block V3.heap.size (by simp) (fun e => by cases e)).trans (heap_alloc_new V3 _))
    have HR1 := hide r1
    have HR2 := hide r2
    have HR3 : Hid ((Builtin.append_ #[46, 46] 46 #[.slice none 0 0, .slice (some ⟨g, 0, none⟩) t.news.length cap]).run Tryz.prog (V3.alloc (.cells #[iv (y5.f : Int), iv (y5.g : Int), iv (y5.to : Int), iv y5.s, iv y5.d] 114)).drew = .ok (.slice b1 t.news.length e1) z1) := p1
    have HR4 := hide p4
    have HTA := hide TA
    have HTB := hide TB
    clear r1 r2 p1 p4 TA TB o1 g1 gA gB p2 p3 T0 R0 Z0
    go_region_law (first
      | (refine step_append_eq rfl _ _ 46 46 rfl _ _ (by simp [Act.eval]) (by simp [Act.eval]) HR1.out ?_)
      | (refine step_append_eq rfl _ _ 46 46 rfl _ _ (by simp [Act.eval]) (by simp [Act.eval]) HR2.out ?_)
      | (refine step_append_eq rfl _ _ 46 46 rfl _ _ (by simp [Act.eval]) (by simp [Act.eval]) HR3.out ?_)
      | (refine step_append_eq rfl _ _ 46 46 rfl _ _ (by simp [Act.eval]) (by simp [Act.eval]) HR4.out ?_))
    all_goals
      go_wp2_with fail
      go_ret
      first
        | exact ⟨_, rfl, HTA.out⟩
        | exact ⟨_, rfl, HTB.out⟩
end

end Go.Proofs.YtfcknkanbcndjagGreatDoor
