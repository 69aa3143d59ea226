/- THE PROGRAM'S Net: double, tell. -/
import Derived.Test.YtihamicnbihgnaeNe6
namespace Go.Proofs.Ytihamicnbihgnae
open Go.RowKit
attribute [local go_sem] Ext.all Ext.cell Ext.frozen Ext.lt Ext.lt1 Ext.lt2 Ext.ne Ext.ne'

section
variable {M : Nat → Prop} {B w w' : World} {p k : Nat} {q : Nat → Nat} {v : Value} {c : Nat → Nat → Nat} {t : Tn}
/-- News are put behind all others: the append, and the store behind it. -/
theorem Ne.app (H : Ne M B w p k q v c t) {ao : Option Addr} {cp : Nat} (ty : TypeId) {nl : List Nw} (hN : NewsAt w ao (newsL nl)) (h0 : 0 < nl.length) (hm : t.news.length + nl.length ≤ 1000) :
    ∃ v' w', (Builtin.append_ #[37, 37] ty #[v, .slice ao nl.length cp]).run Try.prog w = .ok v' w' ∧ (∃ a n c, v' = .slice a n c) ∧ (w'.cell? ⟨p, 7, none⟩ = some v ∧ w'.frozen? ⟨p, 7, none⟩ = false ∧ p < w'.heap.size) ∧ Ne M B (w'.setCell ⟨p, 7, none⟩ v') p k q v' c { t with news := t.news ++ nl } := by
  obtain ⟨v', w', h1, h2, h3, h4⟩ := NwO.app (c := cp) ty H.nw (Nat.zero_le _) hN (by rw [newsL_len]; exact h0) (by rw [newsL_len, newsL_len]; exact hm)
  rw [newsL_len] at h1
  have hb : VArr w' 39 8 p (ntF k q v) := (h3.block p H.blk.lt (fun e => (H.vq e.symm).1 rfl)).trans H.blk
  have hs := h2.shape
  obtain ⟨a, n, e, _⟩ := hs
  refine ⟨v', w', h1, ⟨a, _, n, e⟩, ⟨hb.cell (j := 7) (by omega), hb.free 7, hb.lt⟩, H.newsPut h3 (by rw [newsL_app]; exact h2) (.inr h4)⟩
set_option maxRecDepth 20000 in
set_option maxHeartbeats 8000000 in
theorem double_no (H : Ne M B w p k q v c t) (hl : t.news.length ≤ 40) {n r : Int} (hr : (¬ (0 ≤ n ∧ n < (t.news.length : Int)) ∧ r = 6) ∨ ((0 ≤ n ∧ n < (t.news.length : Int)) ∧ 40 ≤ t.news.length ∧ r = 9)) :
    Calls Try.prog 26 #[pv p, iv n] w fun e w' => e = .returned (iv r) ∧ w' = w := by
  rcases hr with ⟨hn, rfl⟩ | ⟨hn, h40, rfl⟩
  · have HT := hide (there_is H n (decide_eq_false hn))
    clear H hn
    go_enter Try.func26, Try.ntmps26
    go_wp2_with (go_at_call 41; with_reducible refine HT.out.mono ?_; rintro e w1 ⟨rfl, hw1⟩; have hw2 := hw1.symm; clear hw1; subst hw2)
    go_ret
    exact ⟨rfl, rfl⟩
  · have HT := hide (there_is H n (decide_eq_true hn))
    have hp := H.blk.lt
    have c0 := H.news
    obtain ⟨ao, cv, hv, _, _, _⟩ := H.nw.shape
    rw [newsL_len] at hv
    subst hv
    have g1 : decide ((40 : Int) ≤ (t.news.length : Int)) = true := decide_eq_true (by omega)
    clear H hn h40
    go_enter Try.func26, Try.ntmps26
    go_wp2_with (go_at_call 41; with_reducible refine HT.out.mono ?_; rintro e w1 ⟨rfl, hw1⟩; have hw2 := hw1.symm; clear hw1; subst hw2)
    go_ret
    exact ⟨rfl, rfl⟩
set_option maxRecDepth 20000 in
set_option maxHeartbeats 8000000 in
theorem double_ok (H : Ne M B w p k q v c t) (hl : t.news.length < 40) {n : Nat} (hn : n < t.news.length) {x : Nw} (hx : t.news[n] = x) :
    Calls Try.prog 26 #[pv p, iv (n : Int)] w fun e w' => ∃ v', e = .returned (iv 0) ∧ Ne M B w' p k q v' c { t with news := t.news ++ [x] } := by
  have hni : (n : Int) < (t.news.length : Int) := by omega
  have HT := hide (there_is H (n : Int) (decide_eq_true ⟨by omega, hni⟩))
  have hp := H.blk.lt
  have c0 := H.news
  have hlen := newsL_len t.news
  obtain ⟨g, cap, cur, hv, R0⟩ : ∃ g cap cur, v = .slice (some ⟨g, 0, none⟩) t.news.length cap ∧ NRow w g t.news.length cap cur (newsL t.news) := by
    rcases H.nw.2 with ⟨_, h0⟩ | ⟨g, cap, cur, hv, hb, hg, hn', hc, hs, ht⟩
    · exfalso; omega
    · rw [hlen] at hv ht hn'
      exact ⟨g, cap, cur, hv, ⟨hg, hlen, hn', hc, hs, ht⟩⟩
  subst hv
  have hg := lt_of_block R0.block
  have hcn := celn_at (newsL t.news) n (by omega)
  have hx5 : (newsL t.news)[n]'(by omega) = ((x.f : Int), (x.g : Int), (x.to : Int), x.s, x.d) := by
    unfold newsL
    rw [List.getElem_map, hx]
  rw [hx5] at hcn
  obtain ⟨a0, a1, a2, a3, a4⟩ := hcn
  have d0 := R0.cell _ _ a0
  have d1 := R0.cell _ _ a1
  have d2 := R0.cell _ _ a2
  have d3 := R0.cell _ _ a3
  have d4 := R0.cell _ _ a4
  simp only at d0 d1 d2 d3 d4
  clear a0 a1 a2 a3 a4 hx5
  have g1 : decide ((40 : Int) ≤ (t.news.length : Int)) = false := decide_eq_false (by omega)
  have gX : Gr w (w.alloc (.cells #[iv (x.f : Int), iv (x.g : Int), iv (x.to : Int), iv x.s, iv x.d] 53)).drew := ((Gr.refl w).alloc _).drew
  have hN : NewsAt (w.alloc (.cells #[iv (x.f : Int), iv (x.g : Int), iv (x.to : Int), iv x.s, iv x.d] 53)).drew (some ⟨w.heap.size, 0, none⟩) (newsL [x]) := .inr ⟨w.heap.size, 0, rfl, by simp, fun i hi => by
    have : i = 0 := by simp [newsL] at hi; exact hi
    subst this
    simp [newsL, go_sem]⟩
  obtain ⟨v', w', hrun, ⟨sa, sn, sc, hs⟩, ⟨f1, f2, f3⟩, H'⟩ := (H.ext gX).app (cp := 1) 37 hN (by simp) (by simp; omega)
  subst hs
  have HR : Hid ((Builtin.append_ #[37, 37] 37 #[.slice (some ⟨g, 0, none⟩) t.news.length cap, .slice (some ⟨w.heap.size, 0, none⟩) 1 1]).run Try.prog (w.alloc (.cells #[iv (x.f : Int), iv (x.g : Int), iv (x.to : Int), iv x.s, iv x.d] 53)).drew = .ok (.slice sa sn sc) w') := hrun
  have HF := hide H'
  clear H' hrun hN gX hx R0 H
  go_enter Try.func26, Try.ntmps26
  go_upto_region 5 with (go_at_call 41; with_reducible refine HT.out.mono ?_; rintro e w1 ⟨rfl, hw1⟩; have hw2 := hw1.symm; clear hw1; subst hw2)
  go_region_law (refine step_append_eq rfl _ _ 37 37 rfl _ _ (by simp [Act.eval]) (by simp [Act.eval]) HR.out ?_)
  all_goals
    go_wp2_with fail
    go_ret
    exact ⟨_, rfl, HF.out⟩
end

end Go.Proofs.Ytihamicnbihgnae
