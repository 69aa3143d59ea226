import Derived.Test.YthiojjkgodffnaeTw15
import Derived.Test.YthiojjkgodffnaeNe8
/- THE REFERENCE'S Town: its news made anew: one taken out, one put in twice. -/
namespace Go.Proofs.Ythiojjkgodffnae
open Go.RowKit

theorem own_base {w : World} {b e s n : Nat} {v : Value} {xs : List Value} (h : w.ownsRow b e s v n xs) : w.ownsRow 0 e s v n xs := by
  refine ⟨h.1, ?_⟩
  rcases h.2 with hn | ⟨g, cap, cur, hv, _, rest⟩
  · exact .inl hn
  · exact .inr ⟨g, cap, cur, hv, Nat.zero_le _, rest⟩
theorem own_young {w : World} {b e s n : Nat} {v : Value} {xs : List Value} (h : w.ownsRow b e s v n xs) {k : Nat} (hk : v.ownBlock = some k) : b ≤ k := by
  rcases h.2 with ⟨rfl, _⟩ | ⟨g, cap, cur, rfl, hb, _⟩
  · cases hk
  · cases hk; exact hb
theorem own_shape {w : World} {b e s n : Nat} {v : Value} {xs : List Value} (h : w.ownsRow b e s v n xs) : ∃ a c, v = .slice a n c := by
  rcases h.2 with ⟨rfl, rfl⟩ | ⟨g, cap, cur, rfl, _⟩
  · exact ⟨_, _, rfl⟩
  · exact ⟨_, _, rfl⟩
theorem grown2 {W w1 w2 : World} {r : Option Nat} (h : W.grownBy w1 none) (k : w1.grownBy w2 r) (hr : ∀ b, r = some b → W.heap.size ≤ b) (s : Option Nat) : W.grownBy w2 s :=
  ⟨k.os.trans h.os, k.tape.trans h.tape, k.output.trans h.output, Nat.le_trans h.size k.size, fun b hb _ => (k.block b (Nat.lt_of_lt_of_le hb h.size) (fun e => by have := hr b e.symm; omega)).trans (h.block b hb (fun e => by cases e))⟩
/-- 'append(nil, l...)'. -/
theorem app_none {W : World} {a : Addr} {m c : Nat} {xs : List Nws} (ty : TypeId) (hx : xs.length = m) (hc : ∀ j u, (celn xs)[j]? = some u → W.cell? (a.add j) = some u) (hm : m ≤ 1000) :
    ∃ v1 w1, (Builtin.append_ #[49, 49] ty #[.slice none 0 0, .slice (some a) m c]).run Try.prog W = .ok v1 w1 ∧ w1.ownsRow W.heap.size 66 5 v1 m (celn xs) ∧ W.grownBy w1 none := by
  obtain ⟨i0, hi, hz0, hz1, hz2⟩ := info_parts Try.info66
  obtain ⟨v', w', h1, h2, h3, _⟩ := run_append_own (P := Try.prog) W W.heap.size 49 ty 66 i0 _ 5 40 Try.underlying49 hi hz0 hz1 hz2 (by rfl) (by decide) (.slice none 0 0) 0 [] (World.ownsRow_nil _ _ _ _)
      a m c (celn xs) (by rw [celn_length, hx]) hc (celn_one xs) (by unfold maxLen; omega) (by omega) (Nat.le_refl _)
  simp only [Nat.zero_add, List.nil_append] at h2
  exact ⟨v', w', h1, h2, h3⟩
/-- 'append(l, m...)' where l is new. -/
theorem app_more {W w1 : World} {v1 : Value} {a : Addr} {m k c : Nat} {xs ys : List Nws} (ty : TypeId) (hO : w1.ownsRow W.heap.size 66 5 v1 m (celn xs)) (hg : W.grownBy w1 none) (hy : ys.length = k) (hc : ∀ j u, (celn ys)[j]? = some u → w1.cell? (a.add j) = some u) (hm : m + k ≤ 1000) :
    ∃ v2 w2, (Builtin.append_ #[49, 49] ty #[v1, .slice (some a) k c]).run Try.prog w1 = .ok v2 w2 ∧ w2.ownsRow W.heap.size 66 5 v2 (m + k) (celn (xs ++ ys)) ∧ ∀ s, W.grownBy w2 s := by
  obtain ⟨i0, hi, hz0, hz1, hz2⟩ := info_parts Try.info66
  obtain ⟨v', w', h1, h2, h3, _⟩ := run_append_own (P := Try.prog) w1 W.heap.size 49 ty 66 i0 _ 5 40 Try.underlying49 hi hz0 hz1 hz2 (by rfl) (by decide) v1 m (celn xs) hO
      a k c (celn ys) (by rw [celn_length, hy]) hc (celn_one ys) (by unfold maxLen; omega) (by omega) hg.size
  rw [← celn_append] at h2
  exact ⟨v', w', h1, h2, fun s => grown2 hg h3 (fun b e => own_young hO e) s⟩
section
variable {M : Nat → Prop} {B w : World} {p : Nat} {q : Nat → Nat} {v o : Value} {t : Tn}
/-- The new list in the old one's place. -/
theorem Tw.anew {W w2 : World} {v2 : Value} {k : Nat} {nl : List Nw} (H : Tw M B W p q v o t) (hO : w2.ownsRow W.heap.size 66 5 v2 k (celn (newsL nl))) (hk : nl.length = k) (hg : W.grownBy w2 v.ownBlock) :
    VArr w2 74 44 p (twF t.cst q v o) ∧ Tw M B (w2.setCell ⟨p, 42, none⟩ v2) p q v2 o { t with news := nl } := by
  have hN : NwO 0 w2 v2 (newsL nl) := by
    unfold NwO
    rw [newsL_len, hk]
    exact own_base hO
  refine ⟨(hg.block p H.blk.lt (fun e => (H.vp _ e.symm).1 rfl)).trans H.blk, H.newsPut hg hN ?_⟩
  cases e : v2.ownBlock with
  | none => exact .inl rfl
  | some b => exact .inr (.inr ⟨b, rfl, own_young hO e⟩)
/-- The row of the news. -/
theorem Tw.row (H : Tw M B w p q v o t) {n : Nat} (hn : n < t.news.length) : ∃ g cap cur, v = .slice (some ⟨g, 0, none⟩) t.news.length cap ∧ NRow w g t.news.length cap cur (newsL t.news) := by
  have hlen := newsL_len t.news
  rcases H.nw.2 with ⟨_, h0⟩ | ⟨g, cap, cur, hv, hb, hg, hn', hc, hs, ht⟩
  · exfalso; omega
  · rw [hlen] at hv ht hn'
    exact ⟨g, cap, cur, hv, ⟨hg, hlen, hn', hc, hs, ht⟩⟩
/-- One of them is taken out. -/
theorem Tw.cut {g cap : Nat} {cur : Array Value} (H : Tw M B w p q (.slice (some ⟨g, 0, none⟩) t.news.length cap) o t) (R : NRow w g t.news.length cap cur (newsL t.news)) (hl : t.news.length ≤ 40) {n : Nat} (hn : n < t.news.length) :
    ∃ (A : Addr) (a1 : Option Addr) (c1 : Nat) (w1 : World) (a2 : Option Addr) (n2 c2 : Nat) (w2 : World), (if cap = n + 1 then some (⟨g, 0, none⟩ : Addr) else some ⟨g, (n + 1) * 5, none⟩) = some A ∧
      (Builtin.append_ #[49, 49] 49 #[.slice none 0 0, .slice (some ⟨g, 0, none⟩) n cap]).run Try.prog w.drew = .ok (.slice a1 n c1) w1 ∧
      (Builtin.append_ #[49, 49] 49 #[.slice a1 n c1, .slice (some A) (t.news.length - (n + 1)) (cap - (n + 1))]).run Try.prog w1 = .ok (.slice a2 n2 c2) w2 ∧
      (∀ b, b < w.heap.size → w1.heap[b]? = w.heap[b]?) ∧ (∀ b, b < w.heap.size → w2.heap[b]? = w.heap[b]?) ∧
      Tw M B (w2.setCell ⟨p, 42, none⟩ (.slice a2 n2 c2)) p q (.slice a2 n2 c2) o { t with news := dropAt t.news n } := by
  have hlen := newsL_len t.news
  have rd : ∀ (W : World), (∀ b, b < w.heap.size → W.heap[b]? = w.heap[b]?) → ∀ j u, (celn (newsL t.news))[j]? = some u → W.cell? ⟨g, j, none⟩ = some u := fun W hW j u hj => by
    have := R.cell j u hj
    rw [World.cell?_of_block (w := w) (a := ⟨g, j, none⟩) (hW g (lt_of_block R.block))]
    exact this
  obtain ⟨v1, w1, r1, o1, g1⟩ := app_none (W := w.drew) (a := ⟨g, 0, none⟩) (m := n) (c := cap) (xs := (newsL t.news).take n) 49 (by rw [List.length_take]; omega) (fun j u hj => by
    rw [Addr.add_lit, Nat.zero_add]
    refine rd w.drew (fun _ _ => rfl) j u ?_
    have hjl : j < n * 5 := by
      have := (List.getElem?_eq_some_iff.1 hj).1
      rw [celn_length, List.length_take] at this
      omega
    rw [← celn_take, List.getElem?_take_of_lt hjl] at hj
    exact hj) (by omega)
  have k1 : ∀ b, b < w.heap.size → w1.heap[b]? = w.heap[b]? := fun b hb => g1.block b hb (fun e => by cases e)
  obtain ⟨a1, c1, rfl⟩ := own_shape o1
  obtain ⟨A, hA, hsrc⟩ : ∃ A : Addr, (if cap = n + 1 then some (⟨g, 0, none⟩ : Addr) else some ⟨g, (n + 1) * 5, none⟩) = some A ∧ (∀ j u, (celn ((newsL t.news).drop (n + 1)))[j]? = some u → w1.cell? (A.add j) = some u) := by
    by_cases hc : cap = n + 1
    · refine ⟨⟨g, 0, none⟩, by simp [hc], fun j u hu => ?_⟩
      have hle := R.le
      have : celn ((newsL t.news).drop (n + 1)) = [] := List.eq_nil_of_length_eq_zero (by rw [celn_length, List.length_drop]; omega)
      rw [this] at hu; simp at hu
    · refine ⟨⟨g, (n + 1) * 5, none⟩, by simp [hc], fun j u hu => ?_⟩
      rw [Addr.add_lit]
      refine rd w1 k1 _ u ?_
      rw [← celn_drop, List.getElem?_drop] at hu
      exact hu
  obtain ⟨v2, w2, r2, o2, g2⟩ := app_more (W := w.drew) (a := A) (k := t.news.length - (n + 1)) (c := cap - (n + 1)) (ys := (newsL t.news).drop (n + 1)) 49 o1 g1 (by rw [List.length_drop]; omega) hsrc (by omega)
  obtain ⟨a2, c2, rfl⟩ := own_shape o2
  have e2 : (newsL t.news).take n ++ (newsL t.news).drop (n + 1) = newsL (dropAt t.news n) := by
    unfold dropAt newsL
    rw [List.map_append, List.map_take, List.map_drop]
  rw [e2] at o2
  have hd := (H.ext (Gr.refl w).drew).anew o2 (by unfold dropAt; rw [List.length_append, List.length_take, List.length_drop]; omega) (g2 _)
  exact ⟨A, a1, c1, w1, a2, _, c2, w2, hA, r1, r2, k1, fun b hb => (g2 none).block b hb (fun e => by cases e), hd.2⟩
end

end Go.Proofs.Ythiojjkgodffnae

/- THE REFERENCE'S Town: Do, the kinds hear, lose, double. -/
namespace Go.Proofs.Ythiojjkgodffnae
open Go.RowKit
attribute [local go_sem] Ext.all Ext.cell Ext.frozen Ext.lt Ext.lt1 Ext.lt2 Ext.ne Ext.ne'

section
variable {M : Nat → Prop} {B w : World} {p : Nat} {q : Nat → Nat} {v o : Value} {t : Tn}
set_option maxRecDepth 20000 in
set_option maxHeartbeats 8000000 in
theorem wdo_none (H : Tw M B w p q v o t) {k a b n : Int} (hk : k = 4 ∨ k = 5 ∨ k = 6) (hn : ¬ (0 ≤ n ∧ n < (t.news.length : Int))) (x y : Value) :
    Calls Try.prog 13 #[pv p, .agg #[iv k, iv a, iv b, iv n, x, y]] w fun e w' => e = .returned (iv 6) ∧ Gr w w' := by
  have T0 := hide (H.ext ((Gr.refl w).alloc (.cells #[iv k, iv a, iv b, iv n, x, y] 31)))
  have S0 := hide (sp_new w k a b n x y)
  have k1 : (k == 1) = false := by simp; omega
  have k2 : (k == 2) = false := by simp; omega
  have k3 : (k == 3) = false := by simp; omega
  have hk4 : ((k == 4) = true) ∨ ((k == 4) = false ∧ (k == 5) = true) ∨ ((k == 4) = false ∧ (k == 5) = false ∧ (k == 6) = true) := by
    rcases hk with rfl | rfl | rfl
    · exact .inl rfl
    · exact .inr (.inl ⟨rfl, rfl⟩)
    · exact .inr (.inr ⟨rfl, rfl, rfl⟩)
  obtain ⟨ao, cv, hv, _, _, _⟩ := H.nw.shape
  rw [newsL_len] at hv
  subst hv
  have hcase : (decide (n < 0) = true) ∨ (decide (n < 0) = false ∧ decide ((t.news.length : Int) ≤ n) = true) := by
    by_cases e : n < 0
    · exact .inl (decide_eq_true e)
    · exact .inr ⟨decide_eq_false e, decide_eq_true (by omega)⟩
  clear H hk hn
  rcases hk4 with k4 | ⟨k4, k5⟩ | ⟨k4, k5, k6⟩
  all_goals
    go_enter Try.func13, Try.ntmps13
    go_upto_region 26 with (fail)
    refine wp_gen (fun V => Hid (Tw M B V p q (.slice ao t.news.length cv) o t) ∧ Hid (VArr V 31 6 w.heap.size (spF k a b n x y)) ∧ Hid (Gr w V)) ⟨T0.out, S0.out, (Gr.refl w).alloc _⟩ ?_
    clear T0 S0
    generalize hX0 : w.heap.size = X at *
    clear hX0
    rintro V ⟨T0, S0, gV⟩
    obtain ⟨s1, s2, s3⟩ := sp_cells S0.out
    have hp := T0.out.blk.lt
    have hX := S0.out.lt
    have c2 := T0.out.news
    rcases hcase with h1 | ⟨h1, h2⟩
    all_goals
      refine wp_region_ext (by kernel_rfl) (by kernel_rfl) ?_
      repeat (go_big_quiet_step (fail))
      refine wpQuiet_nil ?_
      rintro _ ⟨d5, rfl⟩
      go_wp2_with fail
      go_ret
      exact ⟨rfl, gV.out.trans d5.gr⟩
end

end Go.Proofs.Ythiojjkgodffnae
