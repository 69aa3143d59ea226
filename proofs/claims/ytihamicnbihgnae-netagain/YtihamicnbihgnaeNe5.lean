/- THE PROGRAM'S Net: take. -/
import Derived.Test.YtihamicnbihgnaeNe4
namespace Go.Proofs.Ytihamicnbihgnae
open Go.RowKit
attribute [local go_sem] Ext.all Ext.cell Ext.frozen Ext.lt Ext.lt1 Ext.lt2 Ext.ne Ext.ne'

/-- News as a value; as five numbers. -/
def nwV (x : Nw) : Value := .agg #[iv (x.f : Int), iv (x.g : Int), iv (x.to : Int), iv x.s, iv x.d]
def nsF (x : Nw) : Nat → Int := fun i => if i = 0 then (x.f : Int) else if i = 1 then (x.g : Int) else if i = 2 then (x.to : Int) else if i = 3 then x.s else x.d
theorem nsF_cells {w : World} {X : Nat} {x : Nw} (h : ZArr w 53 5 X (nsF x)) : w.cell? ⟨X, 0, none⟩ = some (iv (x.f : Int)) ∧ w.cell? ⟨X, 1, none⟩ = some (iv (x.g : Int)) ∧ w.cell? ⟨X, 2, none⟩ = some (iv (x.to : Int)) ∧ w.cell? ⟨X, 3, none⟩ = some (iv x.s) ∧ w.cell? ⟨X, 4, none⟩ = some (iv x.d) :=
  ⟨h.cell (j := 0) (by omega), h.cell (j := 1) (by omega), h.cell (j := 2) (by omega), h.cell (j := 3) (by omega), h.cell (j := 4) (by omega)⟩
/-- Five numbers put anew. -/
abbrev put5 (U : World) (X : Nat) (x : Nw) : World := ((((U.setCell ⟨X, 0, none⟩ (iv (x.f : Int))).setCell ⟨X, 1, none⟩ (iv (x.g : Int))).setCell ⟨X, 2, none⟩ (iv (x.to : Int))).setCell ⟨X, 3, none⟩ (iv x.s)).setCell ⟨X, 4, none⟩ (iv x.d)
theorem put5_at {U : World} {t X : Nat} {g : Nat → Int} (h : ZArr U t 5 X g) (x : Nw) : ZArr (put5 U X x) t 5 X (nsF x) := by
  refine ((((h.set (g' := fun i => if i = 0 then (x.f : Int) else g i) (fun _ _ => rfl)).set (g' := fun i => if i = 0 then (x.f : Int) else if i = 1 then (x.g : Int) else g i) ?_).set (g' := fun i => if i = 0 then (x.f : Int) else if i = 1 then (x.g : Int) else if i = 2 then (x.to : Int) else g i) ?_).set (g' := fun i => if i = 0 then (x.f : Int) else if i = 1 then (x.g : Int) else if i = 2 then (x.to : Int) else if i = 3 then x.s else g i) ?_).set ?_
  all_goals
    intro i hi
    rcases (show i = 0 ∨ i = 1 ∨ i = 2 ∨ i = 3 ∨ i = 4 by omega) with rfl | rfl | rfl | rfl | rfl <;> rfl
theorem put5_wr (U : World) (X : Nat) (x : Nw) : Wr X U (put5 U X x) := (((((Wr.refl X U).set _ _).set _ _).set _ _).set _ _).set _ _
theorem NRow.gr {w w' : World} {g n cap : Nat} {cur : Array Value} {l : List Nws} (h : NRow w g n cap cur l) (k : Gr w w') : NRow w' g n cap cur l := ⟨(Below.block k g (lt_of_block h.block)).trans h.block, h.len, h.le, h.max, h.size, h.take⟩
section
variable {M : Nat → Prop} {B w w' : World} {p k : Nat} {q : Nat → Nat} {v : Value} {c : Nat → Nat → Nat} {t : Tn}
/-- A block that is not the Net's is written. -/
theorem Ne.aside (h : Ne M B w p k q v c t) {X : Nat} (hw : Wr X w w') (h1 : p ≠ X) (h2 : k ≠ X) (h3 : ∀ a, a < 6 → q a ≠ X) (h4 : ∀ b, v.ownBlock = some b → b ≠ X) (hM : ¬ M X) : Ne M B w' p k q v c t :=
  h.keep (N := fun b => b ≠ X) ⟨hw.os, hw.tape, hw.output, hw.size, hw.block⟩ (fun _ hb e => hM (e ▸ hb)) h1 h2 h3 h4
/-- One that is younger. -/
theorem Ne.young (h : Ne M B w p k q v c t) {V W : World} {v' : Value} {c' : Nat → Nat → Nat} {t' : Tn} (h' : Ne M B V p k q v' c' t') (hv : ∀ b, v'.ownBlock = some b → b < w.heap.size) {X : Nat} (hX : w.heap.size ≤ X) (hw : Wr X V W) : Ne M B W p k q v' c' t' :=
  h'.aside hw (fun e => by have := h.blk.lt; omega) (fun e => by have := h.lk.lt; omega) (fun a ha e => by have := (h.six.at_ a ha).lt; omega) (fun b e1 e2 => by have := hv b e1; omega) (fun hm => by have := h.bd X hm; have := h.kp.size; omega)
theorem grown_row (w : World) (g : Nat) (cs : Array Value) : w.grownBy (w.drew.setRow g cs) (some g) :=
  ⟨rfl, rfl, rfl, by simp, fun k _ hk => setRow_other _ g k cs (fun e => hk (by rw [e]))⟩
set_option maxRecDepth 20000 in
set_option maxHeartbeats 8000000 in
theorem take_none (H : Ne M B w p k q v c t) {n : Int} (hn : ¬ (0 ≤ n ∧ n < (t.news.length : Int))) :
    Calls Try.prog 25 #[pv p, iv n] w fun e w' => e = .returned (.tuple #[.agg #[iv 0, iv 0, iv 0, iv 0, iv 0], iv 6]) ∧ Gr w w' := by
  have HT := hide (there_is (H.ext ((Gr.refl w).alloc (.cells #[iv 0, iv 0, iv 0, iv 0, iv 0] 53))) n (decide_eq_false hn))
  clear H hn
  go_enter Try.func25, Try.ntmps25
  go_wp2_with (go_at_call 41; with_reducible refine HT.out.mono ?_; rintro e w1 ⟨rfl, hw1⟩; have hw2 := hw1.symm; clear hw1; subst hw2)
  refine bodyPost_ret (v := .tuple #[.agg #[iv 0, iv 0, iv 0, iv 0, iv 0], iv 6]) (by simp [results, Try.results25, go_sem]) rfl ⟨rfl, ?_⟩
  first
    | exact (Gr.refl _).alloc _
    | exact ((((((Gr.refl _).alloc _).setCell (by simp) _).setCell (by simp) _).setCell (by simp) _).setCell (by simp) _).setCell (by simp) _
set_option maxRecDepth 20000 in
set_option maxHeartbeats 8000000 in
theorem take_ok (H : Ne M B w p k q v c t) (hl : t.news.length ≤ 40) {n : Nat} (hn : n < t.news.length) {x : Nw} (hx : t.news[n] = x) :
    Calls Try.prog 25 #[pv p, iv (n : Int)] w fun e w' => ∃ v', e = .returned (.tuple #[nwV x, iv 0]) ∧ Ne M B w' p k q v' c { t with news := dropAt t.news n } := by
  have hni : (n : Int) < (t.news.length : Int) := by omega
  have g0 : Gr w (w.alloc (.cells #[iv 0, iv 0, iv 0, iv 0, iv 0] 53)) := (Gr.refl w).alloc _
  have HT := hide (there_is (H.ext g0) (n : Int) (decide_eq_true ⟨by omega, hni⟩))
  have hp := H.blk.lt
  have c0 := H.news
  have hlen := newsL_len t.news
  obtain ⟨g, cap, cur, hv, R0⟩ : ∃ g cap cur, v = .slice (some ⟨g, 0, none⟩) t.news.length cap ∧ NRow w g t.news.length cap cur (newsL t.news) := by
    rcases H.nw.2 with ⟨_, h0⟩ | ⟨g, cap, cur, hv, hb, hg, hn', hc, hs, ht⟩
    · exfalso; omega
    · rw [hlen] at hv ht hn'
      exact ⟨g, cap, cur, hv, ⟨hg, hlen, hn', hc, hs, ht⟩⟩
  subst hv
  have hg := lt_of_block R0.block
  have hgp : g ≠ p := (H.vq (b := g) rfl).1
  have hcn := celn_at (newsL t.news) n (by omega)
  have hx5 : (newsL t.news)[n]'(by omega) = ((x.f : Int), (x.g : Int), (x.to : Int), x.s, x.d) := by
    unfold newsL
    rw [List.getElem_map, hx]
  rw [hx5] at hcn
  obtain ⟨a0, a1, a2, a3, a4⟩ := hcn
  have d0 := R0.cell _ _ a0
  have d1 := R0.cell _ _ a1
  have d2 := R0.cell _ _ a2
  have d3 := R0.cell _ _ a3
  have d4 := R0.cell _ _ a4
  simp only at d0 d1 d2 d3 d4
  clear a0 a1 a2 a3 a4 hx5
  have hfz := H.blk.free
  have wn : IntKind.i64.wrap ((n : Int) + 1) = (n : Int) + 1 := by rw [IntKind.wrap_i64]; omega
  have HH := hide H
  have HX := hide hx
  have HR := hide R0
  have HL := hide hl
  clear H hx R0 hl g0
  go_enter Try.func25, Try.ntmps25
  go_upto_region 4 with (go_at_call 41; with_reducible refine HT.out.mono ?_; rintro e w1 ⟨rfl, hw1⟩; have hw2 := hw1.symm; clear hw1; subst hw2)
  refine wp_gen (fun V => Hid (Ne M B V p k q (.slice (some ⟨g, 0, none⟩) t.news.length cap) c t) ∧ Hid (NRow V g t.news.length cap cur (newsL t.news)) ∧ Hid (ZArr V 53 5 w.heap.size (fun _ => 0)) ∧ Hid (ZArr V 53 5 (w.heap.size + 1) (nsF x))) ⟨HH.out.ext (((Gr.refl w).alloc _).alloc _), HR.out.gr (((Gr.refl w).alloc _).alloc _), ZArr.gr (show ZArr _ 53 5 w.heap.size (fun _ => 0) from heap_alloc_new w _) ((Gr.refl _).alloc _), by
    have := heap_alloc_new (w.alloc (.cells #[iv 0, iv 0, iv 0, iv 0, iv 0] 53)) (.cells #[iv (x.f : Int), iv (x.g : Int), iv (x.to : Int), iv x.s, iv x.d] 53)
    have e : (w.alloc (.cells #[iv 0, iv 0, iv 0, iv 0, iv 0] 53)).heap.size = w.heap.size + 1 := by simp
    rw [e] at this
    exact this⟩ ?_
  have LT : Hid (p < w.heap.size ∧ g < w.heap.size) := ⟨hp, hg⟩
  clear HT c0 hp hg d0 d1 d2 d3 d4 hfz
  have HY : Hid (∀ {V W : World} {v' : Value} {c' : Nat → Nat → Nat} {t' : Tn}, Ne M B V p k q v' c' t' → (∀ b, v'.ownBlock = some b → b < w.heap.size) → Wr w.heap.size V W → Ne M B W p k q v' c' t') := fun h1 h2 h3 => HH.out.young h1 h2 (Nat.le_refl _) h3
  clear HH HR
  generalize w.heap.size = X at *
  rintro V ⟨H1, R1, Z1, Z2⟩
  have hp : p < V.heap.size := H1.out.blk.lt
  have c0 := H1.out.news
  have HD := deleteN_any V g t.news.length cap n (n + 1) cur (newsL t.news) R1.out rfl hn (by have := HL.out; omega)
  have e1 : ((n + 1 : Nat) : Int) = (n : Int) + 1 := by omega
  rw [e1] at HD
  have HDE : Hid (Calls Try.prog 42 #[.slice (some ⟨g, 0, none⟩) t.news.length cap, iv (n : Int), iv ((n : Int) + 1)] V fun e W => e = .returned (.slice (some ⟨g, 0, none⟩) (t.news.length - 1) cap) ∧ Ne M B (W.setCell ⟨p, 7, none⟩ (.slice (some ⟨g, 0, none⟩) (t.news.length - 1) cap)) p k q (.slice (some ⟨g, 0, none⟩) (t.news.length - 1) cap) c { t with news := dropAt t.news n } ∧ ZArr W 53 5 X (fun _ => 0) ∧ ZArr W 53 5 (X + 1) (nsF x) ∧ W.cell? ⟨p, 7, none⟩ = some (.slice (some ⟨g, 0, none⟩) t.news.length cap) ∧ W.frozen? ⟨p, 7, none⟩ = false ∧ p < W.heap.size) := HD.mono fun e W ⟨he, cur', hW, R2⟩ => by
    obtain ⟨hl1, hl2⟩ := LT.out
    have kept : ∀ b, b ≠ g → W.heap[b]? = V.heap[b]? := fun b hb => by rw [hW]; exact setRow_other V.drew g b cur' hb
    have hbp : VArr W 39 8 p (ntF k q (.slice (some ⟨g, 0, none⟩) t.news.length cap)) := (kept p hgp.symm).trans H1.out.blk
    refine ⟨he, ?_, (kept X (by omega)).trans Z1.out, (kept (X + 1) (by omega)).trans Z2.out, ?_, hbp.free 7, hbp.lt⟩
    · refine H1.out.newsPut (by rw [hW]; exact grown_row V g cur') ?_ (.inr (.inl rfl))
      have := R2.own
      have e2 : newsL (dropAt t.news n) = (newsL t.news).take n ++ (newsL t.news).drop (n + 1) := by
        unfold dropAt newsL
        rw [List.map_append, List.map_take, List.map_drop]
      rw [e2]; exact this
    · exact hbp.cell (j := 7) (by omega)
  clear HD e1 R1
  go_upto_region 5 with (go_at_call 42; with_reducible refine HDE.out.mono ?_; rintro e W ⟨rfl, H2', z1', z2', f1, f2, f3⟩; have H2 := hide H2'; have Z3 := hide z1'; have Z4 := hide z2'; clear H2' z1' z2')
  have ZX : Hid (p ≠ X ∧ p ≠ X + 1) := by have := LT.out; exact ⟨by omega, by omega⟩
  refine wp_gen (fun V => Hid (Ne M B V p k q (.slice (some ⟨g, 0, none⟩) (t.news.length - 1) cap) c { t with news := dropAt t.news n }) ∧ Hid (ZArr V 53 5 X (fun _ => 0)) ∧ Hid (ZArr V 53 5 (X + 1) (nsF x))) ⟨H2.out, Z3.out.other (fun e => ZX.out.1 e.symm) _ _, Z4.out.other (fun e => ZX.out.2 e.symm) _ _⟩ ?_
  clear H2 Z3 Z4 f1 f2 f3 HDE Z1 Z2 H1 c0 hp
  rintro U ⟨H3, Z1, Z2⟩
  obtain ⟨y0, y1, y2, y3, y4⟩ := nsF_cells Z2.out
  have fz := Z1.out.free
  have x0 := Z1.out.cell (j := 0) (by omega)
  have x1 := Z1.out.cell (j := 1) (by omega)
  have x2 := Z1.out.cell (j := 2) (by omega)
  have x3 := Z1.out.cell (j := 3) (by omega)
  have x4 := Z1.out.cell (j := 4) (by omega)
  have hX := Z1.out.lt
  have hX1 := Z2.out.lt
  go_wp2_with fail
  refine bp_gen' (fun Y => Hid (ZArr Y 53 5 X (nsF x)) ∧ Hid (Ne M B Y p k q (.slice (some ⟨g, 0, none⟩) (t.news.length - 1) cap) c { t with news := dropAt t.news n })) ⟨put5_at Z1.out x, HY.out H3.out (fun b e => by cases e; exact LT.out.2) (put5_wr U X x)⟩ ?_
  clear y0 y1 y2 y3 y4 x0 x1 x2 x3 x4 fz hX hX1 Z1 Z2 H3
  rintro Y ⟨ZY, NY⟩
  obtain ⟨y0, y1, y2, y3, y4⟩ := nsF_cells ZY.out
  have hX := ZY.out.lt
  refine bodyPost_ret (v := .tuple #[.agg #[iv (x.f : Int), iv (x.g : Int), iv (x.to : Int), iv x.s, iv x.d], iv 0]) (by simp [results, Try.results25, go_sem, y0, y1, y2, y3, y4]) rfl ⟨_, rfl, NY.out⟩
end

end Go.Proofs.Ytihamicnbihgnae
