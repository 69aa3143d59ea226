import Derived.Test.YtfcknkanbcndjagGreatDoorE1
import Derived.Deep.RegionHeld3
import Derived.Deep.DeepCutAuto
/- CONTRACTS OF package trie: Leaf, alike. -/
namespace Go.Proofs.YtfcknkanbcndjagGreatDoor
open Go.RowKit
attribute [local go_sem] Ext.all Ext.cell Ext.frozen Ext.lt Ext.lt1 Ext.lt2 Ext.ne Ext.ne'
theorem leaf_any {w : World} {T : TT} {q : Nat} (h : Tr w T q) :
    Calls Tryz.prog 183 #[pv q] w fun e w' => e = .returned (.bool T.isLeaf) ∧ ∃ d : Ext w, w' = d.out := by
  cases T with
  | leaf l b hp =>
    obtain ⟨c3, c4⟩ := h.leafc
    clear h
    go_enter Tryz.func183, Tryz.ntmps183
    go_wp2
    go_ret
    exact ⟨rfl, ext_mk (Gr.refl _)⟩
  | node l b lo hi =>
    obtain ⟨x, y, c3, c4, _, _⟩ := h.nodec
    clear h
    go_enter Tryz.func183, Tryz.ntmps183
    go_wp2
    go_ret
    exact ⟨rfl, ext_mk (Gr.refl _)⟩
theorem leaf_as {w : World} {T : TT} {q : Nat} {v : Bool} (h : Tr w T q) (e : T.isLeaf = v) :
    Calls Tryz.prog 183 #[pv q] w fun e w' => e = .returned (.bool v) ∧ ∃ d : Ext w, w' = d.out := by
  subst e
  exact leaf_any h

/-- Cells of numbers. -/
def Nums (w : World) (g o n : Nat) (f : Nat → Int) : Prop := g < w.heap.size ∧ ∀ j : Nat, j < n → w.cell? ⟨g, o + j, none⟩ = some (iv (f (o + j)))
theorem Nums.gr {w w' : World} {g o n : Nat} {f : Nat → Int} (h : Nums w g o n f) (k : Gr w w') : Nums w' g o n f :=
  ⟨Nat.lt_of_lt_of_le h.1 (Below.size k), fun j hj => (Below.cell k (p := ⟨g, o + j, none⟩) h.1).trans (h.2 j hj)⟩
theorem Nums.low {w : World} {g o n m : Nat} {f : Nat → Int} (h : Nums w g o n f) (hm : m ≤ n) : Nums w g o m f := ⟨h.1, fun j hj => h.2 j (by omega)⟩
theorem Nums.high {w : World} {g o n m : Nat} {f : Nat → Int} (h : Nums w g o n f) (hm : m + m ≤ n) : Nums w g (o + m) m f :=
  ⟨h.1, fun j hj => by rw [Nat.add_assoc]; exact h.2 (m + j) (by omega)⟩

set_option maxRecDepth 20000 in
theorem alike_any (w : World) (g o n c : Nat) (f : Nat → Int) (H : Nums w g o n f) (h0 : 0 < n) (hm : n ≤ 256) :
    Calls Tryz.prog 184 #[.slice (some ⟨g, o, none⟩) n c] w fun e w' => e = .returned (.bool (decide (Alk f o n))) ∧ ∃ d : Ext w, w' = d.out := by
  obtain ⟨hg, HC⟩ := H
  have c0 := HC 0 h0
  rw [Nat.add_zero] at c0
  have HCh := hide HC
  clear HC
  go_enter Tryz.func184, Tryz.ntmps184
  go_wp2
  go_loopw [4, 7] (fun _ i wr => ∃ k : Nat, k ≤ n ∧ i = .int .i64 k ∧ Hid (∀ j : Nat, j < k → f (o + j) = f o) ∧ Gr w wr) (fun _ i _ => n - (intOf i).toNat)
  case atStart => exact ⟨0, by omega, rfl, (fun j hj => by omega), Gr.refl _⟩
  case round =>
    obtain ⟨k, hk, rfl, HE, gg⟩ := hrel
    obtain ⟨d, rfl⟩ := ext_mk gg
    by_cases hlt : k < n
    · have c1 := HCh.out k hlt
      by_cases he : f (o + k) = f o
      · have hb : (f (o + k) != f o) = false := by simpa using he
        have HX : Hid (∀ j : Nat, j < k + 1 → f (o + j) = f o) := fun j hj => by
          rcases Nat.lt_or_eq_of_le (Nat.le_of_lt_succ hj) with h | h
          · exact HE.out j h
          · rw [h]; exact he
        clear he
        go_wp2
        go_roundw
        case rel => exact ⟨k + 1, by omega, by go_num, HX, d.gr⟩
        case measure => simp [intOf]; omega
      · have hb : (f (o + k) != f o) = true := by simpa using he
        have HX : Hid (decide (Alk f o n) = false) := decide_eq_false fun q => he (q k hlt)
        clear he
        go_wp2
        go_ret
        exact ⟨ret_bool HX.out.symm, _, rfl⟩
    · have HX : Hid (decide (Alk f o n) = true) := decide_eq_true fun j hj => HE.out j (by omega)
      clear HE
      go_wp2
      go_ret
      exact ⟨ret_bool HX.out.symm, _, rfl⟩

end Go.Proofs.YtfcknkanbcndjagGreatDoor

/- CONTRACT OF slices.Equal at 256 numbers. -/
namespace Go.Proofs.YtfcknkanbcndjagGreatDoor
open Go.RowKit
attribute [local go_sem] Ext.all Ext.cell Ext.frozen Ext.lt Ext.lt1 Ext.lt2 Ext.ne Ext.ne'
end Go.Proofs.YtfcknkanbcndjagGreatDoor

/- CONTRACT OF trie.part: the trie of a prefix, out of where its addresses go. -/
namespace Go.Proofs.YtfcknkanbcndjagGreatDoor
open Go.RowKit
attribute [local go_sem] Ext.all Ext.cell Ext.frozen Ext.lt Ext.lt1 Ext.lt2 Ext.ne Ext.ne'
/-- All alike: a leaf. -/
theorem part_leaf (f : Nat → Int) (g : Nat) (k : Nat) (l b : Int) (o n c : Nat) (w : World) (hn : 2 ^ k = n) (hm : n ≤ 256) (H : Nums w g o n f) (hk : Alk f o n) :
    Calls Tryz.prog 150 #[pfx l b, .slice (some ⟨g, o, none⟩) n c] w fun e w' => ∃ q, e = .returned (pv q) ∧ Tr w' (tri f k l b o) q ∧ ∃ d : Ext w, w' = d.out := by
  have h0 : 0 < n := by rw [← hn]; exact Nat.pow_pos (by decide)
  have c0 := H.2 0 h0
  have hg := H.1
  rw [Nat.add_zero] at c0
  rw [tri_alk (show Alk f o (2 ^ k) by rw [hn]; exact hk)]
  obtain ⟨W, hW, gW, b0, b1, s0⟩ := pbox_gr w l b
  have HA := hide (alike_any W g o n c f (H.gr gW) h0 hm)
  rw [decide_eq_true hk] at HA
  rw [← Below.cell gW (p := ⟨g, o, none⟩) hg] at c0
  have hg2 : g < W.heap.size := Nat.lt_of_lt_of_le hg (Below.size gW)
  have HW := hide hW
  clear hW H hk
  go_enter Tryz.func150, Tryz.ntmps150
  go_wp2_with (go_at_call 184; rw [← HW.out]; refine HA.out.mono ?_; rintro e _ ⟨rfl, d1, rfl⟩)
  go_region
  all_goals
    go_wp2
    go_ret
    exact ⟨_, rfl, heap_alloc_new _ _, ext_mk ((gW.ext d1).drew.alloc _)⟩

set_option maxHeartbeats 1000000 in
theorem part_any (f : Nat → Int) (g : Nat) : ∀ (k : Nat) (l b : Int) (o n c : Nat) (w : World), SpT k l b o → 2 ^ k = n → n ≤ c → Nums w g o n f →
    Calls Tryz.prog 150 #[pfx l b, .slice (some ⟨g, o, none⟩) n c] w fun e w' => ∃ q, e = .returned (pv q) ∧ Tr w' (tri f k l b o) q ∧ ∃ d : Ext w, w' = d.out := by
  intro k
  induction k with
  | zero =>
    intro l b o n c w hS hn hc H
    refine part_leaf f g 0 l b o n c w hn (by have := hS.top; omega) H ?_
    rw [← hn]; exact alk_one f o
  | succ k ih =>
    intro l b o n c w hS hn hc H
    by_cases hk : Alk f o n
    · exact part_leaf f g (k + 1) l b o n c w hn (by have := hS.top; omega) H hk
    · rw [tri_not (show ¬ Alk f o (2 ^ (k + 1)) by rw [hn]; exact hk)]
      have hm : n ≤ 256 := by have := hS.top; omega
      obtain ⟨m, hmk⟩ : ∃ m, 2 ^ k = m := ⟨_, rfl⟩
      have hnm : n = m + m := by rw [← hn, ← hmk, Nat.pow_succ]; omega
      have h0 : 0 < m := by rw [← hmk]; exact Nat.pow_pos (by decide)
      have hg := H.1
      obtain ⟨bl0, bl8, bb0, bb8⟩ := hS.bd
      have hl8 : l < 8 := by have := hS.1; omega
      obtain ⟨W, hW, gW, b0, b1, s0⟩ := pbox_gr w l b
      have HA := hide (alike_any W g o n c f (H.gr gW) (by omega) hm)
      rw [decide_eq_false hk] at HA
      have hg2 : g < W.heap.size := Nat.lt_of_lt_of_le hg (Below.size gW)
      have HC0 := hide (fun (d : Ext W) => Calls.ext_of (child_yes0 l b hS.2.1 hl8 d.out))
      have HC1 := hide (fun (wX : World) => child_yes1 l b hS.2.1 hl8 wX)
      have H1 := hide (fun (wX : World) (gX : Gr W wX) => ih (l + 1) (b * 2) o m c wX hS.low hmk (by omega) ((H.low (by omega)).gr (gW.trans gX)))
      have H2 := hide (fun (wX : World) (gX : Gr W wX) => ih (l + 1) (b * 2 + 1) (o + m) m (c - m) wX (hmk ▸ hS.high) hmk (by omega) ((H.high (by omega)).gr (gW.trans gX)))
      have HW := hide hW
      rw [hmk]
      clear hW H hk hn hmk ih hS
      subst hnm
      have e1 : ((m : Int) + (m : Int)) / 2 = m := by omega
      have hcc : (m : Int) ≤ c := by omega
      have hmm : (m : Int) ≤ (m : Int) + m := by omega
      go_enter Tryz.func150, Tryz.ntmps150
      go_upto_region 4 with (first
        | (go_at_call 184; rw [← HW.out]; refine HA.out.mono ?_; rintro e _ ⟨rfl, d1, rfl⟩)
        | (go_at_call 185; with_reducible refine (HC0.out d1).mono ?_; rintro e _ ⟨rfl, d2, rfl⟩))
      refine wp_gen (fun X => Gr W X ∧ d2.out.heap.size < X.heap.size ∧ W.heap.size ≤ d2.out.heap.size ∧ X.cell? ⟨d2.out.heap.size, 0, none⟩ = some (iv (l + 1)) ∧ X.cell? ⟨d2.out.heap.size, 1, none⟩ = some (iv (b * 2))) ⟨d2.gr.alloc _, by simp, Below.size d2.gr, by simp [go_sem], by simp [go_sem]⟩ ?_
      rintro X ⟨gX, sX, sW, x0, x1⟩
      generalize d2.out.heap.size = q at *
      have y0 := (Below.cell gX (p := ⟨w.heap.size, 0, none⟩) s0).trans b0
      have y1 := (Below.cell gX (p := ⟨w.heap.size, 1, none⟩) s0).trans b1
      have s1 : w.heap.size < X.heap.size := by omega
      clear b0 b1 HA HC0 HW
      go_upto_region 6 with (first
        | (go_at_call 185; with_reducible refine (HC1.out _).mono ?_; rintro e _ ⟨rfl, d3, rfl⟩))
      refine wp_gen (fun Y => Gr X Y ∧ d3.out.heap.size < Y.heap.size ∧ X.heap.size ≤ d3.out.heap.size ∧ Y.cell? ⟨d3.out.heap.size, 0, none⟩ = some (iv (l + 1)) ∧ Y.cell? ⟨d3.out.heap.size, 1, none⟩ = some (iv (b * 2 + 1))) ⟨d3.gr.alloc _, by simp, Below.size d3.gr, by simp [go_sem], by simp [go_sem]⟩ ?_
      rintro Y ⟨gY, sY, sZ, z0, z1⟩
      generalize d3.out.heap.size = q2 at *
      have HK := hide (fun (wX : World) (hg : Gr Y wX) => (show (wX.cell? ⟨w.heap.size, 0, none⟩ = some (iv l) ∧ wX.cell? ⟨w.heap.size, 1, none⟩ = some (iv b)) ∧ (wX.cell? ⟨q, 0, none⟩ = some (iv (l + 1)) ∧ wX.cell? ⟨q, 1, none⟩ = some (iv (b * 2))) ∧ (wX.cell? ⟨q2, 0, none⟩ = some (iv (l + 1)) ∧ wX.cell? ⟨q2, 1, none⟩ = some (iv (b * 2 + 1))) from
        ⟨⟨(Below.cell (gY.trans hg) (p := ⟨w.heap.size, 0, none⟩) s1).trans y0, (Below.cell (gY.trans hg) (p := ⟨w.heap.size, 1, none⟩) s1).trans y1⟩, ⟨(Below.cell (gY.trans hg) (p := ⟨q, 0, none⟩) sX).trans x0, (Below.cell (gY.trans hg) (p := ⟨q, 1, none⟩) sX).trans x1⟩, ⟨(Below.cell hg (p := ⟨q2, 0, none⟩) sY).trans z0, (Below.cell hg (p := ⟨q2, 1, none⟩) sY).trans z1⟩⟩))
      have gWY : Hid (Gr W Y) := gX.trans gY
      have g0 := hide (gW.trans gWY.out)
      obtain ⟨⟨a0, a1⟩, ⟨a2, a3⟩, a4, a5⟩ := HK.out Y (Gr.refl Y)
      clear x0 x1 y0 y1 z0 z1 gX gY HC1 sZ sW
      have gD := hide ((Gr.refl Y).drew)
      go_wp2_with fail
      go_region_held3 (fun w' => (w'.cell? ⟨w.heap.size, 0, none⟩ = some (iv l) ∧ w'.cell? ⟨w.heap.size, 1, none⟩ = some (iv b)) ∧ (w'.cell? ⟨q, 0, none⟩ = some (iv (l + 1)) ∧ w'.cell? ⟨q, 1, none⟩ = some (iv (b * 2))) ∧ (w'.cell? ⟨q2, 0, none⟩ = some (iv (l + 1)) ∧ w'.cell? ⟨q2, 1, none⟩ = some (iv (b * 2 + 1)))) (first | exact HK.out _ G2.out | exact HK.out _ G1.out | exact HK.out _ gD.out | go_keep)
        (first
        | (go_at_call 150; with_reducible refine (H1.out _ (gWY.out.trans gD.out)).mono ?_; rintro e w1 ⟨r1, rfl, t1, d1, hd1⟩; have T1 := hide t1; have G1 := hide (show Gr Y w1 by rw [hd1]; exact gD.out.ext d1); clear t1 hd1)
        | (go_at_call 150; with_reducible refine (H2.out _ (gWY.out.trans G1.out)).mono ?_; rintro e w2 ⟨r2, rfl, t2, d2, hd2⟩; have T2 := hide t2; have G2 := hide (show Gr Y w2 by rw [hd2]; exact G1.out.ext d2); have T12 := hide (show Tr w2 _ r1 from Tr.gr (by rw [hd2]; exact d2.gr) T1.out); clear t2 hd2)
        | fail)
      all_goals
        go_wp2
        go_ret
        exact ⟨_, rfl, ⟨r1, r2, heap_alloc_new _ _, Tr.gr ((Gr.refl w2).alloc _) T12.out, Tr.gr ((Gr.refl w2).alloc _) T2.out⟩, ext_mk ((g0.out.trans G2.out).alloc _)⟩

end Go.Proofs.YtfcknkanbcndjagGreatDoor

/- CONTRACTS OF trie.Of AND trie.Same; of handpostref.SameRoutes at two lists that may be other ones. -/
namespace Go.Proofs.YtfcknkanbcndjagGreatDoor
open Go.RowKit
attribute [local go_sem] Ext.all Ext.cell Ext.frozen Ext.lt Ext.lt1 Ext.lt2 Ext.ne Ext.ne'
/-- All, as cells of numbers. -/
theorem all_nums {w : World} {M : Nat → Prop} {tb : Nat} {v : Value} {rs : List Rt} (S : TabS w M tb v rs) (hm : rs.length ≤ 1000) (wX : World) (gX : Gr w wX) :
    Calls Tryz.prog 151 #[.pointer (some ⟨tb, 0, none⟩)] wX fun e w' => ∃ g, e = .returned (.slice (some ⟨g, 0, none⟩) 256 256) ∧ Nums w' g 0 256 (fun j => lookL rs j) ∧ Gr wX w' := by
  refine (all_is (S.gr gX) hm ⟨wX, Gr.refl wX⟩).mono ?_
  rintro e w' ⟨g, rfl, _, h2, h3, d, hd⟩
  exact ⟨g, rfl, ⟨h2, fun j hj => by rw [Nat.zero_add]; exact h3 j hj⟩, by rw [hd]; exact d.gr⟩

set_option maxRecDepth 20000 in
theorem tof_is {w : World} {M : Nat → Prop} {tb : Nat} {v : Value} {rs : List Rt} (S : TabS w M tb v rs) (hm : rs.length ≤ 1000) (wX : World) (gX : Gr w wX) :
    Calls Tryz.prog 112 #[.pointer (some ⟨tb, 0, none⟩)] wX fun e w' => ∃ q, e = .returned (pv q) ∧ Tr w' (trT rs) q ∧ Gr wX w' := by
  have HA := hide (all_nums S hm wX gX)
  have HP := hide (fun (wY : World) (g : Nat) (hN : Nums wY g 0 256 (fun j => lookL rs j)) => part_any (fun j => lookL rs j) g 8 0 0 0 256 256 wY SpT.root (by decide) (by decide) hN)
  have HT : Hid (trT rs = tri (fun j => lookL rs j) 8 0 0 0) := by unfold Hid trT triT; rfl
  clear S
  go_enter Tryz.func112, Tryz.ntmps112
  go_wp2_with (first
    | (go_at_call 151; refine HA.out.mono ?_; rintro e w1 ⟨g1, rfl, n1, gr1⟩; have N1 := hide n1; have G1 := hide gr1; clear n1 gr1)
    | (go_at_call 150; refine (HP.out w1 g1 N1.out).mono ?_; rintro e w2 ⟨q, rfl, t2, d2, hd2⟩; have TQ := hide t2; have G2 := hide (show Gr w1 w2 by rw [hd2]; exact d2.gr); clear t2 hd2))
  go_ret
  exact ⟨_, rfl, by rw [HT.out]; exact TQ.out, G1.out.trans G2.out⟩

end Go.Proofs.YtfcknkanbcndjagGreatDoor

/- FOR THE LAWS: tables and lists in a world; what each call says in whatever world has grown out of it. -/
namespace Go.Proofs.YtfcknkanbcndjagGreatDoor
open Go.RowKit
attribute [local go_sem] Ext.all Ext.cell Ext.frozen Ext.lt Ext.lt1 Ext.lt2 Ext.ne Ext.ne'
end Go.Proofs.YtfcknkanbcndjagGreatDoor

/- AS FEW AS CAN BE, as numbers: what a part wishes, how few routes are enough, the table of as few as can be. No Go here. -/
namespace Go.Proofs.YtfcknkanbcndjagGreatDoor

def hopsR : List Int := [-1, 0, 1, 2, 3, 4, 5]
theorem hop_mem {h : Int} : hopB h = true ↔ h ∈ hopsR := by
  unfold hopB hopsR
  simp
  omega

/-- What two halves wish together. -/
def both (A B : Int → Bool) : Bool := hopsR.any fun g => A g && B g
def comb (A B : Int → Bool) (h : Int) : Bool := if both A B then A h && B h else A h || B h
/-- The wishes of a part. -/
def wish (f : Nat → Int) : Nat → Nat → Int → Bool
  | 0, o, h => decide (h = f o)
  | k + 1, o, h => if Alk f o (2 ^ (k + 1)) then decide (h = f o) else comb (wish f k o) (wish f k (o + 2 ^ k)) h
/-- How few routes are enough where a wish is met. -/
def few (f : Nat → Int) : Nat → Nat → Nat
  | 0, _ => 0
  | k + 1, o => few f k o + few f k (o + 2 ^ k) + (if both (wish f k o) (wish f k (o + 2 ^ k)) then 0 else 1)
def off (W : Int → Bool) (h : Int) : Nat := if W h then 0 else 1
/-- The least of the wishes. -/
def lowW (W : Int → Bool) (h : Int) : Int := (hopsR.find? W).getD h
/-- The hop to which all goes in a part, if it was h ahead of it. -/
def nxt (W : Int → Bool) (h : Int) : Int := if W h then h else lowW W h

theorem alk_low {f : Nat → Int} {o k : Nat} (h : Alk f o (2 ^ (k + 1))) : Alk f o (2 ^ k) := fun j hj => h j (by rw [Nat.pow_succ]; omega)
theorem alk_high {f : Nat → Int} {o k : Nat} (h : Alk f o (2 ^ (k + 1))) : Alk f (o + 2 ^ k) (2 ^ k) ∧ f (o + 2 ^ k) = f o := by
  have e : f (o + 2 ^ k) = f o := h (2 ^ k) (by rw [Nat.pow_succ]; have := Nat.pow_pos (n := k) (show 0 < 2 by decide); omega)
  refine ⟨fun j hj => ?_, e⟩
  rw [Nat.add_assoc, h (2 ^ k + j) (by rw [Nat.pow_succ]; omega), e]
theorem wish_alk {f : Nat → Int} {k o : Nat} (h : Alk f o (2 ^ k)) (x : Int) : wish f k o x = decide (x = f o) := by
  cases k with
  | zero => rfl
  | succ k => rw [wish, if_pos h]
theorem wish_not {f : Nat → Int} {k o : Nat} (h : ¬ Alk f o (2 ^ (k + 1))) (x : Int) : wish f (k + 1) o x = comb (wish f k o) (wish f k (o + 2 ^ k)) x := by rw [wish, if_neg h]
theorem both_iff {A B : Int → Bool} : both A B = true ↔ ∃ g ∈ hopsR, A g = true ∧ B g = true := by simp [both, List.any_eq_true]
/-- A part wishes what its halves do, also where all go alike. -/
theorem wish_rec {f : Nat → Int} (hf : ∀ j, f j ∈ hopsR) (k o : Nat) (x : Int) : wish f (k + 1) o x = comb (wish f k o) (wish f k (o + 2 ^ k)) x := by
  by_cases h : Alk f o (2 ^ (k + 1))
  · have hl := wish_alk (alk_low h)
    have hh := wish_alk (alk_high h).1
    rw [(alk_high h).2] at hh
    have hb : both (wish f k o) (wish f k (o + 2 ^ k)) = true := both_iff.2 ⟨f o, hf o, by rw [hl]; simp, by rw [hh]; simp⟩
    rw [wish_alk h, comb, if_pos hb, hl, hh]; simp
  · exact wish_not h x
theorem few_alk {f : Nat → Int} (hf : ∀ j, f j ∈ hopsR) : ∀ {k o : Nat}, Alk f o (2 ^ k) → few f k o = 0
  | 0, _, _ => rfl
  | k + 1, o, h => by
    have hl := wish_alk (alk_low h)
    have hh := wish_alk (alk_high h).1
    rw [(alk_high h).2] at hh
    have hb : both (wish f k o) (wish f k (o + 2 ^ k)) = true := both_iff.2 ⟨f o, hf o, by rw [hl]; simp, by rw [hh]; simp⟩
    rw [few, few_alk hf (alk_low h), few_alk hf (alk_high h).1, if_pos hb]
/-- Some hop is wished. -/
theorem wish_some {f : Nat → Int} (hf : ∀ j, f j ∈ hopsR) : ∀ (k o : Nat), ∃ g ∈ hopsR, wish f k o g = true
  | 0, o => ⟨f o, hf o, by simp [wish]⟩
  | k + 1, o => by
    by_cases hb : both (wish f k o) (wish f k (o + 2 ^ k)) = true
    · obtain ⟨g, hg, h1, h2⟩ := both_iff.1 hb
      exact ⟨g, hg, by rw [wish_rec hf, comb, if_pos hb, h1, h2]; rfl⟩
    · obtain ⟨g, hg, h1⟩ := wish_some hf k o
      exact ⟨g, hg, by rw [wish_rec hf, comb, if_neg hb, h1]; rfl⟩
/-- Only hops are wished. -/
theorem wish_mem {f : Nat → Int} (hf : ∀ j, f j ∈ hopsR) : ∀ (k o : Nat) {h : Int}, wish f k o h = true → h ∈ hopsR
  | 0, o, h, hw => by
    have : h = f o := by simpa [wish] using hw
    rw [this]; exact hf o
  | k + 1, o, h, hw => by
    rw [wish_rec hf, comb] at hw
    split at hw
    · simp only [Bool.and_eq_true] at hw
      exact wish_mem hf k o hw.1
    · simp only [Bool.or_eq_true] at hw
      rcases hw with hw | hw
      · exact wish_mem hf k o hw
      · exact wish_mem hf k _ hw
theorem lowW_is {W : Int → Bool} (h : ∃ g ∈ hopsR, W g = true) (x : Int) : W (lowW W x) = true ∧ lowW W x ∈ hopsR := by
  unfold lowW
  cases e : hopsR.find? W with
  | none =>
    obtain ⟨g, hg, hw⟩ := h
    exact absurd hw (by simpa using List.find?_eq_none.1 e g hg)
  | some g => exact ⟨List.find?_some e, List.mem_of_find?_eq_some e⟩
theorem nxt_is {W : Int → Bool} (h : ∃ g ∈ hopsR, W g = true) {x : Int} (hx : x ∈ hopsR) : W (nxt W x) = true ∧ nxt W x ∈ hopsR := by
  unfold nxt
  split
  · rename_i hw; exact ⟨hw, hx⟩
  · exact lowW_is h x

/-- What is enough, half by half. -/
theorem few_rec {f : Nat → Int} (hf : ∀ j, f j ∈ hopsR) (k o : Nat) {h : Int} (hw : wish f (k + 1) o h = true) : few f (k + 1) o = (few f k o + off (wish f k o) h) + (few f k (o + 2 ^ k) + off (wish f k (o + 2 ^ k)) h) := by
  rw [wish_rec hf, comb] at hw
  rw [few]
  unfold off
  by_cases hb : both (wish f k o) (wish f k (o + 2 ^ k)) = true
  · rw [if_pos hb] at hw
    simp only [Bool.and_eq_true] at hw
    simp only [if_pos hb, hw.1, hw.2, if_true]; omega
  · rw [if_neg hb] at hw
    rw [if_neg hb]
    cases h1 : wish f k o h <;> cases h2 : wish f k (o + 2 ^ k) h
    · simp [h1, h2] at hw
    · simp; omega
    · simp; omega
    · simp at *
      by_cases hm : h ∈ hopsR
      · exact absurd (both_iff.2 ⟨h, hm, h1, h2⟩) (by simpa using hb)
      · exact absurd (wish_mem hf k o h1) hm
/-- With a route of the part itself, or without one: no fewer. -/
theorem few_le {f : Nat → Int} (hf : ∀ j, f j ∈ hopsR) (k o : Nat) (h : Int) : few f (k + 1) o + off (wish f (k + 1) o) h ≤ (few f k o + off (wish f k o) h) + (few f k (o + 2 ^ k) + off (wish f k (o + 2 ^ k)) h) := by
  cases hw : wish f (k + 1) o h
  · have e : off (wish f (k + 1) o) h = 1 := by unfold off; rw [hw]; rfl
    rw [e]
    rw [wish_rec hf, comb] at hw
    rw [few]
    unfold off
    by_cases hb : both (wish f k o) (wish f k (o + 2 ^ k)) = true
    · rw [if_pos hb] at hw ⊢
      cases h1 : wish f k o h <;> cases h2 : wish f k (o + 2 ^ k) h <;> simp [h1, h2] at hw ⊢ <;> omega
    · rw [if_neg hb] at hw ⊢
      cases h1 : wish f k o h <;> cases h2 : wish f k (o + 2 ^ k) h <;> simp [h1, h2] at hw ⊢ <;> omega
  · have e : off (wish f (k + 1) o) h = 0 := by unfold off; rw [hw]; rfl
    rw [e, few_rec hf k o hw]
    exact Nat.le_refl _

/-- The routes of as few as can be, from the top on. -/
def leastR (f : Nat → Int) : Nat → Int → Int → Nat → Int → List Rt
  | 0, l, b, o, h => if wish f 0 o h then [] else [(l, b, lowW (wish f 0 o) h)]
  | k + 1, l, b, o, h =>
    (if wish f (k + 1) o h then [] else [(l, b, lowW (wish f (k + 1) o) h)]) ++
    (if Alk f o (2 ^ (k + 1)) then [] else leastR f k (l + 1) (b * 2) o (nxt (wish f (k + 1) o) h) ++ leastR f k (l + 1) (b * 2 + 1) (o + 2 ^ k) (nxt (wish f (k + 1) o) h))
theorem off_wish {W : Int → Bool} {h : Int} (hw : W h = true) : off W h = 0 := by unfold off; rw [hw]; rfl
theorem least_len {f : Nat → Int} (hf : ∀ j, f j ∈ hopsR) : ∀ (k : Nat) (l b : Int) (o : Nat) {h : Int}, h ∈ hopsR → (leastR f k l b o h).length = few f k o + off (wish f k o) h
  | 0, l, b, o, h, hh => by
    rw [leastR, few]; unfold off
    split <;> simp
  | k + 1, l, b, o, h, hh => by
    have hhere : (if wish f (k + 1) o h then ([] : List Rt) else [(l, b, lowW (wish f (k + 1) o) h)]).length = off (wish f (k + 1) o) h := by
      unfold off; split <;> simp
    rw [leastR, List.length_append, hhere]
    by_cases ha : Alk f o (2 ^ (k + 1))
    · rw [if_pos ha, few_alk hf ha]; simp
    · obtain ⟨n1, n2⟩ := nxt_is (wish_some hf (k + 1) o) hh
      rw [if_neg ha, List.length_append, least_len hf k _ _ _ n2, least_len hf k _ _ _ n2, few_rec hf k o n1]
      omega

end Go.Proofs.YtfcknkanbcndjagGreatDoor

/- AS FEW AS CAN BE: by these routes all go as they did; no sorted list of routes by which all go so has fewer; one less is not enough. No Go here. -/
namespace Go.Proofs.YtfcknkanbcndjagGreatDoor

theorem lookFrom_append (x : Int) (A B : List Rt) (a : Int) : lookFrom x (A ++ B) a = lookFrom (lookFrom x A a) B a := by simp [lookFrom]
theorem lookFrom_cons (x : Int) (r : Rt) (B : List Rt) (a : Int) : lookFrom x (r :: B) a = lookFrom (if hasB r.1 r.2.1 a then r.2.2 else x) B a := rfl
theorem lookFrom_nil (x a : Int) : lookFrom x [] a = x := rfl
theorem lookL_from (rs : List Rt) (a : Int) : lookL rs a = lookFrom (-1) rs a := rfl

/-- A route of a part: it stands in the prefix l, b. -/
structure Ins (l b : Int) (r : Rt) : Prop where
  ok : okB r.1 r.2.1 = true
  fst : firstI l b ≤ firstI r.1 r.2.1
  lst : lastI r.1 r.2.1 ≤ lastI l b
  len : l ≤ r.1
theorem Ins.has {l b : Int} {r : Rt} (h : Ins l b r) (ho : okB l b = true) {a : Int} (ha : hasB r.1 r.2.1 a = true) : hasB l b a = true := by
  have := (span_has (a := a) h.ok).2.2.2.1 ha
  have h1 := h.fst; have h2 := h.lst
  exact (span_has (a := a) ho).2.2.2.2 (by omega)
theorem Ins.low {k : Nat} {l b : Int} {o : Nat} {r : Rt} (hS : SpT (k + 1) l b o) (h : Ins (l + 1) (b * 2) r) : Ins l b r := by
  have e1 := hS.first; have e2 := hS.low.first; have e3 := hS.last; have e4 := hS.low.last
  have e5 : 2 ^ (k + 1) = 2 ^ k + 2 ^ k := by rw [Nat.pow_succ]; omega
  have e0 := Nat.pow_pos (n := k) (show 0 < 2 by decide)
  have h1 := h.fst; have h2 := h.lst; have h3 := h.len
  exact ⟨h.ok, by omega, by omega, by omega⟩
theorem Ins.high {k : Nat} {l b : Int} {o : Nat} {r : Rt} (hS : SpT (k + 1) l b o) (h : Ins (l + 1) (b * 2 + 1) r) : Ins l b r := by
  have e1 := hS.first; have e2 := hS.high.first; have e3 := hS.last; have e4 := hS.high.last
  have e5 : 2 ^ (k + 1) = 2 ^ k + 2 ^ k := by rw [Nat.pow_succ]; omega
  have e0 := Nat.pow_pos (n := k) (show 0 < 2 by decide)
  have h1 := h.fst; have h2 := h.lst; have h3 := h.len
  exact ⟨h.ok, by omega, by omega, by omega⟩

/-- All routes of the least table stand in their part, and go to hops. -/
theorem least_ins {f : Nat → Int} (hf : ∀ j, f j ∈ hopsR) : ∀ {k : Nat} {l b : Int} {o : Nat} {h : Int}, SpT k l b o → ∀ r ∈ leastR f k l b o h, Ins l b r ∧ hopB r.2.2 = true
  | 0, l, b, o, h, hS, r, hr => by
    rw [leastR] at hr
    split at hr
    · simp at hr
    · have : r = (l, b, lowW (wish f 0 o) h) := by simpa using hr
      subst this
      exact ⟨⟨hS.2.1, Int.le_refl _, Int.le_refl _, Int.le_refl _⟩, hop_mem.2 (lowW_is (wish_some hf 0 o) h).2⟩
  | k + 1, l, b, o, h, hS, r, hr => by
    rw [leastR] at hr
    rcases List.mem_append.1 hr with hr | hr
    · split at hr
      · simp at hr
      · have : r = (l, b, lowW (wish f (k + 1) o) h) := by simpa using hr
        subst this
        exact ⟨⟨hS.2.1, Int.le_refl _, Int.le_refl _, Int.le_refl _⟩, hop_mem.2 (lowW_is (wish_some hf (k + 1) o) h).2⟩
    · split at hr
      · simp at hr
      · rcases List.mem_append.1 hr with hr | hr
        · obtain ⟨h1, h2⟩ := least_ins hf hS.low r hr
          exact ⟨h1.low hS, h2⟩
        · obtain ⟨h1, h2⟩ := least_ins hf hS.high r hr
          exact ⟨h1.high hS, h2⟩
/-- They stand in order. -/
theorem least_srt {f : Nat → Int} (hf : ∀ j, f j ∈ hopsR) : ∀ {k : Nat} {l b : Int} {o : Nat} {h : Int}, SpT k l b o → (leastR f k l b o h).Pairwise (fun r s => lessB r.1 r.2.1 s.1 s.2.1 = true)
  | 0, l, b, o, h, hS => by
    rw [leastR]
    split <;> simp
  | k + 1, l, b, o, h, hS => by
    rw [leastR]
    have e1 := hS.first
    have e2 := hS.low.first
    have e3 := hS.low.last
    have e4 := hS.high.first
    have e0 := Nat.pow_pos (n := k) (show 0 < 2 by decide)
    refine List.pairwise_append.2 ⟨?_, ?_, ?_⟩
    · split <;> simp
    · split
      · simp
      · refine List.pairwise_append.2 ⟨least_srt hf hS.low, least_srt hf hS.high, fun r hr s hs => ?_⟩
        obtain ⟨h1, _⟩ := least_ins hf hS.low r hr
        obtain ⟨h2, _⟩ := least_ins hf hS.high s hs
        have g1 := h1.lst; have g2 := h2.fst
        have g3 := (span_has (a := 0) h1.ok).2.1
        rw [less_iff]; omega
    · intro r hr s hs
      split at hr
      · simp at hr
      · have : r = (l, b, lowW (wish f (k + 1) o) h) := by simpa using hr
        subst this
        split at hs
        · simp at hs
        · rcases List.mem_append.1 hs with hs | hs
          · obtain ⟨h2, _⟩ := least_ins hf hS.low s hs
            have g2 := h2.fst; have g3 := h2.len
            rw [less_iff]; simp only; omega
          · obtain ⟨h2, _⟩ := least_ins hf hS.high s hs
            have g2 := h2.fst; have g3 := h2.len
            rw [less_iff]; simp only; omega
/-- By them all go as they should. -/
theorem least_look {f : Nat → Int} (hf : ∀ j, f j ∈ hopsR) : ∀ {k : Nat} {l b : Int} {o : Nat} {h : Int}, SpT k l b o → ∀ a : Int, hasB l b a = true → lookFrom h (leastR f k l b o h) a = f a.toNat
  | k, l, b, o, h, hS, a, ha => by
    by_cases hk : Alk f o (2 ^ k)
    · have e : f a.toNat = f o := by
        have h2 := (hS.has a).1 ha
        have := hk (a.toNat - o) (by omega)
        rwa [show o + (a.toNat - o) = a.toNat by omega] at this
      have hl : leastR f k l b o h = if wish f k o h then [] else [(l, b, lowW (wish f k o) h)] := by
        cases k with
        | zero => rw [leastR]
        | succ k => rw [leastR, if_pos hk, List.append_nil]
      rw [hl, e]
      split
      · rename_i hw
        rw [wish_alk hk] at hw
        rw [lookFrom_nil]; simpa using hw
      · have hw := (lowW_is (wish_some hf k o) h).1
        rw [wish_alk hk] at hw
        rw [lookFrom_cons, lookFrom_nil, if_pos ha]
        simpa using hw
    · cases k with
      | zero => exact absurd (alk_one f o) hk
      | succ k =>
        rw [leastR, if_neg hk, lookFrom_append, lookFrom_append]
        have hn : lookFrom h (if wish f (k + 1) o h then [] else [(l, b, lowW (wish f (k + 1) o) h)]) a = nxt (wish f (k + 1) o) h := by
          unfold nxt
          split
          · rw [lookFrom_nil]
          · rw [lookFrom_cons, lookFrom_nil, if_pos ha]
        rw [hn]
        have h1 := (hS.has a).1 ha
        have e5 : 2 ^ (k + 1) = 2 ^ k + 2 ^ k := by rw [Nat.pow_succ]; omega
        cases hl : hasB (l + 1) (b * 2) a
        · have hr : hasB (l + 1) (b * 2 + 1) a = true := by
            rw [hS.high.has a]
            have : ¬ ((o : Int) ≤ a ∧ a < ((o + 2 ^ k : Nat) : Int)) := fun q => by rw [(hS.low.has a).2 q] at hl; cases hl
            omega
          rw [lookFrom_none (B := leastR f k (l + 1) (b * 2) o (nxt (wish f (k + 1) o) h)) (fun r hr => ?_)]
          · exact least_look hf hS.high a hr
          · cases e : hasB r.1 r.2.1 a
            · rfl
            · rw [(least_ins hf hS.low r hr).1.has hS.low.2.1 e] at hl; cases hl
        · rw [least_look hf hS.low a hl]
          refine lookFrom_none (fun r hr => ?_) _
          cases e : hasB r.1 r.2.1 a
          · rfl
          · have g1 := (hS.high.has a).1 ((least_ins hf hS.high r hr).1.has hS.high.2.1 e)
            have g2 := (hS.low.has a).1 hl
            omega

theorem lookFrom_filter {p : Rt → Bool} {a : Int} : ∀ (J : List Rt) (x : Int), (∀ r ∈ J, p r = false → hasB r.1 r.2.1 a = false) → lookFrom x (J.filter p) a = lookFrom x J a
  | [], x, _ => rfl
  | r :: J, x, h => by
    have ih := fun y => lookFrom_filter J y (fun s hs => h s (by simp [hs]))
    rw [List.filter_cons, lookFrom_cons]
    cases hp : p r
    · rw [if_neg (by simp), h r (by simp) hp]; exact ih x
    · rw [if_pos rfl, lookFrom_cons]; exact ih _
theorem filter_lens (p : Rt → Bool) : ∀ J : List Rt, (J.filter p).length + (J.filter (fun r => !p r)).length = J.length
  | [] => rfl
  | r :: J => by
    have ih := filter_lens p J
    rw [List.filter_cons, List.filter_cons]
    cases hp : p r <;> simp <;> omega
theorem off_le (W : Int → Bool) (h : Int) : off W h ≤ 1 := by unfold off; split <;> omega

/-- A route in a half, or in the other one. -/
theorem Ins.part {k : Nat} {l b : Int} {o : Nat} {r : Rt} (hS : SpT (k + 1) l b o) (h : Ins l b r) (hl : l < r.1) :
    (firstI r.1 r.2.1 < ((o + 2 ^ k : Nat) : Int) → Ins (l + 1) (b * 2) r) ∧ (¬ firstI r.1 r.2.1 < ((o + 2 ^ k : Nat) : Int) → Ins (l + 1) (b * 2 + 1) r) := by
  have e1 := hS.first; have e2 := hS.low.first; have e3 := hS.last; have e4 := hS.low.last
  have e6 := hS.high.first; have e7 := hS.high.last
  have e5 : 2 ^ (k + 1) = 2 ^ k + 2 ^ k := by rw [Nat.pow_succ]; omega
  have e0 := Nat.pow_pos (n := k) (show 0 < 2 by decide)
  have h1 := h.fst; have h2 := h.lst; have h3 := h.len
  refine ⟨fun hq => ⟨h.ok, by omega, ?_, by omega⟩, fun hq => ⟨h.ok, by omega, by omega, by omega⟩⟩
  obtain ⟨r0, r8, rb, rl, _, _⟩ := ok_pows h.ok
  have f1 := first_is_ok h.ok
  have f2 := last_is_ok h.ok
  have hk8 : l + (k + 1 : Nat) = 8 := hS.1
  obtain ⟨d, hd⟩ : ∃ d : Nat, k = d + (8 - r.1).toNat := ⟨k - (8 - r.1).toNat, by omega⟩
  have hp : (2 : Int) ^ k = 2 ^ d * 2 ^ (8 - r.1).toNat := by rw [hd, Int.pow_add]
  have hpos : (0 : Int) < 2 ^ (8 - r.1).toNat := Int.pow_pos (by decide)
  have ho : ((o + 2 ^ k : Nat) : Int) = (b * 2 + 1) * 2 ^ k := by rw [← hS.high.2.2]
  have hc : ((2 ^ k : Nat) : Int) = (2 : Int) ^ k := by simp
  have hmid : lastI (l + 1) (b * 2) + 1 = (b * 2 + 1) * 2 ^ d * 2 ^ (8 - r.1).toNat := by rw [e4, ho, hp, Int.mul_assoc]
  have hq2 : r.2.1 * 2 ^ (8 - r.1).toNat < (b * 2 + 1) * 2 ^ d * 2 ^ (8 - r.1).toNat := by
    rw [← f1, ← hmid, e4]; exact hq
  have hlt : r.2.1 < (b * 2 + 1) * 2 ^ d := Int.lt_of_mul_lt_mul_right hq2 (Int.le_of_lt hpos)
  have hle := Int.mul_le_mul_of_nonneg_right (show r.2.1 + 1 ≤ (b * 2 + 1) * 2 ^ d by omega) (Int.le_of_lt hpos)
  rw [Int.add_mul, Int.one_mul] at hle
  rw [f2]; omega

/-- No sorted list of routes in a part by which all go so has fewer. -/
theorem min_part {f : Nat → Int} (hf : ∀ j, f j ∈ hopsR) : ∀ (k : Nat) {l b : Int} {o : Nat} (I : List Rt) (h : Int), SpT k l b o → (∀ r ∈ I, Ins l b r) → I.Pairwise (fun r s => lessB r.1 r.2.1 s.1 s.2.1 = true) →
    (∀ a, hasB l b a = true → lookFrom h I a = f a.toNat) → few f k o + off (wish f k o) h ≤ I.length
  | 0, l, b, o, I, h, hS, hI, _, hL => by
    rw [few]
    cases I with
    | nil =>
      have := hL (o : Int) ((hS.has _).2 (by omega))
      rw [lookFrom_nil] at this
      have hw : wish f 0 o h = true := by rw [wish]; simpa using this
      rw [off_wish hw]; exact Nat.le_refl _
    | cons r I =>
      have := off_le (wish f 0 o) h
      simp only [List.length_cons]; omega
  | k + 1, l, b, o, I, h, hS, hI, hP, hL => by
    -- strictly inside
    have strict : ∀ (J : List Rt) (g : Int), (∀ r ∈ J, Ins l b r ∧ l < r.1) → J.Pairwise (fun r s => lessB r.1 r.2.1 s.1 s.2.1 = true) → (∀ a, hasB l b a = true → lookFrom g J a = f a.toNat) → few f (k + 1) o + off (wish f (k + 1) o) g ≤ J.length := by
      intro J g hJ hJP hJL
      have e0 := Nat.pow_pos (n := k) (show 0 < 2 by decide)
      have e5 : 2 ^ (k + 1) = 2 ^ k + 2 ^ k := by rw [Nat.pow_succ]; omega
      let p : Rt → Bool := fun r => decide (firstI r.1 r.2.1 < ((o + 2 ^ k : Nat) : Int))
      have hlo : ∀ r ∈ J, p r = true → Ins (l + 1) (b * 2) r := fun r hr hp => (Ins.part hS (hJ r hr).1 (hJ r hr).2).1 (of_decide_eq_true hp)
      have hhi : ∀ r ∈ J, p r = false → Ins (l + 1) (b * 2 + 1) r := fun r hr hp => (Ins.part hS (hJ r hr).1 (hJ r hr).2).2 (of_decide_eq_false hp)
      have i1 := min_part hf k (J.filter p) g hS.low (fun r hr => by rw [List.mem_filter] at hr; exact hlo r hr.1 hr.2) (hJP.filter p) (fun a ha => by
        rw [lookFrom_filter]
        · exact hJL a ((hS.has a).2 (by have := (hS.low.has a).1 ha; omega))
        · intro r hr hp
          cases e : hasB r.1 r.2.1 a
          · rfl
          · have g1 := (hS.high.has a).1 ((hhi r hr hp).has hS.high.2.1 e)
            have g2 := (hS.low.has a).1 ha
            omega)
      have i2 := min_part hf k (J.filter (fun r => !p r)) g hS.high (fun r hr => by rw [List.mem_filter] at hr; exact hhi r hr.1 (by simpa using hr.2)) (hJP.filter _) (fun a ha => by
        rw [lookFrom_filter]
        · exact hJL a ((hS.has a).2 (by have := (hS.high.has a).1 ha; omega))
        · intro r hr hp
          cases e : hasB r.1 r.2.1 a
          · rfl
          · have g1 := (hS.low.has a).1 ((hlo r hr (by simpa using hp)).has hS.low.2.1 e)
            have g2 := (hS.high.has a).1 ha
            omega)
      have i3 := filter_lens p J
      have i4 := few_le hf k o g
      omega
    -- a route of the part itself stands first
    have hone : ∀ r, Ins l b r → ¬ l < r.1 → r.1 = l ∧ r.2.1 = b := by
      intro r hr hn
      have e1 : r.1 = l := by have := hr.len; omega
      refine ⟨e1, ?_⟩
      have h1 := hr.fst; have h2 := hr.lst
      have e2 := first_is_ok hr.ok; have e3 := last_is_ok hr.ok
      have e4 := first_is_ok hS.2.1; have e6 := last_is_ok hS.2.1
      rw [e1] at e2 e3
      have e7 : firstI r.1 r.2.1 = firstI l b := by rw [e1] at h1 h2 ⊢; omega
      have hp : (0 : Int) < 2 ^ (8 - l).toNat := Int.pow_pos (by decide)
      rw [e1, e2, e4] at e7
      exact Int.eq_of_mul_eq_mul_right (by omega) e7
    have hnl : ∀ x, Ins l b x → lessB x.1 x.2.1 l b = false := by
      intro x hx
      have h1 := hx.fst; have h2 := hx.len
      cases e : lessB x.1 x.2.1 l b
      · rfl
      · rw [less_iff] at e; omega
    cases I with
    | nil => exact strict [] h (by simp) (by simp) hL
    | cons r I =>
      rw [List.pairwise_cons] at hP
      have tail : ∀ s ∈ I, Ins l b s ∧ l < s.1 := by
        intro s hs
        refine ⟨hI s (by simp [hs]), ?_⟩
        by_cases hq : l < s.1
        · exact hq
        · obtain ⟨q1, q2⟩ := hone s (hI s (by simp [hs])) hq
          have := hP.1 s hs
          rw [q1, q2, hnl r (hI r (by simp))] at this
          cases this
      by_cases hr : l < r.1
      · exact strict (r :: I) h (fun s hs => by
          rcases List.mem_cons.1 hs with rfl | hs
          · exact ⟨hI _ (by simp), hr⟩
          · exact tail s hs) (List.pairwise_cons.2 hP) hL
      · obtain ⟨q1, q2⟩ := hone r (hI r (by simp)) hr
        have := strict I r.2.2 tail hP.2 (fun a ha => by
          have := hL a ha
          rw [lookFrom_cons, q1, q2, if_pos ha] at this
          exact this)
        have := off_le (wish f (k + 1) o) h
        simp only [List.length_cons]; omega

/-- The table of as few as can be. -/
def leastT (f : Nat → Int) : List Rt := leastR f 8 0 0 0 (-1)
theorem mem_m1 : (-1 : Int) ∈ hopsR := by decide
theorem least_T_len {f : Nat → Int} (hf : ∀ j, f j ∈ hopsR) : (leastT f).length = few f 8 0 + off (wish f 8 0) (-1) := least_len hf 8 0 0 0 mem_m1
theorem least_T_look {f : Nat → Int} (hf : ∀ j, f j ∈ hopsR) (j : Nat) (hj : j < 256) : lookL (leastT f) j = f j := by
  rw [lookL_from, leastT, least_look hf SpT.root j ((root_has _).2 (by omega))]; simp
theorem ins_root {r : Rt} (h : okB r.1 r.2.1 = true) : Ins 0 0 r := by
  obtain ⟨g0, g1, g2, _⟩ := span_has (a := 0) h
  obtain ⟨h0, _⟩ := ok_iff.1 h
  have e1 : firstI 0 0 = 0 := by decide
  have e2 : lastI 0 0 = 255 := by decide
  exact ⟨h, by omega, by omega, h0⟩
/-- NO TABLE HAS FEWER. -/
theorem least_min {f : Nat → Int} (hf : ∀ j, f j ∈ hopsR) {rs : List Rt} (ho : ∀ r ∈ rs, okB r.1 r.2.1 = true) (hs : rs.Pairwise (fun r s => lessB r.1 r.2.1 s.1 s.2.1 = true)) (hl : ∀ j : Nat, j < 256 → lookL rs j = f j) : (leastT f).length ≤ rs.length := by
  rw [least_T_len hf]
  refine min_part hf 8 rs (-1) SpT.root (fun r hr => ins_root (ho r hr)) hs (fun a ha => ?_)
  obtain ⟨a0, a1⟩ := (root_has a).1 ha
  have := hl a.toNat (by omega)
  rw [show ((a.toNat : Nat) : Int) = a by omega] at this
  exact this
theorem least_T_ok {f : Nat → Int} (hf : ∀ j, f j ∈ hopsR) : (∀ r ∈ leastT f, okB r.1 r.2.1 = true ∧ hopB r.2.2 = true) ∧ (leastT f).Pairwise (fun r s => lessB r.1 r.2.1 s.1 s.2.1 = true) :=
  ⟨fun r hr => ⟨(least_ins hf SpT.root r hr).1.ok, (least_ins hf SpT.root r hr).2⟩, least_srt hf SpT.root⟩
theorem least_tab {f : Nat → Int} (hf : ∀ j, f j ∈ hopsR) (h : (leastT f).length ≤ 40) : Tab (leastT f) := ⟨(least_T_ok hf).1, (least_T_ok hf).2, h⟩
end Go.Proofs.YtfcknkanbcndjagGreatDoor
