import Derived.Test.YtklkminlkfnidacDoorT1
import Derived.Test.YtklkminlkfnidacDoorPlainAll
import Derived.Deep.RegionHeld3
import Derived.Deep.DeepCutAuto
/- FOR handpostref.counts: an array of seven numbers in memory; what is tried, as numbers. -/
namespace Go.Proofs.YtklkminlkfnidacDoor
open Go.RowKit

abbrev icells (g : Nat → Nat) : Array Value := #[iv (g 0), iv (g 1), iv (g 2), iv (g 3), iv (g 4), iv (g 5), iv (g 6)]
/-- Seven numbers at block p. -/
def IArr (w : World) (p : Nat) (g : Nat → Nat) : Prop := w.heap[p]? = some (.cells (icells g) 67 (0, 0))
theorem IArr.lt {w : World} {p : Nat} {g : Nat → Nat} (h : IArr w p g) : p < w.heap.size := lt_of_block h
theorem seven' {j : Nat} (h : j < 7) : j = 0 ∨ j = 1 ∨ j = 2 ∨ j = 3 ∨ j = 4 ∨ j = 5 ∨ j = 6 := by omega
theorem IArr.cell {w : World} {p : Nat} {g : Nat → Nat} (h : IArr w p g) {j : Nat} (hj : j < 7) : w.cell? ⟨p, j, none⟩ = some (iv (g j)) := by
  unfold IArr at h
  rcases seven' hj with rfl | rfl | rfl | rfl | rfl | rfl | rfl <;> simp [World.cell?, h]
theorem IArr.free {w : World} {p : Nat} {g : Nat → Nat} (h : IArr w p g) (j : Nat) : w.frozen? ⟨p, j, none⟩ = false := by
  unfold IArr at h
  simp [World.frozen?, h]
theorem IArr.all7 {w : World} {p : Nat} {g : Nat → Nat} (h : IArr w p g) : w.cell? ⟨p, 0, none⟩ = some (iv (g 0)) ∧ w.cell? ⟨p, 1, none⟩ = some (iv (g 1)) ∧ w.cell? ⟨p, 2, none⟩ = some (iv (g 2)) ∧ w.cell? ⟨p, 3, none⟩ = some (iv (g 3)) ∧ w.cell? ⟨p, 4, none⟩ = some (iv (g 4)) ∧ w.cell? ⟨p, 5, none⟩ = some (iv (g 5)) ∧ w.cell? ⟨p, 6, none⟩ = some (iv (g 6)) :=
  ⟨h.cell (by decide), h.cell (by decide), h.cell (by decide), h.cell (by decide), h.cell (by decide), h.cell (by decide), h.cell (by decide)⟩
theorem IArr.gr {w w' : World} {p : Nat} {g : Nat → Nat} (h : IArr w p g) (k : Gr w w') : IArr w' p g := (Below.block k p (lt_of_block h)).trans h
theorem iarr_set {w : World} {p j : Nat} {cs : Array Value} {t : TypeId} {v : Value} (h : w.heap[p]? = some (.cells cs t (0, 0))) : (w.setCell ⟨p, j, none⟩ v).heap[p]? = some (.cells (cs.setIfInBounds j v) t (0, 0)) := by
  simp [World.setCell, Array.getElem?_modify, h]
theorem IArr.set {w : World} {p : Nat} {g g' : Nat → Nat} (h : IArr w p g) {j v : Nat} (hj : j < 7) (e : ∀ i, g' i = if i = j then v else g i) : IArr (w.setCell ⟨p, j, none⟩ (iv v)) p g' := by
  unfold IArr
  rw [iarr_set h]
  unfold icells
  rcases seven' hj with rfl | rfl | rfl | rfl | rfl | rfl | rfl <;> simp [e]
theorem IArr.other {w : World} {p q : Nat} {g : Nat → Nat} (h : IArr w p g) (hn : p ≠ q) (j : Nat) (v : Value) : IArr (w.setCell ⟨q, j, none⟩ v) p g := by
  unfold IArr
  rw [Below.heap_setCell w ⟨q, j, none⟩ v p hn]; exact h
abbrev iput (w : World) (p : Nat) (g : Nat → Nat) : World := ((((((w.setCell ⟨p, 0, none⟩ (iv (g 0))).setCell ⟨p, 1, none⟩ (iv (g 1))).setCell ⟨p, 2, none⟩ (iv (g 2))).setCell ⟨p, 3, none⟩ (iv (g 3))).setCell ⟨p, 4, none⟩ (iv (g 4))).setCell ⟨p, 5, none⟩ (iv (g 5))).setCell ⟨p, 6, none⟩ (iv (g 6))
theorem IArr.put {w : World} {p : Nat} {g : Nat → Nat} (h : IArr w p g) (G : Nat → Nat) : IArr (iput w p G) p G := by
  have k0 := iarr_set (j := 0) (v := iv (G 0)) h
  have k1 := iarr_set (j := 1) (v := iv (G 1)) k0
  have k2 := iarr_set (j := 2) (v := iv (G 2)) k1
  have k3 := iarr_set (j := 3) (v := iv (G 3)) k2
  have k4 := iarr_set (j := 4) (v := iv (G 4)) k3
  have k5 := iarr_set (j := 5) (v := iv (G 5)) k4
  have k6 := iarr_set (j := 6) (v := iv (G 6)) k5
  clear k0 k1 k2 k3 k4 k5
  unfold IArr iput
  rw [k6]
  simp [icells]
theorem IArr.away {w : World} {p q : Nat} {g : Nat → Nat} (h : IArr w p g) (hn : p ≠ q) (G : Nat → Nat) : IArr (iput w q G) p g :=
  ((((((h.other hn _ _).other hn _ _).other hn _ _).other hn _ _).other hn _ _).other hn _ _).other hn _ _
theorem gr_iput {w X : World} {p : Nat} (g : Gr w X) (hp : w.heap.size ≤ p) (G : Nat → Nat) : Gr w (iput X p G) :=
  ((((((g.setCell hp _).setCell hp _).setCell hp _).setCell hp _).setCell hp _).setCell hp _).setCell hp _
theorem bp_gen' {P : Program} {f : Func} {Q : Ending → World → Prop} {e : Exit} {a : Act} {w : World} (S : World → Prop) (hS : S w) (k : ∀ X, S X → bodyPost P f Q e a X) : bodyPost P f Q e a w := k w hS
theorem IArr.new (w : World) (g : Nat → Nat) : IArr (w.alloc (.cells (icells g) 67)) w.heap.size g := heap_alloc_new w _

/-- Trying the first h hops. -/
def tr7 (P : Nat → Nat) (x : Nat) : Nat → Nat
  | 0 => x
  | h + 1 => if 1 + P h < tr7 P x h then 1 + P h else tr7 P x h
theorem tr7_le (P : Nat → Nat) (x : Nat) : ∀ h, tr7 P x h ≤ x
  | 0 => Nat.le_refl _
  | h + 1 => by
    have := tr7_le P x h
    rw [tr7]; split <;> omega
/-- Counts, by a hop's number and one. -/
def cg (f : Nat → Int) (k o : Nat) (j : Nat) : Nat := cnts f k o ((j : Int) - 1)
def pg (f : Nat → Int) : Nat → Nat → Nat → Nat
  | 0, o, j => if (j : Int) - 1 = f o then 0 else 1000
  | k + 1, o, j => cg f k o j + cg f k (o + 2 ^ k) j
theorem tried_tr (p : Int → Nat) (P : Nat → Nat) (h : Int) (e : ∀ j : Nat, j < 7 → P j = p ((j : Int) - 1)) : triedF p h = tr7 P (p h) 7 := by
  have e0 : P 0 = p (-1) := e 0 (by decide)
  have e1 : P 1 = p 0 := e 1 (by decide)
  have e2 : P 2 = p 1 := e 2 (by decide)
  have e3 : P 3 = p 2 := e 3 (by decide)
  have e4 : P 4 = p 3 := e 4 (by decide)
  have e5 : P 5 = p 4 := e 5 (by decide)
  have e6 : P 6 = p 5 := e 6 (by decide)
  unfold triedF hopsR
  simp only [List.foldl_cons, List.foldl_nil, tr7, e0, e1, e2, e3, e4, e5, e6]
theorem cg_is (f : Nat → Int) : ∀ (k o j : Nat), cg f k o j = tr7 (pg f k o) (pg f k o j) 7
  | 0, o, j => by
    unfold cg
    rw [cnts, tried_tr _ (pg f 0 o) _ (fun i _ => rfl)]; rfl
  | k + 1, o, j => by
    unfold cg
    rw [cnts, tried_tr _ (pg f (k + 1) o) _ (fun i _ => rfl)]; rfl
theorem few_pow {f : Nat → Int} : ∀ (k o : Nat), few f k o + 1 ≤ 2 ^ k
  | 0, _ => by simp [few]
  | k + 1, o => by
    have h1 := few_pow (f := f) k o
    have h2 := few_pow (f := f) k (o + 2 ^ k)
    rw [few, Nat.pow_succ]
    split <;> omega
theorem cg_le {f : Nat → Int} (hf : ∀ j, f j ∈ hopsR) {k o j : Nat} (hk : k ≤ 8) (hj : j < 7) : cg f k o j ≤ 256 := by
  have hm : ((j : Int) - 1) ∈ hopsR := hop_mem.1 (by simp [hopB]; omega)
  unfold cg
  rw [cnts_is hf k o hm]
  have h1 := few_pow (f := f) k o
  have h2 := off_le (wish f k o) ((j : Int) - 1)
  have h3 : 2 ^ k ≤ 2 ^ 8 := Nat.pow_le_pow_right (by decide) hk
  omega

end Go.Proofs.YtklkminlkfnidacDoor

/- CONTRACT OF handpostref.counts. -/
namespace Go.Proofs.YtklkminlkfnidacDoor
open Go.RowKit
attribute [local go_sem] Ext.all Ext.cell Ext.frozen Ext.lt Ext.lt1 Ext.lt2 Ext.ne Ext.ne'

theorem IArr.congr {w : World} {p : Nat} {g g' : Nat → Nat} (h : IArr w p g) (e : ∀ j, j < 7 → g j = g' j) : IArr w p g' := by
  unfold IArr at h ⊢
  unfold icells at h ⊢
  rw [← e 0 (by decide), ← e 1 (by decide), ← e 2 (by decide), ← e 3 (by decide), ← e 4 (by decide), ← e 5 (by decide), ← e 6 (by decide)]; exact h

set_option maxRecDepth 20000 in
set_option maxHeartbeats 4000000 in
theorem counts_leaf (f : Nat → Int) (hf : ∀ j, f j ∈ hopsR) (g o c : Nat) (w : World) (H : Nums w g o 1 f) :
    Calls Tryd.prog 34 #[.slice (some ⟨g, o, none⟩) 1 c] w fun e w' => e = .returned (.agg (icells (cg f 0 o))) ∧ Gr w w' := by
  have hfo : -1 ≤ f o ∧ f o < 6 := by have := hop_mem.2 (hf o); simp [hopB] at this; omega
  have c0 := H.2 0 (by decide)
  rw [Nat.add_zero] at c0
  have hg := H.1
  have HP : Hid (∀ j : Nat, pg f 0 o j = if (j : Int) - 1 = f o then 0 else 1000) := fun j => rfl
  have HC := hide (cg_is f 0 o)
  generalize pg f 0 o = P at *
  generalize cg f 0 o = G at *
  generalize f o = x at *
  clear H hf
  obtain ⟨X, hX⟩ : ∃ X, X = (w.alloc (.cells (icells fun _ => 0) 67)).alloc (.cells (icells fun _ => 0) 67) := ⟨_, rfl⟩
  have gX : Gr w X := by rw [hX]; exact ((Gr.refl w).alloc _).alloc _
  have r0 : IArr X w.heap.size (fun _ => 0) := by rw [hX]; exact (IArr.new w _).gr ((Gr.refl _).alloc _)
  have p0 : IArr X (w.heap.size + 1) (fun _ => 0) := by
    rw [hX]
    have := IArr.new (w.alloc (.cells (icells fun _ => 0) 67)) (fun _ => 0)
    simpa using this
  have HX := hide hX
  clear hX
  go_enter Tryd.func34, Tryd.ntmps34
  have HB : Hid (∀ j, j < 7 → P j ≤ 1000) := fun j _ => by rw [HP.out j]; split <;> omega
  have hw1 : IntKind.i64.wrap (x + 1) = x + 1 := by rw [IntKind.wrap_i64]; omega
  go_upto_region 3 with (fail)
  refine wp_gen (fun Y => IArr Y w.heap.size (fun _ => 0) ∧ IArr Y (w.heap.size + 1) (fun _ => 0) ∧ Gr w Y) (by rw [HX.out] at r0 p0 gX; exact ⟨r0, p0, gX⟩) ?_
  rintro X1 ⟨r1, p1, g1⟩
  clear r0 p0 gX HX
  go_wp2_with fail
  go_loopw [4] (fun v4 wr => ∃ k : Nat, k ≤ 7 ∧ v4 = .int .i64 k ∧ Hid (IArr wr (w.heap.size + 1) (fun j => if j < k then P j else 0)) ∧ Hid (IArr wr w.heap.size (fun _ => 0)) ∧ Gr w wr) (fun v4 _ => 7 - (intOf v4).toNat)
  case atStart => exact ⟨0, by omega, rfl, p1.congr (fun j _ => by simp), r1, g1⟩
  case round =>
    obtain ⟨k, hk, rfl, pk, rk, gk⟩ := hrel
    have d0 := (Below.cell gk (p := ⟨g, o, none⟩) hg).trans c0
    have hgk : g < wr.heap.size := Nat.lt_of_lt_of_le hg (Below.size gk)
    by_cases hk7 : k < 7
    · have hk0 : (0 : Int) ≤ (k : Int) := by omega
      have hkd : (k : Int) < 7 := by omega
      have cc := pk.out.cell hk7
      have fz := pk.out.free k
      have pl := pk.out.lt
      by_cases hx : (k : Int) = x + 1
      · have hb : ((k : Int) != x + 1) = false := by simpa using hx
        have HN : Hid (IArr wr (w.heap.size + 1) (fun j => if j < k + 1 then P j else 0)) := pk.out.congr fun j _ => by
          by_cases e : j < k
          · rw [if_pos e, if_pos (by omega)]
          · rw [if_neg e]
            by_cases e2 : j = k
            · subst e2; rw [if_pos (by omega), HP.out, if_pos (by omega)]
            · rw [if_neg (by omega)]
        clear hx
        go_wp2_with fail
        go_roundw
        case rel => exact ⟨k + 1, by omega, by go_num, HN, rk, gk⟩
        case measure => simp [intOf]; omega
      · have hb : ((k : Int) != x + 1) = true := by simpa using hx
        have HN : Hid (IArr (wr.setCell ⟨w.heap.size + 1, k, none⟩ (iv (1000 : Nat))) (w.heap.size + 1) (fun j => if j < k + 1 then P j else 0)) := pk.out.set hk7 fun i => by
          by_cases e : i = k
          · subst e; rw [if_pos (by omega), if_pos rfl, HP.out, if_neg (by omega)]
          · rw [if_neg e]
            by_cases e2 : i < k
            · rw [if_pos e2, if_pos (by omega)]
            · rw [if_neg e2, if_neg (by omega)]
        have HM := hide (rk.out.other (q := w.heap.size + 1) (by omega) k (iv (1000 : Nat)))
        have HG := hide (gk.setCell (p := ⟨w.heap.size + 1, k, none⟩) (by simp) (iv (1000 : Nat)))
        clear hx
        go_wp2_with fail
        go_roundw
        case rel => exact ⟨k + 1, by omega, by go_num, HN, HM, HG.out⟩
        case measure => simp [intOf]; omega
    · have h7 : k = 7 := by omega
      subst h7
      have HZ : Hid (IArr wr (w.heap.size + 1) P ∧ IArr wr w.heap.size (fun _ => 0) ∧ Gr w wr) := ⟨pk.out.congr (fun j hj => by simp [hj]), rk.out, gk⟩
      clear pk rk gk d0 hgk r1 p1 g1
      go_upto_region 14 with (fail)
      refine wp_gen (fun Y => IArr Y (w.heap.size + 1) P ∧ IArr Y w.heap.size (fun _ => 0) ∧ Gr w Y) HZ.out ?_
      rintro Z ⟨pz, rz, gz⟩
      obtain ⟨a0, a1, a2, a3, a4, a5, a6⟩ := pz.all7
      have plt := pz.lt
      have rlt := rz.lt
      go_upto_region 15 with (fail)
      refine wp_gen (fun Y => IArr Y Z.heap.size P ∧ IArr Y (w.heap.size + 1) P ∧ IArr Y w.heap.size (fun _ => 0) ∧ Gr w Y) ⟨IArr.new Z P, pz.gr ((Gr.refl _).alloc _), rz.gr ((Gr.refl _).alloc _), gz.alloc _⟩ ?_
      rintro Y ⟨oy, py, ry, gy⟩
      have hq0 : w.heap.size ≤ Z.heap.size := by omega
      have hq1 : Z.heap.size ≠ w.heap.size := by omega
      have hq2 : Z.heap.size ≠ w.heap.size + 1 := by omega
      clear a0 a1 a2 a3 a4 a5 a6 pz rz gz plt rlt HZ
      generalize Z.heap.size = q at *
      go_wp2_with fail
      go_loopw [10] (fun v10 wr => ∃ k : Nat, k ≤ 7 ∧ v10 = .int .i64 k ∧ Hid (IArr wr q (fun j => if j < k then G j else P j)) ∧ Hid (IArr wr (w.heap.size + 1) P) ∧ Hid (IArr wr w.heap.size (fun _ => 0)) ∧ Gr w wr) (fun v10 _ => 7 - (intOf v10).toNat)
      case atStart => exact ⟨0, by omega, rfl, oy.congr (fun j _ => by simp), py, ry, gy⟩
      case round =>
        obtain ⟨k, hk, rfl, ok, pk, rk, gk⟩ := hrel
        by_cases hk7 : k < 7
        · have hkd : (k : Int) < 7 := by omega
          go_wp2_with fail
          go_loopw [11] (fun v11 wr2 => ∃ h : Nat, h ≤ 7 ∧ v11 = .int .i64 h ∧ Hid (IArr wr2 q (fun j => if j < k then G j else if j = k then tr7 P (P k) h else P j)) ∧ Hid (IArr wr2 (w.heap.size + 1) P) ∧ Hid (IArr wr2 w.heap.size (fun _ => 0)) ∧ Gr w wr2) (fun v11 _ => 7 - (intOf v11).toNat)
          case atStart =>
            refine ⟨0, by omega, rfl, ok.out.congr (fun j _ => ?_), pk, rk, gk⟩
            by_cases e : j < k
            · simp [e]
            · by_cases e2 : j = k
              · subst e2; simp [tr7]
              · simp [e, e2]
          case round =>
            obtain ⟨h, hh, rfl, oh, ph, rh, gh⟩ := hrel
            by_cases hh7 : h < 7
            · have hhd : (h : Int) < 7 := by omega
              have hh0 : (0 : Int) ≤ (h : Int) := by omega
              have hk0 : (0 : Int) ≤ (k : Int) := by omega
              have d0 := ph.out.cell hh7
              have d1 := oh.out.cell hk7
              simp only [Nat.lt_irrefl, if_false, if_true] at d1
              have dl := ph.out.lt
              have ol := oh.out.lt
              have hb := HB.out h hh7
              have hw1 : IntKind.i64.wrap (1 + (P h : Int)) = 1 + (P h : Int) := by rw [IntKind.wrap_i64]; omega
              have fz := oh.out.free k
              have HT : Hid (tr7 P (P k) (h + 1) = if 1 + P h < tr7 P (P k) h then 1 + P h else tr7 P (P k) h) := rfl
              generalize ht : tr7 P (P k) h = t at *
              by_cases hc : 1 + P h < t
              · have hcd : decide (1 + (P h : Int) < (t : Int)) = true := decide_eq_true (by omega)
                have HT2 : Hid (tr7 P (P k) (h + 1) = 1 + P h) := by unfold Hid; rw [HT.out, if_pos hc]
                go_wp2_with fail
                refine wp_region_ext (by kernel_rfl) (by kernel_rfl) ?_
                repeat (go_big_quiet_step (fail))
                refine wpQuiet_nil ?_
                rintro _ ⟨e1, rfl⟩
                go_upto_region 20 with (fail)
                refine wp_gen (fun V => IArr V q (fun j => if j < k then G j else if j = k then tr7 P (P k) (h + 1) else P j) ∧ IArr V (w.heap.size + 1) P ∧ IArr V w.heap.size (fun _ => 0) ∧ Gr w V) ⟨(oh.out.gr e1.gr).set hk7 (fun i => ?_), (ph.out.gr e1.gr).other (by omega) _ _, (rh.out.gr e1.gr).other (by omega) _ _, (gh.trans e1.gr).setCell hq0 _⟩ ?_
                · rw [HT2.out]
                  by_cases e : i = k
                  · subst e; simp
                  · simp [e]
                · rintro V ⟨ov, pv', rv, gv⟩
                  go_wp2_with fail
                  go_roundw
                  case rel => exact ⟨h + 1, by omega, by go_num, ov, pv', rv, gv⟩
                  case measure => simp [intOf]; omega
              · have hcd : decide (1 + (P h : Int) < (t : Int)) = false := decide_eq_false (by omega)
                have HT2 : Hid (tr7 P (P k) (h + 1) = t) := by unfold Hid; rw [HT.out, if_neg hc]
                go_wp2_with fail
                refine wp_region_ext (by kernel_rfl) (by kernel_rfl) ?_
                repeat (go_big_quiet_step (fail))
                refine wpQuiet_nil ?_
                rintro _ ⟨e1, rfl⟩
                go_wp2_with fail
                go_roundw
                case rel => exact ⟨h + 1, by omega, by go_num, by rw [HT2.out]; exact oh.out.gr e1.gr, ph.out.gr e1.gr, rh.out.gr e1.gr, gh.trans e1.gr⟩
                case measure => simp [intOf]; omega
            · have h7 : h = 7 := by omega
              subst h7
              have HO' : Hid (IArr wr q (fun j => if j < k + 1 then G j else P j)) := oh.out.congr fun j hj => by
                by_cases e : j < k
                · rw [if_pos e, if_pos (by omega)]
                · by_cases e2 : j = k
                  · subst e2; rw [if_neg e, if_pos rfl, if_pos (by omega), HC.out]
                  · rw [if_neg e, if_neg e2, if_neg (by omega)]
              go_wp2_with fail
              go_roundw
              case rel => exact ⟨k + 1, by omega, by go_num, HO', ph, rh, gh⟩
              case measure => simp [intOf]; omega
        · have h7 : k = 7 := by omega
          subst h7
          have og : IArr wr q G := ok.out.congr fun j hj => by simp [hj]
          obtain ⟨a0, a1, a2, a3, a4, a5, a6⟩ := og.all7
          obtain ⟨b0, b1, b2, b3, b4, b5, b6⟩ := rk.out.all7
          have fr := rk.out.free
          have HR := hide (rk.out.put G)
          have HG := hide (gr_iput gk (Nat.le_refl _) G)
          clear ok pk oy py ry
          go_wp2_with fail
          refine bp_gen' (fun V => IArr V w.heap.size G ∧ Gr w V) ⟨HR.out, HG.out⟩ ?_
          rintro V ⟨vR, gV⟩
          clear a0 a1 a2 a3 a4 a5 a6 b0 b1 b2 b3 b4 b5 b6 fr
          obtain ⟨b0, b1, b2, b3, b4, b5, b6⟩ := vR.all7
          exact bodyPost_ret (v := .agg (icells G)) (by simp [results, Tryd.results34, go_sem, *]) rfl ⟨rfl, gV⟩

end Go.Proofs.YtklkminlkfnidacDoor
