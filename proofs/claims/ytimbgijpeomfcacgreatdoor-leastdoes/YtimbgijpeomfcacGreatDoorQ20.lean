import Derived.Test.YtimbgijpeomfcacGreatDoorQ4
import Derived.Deep.Cut
import Derived.Sort.Walk7a
/- CONTRACTS OF sort.order2_func, median_func, medianAdjacent_func, choosePivot_func: SOME pivot is chosen. -/
namespace Go.Proofs.YtimbgijpeomfcacGreatDoor
open Go.RowKit
theorem gr_blk {a w : World} {k : Nat} {o : Obj} (h : Gr a w) (hk : a.heap[k]? = some o) : w.heap[k]? = some o := (Below.block h k (lt_of_block hk)).trans hk
theorem gr_cell {a w : World} {p : Addr} {v : Value} (h : Gr a w) (hk : p.block < a.heap.size) (e : a.cell? p = some v) : w.cell? p = some v := (Below.cell h hk).trans e
open Go.Sort

/-- Block g holds d, block sw the number s; all other blocks of B are as they were. -/
structure SH (B : World) (g sw : Nat) (d : Array Pf) (s : Nat) (W : World) : Prop where
  kp : Kp (fun k => k ≠ g ∧ k ≠ sw) B W
  holds : HoldsK encP 2 W g 0 d
  swc : W.heap[sw]? = some (.cells #[iv s] 3 (0, 0))
  glt : g < B.heap.size
  slt : sw < B.heap.size
  ne : sw ≠ g
theorem SH.gr {B W X : World} {g sw s : Nat} {d : Array Pf} (h : SH B g sw d s W) (k : Gr W X) : SH B g sw d s X :=
  ⟨h.kp.trans (k.kp _), holds_gr h.holds (Nat.lt_of_lt_of_le h.glt h.kp.size) k, gr_blk k h.swc, h.glt, h.slt, h.ne⟩
theorem SH.trans {B W X : World} {g sw s s' : Nat} {d d' : Array Pf} (h : SH B g sw d s W) (k : SH W g sw d' s' X) : SH B g sw d' s' X := ⟨h.kp.trans k.kp, k.holds, k.swc, h.glt, h.slt, h.ne⟩
theorem SH.self {B W : World} {g sw s : Nat} {d : Array Pf} (h : SH B g sw d s W) : SH W g sw d s W :=
  ⟨Kp.refl _ _, h.holds, h.swc, Nat.lt_of_lt_of_le h.glt h.kp.size, Nat.lt_of_lt_of_le h.slt h.kp.size, h.ne⟩
theorem SH.other {B X : World} {g sw s : Nat} {d : Array Pf} (h : SH B g sw d s X) {b : Nat} (hb : b < B.heap.size) (hn : b ≠ g) (hm : b ≠ sw) (o : Nat) : X.cell? ⟨b, o, none⟩ = B.cell? ⟨b, o, none⟩ :=
  World.cell?_of_block (a := ⟨b, o, none⟩) (h.kp.block b hb ⟨hn, hm⟩)
theorem SH.count {B W : World} {g sw s : Nat} {d : Array Pf} (h : SH B g sw d s W) (s' : Nat) : SH B g sw d s' (W.setCell ⟨sw, 0, none⟩ (iv s')) := by
  refine ⟨h.kp.trans ⟨rfl, rfl, rfl, by simp, fun k _ hk => heap_setCell_other W ⟨sw, 0, none⟩ k _ hk.2⟩, fun j hj => ?_, one_setCell h.swc, h.glt, h.slt, h.ne⟩
  have := h.holds j hj
  have e : (W.setCell ⟨sw, 0, none⟩ (iv s')).heap[g]? = W.heap[g]? := heap_setCell_other W ⟨sw, 0, none⟩ g _ (fun e => h.ne e.symm)
  rw [World.cell?_of_block (a := ⟨g, 0 + j, none⟩) e, World.frozen?_of_block (a := ⟨g, 0 + j, none⟩) e]
  exact this
/-- What comparing does. -/
def Cs (B : World) (g n sw : Nat) (lb : Array Value) : Prop := ∀ (d : Array Pf) (s : Nat) (W : World), d.size = n → SH B g sw d s W → ∀ i j : Nat, i < n → j < n →
  Calls Tryz.prog 52 (#[.int .i64 i, .int .i64 j] ++ lb) W fun e w' => e = .returned (.bool (ltP d[i]! d[j]!)) ∧ Gr W w'
theorem Cs.up {B W : World} {g n sw s : Nat} {lb : Array Value} {d : Array Pf} (h : Cs B g n sw lb) (k : SH B g sw d s W) : Cs W g n sw lb :=
  fun d' s' X hs hX i j hi hj => h d' s' X hs (k.trans hX) i j hi hj

set_option maxHeartbeats 2000000 in
set_option maxRecDepth 100000 in
theorem order2_any {B W : World} {g n sw s : Nat} {lb sb : Array Value} {d : Array Pf} (hC : Cs B g n sw lb) (hS : SH B g sw d s W) (hs : d.size = n) (hsn : s ≤ 100) {x y : Nat} (hx : x < n) (hy : y < n) :
    Calls Tryz.prog 107 #[datV lb sb, .int .i64 x, .int .i64 y, pv sw] W fun e w' => ∃ p q s' : Nat, e = .returned (.tuple #[.int .i64 p, .int .i64 q]) ∧ ((p = x ∧ q = y) ∨ (p = y ∧ q = x)) ∧ s' ≤ s + 1 ∧ SH B g sw d s' w' := by
  obtain ⟨A, hA⟩ : ∃ A, A = W.alloc (.cells #[lesV lb, swaV sb] 112) := ⟨_, rfl⟩
  have gA : Gr W A := by rw [hA]; exact (Gr.refl W).alloc _
  have hSA := hS.gr gA
  have HL := hide (hC d s A hs hSA y x hy hx)
  have c0 : A.cell? ⟨W.heap.size, 0, none⟩ = some (lesV lb) := by rw [hA]; simp [go_sem]
  have eg := les_enters
  have HA := hide hA
  clear hA hC
  cases hv : ltP d[y]! d[x]!
  · rw [hv] at HL
    go_enter Tryz.func107, Tryz.ntmps107
    go_upto_region 1 with (fail)
    rw [← HA.out]
    go_wp2_with (go_at_fn 52; refine HL.out.mono ?_; rintro e w1 ⟨rfl, g1⟩)
    go_ret2
    exact ⟨x, y, s, rfl, .inl ⟨rfl, rfl⟩, by omega, hSA.gr g1⟩
  · rw [hv] at HL
    go_enter Tryz.func107, Tryz.ntmps107
    go_upto_region 1 with (fail)
    rw [← HA.out]
    go_wp2_with (go_at_fn 52; refine HL.out.mono ?_; rintro e w1 ⟨rfl, g1⟩; have s1 := (hSA.gr g1).swc; have d0 := cell_of_one s1; have d1 := free_of_one s1)
    go_ret2
    refine ⟨y, x, s + 1, rfl, .inr ⟨rfl, rfl⟩, by omega, ?_⟩
    have := (hSA.gr g1).count (s + 1)
    push_cast at this
    exact this

set_option maxHeartbeats 2000000 in
set_option maxRecDepth 100000 in
theorem median_any {B W : World} {g n sw s : Nat} {lb sb : Array Value} {d : Array Pf} (hC : Cs B g n sw lb) (hS : SH B g sw d s W) (hs : d.size = n) (hsn : s ≤ 90) {x y z : Nat} (hx : x < n) (hy : y < n) (hz : z < n) :
    Calls Tryz.prog 106 #[datV lb sb, .int .i64 x, .int .i64 y, .int .i64 z, pv sw] W fun e w' => ∃ p s' : Nat, e = .returned (.int .i64 p) ∧ (p = x ∨ p = y ∨ p = z) ∧ s' ≤ s + 3 ∧ SH B g sw d s' w' := by
  obtain ⟨A, hA⟩ : ∃ A, A = W.alloc (.cells #[lesV lb, swaV sb] 112) := ⟨_, rfl⟩
  have gA : Gr W A := by rw [hA]; exact (Gr.refl W).alloc _
  have hSA := hS.gr gA
  have hself := hSA.self
  have c0 : A.cell? ⟨W.heap.size, 0, none⟩ = some (lesV lb) := by rw [hA]; simp [go_sem]
  have c1 : A.cell? ⟨W.heap.size, 1, none⟩ = some (swaV sb) := by rw [hA]; simp [go_sem]
  have hbx : W.heap.size < A.heap.size := by rw [hA]; simp
  have hn1 : W.heap.size ≠ g := by have := Nat.lt_of_lt_of_le hS.glt hS.kp.size; omega
  have hn2 : W.heap.size ≠ sw := by have := Nat.lt_of_lt_of_le hS.slt hS.kp.size; omega
  have HB : Hid (∀ w' s', SH A g sw d s' w' → w'.cell? ⟨W.heap.size, 0, none⟩ = some (lesV lb) ∧ w'.cell? ⟨W.heap.size, 1, none⟩ = some (swaV sb)) := fun w' s' h => ⟨(h.other hbx hn1 hn2 0).trans c0, (h.other hbx hn1 hn2 1).trans c1⟩
  have HC := hide (hC.up hSA)
  have HA := hide hA
  have HE : Hid (∀ w' s', SH A g sw d s' w' → SH B g sw d s' w') := fun w' s' h => hSA.trans h
  clear hA hC
  go_enter Tryz.func106, Tryz.ntmps106
  go_upto_region 1 with (fail)
  rw [← HA.out]
  go_upto_region 2 with (go_at_call 107; refine (order2_any HC.out hself hs (by omega) hx hy).mono ?_; rintro e w1 ⟨p1, q1, s1, rfl, hpq1, hs1, h1⟩; obtain ⟨e0, e1⟩ := HB.out _ _ h1)
  have hp1 : p1 < n ∧ q1 < n := by omega
  go_upto_region 3 with (go_at_call 107; refine (order2_any HC.out h1 hs (by omega) hp1.2 hz).mono ?_; rintro e w2 ⟨p2, q2, s2, rfl, hpq2, hs2, h2⟩; obtain ⟨e2, e3⟩ := HB.out _ _ h2)
  have hp2 : p2 < n := by omega
  go_wp2_with (go_at_call 107; refine (order2_any HC.out h2 hs (by omega) hp1.1 hp2).mono ?_; rintro e w3 ⟨p3, q3, s3, rfl, hpq3, hs3, h3⟩)
  go_ret
  exact ⟨q3, s3, rfl, by omega, by omega, HE.out _ _ h3⟩

set_option maxHeartbeats 2000000 in
set_option maxRecDepth 100000 in
theorem medadj_any {B W : World} {g n sw s : Nat} {lb sb : Array Value} {d : Array Pf} (hC : Cs B g n sw lb) (hS : SH B g sw d s W) (hs : d.size = n) (hsn : s ≤ 90) {x : Nat} (h1 : 1 ≤ x) (hx : x + 1 < n) (hn : n ≤ 1000) :
    Calls Tryz.prog 105 #[datV lb sb, .int .i64 x, pv sw] W fun e w' => ∃ p s' : Nat, e = .returned (.int .i64 p) ∧ x ≤ p + 1 ∧ p ≤ x + 1 ∧ s' ≤ s + 3 ∧ SH B g sw d s' w' := by
  obtain ⟨A, hA⟩ : ∃ A, A = W.alloc (.cells #[lesV lb, swaV sb] 112) := ⟨_, rfl⟩
  have gA : Gr W A := by rw [hA]; exact (Gr.refl W).alloc _
  have hSA := hS.gr gA
  have c0 : A.cell? ⟨W.heap.size, 0, none⟩ = some (lesV lb) := by rw [hA]; simp [go_sem]
  have c1 : A.cell? ⟨W.heap.size, 1, none⟩ = some (swaV sb) := by rw [hA]; simp [go_sem]
  have HM := hide (median_any (sb := sb) hC hSA hs hsn (x := x - 1) (y := x) (z := x + 1) (by omega) (by omega) hx)
  rw [show (((x - 1 : Nat) : Int)) = (x : Int) - 1 by omega, show (((x + 1 : Nat) : Int)) = (x : Int) + 1 by omega] at HM
  have HA := hide hA
  clear hA hC
  go_enter Tryz.func105, Tryz.ntmps105
  go_upto_region 1 with (fail)
  rw [← HA.out]
  go_wp2_with (go_at_call 106; refine HM.out.mono ?_; rintro e w1 ⟨p, s', rfl, hp, hs', h1'⟩)
  go_ret
  exact ⟨p, s', rfl, by omega, by omega, hs', h1'⟩

end Go.Proofs.YtimbgijpeomfcacGreatDoor

/- CONTRACT OF sort.choosePivot_func: SOME pivot is chosen. -/
namespace Go.Proofs.YtimbgijpeomfcacGreatDoor
open Go.RowKit Go.Sort

set_option maxHeartbeats 4000000 in
set_option maxRecDepth 100000 in
theorem choose_any {B W : World} {g n : Nat} {lb sb : Array Value} {d : Array Pf} (hC : Cx B g n lb sb) (hS : SG B g d W) (hs : d.size = n) (hn : n ≤ 1000) {a b : Nat} (h12 : a + 12 < b) (hb : b ≤ n) :
    Calls Tryz.prog 93 #[datV lb sb, .int .i64 a, .int .i64 b] W fun e w' => ∃ p h : Nat, e = .returned (.tuple #[.int .i64 p, .int .i64 h]) ∧ a ≤ p ∧ p < b ∧ h ≤ 2 ∧ SG B g d w' := by
  obtain ⟨A, hA⟩ : ∃ A, A = W.alloc (.cells #[lesV lb, swaV sb] 112) := ⟨_, rfl⟩
  have gA : Gr W A := by rw [hA]; exact (Gr.refl W).alloc _
  obtain ⟨A2, hA2⟩ : ∃ A2, A2 = A.alloc (.cells #[iv 0] 3) := ⟨_, rfl⟩
  have gA2 : Gr A A2 := by rw [hA2]; exact (Gr.refl A).alloc _
  have hAs : A.heap.size = W.heap.size + 1 := by rw [hA]; simp
  have hA2s : A2.heap.size = W.heap.size + 2 := by rw [hA2]; simp [hAs]
  have hSG2 := hS.gr (gA.trans gA2)
  have hgl := hS.gLt
  have hBW : B.heap.size ≤ W.heap.size := hS.kp.size
  have hself : SH A2 g (W.heap.size + 1) d 0 A2 := ⟨Kp.refl _ _, hSG2.holds, by have := heap_alloc_new A (.cells #[iv 0] 3); rw [← hA2, hAs] at this; exact this, by omega, by omega, by omega⟩
  have HE : Hid (∀ d' w' s', SH A2 g (W.heap.size + 1) d' s' w' → SG B g d' w') := fun d' w' s' h => by
    refine ⟨⟨h.kp.os.trans hSG2.kp.os, h.kp.tape.trans hSG2.kp.tape, h.kp.output.trans hSG2.kp.output, Nat.le_trans hSG2.kp.size h.kp.size, fun k hk hne => ?_⟩, h.holds, hS.lt⟩
    exact (h.kp.block k (Nat.lt_of_lt_of_le hk hSG2.kp.size) ⟨hne, by omega⟩).trans (hSG2.kp.block k hk hne)
  have HC : Hid (Cs A2 g n (W.heap.size + 1) lb) := fun d' s' X hs' hX i j hi hj => hC.less d' X hs' (HE.out _ _ _ hX) i j hi hj
  have c0 : A.cell? ⟨W.heap.size, 0, none⟩ = some (lesV lb) := by rw [hA]; simp [go_sem]
  have c1 : A.cell? ⟨W.heap.size, 1, none⟩ = some (swaV sb) := by rw [hA]; simp [go_sem]
  have b0 : A2.cell? ⟨W.heap.size, 0, none⟩ = some (lesV lb) := gr_cell gA2 (by show W.heap.size < _; omega) c0
  have b1 : A2.cell? ⟨W.heap.size, 1, none⟩ = some (swaV sb) := gr_cell gA2 (by show W.heap.size < _; omega) c1
  have HB : Hid (∀ w' s', SH A2 g (W.heap.size + 1) d s' w' → w'.cell? ⟨W.heap.size, 0, none⟩ = some (lesV lb) ∧ w'.cell? ⟨W.heap.size, 1, none⟩ = some (swaV sb)) := fun w' s' h => ⟨(h.other (by omega) (by omega) (by omega) 0).trans b0, (h.other (by omega) (by omega) (by omega) 1).trans b1⟩
  obtain ⟨l, hl, hl'⟩ : ∃ l, b ≤ a + l ∧ a + l ≤ b := ⟨b - a, by omega, by omega⟩
  have e1 : (b : Int) - (a : Int) = (l : Int) := by omega
  obtain ⟨q, hq⟩ : ∃ q, l / 4 = q := ⟨_, rfl⟩
  have hq4 : (l : Int) / 4 = (q : Int) := by omega
  have hq4t : (l : Int).tdiv 4 = (q : Int) := by rw [Int.tdiv_eq_ediv_of_nonneg (by omega)]; exact hq4
  have hd8 : decide ((8 : Int) ≤ (l : Int)) = true := decide_eq_true (by omega)
  have HA : Hid (A2 = (W.alloc (.cells #[lesV lb, swaV sb] 112)).alloc (.cells #[iv 0] 3)) := by unfold Hid; rw [hA2, hA]
  clear hC hA hA2 c0 c1 gA gA2 hSG2
  go_enter Tryz.func93, Tryz.ntmps93
  go_upto_region 3 with (fail)
  rw [← HA.out]
  go_upto_region 6 with (simp only [hq4, hq4t])
  rw [show (a : Int) + (q : Int) = ((a + q : Nat) : Int) by omega, show (a : Int) + (q : Int) * 2 = ((a + q * 2 : Nat) : Int) by omega, show (a : Int) + (q : Int) * 3 = ((a + q * 3 : Nat) : Int) by omega]
  by_cases h50 : 50 ≤ l
  · have hd50 : decide ((50 : Int) ≤ (l : Int)) = true := decide_eq_true (by omega)
    go_upto_region 9 with (go_at_call 105; refine (medadj_any HC.out hself hs (by omega) (x := a + q) (by omega) (by omega) hn).mono ?_; rintro e w1 ⟨p1, s1, rfl, ha1, hb1, hs1, k1⟩; obtain ⟨z0, z1⟩ := HB.out _ _ k1)
    go_upto_region 10 with (go_at_call 105; refine (medadj_any HC.out k1 hs (by omega) (x := a + q * 2) (by omega) (by omega) hn).mono ?_; rintro e w2 ⟨p2, s2, rfl, ha2, hb2, hs2, k2⟩; obtain ⟨z2, z3⟩ := HB.out _ _ k2)
    go_upto_region 11 with (go_at_call 105; refine (medadj_any HC.out k2 hs (by omega) (x := a + q * 3) (by omega) (by omega) hn).mono ?_; rintro e w3 ⟨p3, s3, rfl, ha3, hb3, hs3, k3⟩; obtain ⟨z4, z5⟩ := HB.out _ _ k3)
    go_wp2_with (go_at_call 106; refine (median_any HC.out k3 hs (by omega) (x := p1) (y := p2) (z := p3) (by omega) (by omega) (by omega)).mono ?_; rintro e w4 ⟨p4, s4, rfl, hp4, hs4, k4⟩; have sc := cell_of_one k4.swc)
    all_goals
      go_ret2
      first
        | exact ⟨p4, 0, rfl, by omega, by omega, by omega, HE.out _ _ _ k4⟩
        | exact ⟨p4, 1, rfl, by omega, by omega, by omega, HE.out _ _ _ k4⟩
        | exact ⟨p4, 2, rfl, by omega, by omega, by omega, HE.out _ _ _ k4⟩
  · have hd50 : decide ((50 : Int) ≤ (l : Int)) = false := decide_eq_false (by omega)
    go_wp2_with (go_at_call 106; refine (median_any HC.out hself hs (by omega) (x := a + q) (y := a + q * 2) (z := a + q * 3) (by omega) (by omega) (by omega)).mono ?_; rintro e w4 ⟨p4, s4, rfl, hp4, hs4, k4⟩; have sc := cell_of_one k4.swc)
    all_goals
      go_ret2
      first
        | exact ⟨p4, 0, rfl, by omega, by omega, by omega, HE.out _ _ _ k4⟩
        | exact ⟨p4, 1, rfl, by omega, by omega, by omega, HE.out _ _ _ k4⟩
        | exact ⟨p4, 2, rfl, by omega, by omega, by omega, HE.out _ _ _ k4⟩

end Go.Proofs.YtimbgijpeomfcacGreatDoor

/- CONTRACTS OF sort.nextPowerOfTwo, xorshift.Next, breakPatterns_func: it moves things about between a and b. -/
namespace Go.Proofs.YtimbgijpeomfcacGreatDoor
open Go.RowKit Go.Sort

theorem npow_any (n : Nat) (h8 : 8 ≤ n) (hn : n ≤ 1000) (w : World) : Calls Tryz.prog 103 #[.int .i64 n] w fun e w' => (∃ m : Nat, e = .returned (.int .u64 m) ∧ 1 ≤ m ∧ m ≤ 2 * n ∧ m ≤ 4000) ∧ w' = w := by
  have hb := fun w => blen_any n hn w
  have e0 := bitLen_eq n (by omega)
  have h1 : bitsLen n ≤ 62 := (bitsLen_le_iff n 62).2 (by omega)
  have h2 : n < 2 ^ bitsLen n := (bitsLen_le_iff n _).1 (Nat.le_refl _)
  have h3 : ¬ n < 2 ^ (bitsLen n - 1) := fun h => by
    have h4 := (bitsLen_le_iff n (bitsLen n - 1)).2 h
    have h5 : bitsLen n ≠ 0 := fun h5 => by rw [h5] at h2; omega
    omega
  rw [e0] at hb
  have hp := wrap_two_pow (bitsLen n) h1
  have h6 : (1 <<< bitsLen n : Nat) ≤ 2 * n := by
    rw [Nat.one_shiftLeft]
    have h5 : bitsLen n ≠ 0 := fun h5 => by rw [h5] at h2; omega
    obtain ⟨t, ht⟩ : ∃ t, bitsLen n = t + 1 := ⟨bitsLen n - 1, by omega⟩
    rw [ht] at h3 ⊢
    rw [show t + 1 - 1 = t by omega] at h3
    rw [Nat.pow_succ]
    omega
  have h7 : 1 ≤ (1 <<< bitsLen n : Nat) := by rw [Nat.one_shiftLeft]; exact Nat.one_le_two_pow
  have wr : IntKind.u64.wrap (n : Int) = n := by simp [IntKind.wrap, IntKind.bits, IntKind.signed]; omega
  generalize hk : bitsLen n = k at *
  clear hk
  go_enter Tryz.func103, Tryz.ntmps103
  go_wp2_with (first | (go_at_call 72; refine (hb _).mono ?_; rintro e w' ⟨rfl, rfl⟩) | fail)
  go_ret
  exact ⟨⟨(1 <<< k : Nat), rfl, h7, h6, by omega⟩, rfl⟩

theorem xnext_any (rb X : Nat) (hX : X < 18446744073709551616) (w : World) (hc : w.cell? ⟨rb, 0, none⟩ = some (.int .u64 X)) (hf : w.frozen? ⟨rb, 0, none⟩ = false) :
    Calls Tryz.prog 104 #[pv rb] w fun e w' => ∃ Y : Nat, Y < 18446744073709551616 ∧ e = .returned (.int .u64 Y) ∧ w' = (w.setCell ⟨rb, 0, none⟩ (.int .u64 Y)).drewN 3 := by
  obtain ⟨A, hA⟩ : ∃ A : Nat, A = X ^^^ (X * 8192 % 18446744073709551616) := ⟨_, rfl⟩
  obtain ⟨B, hB⟩ : ∃ B : Nat, B = A ^^^ (A / 128) := ⟨_, rfl⟩
  obtain ⟨C, hC⟩ : ∃ C : Nat, C = B ^^^ (B * 131072 % 18446744073709551616) := ⟨_, rfl⟩
  have lA : A < 18446744073709551616 := by rw [hA]; exact Nat.xor_lt_two_pow (n := 64) (by omega) (by omega)
  have lB : B < 18446744073709551616 := by rw [hB]; exact Nat.xor_lt_two_pow (n := 64) (by omega) (by omega)
  have lC : C < 18446744073709551616 := by rw [hC]; exact Nat.xor_lt_two_pow (n := 64) (by omega) (by omega)
  have e1 : bits .xor .u64 (X : Int) (IntKind.u64.wrap ((X : Int) * 8192)) = (A : Int) := by
    rw [IntKind.wrap_u64, show ((X : Int) * 8192 % 18446744073709551616) = ((X * 8192 % 18446744073709551616 : Nat) : Int) by omega, bits_xor_u64_nat _ _ hX (by omega), hA]
  have e2 : bits .xor .u64 (A : Int) ((A : Int) / 128) = (B : Int) := by
    rw [show ((A : Int) / 128) = ((A / 128 : Nat) : Int) by omega, bits_xor_u64_nat _ _ lA (by omega), hB]
  have e3 : bits .xor .u64 (B : Int) (IntKind.u64.wrap ((B : Int) * 131072)) = (C : Int) := by
    rw [IntKind.wrap_u64, show ((B : Int) * 131072 % 18446744073709551616) = ((B * 131072 % 18446744073709551616 : Nat) : Int) by omega, bits_xor_u64_nat _ _ lB (by omega), hC]
  clear hA hB hC
  have hss : ∀ v v', (w.setCell ⟨rb, 0, none⟩ v).setCell ⟨rb, 0, none⟩ v' = w.setCell ⟨rb, 0, none⟩ v' := setCell_setCell w rb 0
  go_enter Tryz.func104, Tryz.ntmps104
  go_wp2
  go_region
  all_goals go_wp2
  all_goals go_region
  all_goals go_wp2
  all_goals go_region
  all_goals go_wp2
  go_ret
  exact ⟨C, lC, rfl, rfl⟩

end Go.Proofs.YtimbgijpeomfcacGreatDoor

/- CONTRACT OF sort.breakPatterns_func: it moves things about between a and b. -/
namespace Go.Proofs.YtimbgijpeomfcacGreatDoor
open Go.RowKit Go.Sort

/-- Block g holds d, block rb a random number; all other blocks of B are as they were. -/
structure SX (B : World) (g rb : Nat) (d : Array Pf) (W : World) : Prop where
  kp : Kp (fun k => k ≠ g ∧ k ≠ rb) B W
  holds : HoldsK encP 2 W g 0 d
  rnd : ∃ x : Nat, x < 18446744073709551616 ∧ W.heap[rb]? = some (.cells #[.int .u64 x] 129 (0, 0))
  glt : g < B.heap.size
  rlt : rb < B.heap.size
  ne : rb ≠ g
theorem SX.other {B X : World} {g rb : Nat} {d : Array Pf} (h : SX B g rb d X) {b : Nat} (hb : b < B.heap.size) (hn : b ≠ g) (hm : b ≠ rb) (o : Nat) : X.cell? ⟨b, o, none⟩ = B.cell? ⟨b, o, none⟩ :=
  World.cell?_of_block (a := ⟨b, o, none⟩) (h.kp.block b hb ⟨hn, hm⟩)
theorem SX.next {B W : World} {g rb : Nat} {d : Array Pf} (h : SX B g rb d W) {y : Nat} (hy : y < 18446744073709551616) (m : Nat) : SX B g rb d ((W.setCell ⟨rb, 0, none⟩ (.int .u64 y)).drewN m) := by
  obtain ⟨x, _, hx⟩ := h.rnd
  refine ⟨h.kp.trans ⟨rfl, rfl, rfl, by show _ ≤ (W.setCell _ _).heap.size; simp, fun k _ hk => heap_setCell_other W ⟨rb, 0, none⟩ k _ hk.2⟩, fun j hj => ?_, ⟨y, hy, one_setCell hx⟩, h.glt, h.rlt, h.ne⟩
  have := h.holds j hj
  have e : ((W.setCell ⟨rb, 0, none⟩ (.int .u64 y)).drewN m).heap[g]? = W.heap[g]? := heap_setCell_other W ⟨rb, 0, none⟩ g _ (fun e => h.ne e.symm)
  rw [World.cell?_of_block (a := ⟨g, 0 + j, none⟩) e, World.frozen?_of_block (a := ⟨g, 0 + j, none⟩) e]
  exact this
theorem SX.swap {B W : World} {g rb n : Nat} {sb : Array Value} {d : Array Pf} (hC : SwapSwapsK Tryz.prog 87 sb encP 2 g 0 n) (hs : d.size = n) (h : SX B g rb d W) {i j : Nat} (hi : i < n) (hj : j < n) :
    ∃ Y, (callFunc 87 (#[.int .i64 i, .int .i64 j] ++ sb)).run Tryz.prog W = .ok (.value (.tuple #[])) Y ∧ SX B g rb (swp d i j) Y := by
  have hgW : g < W.heap.size := Nat.lt_of_lt_of_le h.glt h.kp.size
  have k := (SG.start h.holds hgW).swap (i := i) (j := j) (by omega) (by omega)
  refine ⟨_, hC W d h.holds hs i j hi hj, ⟨h.kp.trans ⟨k.kp.os, k.kp.tape, k.kp.output, k.kp.size, fun b hb hne => k.kp.block b hb hne.1⟩, k.holds, ?_, h.glt, h.rlt, h.ne⟩⟩
  obtain ⟨x, hx, e⟩ := h.rnd
  exact ⟨x, hx, (k.kp.block rb (lt_of_block e) h.ne).trans e⟩

set_option maxHeartbeats 4000000 in
set_option maxRecDepth 100000 in
theorem breakp_any {B W : World} {g n : Nat} {lb sb : Array Value} {d : Array Pf} (hC : Cx B g n lb sb) (hS : SG B g d W) (hs : d.size = n) (hn : n ≤ 1000) {a b : Nat} (h8 : a + 8 ≤ b) (hb : b ≤ n) :
    Calls Tryz.prog 92 #[datV lb sb, .int .i64 a, .int .i64 b] W fun e w' => e = .returned (.tuple #[]) ∧ ∃ d', PermIn a b d d' ∧ SG B g d' w' := by
  obtain ⟨l, hl, hl'⟩ : ∃ l, b ≤ a + l ∧ a + l ≤ b := ⟨b - a, by omega, by omega⟩
  have e1 : (b : Int) - (a : Int) = (l : Int) := by omega
  obtain ⟨A, hA⟩ : ∃ A, A = W.alloc (.cells #[lesV lb, swaV sb] 112) := ⟨_, rfl⟩
  have gA : Gr W A := by rw [hA]; exact (Gr.refl W).alloc _
  have hAs : A.heap.size = W.heap.size + 1 := by rw [hA]; simp
  obtain ⟨A2, hA2⟩ : ∃ A2, A2 = A.alloc (.cells #[.int .u64 l] 129) := ⟨_, rfl⟩
  have gA2 : Gr A A2 := by rw [hA2]; exact (Gr.refl A).alloc _
  have hA2s : A2.heap.size = W.heap.size + 2 := by rw [hA2]; simp [hAs]
  have hSG2 := hS.gr (gA.trans gA2)
  have hgl := hS.gLt
  have hBW : B.heap.size ≤ W.heap.size := hS.kp.size
  have hr1 : A2.heap[W.heap.size + 1]? = some (.cells #[.int .u64 l] 129 (0, 0)) := by have := heap_alloc_new A (.cells #[.int .u64 l] 129); rw [← hA2, hAs] at this; exact this
  have hself : SX A2 g (W.heap.size + 1) d A2 := ⟨Kp.refl _ _, hSG2.holds, ⟨l, by omega, hr1⟩, by omega, by omega, by omega⟩
  have HE : Hid (∀ d' w', SX A2 g (W.heap.size + 1) d' w' → SG B g d' w') := fun d' w' h => by
    refine ⟨⟨h.kp.os.trans hSG2.kp.os, h.kp.tape.trans hSG2.kp.tape, h.kp.output.trans hSG2.kp.output, Nat.le_trans hSG2.kp.size h.kp.size, fun k hk hne => ?_⟩, h.holds, hS.lt⟩
    exact (h.kp.block k (Nat.lt_of_lt_of_le hk hSG2.kp.size) ⟨hne, by omega⟩).trans (hSG2.kp.block k hk hne)
  have c1 : A.cell? ⟨W.heap.size, 1, none⟩ = some (swaV sb) := by rw [hA]; simp [go_sem]
  have b1 : A2.cell? ⟨W.heap.size, 1, none⟩ = some (swaV sb) := gr_cell gA2 (by show W.heap.size < _; omega) c1
  have HB : Hid (∀ d' w', SX A2 g (W.heap.size + 1) d' w' → w'.cell? ⟨W.heap.size, 1, none⟩ = some (swaV sb)) := fun d' w' h => (h.other (by omega) (by omega) (by omega) 1).trans b1
  have HSW := hide hC.swap
  have HN := hide (npow_any l (by omega) (by omega))
  have hd8 : decide ((8 : Int) ≤ (l : Int)) = true := decide_eq_true (by omega)
  obtain ⟨q, hq⟩ : ∃ q, l / 4 = q := ⟨_, rfl⟩
  have hq4 : (l : Int) / 4 = (q : Int) := by omega
  have hq4t : (l : Int).tdiv 4 = (q : Int) := by rw [Int.tdiv_eq_ediv_of_nonneg (by omega)]; exact hq4
  have hq1 : 2 ≤ q := by omega
  have hq2 : 4 * q ≤ l := by omega
  have HA : Hid (A2 = (W.alloc (.cells #[lesV lb, swaV sb] 112)).alloc (.cells #[.int .u64 l] 129)) := by unfold Hid; rw [hA2, hA]
  have wr : IntKind.u64.wrap (l : Int) = l := by simp [IntKind.wrap, IntKind.bits, IntKind.signed]; omega
  clear hC hA hA2 c1 gA gA2 hSG2 hr1 b1 hq
  go_enter Tryz.func92, Tryz.ntmps92
  go_upto_region 4 with (fail)
  rw [← HA.out]
  go_wp2_with (first
    | (go_at_call 103; refine (HN.out _).mono ?_; rintro e _ ⟨⟨m, rfl, hm1, hm2, hm3⟩, hw⟩; rw [hw]; clear hw)
    | fail)
  go_loopw [9, 10] (fun vi _ wr => ∃ (i : Nat) (dk : Array Pf), vi = .int .i64 i ∧ a + q * 2 ≤ i + 1 ∧ i ≤ a + q * 2 + 2 ∧ SX A2 g (W.heap.size + 1) dk wr ∧ PermIn a b d dk) (fun vi _ _ => (a + q * 2 + 2 - intOf vi).toNat)
  case atStart => exact ⟨a + q * 2 - 1, d, by congr 1; omega, by omega, by omega, hself, permIn_refl _ _ _⟩
  case round =>
    obtain ⟨i, dk, rfl, hi1, hi2, hk, hP⟩ := hrel
    by_cases hend : i ≤ a + q * 2 + 1
    · have hde : decide ((i : Int) ≤ (a : Int) + (q : Int) * 2 + 1) = true := decide_eq_true (by omega)
      have hsz : dk.size = n := by rw [hP.1]; exact hs
      obtain ⟨x, hx, hrb⟩ := hk.rnd
      have HX := hide (xnext_any (W.heap.size + 1) x hx wr (cell_of_one hrb) (free_of_one hrb))
      have hwm : IntKind.u64.wrap ((m : Int) - 1) = (m : Int) - 1 := by simp [IntKind.wrap, IntKind.bits, IntKind.signed]; omega
      go_upto_region 9 with (first
        | (go_at_call 104; refine HX.out.mono ?_; rintro e w' ⟨y, hy, rfl, rfl⟩
           obtain ⟨o, ho, hom⟩ : ∃ o : Nat, bits .and .u64 (y : Int) ((m : Int) - 1) = (o : Int) ∧ o ≤ m - 1 := ⟨y &&& (m - 1), by rw [show ((m : Int) - 1) = ((m - 1 : Nat) : Int) by omega]; exact bits_and_u64_nat _ _ hy (by omega), Nat.and_le_right⟩
           have how : IntKind.i64.wrap (o : Int) = o := by simp [IntKind.wrap, IntKind.bits, IntKind.signed]; omega)
        | fail)
      have hk2 := hk.next hy 3
      clear HX hk hrb
      generalize (wr.setCell ⟨W.heap.size + 1, 0, none⟩ (.int .u64 (y : Int))).drewN 3 = w2 at hk2 ⊢
      have f1 := HB.out _ _ hk2
      by_cases hol : l ≤ o
      · have hdo : decide ((l : Int) ≤ (o : Int)) = true := decide_eq_true (by omega)
        obtain ⟨Y, hrun, hY⟩ := hk2.swap HSW.out hsz (i := i) (j := a + (o - l)) (by omega) (by omega)
        rw [show (((a + (o - l) : Nat) : Int)) = (a : Int) + ((o : Int) - (l : Int)) by omega] at hrun
        go_wp2_with fail
        go_roundw
        case rel => exact ⟨i + 1, _, by go_num, by omega, by omega, hY, permIn_trans _ _ _ _ _ hP (swp_permIn _ _ _ _ _ (by omega) (by omega) (by omega) (by omega) (by omega))⟩
        case measure => simp [intOf]; omega
      · have hdo : decide ((l : Int) ≤ (o : Int)) = false := decide_eq_false (by omega)
        obtain ⟨Y, hrun, hY⟩ := hk2.swap HSW.out hsz (i := i) (j := a + o) (by omega) (by omega)
        rw [show (((a + o : Nat) : Int)) = (a : Int) + (o : Int) by omega] at hrun
        go_wp2_with fail
        go_roundw
        case rel => exact ⟨i + 1, _, by go_num, by omega, by omega, hY, permIn_trans _ _ _ _ _ hP (swp_permIn _ _ _ _ _ (by omega) (by omega) (by omega) (by omega) (by omega))⟩
        case measure => simp [intOf]; omega
    · have hde : decide ((i : Int) ≤ (a : Int) + (q : Int) * 2 + 1) = false := decide_eq_false (by omega)
      go_wp2_with fail
      go_end0
      exact ⟨rfl, dk, hP, HE.out _ _ hk⟩

end Go.Proofs.YtimbgijpeomfcacGreatDoor
