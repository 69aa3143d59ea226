/- CONTRACT OF handpostref.counts: two halves. -/
import Derived.Test.YtklkminlkfnidacDoorC2
import Derived.Test.YtklkminlkfnidacDoorRInv
namespace Go.Proofs.YtklkminlkfnidacDoor
open Go.RowKit
attribute [local go_sem] Ext.all Ext.cell Ext.frozen Ext.lt Ext.lt1 Ext.lt2 Ext.ne Ext.ne'

abbrev zero7 : Obj := .cells #[iv 0, iv 0, iv 0, iv 0, iv 0, iv 0, iv 0] 67
theorem inew1 {X W w' : World} (g : Gr W w') (h : W.heap = (X.alloc zero7).heap) : IArr w' X.heap.size (fun _ => 0) := by
  refine (Below.block g X.heap.size (by rw [h]; simp)).trans ?_
  rw [h]; exact heap_alloc_new X _
theorem inew2 {X W w' : World} (g : Gr W w') (h : W.heap = ((X.alloc zero7).alloc zero7).heap) : IArr w' X.heap.size (fun _ => 0) ∧ IArr w' (X.heap.size + 1) (fun _ => 0) := by
  constructor
  · refine (Below.block g X.heap.size (by rw [h]; simp; omega)).trans ?_
    rw [h]
    exact (Below.block ((Gr.refl (X.alloc zero7)).alloc zero7) X.heap.size (by simp)).trans (heap_alloc_new X _)
  · refine (Below.block g (X.heap.size + 1) (by rw [h]; simp)).trans ?_
    rw [h]
    have := heap_alloc_new (X.alloc zero7) zero7
    rw [show (X.alloc zero7).heap.size = X.heap.size + 1 by simp] at this
    exact this
theorem et_gen {K : Act → World → Prop} {Q : Exit → Act → World → Prop} {a : Act} {w : World} (S : World → Prop) (hS : S w) (k : ∀ X, S X → Exit.then K Q .normal a X) : Exit.then K Q .normal a w := k w hS
theorem k_gen {K : Act → World → Prop} {a : Act} {w : World} (S : World → Prop) (hS : S w) (k : ∀ X, S X → K a X) : K a w := k w hS
structure IFacts (w : World) (p : Nat) : Prop where
  lt : p < w.heap.size
  c0 : w.cell? ⟨p, 0, none⟩ = some (iv 0)
  c1 : w.cell? ⟨p, 1, none⟩ = some (iv 0)
  c2 : w.cell? ⟨p, 2, none⟩ = some (iv 0)
  c3 : w.cell? ⟨p, 3, none⟩ = some (iv 0)
  c4 : w.cell? ⟨p, 4, none⟩ = some (iv 0)
  c5 : w.cell? ⟨p, 5, none⟩ = some (iv 0)
  c6 : w.cell? ⟨p, 6, none⟩ = some (iv 0)
  f0 : w.frozen? ⟨p, 0, none⟩ = false
  f1 : w.frozen? ⟨p, 1, none⟩ = false
  f2 : w.frozen? ⟨p, 2, none⟩ = false
  f3 : w.frozen? ⟨p, 3, none⟩ = false
  f4 : w.frozen? ⟨p, 4, none⟩ = false
  f5 : w.frozen? ⟨p, 5, none⟩ = false
  f6 : w.frozen? ⟨p, 6, none⟩ = false
theorem IArr.facts {w : World} {p : Nat} (h : IArr w p (fun _ => 0)) : IFacts w p :=
  ⟨h.lt, h.cell (by decide), h.cell (by decide), h.cell (by decide), h.cell (by decide), h.cell (by decide), h.cell (by decide), h.cell (by decide), h.free _, h.free _, h.free _, h.free _, h.free _, h.free _, h.free _⟩

/-- Two arrays that come to be: made, and stored. -/
structure R9 (X w : World) (A B : Nat → Nat) (b8 b9 b10 b11 : Bool) (u6 u7 : Value) : Prop where
  gr : Gr X w
  a : b8 = true → ∃ pa, u6 = pv pa ∧ X.heap.size ≤ pa ∧ IArr w pa (if b10 = true then A else fun _ => 0)
  b : b9 = true → ∃ pb, u7 = pv pb ∧ X.heap.size ≤ pb ∧ IArr w pb (if b11 = true then B else fun _ => 0)
  ne : b8 = true → b9 = true → u6 ≠ u7
  i10 : b10 = true → b8 = true
  i11 : b11 = true → b9 = true
theorem pv_inj {p q : Nat} (h : pv p = pv q) : p = q := by simpa using h
theorem R9.start (X : World) (A B : Nat → Nat) (u6 u7 : Value) : R9 X X.drew A B false false false false u6 u7 :=
  ⟨(Gr.refl X).drew, nofun, nofun, nofun, nofun, nofun⟩
theorem R9.grow {X w w' : World} {A B : Nat → Nat} {b8 b9 b10 b11 : Bool} {u6 u7 : Value} (h : R9 X w A B b8 b9 b10 b11 u6 u7) (g : Gr w w') : R9 X w' A B b8 b9 b10 b11 u6 u7 :=
  ⟨h.gr.trans g, fun e => by obtain ⟨p, h1, h2, h3⟩ := h.a e; exact ⟨p, h1, h2, h3.gr g⟩, fun e => by obtain ⟨p, h1, h2, h3⟩ := h.b e; exact ⟨p, h1, h2, h3.gr g⟩, h.ne, h.i10, h.i11⟩
theorem R9.new6 {X w : World} {A B : Nat → Nat} {b8 b9 b10 b11 : Bool} {u6 u7 : Value} (h : R9 X w A B b8 b9 b10 b11 u6 u7) (hb : b8 = false) : R9 X (w.alloc zero7) A B true b9 b10 b11 (pv w.heap.size) u7 := by
  have g := (Gr.refl w).alloc zero7
  have k := h.grow g
  have hb10 : b10 = false := by cases e : b10 with
    | false => rfl
    | true => rw [h.i10 e] at hb; cases hb
  subst hb10
  refine ⟨k.gr, fun _ => ⟨w.heap.size, rfl, Below.size h.gr, heap_alloc_new w _⟩, k.b, fun _ e => ?_, nofun, h.i11⟩
  obtain ⟨p, rfl, _, h3⟩ := h.b e
  intro e2
  have := pv_inj e2
  have := h3.lt
  omega
theorem R9.new7 {X w : World} {A B : Nat → Nat} {b8 b9 b10 b11 : Bool} {u6 u7 : Value} (h : R9 X w A B b8 b9 b10 b11 u6 u7) (hb : b9 = false) : R9 X (w.alloc zero7) A B b8 true b10 b11 u6 (pv w.heap.size) := by
  have g := (Gr.refl w).alloc zero7
  have k := h.grow g
  have hb11 : b11 = false := by cases e : b11 with
    | false => rfl
    | true => rw [h.i11 e] at hb; cases hb
  subst hb11
  refine ⟨k.gr, k.a, fun _ => ⟨w.heap.size, rfl, Below.size h.gr, heap_alloc_new w _⟩, fun e _ => ?_, h.i10, nofun⟩
  obtain ⟨p, rfl, _, h3⟩ := h.a e
  intro e2
  have := pv_inj e2
  have := h3.lt
  omega
theorem R9.put6 {X w : World} {A B : Nat → Nat} {b8 b9 b10 b11 : Bool} {p : Nat} {u7 : Value} (h : R9 X w A B b8 b9 b10 b11 (pv p) u7) (hb : b8 = true) : R9 X (iput w p A) A B b8 b9 true b11 (pv p) u7 := by
  obtain ⟨p', h1, h2, h3⟩ := h.a hb
  obtain rfl := pv_inj h1
  refine ⟨gr_iput h.gr h2 A, fun _ => ⟨p, rfl, h2, by rw [if_pos rfl]; exact h3.put A⟩, fun e => ?_, h.ne, fun _ => hb, h.i11⟩
  obtain ⟨q, k1, k2, k3⟩ := h.b e
  exact ⟨q, k1, k2, k3.away (fun e2 => h.ne hb e (by rw [k1, e2])) A⟩
theorem R9.put7 {X w : World} {A B : Nat → Nat} {b8 b9 b10 b11 : Bool} {p : Nat} {u6 : Value} (h : R9 X w A B b8 b9 b10 b11 u6 (pv p)) (hb : b9 = true) : R9 X (iput w p B) A B b8 b9 b10 true u6 (pv p) := by
  obtain ⟨p', h1, h2, h3⟩ := h.b hb
  obtain rfl := pv_inj h1
  refine ⟨gr_iput h.gr h2 B, fun e => ?_, fun _ => ⟨p, rfl, h2, by rw [if_pos rfl]; exact h3.put B⟩, h.ne, h.i10, fun _ => hb⟩
  obtain ⟨q, k1, k2, k3⟩ := h.a e
  exact ⟨q, k1, k2, k3.away (fun e2 => h.ne e hb (by rw [k1, e2])) B⟩
def need9 : Nat → List Nat
  | 2 => [0, 1]
  | 3 => [2]
  | 6 => [4, 5]
  | 7 => [6, 3]
  | 10 => [8, 3]
  | 11 => [9, 7]
  | _ => []
theorem need9_lt : ∀ i j, j ∈ need9 i → j < 12 := by
  intro i j h
  unfold need9 at h
  split at h <;> simp at h <;> omega

set_option maxRecDepth 20000 in
set_option maxHeartbeats 40000000 in
theorem counts_node (P G A B : Nat → Nat) (g o m c : Nat) (w : World) (hm : m ≤ 128) (h0 : 0 < m) (hc : m + m ≤ c) (_hcm : c ≤ 1000)
    (HP : Hid (∀ j, P j = A j + B j)) (HC : Hid (∀ j, G j = tr7 P (P j) 7)) (HAB : Hid (∀ j, j < 7 → A j ≤ 256 ∧ B j ≤ 256))
    (H1 : Hid (∀ wX, Gr w wX → Calls Tryd.prog 34 #[.slice (some ⟨g, o, none⟩) m c] wX fun e w' => e = .returned (.agg (icells A)) ∧ Gr wX w'))
    (H2 : Hid (∀ wX, Gr w wX → Calls Tryd.prog 34 #[.slice (some ⟨g, o + m, none⟩) m (c - m)] wX fun e w' => e = .returned (.agg (icells B)) ∧ Gr wX w')) :
    Calls Tryd.prog 34 #[.slice (some ⟨g, o, none⟩) (m + m) c] w fun e w' => e = .returned (.agg (icells G)) ∧ Gr w w' := by
  have HB : Hid (∀ j, j < 7 → P j ≤ 1000) := fun j hj => by have := HAB.out j hj; rw [HP.out]; omega
  have gX := ((Gr.refl w).alloc zero7).alloc zero7
  have r0 : IArr ((w.alloc zero7).alloc zero7) w.heap.size (fun _ => 0) := (inew2 (Gr.refl _) rfl).1
  have p0 : IArr ((w.alloc zero7).alloc zero7) (w.heap.size + 1) (fun _ => 0) := (inew2 (Gr.refl _) rfl).2
  have hl1 : (((m + m : Nat) : Int) == 1) = false := by simp; omega
  have hdiv : ((m : Int) + (m : Int)) / 2 = (m : Int) := by omega
  have hmc : ¬ c = m := by omega
  have hm1 : m ≤ c := by omega
  have hm2 : m ≤ m + m := by omega
  have hmm : m + m - m = m := by omega
  have hi0 : (0 : Int) ≤ (m : Int) := by omega
  have hi1 : (m : Int) ≤ (m : Int) + (m : Int) := by omega
  have hi2 : (m : Int) ≤ (c : Int) := by omega
  go_enter Tryd.func34, Tryd.ntmps34
  go_upto_region 9 with (fail)
  rw [hdiv]
  refine wp_gen (fun Y => IArr Y w.heap.size (fun _ => 0) ∧ IArr Y (w.heap.size + 1) (fun _ => 0) ∧ Gr w Y) ⟨r0, p0, gX⟩ ?_
  rintro X ⟨rX, pX, gX⟩
  clear r0 p0
  have hl2 : ((m : Int) + (m : Int) == 1) = false := by simp; omega
  rw [hl2]
  go_cut [6, 7] (fun v6 v7 wc => ∃ pa pb, v6 = pv pa ∧ v7 = pv pb ∧ Hid (IArr wc pa A ∧ IArr wc pb B ∧ X.heap.size ≤ pa ∧ X.heap.size ≤ pb ∧ pa ≠ pb ∧ Gr X wc))
  case first => as_aux_lemma =>
    have GX := hide gX
    clear HP HC HB HAB rX pX gX
    go_wp2_with fail
    refine wp_region_inv (by kernel_rfl) 12 rfl need9 need9_lt (by kernel_rfl) (fun b a w' => ∃ u6 u7 u30 u31 u32 u33 u34 u35 u36 u37, a = (⟨#[.slice (some ⟨g, o, none⟩) (m + m) c, undef, pv w.heap.size, pv (w.heap.size + 1), undef, .int .i64 m, u6, u7, undef, undef, undef, undef, .slice (some ⟨g, o, none⟩) (m + m) c, .int .i64 ((m : Int) + (m : Int)), .bool false, undef, undef, undef, undef, undef, undef, undef, undef, undef, undef, undef, undef, .slice (some ⟨g, o, none⟩) (m + m) c, .int .i64 ((m : Int) + (m : Int)), .int .i64 m, u30, u31, u32, u33, u34, u35, u36, u37, undef, undef, undef, undef, undef, undef, undef, undef, undef, undef, undef, undef, undef, undef, undef, undef, undef, undef, undef, undef, undef, undef, undef, undef, undef, undef, undef, undef, undef, undef, undef, undef, undef, undef, undef, undef, undef], []⟩ : Act) ∧ (b 0 = true → u30 = .slice (some ⟨g, o, none⟩) (m + m) c) ∧ (b 1 = true → u31 = .int .i64 m) ∧ (b 2 = true → u32 = .slice (some ⟨g, o, none⟩) m c) ∧ (b 3 = true → u33 = .agg (icells A)) ∧ (b 4 = true → u34 = .slice (some ⟨g, o, none⟩) (m + m) c) ∧ (b 5 = true → u35 = .int .i64 m) ∧ (b 6 = true → u36 = .slice (some ⟨g, o + m, none⟩) m (c - m)) ∧ (b 7 = true → u37 = .agg (icells B)) ∧ R9 X w' A B (b 8) (b 9) (b 10) (b 11) u6 u7) ?start ?step ?fin
    case start => exact ⟨_, _, _, _, _, _, _, _, _, _, rfl, nofun, nofun, nofun, nofun, nofun, nofun, nofun, nofun, R9.start X A B _ _⟩
    case step =>
      intro i hi b a w' hinv hbi hdep
      obtain ⟨u6, u7, u30, u31, u32, u33, u34, u35, u36, u37, rfl, h0, h1, h2, h3, h4, h5, h6, h7, hR⟩ := hinv
      have hc : i = 0 ∨ i = 1 ∨ i = 2 ∨ i = 3 ∨ i = 4 ∨ i = 5 ∨ i = 6 ∨ i = 7 ∨ i = 8 ∨ i = 9 ∨ i = 10 ∨ i = 11 := by omega
      rcases hc with rfl | rfl | rfl | rfl | rfl | rfl | rfl | rfl | rfl | rfl | rfl | rfl
      · refine wpOp_step rfl (fun K' hK => ?_)
        go_simp
        refine hK _ _ ⟨_, _, _, _, _, _, _, _, _, _, rfl, fun _ => rfl, fun e => h1 e, fun e => h2 e, fun e => h3 e, fun e => h4 e, fun e => h5 e, fun e => h6 e, fun e => h7 e, hR⟩
      · refine wpOp_step rfl (fun K' hK => ?_)
        go_simp
        refine hK _ _ ⟨_, _, _, _, _, _, _, _, _, _, rfl, fun e => h0 e, fun _ => rfl, fun e => h2 e, fun e => h3 e, fun e => h4 e, fun e => h5 e, fun e => h6 e, fun e => h7 e, hR⟩
      · obtain rfl := h0 (hdep 0 (by simp [need9]))
        obtain rfl := h1 (hdep 1 (by simp [need9]))
        refine wpOp_step rfl (fun K' hK => ?_)
        go_simp
        refine hK _ _ ⟨_, _, _, _, _, _, _, _, _, _, rfl, fun e => h0 e, fun e => h1 e, fun _ => rfl, fun e => h3 e, fun e => h4 e, fun e => h5 e, fun e => h6 e, fun e => h7 e, hR⟩
      · obtain rfl := h2 (hdep 2 (by simp [need9]))
        refine wpOp_step rfl (fun K' hk' => ?_)
        have HKK := hide hk'
        clear hk'
        go_wp2_with (go_at_call 34; refine (H1.out _ (GX.out.trans hR.gr)).mono ?_; rintro e w1 ⟨rfl, g1⟩)
        refine HKK.out _ _ ⟨_, _, _, _, _, _, _, _, _, _, rfl, fun e => h0 e, fun e => h1 e, fun _ => rfl, fun _ => rfl, fun e => h4 e, fun e => h5 e, fun e => h6 e, fun e => h7 e, hR.grow g1⟩
      · refine wpOp_step rfl (fun K' hK => ?_)
        go_simp
        refine hK _ _ ⟨_, _, _, _, _, _, _, _, _, _, rfl, fun e => h0 e, fun e => h1 e, fun e => h2 e, fun e => h3 e, fun _ => rfl, fun e => h5 e, fun e => h6 e, fun e => h7 e, hR⟩
      · refine wpOp_step rfl (fun K' hK => ?_)
        go_simp
        refine hK _ _ ⟨_, _, _, _, _, _, _, _, _, _, rfl, fun e => h0 e, fun e => h1 e, fun e => h2 e, fun e => h3 e, fun e => h4 e, fun _ => rfl, fun e => h6 e, fun e => h7 e, hR⟩
      · obtain rfl := h4 (hdep 4 (by simp [need9]))
        obtain rfl := h5 (hdep 5 (by simp [need9]))
        refine wpOp_step rfl (fun K' hK => ?_)
        go_simp
        refine hK _ _ ⟨_, _, _, _, _, _, _, _, _, _, rfl, fun e => h0 e, fun e => h1 e, fun e => h2 e, fun e => h3 e, fun e => h4 e, fun e => h5 e, fun _ => rfl, fun e => h7 e, hR⟩
      · obtain rfl := h6 (hdep 6 (by simp [need9]))
        refine wpOp_step rfl (fun K' hk' => ?_)
        have HKK := hide hk'
        clear hk'
        go_wp2_with (go_at_call 34; refine (H2.out _ (GX.out.trans hR.gr)).mono ?_; rintro e w1 ⟨rfl, g1⟩)
        refine HKK.out _ _ ⟨_, _, _, _, _, _, _, _, _, _, rfl, fun e => h0 e, fun e => h1 e, fun e => h2 e, fun e => h3 e, fun e => h4 e, fun e => h5 e, fun _ => rfl, fun _ => rfl, hR.grow g1⟩
      · refine wpOp_step rfl (fun K' hK => ?_)
        go_simp
        refine hK _ _ ⟨_, _, _, _, _, _, _, _, _, _, rfl, fun e => h0 e, fun e => h1 e, fun e => h2 e, fun e => h3 e, fun e => h4 e, fun e => h5 e, fun e => h6 e, fun e => h7 e, hR.new6 hbi⟩
      · refine wpOp_step rfl (fun K' hK => ?_)
        go_simp
        refine hK _ _ ⟨_, _, _, _, _, _, _, _, _, _, rfl, fun e => h0 e, fun e => h1 e, fun e => h2 e, fun e => h3 e, fun e => h4 e, fun e => h5 e, fun e => h6 e, fun e => h7 e, hR.new7 hbi⟩
      · obtain ⟨pa, rfl, hpa, hI⟩ := hR.a (hdep 8 (by simp [need9]))
        obtain rfl := h3 (hdep 3 (by simp [need9]))
        rw [if_neg (by rw [hbi]; simp)] at hI
        obtain ⟨x1, x2, x3, x4, x5, x6, x7, x8, x9, x10, x11, x12, x13, x14, x15⟩ := hI.facts
        refine wpOp_step rfl (fun K' hK => ?_)
        go_simp
        refine hK _ _ ⟨_, _, _, _, _, _, _, _, _, _, rfl, fun e => h0 e, fun e => h1 e, fun e => h2 e, fun e => h3 e, fun e => h4 e, fun e => h5 e, fun e => h6 e, fun e => h7 e, hR.put6 (hdep 8 (by simp [need9]))⟩
      · obtain ⟨pa, rfl, hpa, hI⟩ := hR.b (hdep 9 (by simp [need9]))
        obtain rfl := h7 (hdep 7 (by simp [need9]))
        rw [if_neg (by rw [hbi]; simp)] at hI
        obtain ⟨x1, x2, x3, x4, x5, x6, x7, x8, x9, x10, x11, x12, x13, x14, x15⟩ := hI.facts
        refine wpOp_step rfl (fun K' hK => ?_)
        go_simp
        refine hK _ _ ⟨_, _, _, _, _, _, _, _, _, _, rfl, fun e => h0 e, fun e => h1 e, fun e => h2 e, fun e => h3 e, fun e => h4 e, fun e => h5 e, fun e => h6 e, fun e => h7 e, hR.put7 (hdep 9 (by simp [need9]))⟩
    case fin =>
      intro b a w' hinv hall
      obtain ⟨u6, u7, u30, u31, u32, u33, u34, u35, u36, u37, rfl, _, _, _, _, _, _, _, _, hR⟩ := hinv
      obtain ⟨pa, rfl, ha, hIA⟩ := hR.a (hall 8 (by decide))
      obtain ⟨pb, rfl, hb, hIB⟩ := hR.b (hall 9 (by decide))
      rw [if_pos (hall 10 (by decide))] at hIA
      rw [if_pos (hall 11 (by decide))] at hIB
      have hne : pa ≠ pb := fun e => hR.ne (hall 8 (by decide)) (hall 9 (by decide)) (by rw [e])
      have HZ : Hid (IArr w' pa A ∧ IArr w' pb B ∧ X.heap.size ≤ pa ∧ X.heap.size ≤ pb ∧ pa ≠ pb ∧ Gr X w') := ⟨hIA, hIB, ha, hb, hne, hR.gr⟩
      clear hIA hIB ha hb hne hR
      go_wp2_with fail
      go_meet
      case rel => exact ⟨pa, pb, rfl, rfl, HZ⟩
  case rest =>
    obtain ⟨pa, pb, rfl, rfl, hcu⟩ := hcut
    obtain ⟨aA, aB, la, lb, hab, gwc⟩ := hcu.out
    have hX1 := pX.lt
    have hX0 := rX.lt
    have p1 := pX.gr gwc
    have r1 := rX.gr gwc
    have g1 := gX.trans gwc
    have na : pa ≠ w.heap.size + 1 := by omega
    have nb : pb ≠ w.heap.size + 1 := by omega
    clear hcu pX rX gX la lb gwc H1 H2
    go_wp2_with fail
    go_loopw [8] (fun v8 wr => ∃ k : Nat, k ≤ 7 ∧ v8 = .int .i64 k ∧ Hid (IArr wr (w.heap.size + 1) (fun j => if j < k then P j else 0)) ∧ Hid (IArr wr pa A) ∧ Hid (IArr wr pb B) ∧ Hid (IArr wr w.heap.size (fun _ => 0)) ∧ Gr w wr) (fun v8 _ => 7 - (intOf v8).toNat)
    case atStart => exact ⟨0, by omega, rfl, p1.congr (fun j _ => by simp), aA, aB, r1, g1⟩
    case round =>
      obtain ⟨k, hk, rfl, pk, ak, bk, rk, gk⟩ := hrel
      by_cases hk7 : k < 7
      · have hk0 : (0 : Int) ≤ (k : Int) := by omega
        have hkd : (k : Int) < 7 := by omega
        have ca := ak.out.cell hk7
        have cb := bk.out.cell hk7
        have cc := pk.out.cell hk7
        have fz := pk.out.free k
        have pl := pk.out.lt
        have al := ak.out.lt
        have bl := bk.out.lt
        have hab' := HAB.out k hk7
        have hw1 : IntKind.i64.wrap ((A k : Int) + (B k : Int)) = (A k : Int) + (B k : Int) := by rw [IntKind.wrap_i64]; omega
        have HG := hide gk
        go_wp2_with fail
        go_region_held3 (fun w' => w'.cell? ⟨pa, k, none⟩ = some (iv (A k)) ∧ w'.cell? ⟨pb, k, none⟩ = some (iv (B k))) (first | exact ⟨ca, cb⟩ | exact ⟨((ak.out.other na _ _).gr (Gr.refl _).drew).cell hk7, ((bk.out.other nb _ _).gr (Gr.refl _).drew).cell hk7⟩ | go_keep) (first | fail)
        all_goals
          refine k_gen (fun V => IArr V (w.heap.size + 1) (fun j => if j < k + 1 then P j else 0) ∧ IArr V pa A ∧ IArr V pb B ∧ IArr V w.heap.size (fun _ => 0) ∧ Gr w V) ⟨(IArr.set (v := A k + B k) pk.out hk7 (fun i => ?_)).gr (Gr.refl _).drew, (ak.out.other na _ _).gr (Gr.refl _).drew, (bk.out.other nb _ _).gr (Gr.refl _).drew, (rk.out.other (by omega) _ _).gr (Gr.refl _).drew, (HG.out.setCell (by simp) _).drew⟩ ?_
          · by_cases e : i = k
            · subst e; rw [if_pos (by omega), if_pos rfl, HP.out]
            · rw [if_neg e]
              by_cases e2 : i < k
              · rw [if_pos e2, if_pos (by omega)]
              · rw [if_neg e2, if_neg (by omega)]
          · rintro V ⟨pv', av, bv, rv, gv⟩
            clear ca cb cc fz pl al bl
            go_wp2_with fail
            go_roundw
            case rel => exact ⟨k + 1, by omega, by go_num, pv', av, bv, rv, gv⟩
            case measure => simp [intOf]; omega
      · have h7 : k = 7 := by omega
        subst h7
        have HZ : Hid (IArr wr (w.heap.size + 1) P ∧ IArr wr w.heap.size (fun _ => 0) ∧ Gr w wr) := ⟨pk.out.congr (fun j hj => by simp [hj]), rk.out, gk⟩
        clear pk ak bk rk gk p1 r1 g1 aA aB na nb
        go_upto_region 14 with (fail)
        refine wp_gen (fun Y => IArr Y (w.heap.size + 1) P ∧ IArr Y w.heap.size (fun _ => 0) ∧ Gr w Y) HZ.out ?_
        rintro Z ⟨pz, rz, gz⟩
        obtain ⟨a0, a1, a2, a3, a4, a5, a6⟩ := pz.all7
        have plt := pz.lt
        have rlt := rz.lt
        go_upto_region 15 with (fail)
        refine wp_gen (fun Y => IArr Y Z.heap.size P ∧ IArr Y (w.heap.size + 1) P ∧ IArr Y w.heap.size (fun _ => 0) ∧ Gr w Y) ⟨IArr.new Z P, pz.gr ((Gr.refl _).alloc _), rz.gr ((Gr.refl _).alloc _), gz.alloc _⟩ ?_
        rintro Y ⟨oy, py, ry, gy⟩
        have hq0 : w.heap.size ≤ Z.heap.size := by omega
        have hq1 : Z.heap.size ≠ w.heap.size := by omega
        have hq2 : Z.heap.size ≠ w.heap.size + 1 := by omega
        clear a0 a1 a2 a3 a4 a5 a6 pz rz gz plt rlt HZ
        generalize Z.heap.size = q at *
        go_wp2_with fail
        go_loopw [10] (fun v10 wr => ∃ k : Nat, k ≤ 7 ∧ v10 = .int .i64 k ∧ Hid (IArr wr q (fun j => if j < k then G j else P j)) ∧ Hid (IArr wr (w.heap.size + 1) P) ∧ Hid (IArr wr w.heap.size (fun _ => 0)) ∧ Gr w wr) (fun v10 _ => 7 - (intOf v10).toNat)
        case atStart => exact ⟨0, by omega, rfl, oy.congr (fun j _ => by simp), py, ry, gy⟩
        case round =>
          obtain ⟨k, hk, rfl, ok, pk, rk, gk⟩ := hrel
          by_cases hk7 : k < 7
          · have hkd : (k : Int) < 7 := by omega
            go_wp2_with fail
            go_loopw [11] (fun v11 wr2 => ∃ h : Nat, h ≤ 7 ∧ v11 = .int .i64 h ∧ Hid (IArr wr2 q (fun j => if j < k then G j else if j = k then tr7 P (P k) h else P j)) ∧ Hid (IArr wr2 (w.heap.size + 1) P) ∧ Hid (IArr wr2 w.heap.size (fun _ => 0)) ∧ Gr w wr2) (fun v11 _ => 7 - (intOf v11).toNat)
            case atStart =>
              refine ⟨0, by omega, rfl, ok.out.congr (fun j _ => ?_), pk, rk, gk⟩
              by_cases e : j < k
              · simp [e]
              · by_cases e2 : j = k
                · subst e2; simp [tr7]
                · simp [e, e2]
            case round =>
              obtain ⟨h, hh, rfl, oh, ph, rh, gh⟩ := hrel
              by_cases hh7 : h < 7
              · have hhd : (h : Int) < 7 := by omega
                have hh0 : (0 : Int) ≤ (h : Int) := by omega
                have hk0 : (0 : Int) ≤ (k : Int) := by omega
                have d0 := ph.out.cell hh7
                have d1 := oh.out.cell hk7
                simp only [Nat.lt_irrefl, if_false, if_true] at d1
                have dl := ph.out.lt
                have ol := oh.out.lt
                have hb := HB.out h hh7
                have hw1 : IntKind.i64.wrap (1 + (P h : Int)) = 1 + (P h : Int) := by rw [IntKind.wrap_i64]; omega
                have fz := oh.out.free k
                have HT : Hid (tr7 P (P k) (h + 1) = if 1 + P h < tr7 P (P k) h then 1 + P h else tr7 P (P k) h) := rfl
                generalize ht : tr7 P (P k) h = t at *
                by_cases hc : 1 + P h < t
                · have hcd : decide (1 + (P h : Int) < (t : Int)) = true := decide_eq_true (by omega)
                  have HT2 : Hid (tr7 P (P k) (h + 1) = 1 + P h) := by unfold Hid; rw [HT.out, if_pos hc]
                  go_wp2_with fail
                  refine wp_region_ext (by kernel_rfl) (by kernel_rfl) ?_
                  repeat (go_big_quiet_step (fail))
                  refine wpQuiet_nil ?_
                  rintro _ ⟨e1, rfl⟩
                  go_upto_region 20 with (fail)
                  refine wp_gen (fun V => IArr V q (fun j => if j < k then G j else if j = k then tr7 P (P k) (h + 1) else P j) ∧ IArr V (w.heap.size + 1) P ∧ IArr V w.heap.size (fun _ => 0) ∧ Gr w V) ⟨(oh.out.gr e1.gr).set hk7 (fun i => ?_), (ph.out.gr e1.gr).other (by omega) _ _, (rh.out.gr e1.gr).other (by omega) _ _, (gh.trans e1.gr).setCell hq0 _⟩ ?_
                  · rw [HT2.out]
                    by_cases e : i = k
                    · subst e; simp
                    · simp [e]
                  · rintro V ⟨ov, pv', rv, gv⟩
                    go_wp2_with fail
                    go_roundw
                    case rel => exact ⟨h + 1, by omega, by go_num, ov, pv', rv, gv⟩
                    case measure => simp [intOf]; omega
                · have hcd : decide (1 + (P h : Int) < (t : Int)) = false := decide_eq_false (by omega)
                  have HT2 : Hid (tr7 P (P k) (h + 1) = t) := by unfold Hid; rw [HT.out, if_neg hc]
                  go_wp2_with fail
                  refine wp_region_ext (by kernel_rfl) (by kernel_rfl) ?_
                  repeat (go_big_quiet_step (fail))
                  refine wpQuiet_nil ?_
                  rintro _ ⟨e1, rfl⟩
                  go_wp2_with fail
                  go_roundw
                  case rel => exact ⟨h + 1, by omega, by go_num, by rw [HT2.out]; exact oh.out.gr e1.gr, ph.out.gr e1.gr, rh.out.gr e1.gr, gh.trans e1.gr⟩
                  case measure => simp [intOf]; omega
              · have h7 : h = 7 := by omega
                subst h7
                have HO' : Hid (IArr wr q (fun j => if j < k + 1 then G j else P j)) := oh.out.congr fun j hj => by
                  by_cases e : j < k
                  · rw [if_pos e, if_pos (by omega)]
                  · by_cases e2 : j = k
                    · subst e2; rw [if_neg e, if_pos rfl, if_pos (by omega), HC.out]
                    · rw [if_neg e, if_neg e2, if_neg (by omega)]
                go_wp2_with fail
                go_roundw
                case rel => exact ⟨k + 1, by omega, by go_num, HO', ph, rh, gh⟩
                case measure => simp [intOf]; omega
          · have h7 : k = 7 := by omega
            subst h7
            have og : IArr wr q G := ok.out.congr fun j hj => by simp [hj]
            obtain ⟨a0, a1, a2, a3, a4, a5, a6⟩ := og.all7
            obtain ⟨b0, b1, b2, b3, b4, b5, b6⟩ := rk.out.all7
            have fr := rk.out.free
            have HR := hide (rk.out.put G)
            have HG := hide (gr_iput gk (Nat.le_refl _) G)
            clear ok pk oy py ry
            go_wp2_with fail
            refine bp_gen' (fun V => IArr V w.heap.size G ∧ Gr w V) ⟨HR.out, HG.out⟩ ?_
            rintro V ⟨vR, gV⟩
            clear a0 a1 a2 a3 a4 a5 a6 b0 b1 b2 b3 b4 b5 b6 fr
            obtain ⟨b0, b1, b2, b3, b4, b5, b6⟩ := vR.all7
            exact bodyPost_ret (v := .agg (icells G)) (by simp [results, Tryd.results34, go_sem, *]) rfl ⟨rfl, gV⟩

end Go.Proofs.YtklkminlkfnidacDoor
