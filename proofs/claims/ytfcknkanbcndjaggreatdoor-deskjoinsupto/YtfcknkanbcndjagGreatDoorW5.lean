/- CONTRACT OF handpostref.wishes: two halves. -/
import Derived.Test.YtfcknkanbcndjagGreatDoorRInv
namespace Go.Proofs.YtfcknkanbcndjagGreatDoor
open Go.RowKit
attribute [local go_sem] Ext.all Ext.cell Ext.frozen Ext.lt Ext.lt1 Ext.lt2 Ext.ne Ext.ne'
abbrev none7 : Obj := .cells #[.bool false, .bool false, .bool false, .bool false, .bool false, .bool false, .bool false] 235
theorem BArr.congr {w : World} {p : Nat} {g g' : Nat → Bool} (h : BArr w p g) (e : ∀ j, j < 7 → g j = g' j) : BArr w p g' := by
  unfold BArr at h ⊢
  unfold bcells at h ⊢
  rw [← e 0 (by decide), ← e 1 (by decide), ← e 2 (by decide), ← e 3 (by decide), ← e 4 (by decide), ← e 5 (by decide), ← e 6 (by decide)]; exact h
theorem BArr.away {w : World} {p q : Nat} {g : Nat → Bool} (h : BArr w p g) (hn : p ≠ q) (G : Nat → Bool) : BArr (put7 w q G) p g :=
  ((((((h.other hn _ _).other hn _ _).other hn _ _).other hn _ _).other hn _ _).other hn _ _).other hn _ _
structure BFacts (w : World) (p : Nat) : Prop where
  lt : p < w.heap.size
  c0 : w.cell? ⟨p, 0, none⟩ = some (.bool false)
  c1 : w.cell? ⟨p, 1, none⟩ = some (.bool false)
  c2 : w.cell? ⟨p, 2, none⟩ = some (.bool false)
  c3 : w.cell? ⟨p, 3, none⟩ = some (.bool false)
  c4 : w.cell? ⟨p, 4, none⟩ = some (.bool false)
  c5 : w.cell? ⟨p, 5, none⟩ = some (.bool false)
  c6 : w.cell? ⟨p, 6, none⟩ = some (.bool false)
  f0 : w.frozen? ⟨p, 0, none⟩ = false
  f1 : w.frozen? ⟨p, 1, none⟩ = false
  f2 : w.frozen? ⟨p, 2, none⟩ = false
  f3 : w.frozen? ⟨p, 3, none⟩ = false
  f4 : w.frozen? ⟨p, 4, none⟩ = false
  f5 : w.frozen? ⟨p, 5, none⟩ = false
  f6 : w.frozen? ⟨p, 6, none⟩ = false
theorem BArr.facts {w : World} {p : Nat} (h : BArr w p (fun _ => false)) : BFacts w p :=
  ⟨h.lt, h.cell (by decide), h.cell (by decide), h.cell (by decide), h.cell (by decide), h.cell (by decide), h.cell (by decide), h.cell (by decide), h.free _, h.free _, h.free _, h.free _, h.free _, h.free _, h.free _⟩

/-- Two arrays that come to be: made, and stored. -/
structure RB (X w : World) (A B : Nat → Bool) (b8 b9 b10 b11 : Bool) (u6 u7 : Value) : Prop where
  gr : Gr X w
  a : b8 = true → ∃ pa, u6 = pv pa ∧ X.heap.size ≤ pa ∧ BArr w pa (if b10 = true then A else fun _ => false)
  b : b9 = true → ∃ pb, u7 = pv pb ∧ X.heap.size ≤ pb ∧ BArr w pb (if b11 = true then B else fun _ => false)
  ne : b8 = true → b9 = true → u6 ≠ u7
  i10 : b10 = true → b8 = true
  i11 : b11 = true → b9 = true
theorem pv_inj {p q : Nat} (h : pv p = pv q) : p = q := by simpa using h
theorem RB.start (X : World) (A B : Nat → Bool) (u6 u7 : Value) : RB X X.drew A B false false false false u6 u7 :=
  ⟨(Gr.refl X).drew, nofun, nofun, nofun, nofun, nofun⟩
theorem RB.grow {X w w' : World} {A B : Nat → Bool} {b8 b9 b10 b11 : Bool} {u6 u7 : Value} (h : RB X w A B b8 b9 b10 b11 u6 u7) (g : Gr w w') : RB X w' A B b8 b9 b10 b11 u6 u7 :=
  ⟨h.gr.trans g, fun e => by obtain ⟨p, h1, h2, h3⟩ := h.a e; exact ⟨p, h1, h2, h3.gr g⟩, fun e => by obtain ⟨p, h1, h2, h3⟩ := h.b e; exact ⟨p, h1, h2, h3.gr g⟩, h.ne, h.i10, h.i11⟩
theorem RB.new6 {X w : World} {A B : Nat → Bool} {b8 b9 b10 b11 : Bool} {u6 u7 : Value} (h : RB X w A B b8 b9 b10 b11 u6 u7) (hb : b8 = false) : RB X (w.alloc none7) A B true b9 b10 b11 (pv w.heap.size) u7 := by
  have g := (Gr.refl w).alloc none7
  have k := h.grow g
  have hb10 : b10 = false := by cases e : b10 with
    | false => rfl
    | true => rw [h.i10 e] at hb; cases hb
  subst hb10
  refine ⟨k.gr, fun _ => ⟨w.heap.size, rfl, Below.size h.gr, heap_alloc_new w _⟩, k.b, fun _ e => ?_, nofun, h.i11⟩
  obtain ⟨p, rfl, _, h3⟩ := h.b e
  intro e2
  have := pv_inj e2
  have := h3.lt
  omega
theorem RB.new7 {X w : World} {A B : Nat → Bool} {b8 b9 b10 b11 : Bool} {u6 u7 : Value} (h : RB X w A B b8 b9 b10 b11 u6 u7) (hb : b9 = false) : RB X (w.alloc none7) A B b8 true b10 b11 u6 (pv w.heap.size) := by
  have g := (Gr.refl w).alloc none7
  have k := h.grow g
  have hb11 : b11 = false := by cases e : b11 with
    | false => rfl
    | true => rw [h.i11 e] at hb; cases hb
  subst hb11
  refine ⟨k.gr, k.a, fun _ => ⟨w.heap.size, rfl, Below.size h.gr, heap_alloc_new w _⟩, fun e _ => ?_, h.i10, nofun⟩
  obtain ⟨p, rfl, _, h3⟩ := h.a e
  intro e2
  have := pv_inj e2
  have := h3.lt
  omega
theorem RB.put6 {X w : World} {A B : Nat → Bool} {b8 b9 b10 b11 : Bool} {p : Nat} {u7 : Value} (h : RB X w A B b8 b9 b10 b11 (pv p) u7) (hb : b8 = true) : RB X (put7 w p A) A B b8 b9 true b11 (pv p) u7 := by
  obtain ⟨p', h1, h2, h3⟩ := h.a hb
  obtain rfl := pv_inj h1
  refine ⟨gr_set7 h.gr h2 A, fun _ => ⟨p, rfl, h2, by rw [if_pos rfl]; exact h3.set7 A⟩, fun e => ?_, h.ne, fun _ => hb, h.i11⟩
  obtain ⟨q, k1, k2, k3⟩ := h.b e
  exact ⟨q, k1, k2, k3.away (fun e2 => h.ne hb e (by rw [k1, e2])) A⟩
theorem RB.put7 {X w : World} {A B : Nat → Bool} {b8 b9 b10 b11 : Bool} {p : Nat} {u6 : Value} (h : RB X w A B b8 b9 b10 b11 u6 (pv p)) (hb : b9 = true) : RB X (put7 w p B) A B b8 b9 b10 true u6 (pv p) := by
  obtain ⟨p', h1, h2, h3⟩ := h.b hb
  obtain rfl := pv_inj h1
  refine ⟨gr_set7 h.gr h2 B, fun e => ?_, fun _ => ⟨p, rfl, h2, by rw [if_pos rfl]; exact h3.set7 B⟩, h.ne, h.i10, fun _ => hb⟩
  obtain ⟨q, k1, k2, k3⟩ := h.a e
  exact ⟨q, k1, k2, k3.away (fun e2 => h.ne e hb (by rw [k1, e2])) B⟩
def need6 : Nat → List Nat
  | 2 => [0, 1]
  | 3 => [2]
  | 6 => [4, 5]
  | 7 => [6, 3]
  | 10 => [8, 3]
  | 11 => [9, 7]
  | _ => []
theorem need6_lt : ∀ i j, j ∈ need6 i → j < 12 := by
  intro i j h
  unfold need6 at h
  split at h <;> simp at h <;> omega

set_option maxRecDepth 20000 in
set_option maxHeartbeats 40000000 in
theorem wishes_node (G A B : Nat → Bool) (f : Nat → Int) (g o m c : Nat) (w : World) (hm : m ≤ 128) (h0 : 0 < m) (hc : m + m ≤ c) (_hcm : c ≤ 1000) (H : Nums w g o (m + m) f) (hna : ¬ Alk f o (m + m))
    (HG : Hid (∀ j, j < 7 → G j = if anyG A B 7 = true then A j && B j else A j || B j))
    (H1 : Hid (∀ wX, Gr w wX → Calls Tryz.prog 175 #[.slice (some ⟨g, o, none⟩) m c] wX fun e w' => e = .returned (.agg (bcells A)) ∧ Gr wX w'))
    (H2 : Hid (∀ wX, Gr w wX → Calls Tryz.prog 175 #[.slice (some ⟨g, o + m, none⟩) m (c - m)] wX fun e w' => e = .returned (.agg (bcells B)) ∧ Gr wX w')) :
    Calls Tryz.prog 175 #[.slice (some ⟨g, o, none⟩) (m + m) c] w fun e w' => e = .returned (.agg (bcells G)) ∧ Gr w w' := by
  obtain ⟨X0, hX, gX, r0, p0⟩ := boxes7 w
  have HA := hide (ralike_any X0 g o (m + m) c f (H.gr gX) (by omega) (by omega))
  rw [decide_eq_false hna] at HA
  have HX := hide hX
  clear hX H hna
  have hdiv : ((m : Int) + (m : Int)) / 2 = (m : Int) := by omega
  have hmc : ¬ c = m := by omega
  have hm1 : m ≤ c := by omega
  have hm2 : m ≤ m + m := by omega
  have hmm : m + m - m = m := by omega
  have hi0 : (0 : Int) ≤ (m : Int) := by omega
  have hi1 : (m : Int) ≤ (m : Int) + (m : Int) := by omega
  have hi2 : (m : Int) ≤ (c : Int) := by omega
  go_enter Tryz.func175, Tryz.ntmps175
  go_upto_region 6 with (first
    | (go_at_call 176; rw [← HX.out]; refine HA.out.mono ?_; rintro e _ ⟨rfl, d1, rfl⟩))
  rw [hdiv]
  refine wp_gen (fun Y => BArr Y w.heap.size (fun _ => false) ∧ BArr Y (w.heap.size + 1) (fun _ => false) ∧ Gr w Y) ⟨r0.gr d1.gr, p0.gr d1.gr, gX.trans d1.gr⟩ ?_
  rintro X ⟨rX, pX, gX⟩
  clear r0 p0 HA HX
  go_cut [5, 6] (fun v6 v7 wc => ∃ pa pb, v6 = pv pa ∧ v7 = pv pb ∧ Hid (BArr wc pa A ∧ BArr wc pb B ∧ X.heap.size ≤ pa ∧ X.heap.size ≤ pb ∧ pa ≠ pb ∧ Gr X wc))
  case first => as_aux_lemma =>
    have GX := hide gX
    clear HG rX pX gX
    go_wp2_with fail
    refine wp_region_inv (by kernel_rfl) 12 rfl need6 need6_lt (by kernel_rfl) (fun b a w' => ∃ u6 u7 u30 u31 u32 u33 u34 u35 u36 u37, a = (⟨#[.slice (some ⟨g, o, none⟩) (m + m) c, undef, pv w.heap.size, pv (w.heap.size + 1), .int .i64 m, u6, u7, undef, undef, undef, .slice (some ⟨g, o, none⟩) (m + m) c, .bool false, undef, undef, undef, undef, undef, undef, .slice (some ⟨g, o, none⟩) (m + m) c, .int .i64 ((m : Int) + (m : Int)), .int .i64 m, u30, u31, u32, u33, u34, u35, u36, u37, undef, undef, undef, undef, undef, undef, undef, undef, undef, undef, undef, undef, undef, undef, undef, undef, undef, undef, undef, undef, undef, undef, undef, undef, undef, undef, undef, undef, undef, undef, undef, undef, undef, undef, undef, undef, undef, undef, undef], []⟩ : Act) ∧ (b 0 = true → u30 = .slice (some ⟨g, o, none⟩) (m + m) c) ∧ (b 1 = true → u31 = .int .i64 m) ∧ (b 2 = true → u32 = .slice (some ⟨g, o, none⟩) m c) ∧ (b 3 = true → u33 = .agg (bcells A)) ∧ (b 4 = true → u34 = .slice (some ⟨g, o, none⟩) (m + m) c) ∧ (b 5 = true → u35 = .int .i64 m) ∧ (b 6 = true → u36 = .slice (some ⟨g, o + m, none⟩) m (c - m)) ∧ (b 7 = true → u37 = .agg (bcells B)) ∧ RB X w' A B (b 8) (b 9) (b 10) (b 11) u6 u7) ?start ?step ?fin
    case start => exact ⟨_, _, _, _, _, _, _, _, _, _, rfl, nofun, nofun, nofun, nofun, nofun, nofun, nofun, nofun, RB.start X A B _ _⟩
    case step =>
      intro i hi b a w' hinv hbi hdep
      obtain ⟨u6, u7, u30, u31, u32, u33, u34, u35, u36, u37, rfl, h0, h1, h2, h3, h4, h5, h6, h7, hR⟩ := hinv
      have hc : i = 0 ∨ i = 1 ∨ i = 2 ∨ i = 3 ∨ i = 4 ∨ i = 5 ∨ i = 6 ∨ i = 7 ∨ i = 8 ∨ i = 9 ∨ i = 10 ∨ i = 11 := by omega
      rcases hc with rfl | rfl | rfl | rfl | rfl | rfl | rfl | rfl | rfl | rfl | rfl | rfl
      · refine wpOp_step rfl (fun K' hK => ?_)
        go_simp
        refine hK _ _ ⟨_, _, _, _, _, _, _, _, _, _, rfl, fun _ => rfl, fun e => h1 e, fun e => h2 e, fun e => h3 e, fun e => h4 e, fun e => h5 e, fun e => h6 e, fun e => h7 e, hR⟩
      · refine wpOp_step rfl (fun K' hK => ?_)
        go_simp
        refine hK _ _ ⟨_, _, _, _, _, _, _, _, _, _, rfl, fun e => h0 e, fun _ => rfl, fun e => h2 e, fun e => h3 e, fun e => h4 e, fun e => h5 e, fun e => h6 e, fun e => h7 e, hR⟩
      · obtain rfl := h0 (hdep 0 (by simp [need6]))
        obtain rfl := h1 (hdep 1 (by simp [need6]))
        refine wpOp_step rfl (fun K' hK => ?_)
        go_simp
        refine hK _ _ ⟨_, _, _, _, _, _, _, _, _, _, rfl, fun e => h0 e, fun e => h1 e, fun _ => rfl, fun e => h3 e, fun e => h4 e, fun e => h5 e, fun e => h6 e, fun e => h7 e, hR⟩
      · obtain rfl := h2 (hdep 2 (by simp [need6]))
        refine wpOp_step rfl (fun K' hk' => ?_)
        have HKK := hide hk'
        clear hk'
        go_wp2_with (go_at_call 175; refine (H1.out _ (GX.out.trans hR.gr)).mono ?_; rintro e w1 ⟨rfl, g1⟩)
        refine HKK.out _ _ ⟨_, _, _, _, _, _, _, _, _, _, rfl, fun e => h0 e, fun e => h1 e, fun _ => rfl, fun _ => rfl, fun e => h4 e, fun e => h5 e, fun e => h6 e, fun e => h7 e, hR.grow g1⟩
      · refine wpOp_step rfl (fun K' hK => ?_)
        go_simp
        refine hK _ _ ⟨_, _, _, _, _, _, _, _, _, _, rfl, fun e => h0 e, fun e => h1 e, fun e => h2 e, fun e => h3 e, fun _ => rfl, fun e => h5 e, fun e => h6 e, fun e => h7 e, hR⟩
      · refine wpOp_step rfl (fun K' hK => ?_)
        go_simp
        refine hK _ _ ⟨_, _, _, _, _, _, _, _, _, _, rfl, fun e => h0 e, fun e => h1 e, fun e => h2 e, fun e => h3 e, fun e => h4 e, fun _ => rfl, fun e => h6 e, fun e => h7 e, hR⟩
      · obtain rfl := h4 (hdep 4 (by simp [need6]))
        obtain rfl := h5 (hdep 5 (by simp [need6]))
        refine wpOp_step rfl (fun K' hK => ?_)
        go_simp
        refine hK _ _ ⟨_, _, _, _, _, _, _, _, _, _, rfl, fun e => h0 e, fun e => h1 e, fun e => h2 e, fun e => h3 e, fun e => h4 e, fun e => h5 e, fun _ => rfl, fun e => h7 e, hR⟩
      · obtain rfl := h6 (hdep 6 (by simp [need6]))
        refine wpOp_step rfl (fun K' hk' => ?_)
        have HKK := hide hk'
        clear hk'
        go_wp2_with (go_at_call 175; refine (H2.out _ (GX.out.trans hR.gr)).mono ?_; rintro e w1 ⟨rfl, g1⟩)
        refine HKK.out _ _ ⟨_, _, _, _, _, _, _, _, _, _, rfl, fun e => h0 e, fun e => h1 e, fun e => h2 e, fun e => h3 e, fun e => h4 e, fun e => h5 e, fun _ => rfl, fun _ => rfl, hR.grow g1⟩
      · refine wpOp_step rfl (fun K' hK => ?_)
        go_simp
        refine hK _ _ ⟨_, _, _, _, _, _, _, _, _, _, rfl, fun e => h0 e, fun e => h1 e, fun e => h2 e, fun e => h3 e, fun e => h4 e, fun e => h5 e, fun e => h6 e, fun e => h7 e, hR.new6 hbi⟩
      · refine wpOp_step rfl (fun K' hK => ?_)
        go_simp
        refine hK _ _ ⟨_, _, _, _, _, _, _, _, _, _, rfl, fun e => h0 e, fun e => h1 e, fun e => h2 e, fun e => h3 e, fun e => h4 e, fun e => h5 e, fun e => h6 e, fun e => h7 e, hR.new7 hbi⟩
      · obtain ⟨pa, rfl, hpa, hI⟩ := hR.a (hdep 8 (by simp [need6]))
        obtain rfl := h3 (hdep 3 (by simp [need6]))
        rw [if_neg (by rw [hbi]; simp)] at hI
        obtain ⟨x1, x2, x3, x4, x5, x6, x7, x8, x9, x10, x11, x12, x13, x14, x15⟩ := hI.facts
        refine wpOp_step rfl (fun K' hK => ?_)
        go_simp
        refine hK _ _ ⟨_, _, _, _, _, _, _, _, _, _, rfl, fun e => h0 e, fun e => h1 e, fun e => h2 e, fun e => h3 e, fun e => h4 e, fun e => h5 e, fun e => h6 e, fun e => h7 e, hR.put6 (hdep 8 (by simp [need6]))⟩
      · obtain ⟨pa, rfl, hpa, hI⟩ := hR.b (hdep 9 (by simp [need6]))
        obtain rfl := h7 (hdep 7 (by simp [need6]))
        rw [if_neg (by rw [hbi]; simp)] at hI
        obtain ⟨x1, x2, x3, x4, x5, x6, x7, x8, x9, x10, x11, x12, x13, x14, x15⟩ := hI.facts
        refine wpOp_step rfl (fun K' hK => ?_)
        go_simp
        refine hK _ _ ⟨_, _, _, _, _, _, _, _, _, _, rfl, fun e => h0 e, fun e => h1 e, fun e => h2 e, fun e => h3 e, fun e => h4 e, fun e => h5 e, fun e => h6 e, fun e => h7 e, hR.put7 (hdep 9 (by simp [need6]))⟩
    case fin =>
      intro b a w' hinv hall
      obtain ⟨u6, u7, u30, u31, u32, u33, u34, u35, u36, u37, rfl, _, _, _, _, _, _, _, _, hR⟩ := hinv
      obtain ⟨pa, rfl, ha, hIA⟩ := hR.a (hall 8 (by decide))
      obtain ⟨pb, rfl, hb, hIB⟩ := hR.b (hall 9 (by decide))
      rw [if_pos (hall 10 (by decide))] at hIA
      rw [if_pos (hall 11 (by decide))] at hIB
      have hne : pa ≠ pb := fun e => hR.ne (hall 8 (by decide)) (hall 9 (by decide)) (by rw [e])
      have HZ : Hid (BArr w' pa A ∧ BArr w' pb B ∧ X.heap.size ≤ pa ∧ X.heap.size ≤ pb ∧ pa ≠ pb ∧ Gr X w') := ⟨hIA, hIB, ha, hb, hne, hR.gr⟩
      clear hIA hIB ha hb hne hR
      go_wp2_with fail
      go_meet
      case rel => exact ⟨pa, pb, rfl, rfl, HZ⟩
  case rest =>
    obtain ⟨pa, pb, rfl, rfl, hcu⟩ := hcut
    obtain ⟨aA, aB, la, lb, hab, gwc⟩ := hcu.out
    have hX1 := pX.lt
    have hX0 := rX.lt
    have p1 := pX.gr gwc
    have r1 := rX.gr gwc
    have g1 := gX.trans gwc
    have na : pa ≠ w.heap.size + 1 := by omega
    have nb : pb ≠ w.heap.size + 1 := by omega
    clear hcu pX rX gX la lb gwc H1 H2
    go_wp2_with fail
    go_loopw [7, 8] (fun v7 v8 wr => ∃ k : Nat, k ≤ 7 ∧ v8 = .int .i64 k ∧ v7 = .bool (anyG A B k) ∧ Hid (BArr wr (w.heap.size + 1) (fun j => if j < k then A j && B j else false)) ∧ Hid (BArr wr pa A) ∧ Hid (BArr wr pb B) ∧ Hid (BArr wr w.heap.size (fun _ => false)) ∧ Gr w wr) (fun _ v8 _ => 7 - (intOf v8).toNat)
    case atStart => exact ⟨0, by omega, rfl, rfl, p1.congr (fun j _ => by simp), aA, aB, r1, g1⟩
    case round =>
      obtain ⟨k, hk, rfl, rfl, pk, ak, bk, rk, gk⟩ := hrel
      by_cases hk7 : k < 7
      · have hkd : (k : Int) < 7 := by omega
        have ca := ak.out.cell hk7
        have cb := bk.out.cell hk7
        have cc := pk.out.cell hk7
        have fz := pk.out.free k
        have pl := pk.out.lt
        have al := ak.out.lt
        have bl := bk.out.lt
        have HN : Hid (∀ v, v = (A k && B k) → BArr (wr.setCell ⟨w.heap.size + 1, k, none⟩ (.bool v)) (w.heap.size + 1) (fun j => if j < k + 1 then A j && B j else false) ∧ BArr (wr.setCell ⟨w.heap.size + 1, k, none⟩ (.bool v)) pa A ∧ BArr (wr.setCell ⟨w.heap.size + 1, k, none⟩ (.bool v)) pb B ∧ BArr (wr.setCell ⟨w.heap.size + 1, k, none⟩ (.bool v)) w.heap.size (fun _ => false) ∧ Gr w (wr.setCell ⟨w.heap.size + 1, k, none⟩ (.bool v))) := fun v hv =>
          ⟨pk.out.set hk7 (fun i => by
            by_cases e : i = k
            · subst e; rw [if_pos (by omega), if_pos rfl, hv]
            · rw [if_neg e]
              by_cases e2 : i < k
              · rw [if_pos e2, if_pos (by omega)]
              · rw [if_neg e2, if_neg (by omega)]), ak.out.other na _ _, bk.out.other nb _ _, rk.out.other (by omega) _ _, gk.setCell (by simp) _⟩
        have HAN : Hid (anyG A B (k + 1) = (anyG A B k || (A k && B k))) := rfl
        clear pk ak bk rk
        generalize anyG A B k = t at *
        generalize A k = ax at *
        generalize B k = bx at *
        cases ax
        · obtain ⟨n1, n2, n3, n4, n5⟩ := HN.out false rfl
          have N1 := hide n1
          have N2 := hide n2
          have N3 := hide n3
          have N4 := hide n4
          have N5 := hide n5
          clear HN n1 n2 n3 n4 n5
          cases t
          · go_wp2_with fail
            go_roundw
            case rel => exact ⟨k + 1, by omega, by go_num, by rw [HAN.out]; rfl, N1, N2, N3, N4, N5.out⟩
            case measure => simp [intOf]; omega
          · go_wp2_with fail
            go_roundw
            case rel => exact ⟨k + 1, by omega, by go_num, by rw [HAN.out]; rfl, N1, N2, N3, N4, N5.out⟩
            case measure => simp [intOf]; omega
        · obtain ⟨n1, n2, n3, n4, n5⟩ := HN.out bx (by simp)
          have N1 := hide n1
          have N2 := hide n2
          have N3 := hide n3
          have N4 := hide n4
          have N5 := hide n5
          clear HN n1 n2 n3 n4 n5
          cases t
          · go_wp2_with fail
            go_roundw
            case rel => exact ⟨k + 1, by omega, by go_num, by rw [HAN.out]; simp, N1, N2, N3, N4, N5.out⟩
            case measure => simp [intOf]; omega
          · go_wp2_with fail
            go_roundw
            case rel => exact ⟨k + 1, by omega, by go_num, by rw [HAN.out]; simp, N1, N2, N3, N4, N5.out⟩
            case measure => simp [intOf]; omega
      · have h7 : k = 7 := by omega
        have hkd : ¬ (k : Int) < 7 := by omega
        have pz : BArr wr (w.heap.size + 1) (fun j => A j && B j) := pk.out.congr fun j hj => by rw [if_pos (by omega)]
        rw [h7]
        clear pk p1 r1 g1 aA aB
        cases ht : anyG A B 7
        · have HZ : Hid (∀ j, j < 7 → (A j || B j) = G j) := fun j hj => by rw [HG.out j hj, ht]; simp
          have PZ := hide pz
          clear HG pz ht
          go_wp2_with fail
          go_loopw [9] (fun v9 wr => ∃ k : Nat, k ≤ 7 ∧ v9 = .int .i64 k ∧ Hid (BArr wr (w.heap.size + 1) (fun j => if j < k then A j || B j else A j && B j)) ∧ Hid (BArr wr pa A) ∧ Hid (BArr wr pb B) ∧ Hid (BArr wr w.heap.size (fun _ => false)) ∧ Gr w wr) (fun v9 _ => 7 - (intOf v9).toNat)
          case atStart => exact ⟨0, by omega, rfl, PZ.out.congr (fun j _ => by simp), ak, bk, rk, gk⟩
          case round =>
            clear PZ ak bk rk gk
            obtain ⟨k, hk, rfl, pk, ak, bk, rk, gk⟩ := hrel
            by_cases hk7 : k < 7
            · have hkd : decide ((k : Int) < 7) = true := decide_eq_true (by omega)
              have hkd2 : (k : Int) < 7 := by omega
              have ca := ak.out.cell hk7
              have cb := bk.out.cell hk7
              have cc := pk.out.cell hk7
              have fz := pk.out.free k
              have pl := pk.out.lt
              have al := ak.out.lt
              have bl := bk.out.lt
              have HN : Hid (∀ v, v = (A k || B k) → BArr (wr.setCell ⟨w.heap.size + 1, k, none⟩ (.bool v)) (w.heap.size + 1) (fun j => if j < k + 1 then A j || B j else A j && B j) ∧ BArr (wr.setCell ⟨w.heap.size + 1, k, none⟩ (.bool v)) pa A ∧ BArr (wr.setCell ⟨w.heap.size + 1, k, none⟩ (.bool v)) pb B ∧ BArr (wr.setCell ⟨w.heap.size + 1, k, none⟩ (.bool v)) w.heap.size (fun _ => false) ∧ Gr w (wr.setCell ⟨w.heap.size + 1, k, none⟩ (.bool v))) := fun v hv =>
                ⟨pk.out.set hk7 (fun i => by
                  by_cases e : i = k
                  · subst e; rw [if_pos (by omega), if_pos rfl, hv]
                  · rw [if_neg e]
                    by_cases e2 : i < k
                    · rw [if_pos e2, if_pos (by omega)]
                    · rw [if_neg e2, if_neg (by omega)]), ak.out.other na _ _, bk.out.other nb _ _, rk.out.other (by omega) _ _, gk.setCell (by simp) _⟩
              clear pk ak bk rk
              generalize A k = ax at *
              generalize B k = bx at *
              cases ax
              · obtain ⟨n1, n2, n3, n4, n5⟩ := HN.out bx (by simp)
                have N1 := hide n1
                have N2 := hide n2
                have N3 := hide n3
                have N4 := hide n4
                have N5 := hide n5
                clear HN n1 n2 n3 n4 n5
                go_wp2_with fail
                go_roundw
                case rel => exact ⟨k + 1, by omega, by go_num, N1, N2, N3, N4, N5.out⟩
                case measure => simp [intOf]; omega
              · obtain ⟨n1, n2, n3, n4, n5⟩ := HN.out true (by simp)
                have N1 := hide n1
                have N2 := hide n2
                have N3 := hide n3
                have N4 := hide n4
                have N5 := hide n5
                clear HN n1 n2 n3 n4 n5
                go_wp2_with fail
                go_roundw
                case rel => exact ⟨k + 1, by omega, by go_num, N1, N2, N3, N4, N5.out⟩
                case measure => simp [intOf]; omega
            · have hkd : decide ((k : Int) < 7) = false := decide_eq_false (by omega)
              have hkd2 : ¬ (k : Int) < 7 := by omega
              have og : BArr wr (w.heap.size + 1) G := pk.out.congr fun j hj => by rw [if_pos (by omega), HZ.out j hj]
              obtain ⟨a0, a1, a2, a3, a4, a5, a6⟩ := og.all7
              obtain ⟨b0, b1, b2, b3, b4, b5, b6⟩ := rk.out.all7
              have fr := rk.out.free
              have HR := hide (rk.out.set7 G)
              have HGG := hide (gr_set7 gk (Nat.le_refl _) G)
              clear pk ak bk rk og
              go_wp2_with fail
              refine bp_gen (fun V => BArr V w.heap.size G ∧ Gr w V) ⟨HR.out, HGG.out⟩ ?_
              rintro V ⟨vR, gV⟩
              clear a0 a1 a2 a3 a4 a5 a6 b0 b1 b2 b3 b4 b5 b6 fr
              obtain ⟨b0, b1, b2, b3, b4, b5, b6⟩ := vR.all7
              exact bodyPost_ret (v := .agg (bcells G)) (by simp [results, Tryz.results175, go_sem, *]) rfl ⟨rfl, gV⟩
        · have og : BArr wr (w.heap.size + 1) G := pz.congr fun j hj => by rw [HG.out j hj, if_pos ht]
          obtain ⟨a0, a1, a2, a3, a4, a5, a6⟩ := og.all7
          obtain ⟨b0, b1, b2, b3, b4, b5, b6⟩ := rk.out.all7
          have fr := rk.out.free
          have HR := hide (rk.out.set7 G)
          have HGG := hide (gr_set7 gk (Nat.le_refl _) G)
          clear pz ak bk rk og HG ht
          go_wp2_with fail
          go_loopw [9] (fun v9 wr' => v9 = .int .i64 0 ∧ wr' = wr) (fun _ _ => 0)
          case atStart => exact ⟨rfl, rfl⟩
          case round =>
            obtain ⟨rfl, rfl⟩ := hrel
            go_wp2_with fail
            refine bp_gen (fun V => BArr V w.heap.size G ∧ Gr w V) ⟨HR.out, HGG.out⟩ ?_
            rintro V ⟨vR, gV⟩
            clear a0 a1 a2 a3 a4 a5 a6 b0 b1 b2 b3 b4 b5 b6 fr
            obtain ⟨b0, b1, b2, b3, b4, b5, b6⟩ := vR.all7
            exact bodyPost_ret (v := .agg (bcells G)) (by simp [results, Tryz.results175, go_sem, *]) rfl ⟨rfl, gV⟩

end Go.Proofs.YtfcknkanbcndjagGreatDoor
