/- CONTRACT OF handpostlaw.linksBegun. -/
import Derived.Test.YtimbgijpeomfcadK5
namespace Go.Proofs.Ytimbgijpeomfcad
open Go.RowKit
attribute [local go_sem] Ext.all Ext.cell Ext.frozen Ext.lt Ext.lt1 Ext.lt2 Ext.ne Ext.ne'

def c0 : Nat → Nat → Nat := setC (setC (setC (fun _ _ => 0) 0 1 5) 1 2 5) 0 2 11
theorem c0_lk : Lk c0 := ((lk_zero.set (by decide) (by decide)).set (by decide) (by decide)).set (by decide) (by decide)
theorem c0_all : (allTo c0 6).length = 3 := by decide +kernel
theorem c0_of : (ofB c0 1 6).length = 2 := by decide +kernel
def e0 (n : Nat) : Nat := if n = 0 then 0 else if n = 1 then 5 else if n = 2 then 10 else 200
theorem c0_low : ∀ n, n < 6 → e0 n ≤ dst c0 0 n :=
  dst_most c0 0 e0 (by decide) (by
    have : ∀ m, m < 6 → ∀ n, n < 6 → 0 < c0 m n → e0 n ≤ e0 m + c0 m n := by decide
    exact fun m n hm hn => this m hm n hn)
theorem c0_far2 : dst c0 0 2 = 10 := by
  have h1 : e0 2 ≤ dst c0 0 2 := c0_low 2 (by decide)
  have h2 := dst_edge c0 0 (m := 0) (n := 1) (by decide) (by decide) (by decide)
  have h3 := dst_edge c0 0 (m := 1) (n := 2) (by decide) (by decide) (by decide)
  have h4 : dst c0 0 0 = 0 := dst_self c0 (f := 0) (by decide)
  have e1 : c0 0 1 = 5 := by decide
  have e2 : c0 1 2 = 5 := by decide
  have e3 : e0 2 = 10 := by decide
  omega
theorem c0_far3 : dst c0 0 3 = 200 := by
  have h1 : e0 3 ≤ dst c0 0 3 := c0_low 3 (by decide)
  have h2 := dst_le c0 0 3
  have e3 : e0 3 = 200 := by decide
  omega

theorem kset_lit {w X : World} {p : Nat} {c : Nat → Nat → Nat} (H : KL X p c) (g : Gr w X) (hp : w.heap.size ≤ p) (a b v : Nat) (ha : a < 6) (hb : b < 6) (hne : a ≠ b) (hv : v ≤ 15) {a' b' v' : Int} (ea : a' = a) (eb : b' = b) (ev : v' = v) :
    Calls Try.prog 11 #[pv p, iv a', iv b', iv v'] X fun e w' => e = .returned (iv 0) ∧ KL w' p (setC c a b v) ∧ Gr w w' := by
  subst ea eb ev
  refine (kset_ok H ha hb hne hv).mono ?_
  rintro e w' ⟨rfl, j, rfl, h⟩
  exact ⟨rfl, h, g.setCell hp _⟩

def c1 : Nat → Nat → Nat := setC (fun _ _ => 0) 0 1 5
def c2 : Nat → Nat → Nat := setC c1 1 2 5
theorem kbegun_sets (w : World) : (∀ X, KL X w.heap.size (fun _ _ => 0) → Gr w X → Calls Try.prog 11 #[pv w.heap.size, iv 0, iv 1, iv 5] X fun e w' => e = .returned (iv 0) ∧ KL w' w.heap.size c1 ∧ Gr w w')
    ∧ (∀ X, KL X w.heap.size c1 → Gr w X → Calls Try.prog 11 #[pv w.heap.size, iv 1, iv 2, iv 5] X fun e w' => e = .returned (iv 0) ∧ KL w' w.heap.size c2 ∧ Gr w w')
    ∧ (∀ X, KL X w.heap.size c2 → Gr w X → Calls Try.prog 11 #[pv w.heap.size, iv 0, iv 2, iv 11] X fun e w' => e = .returned (iv 0) ∧ KL w' w.heap.size c0 ∧ Gr w w') :=
  ⟨fun _ H g => kset_lit H g (Nat.le_refl _) 0 1 5 (by decide) (by decide) (by decide) (by decide) rfl rfl rfl,
   fun _ H g => kset_lit H g (Nat.le_refl _) 1 2 5 (by decide) (by decide) (by decide) (by decide) rfl rfl rfl,
   fun _ H g => kset_lit H g (Nat.le_refl _) 0 2 11 (by decide) (by decide) (by decide) (by decide) rfl rfl rfl⟩
theorem kbegun_reads (B X : World) (p : Nat) (H : KL X p c0) (g : Gr B X) :
    (Calls Try.prog 13 #[pv p, iv 0] X fun e w' => ∃ q, e = .returned (.slice (some ⟨q, 0, none⟩) 6 6) ∧ w'.cell? ⟨q, 2, none⟩ = some (iv 10) ∧ w'.cell? ⟨q, 3, none⟩ = some (iv 200) ∧ q < w'.heap.size ∧ KL w' p c0 ∧ Gr B w')
    ∧ (Calls Try.prog 14 #[pv p] X fun e w' => ∃ ao k, e = .returned (.slice ao 3 k) ∧ KL w' p c0 ∧ Gr B w')
    ∧ (Calls Try.prog 10 #[pv p, iv 1] X fun e w' => ∃ ao k, e = .returned (.slice ao 2 k) ∧ KL w' p c0 ∧ Gr B w') := by
  refine ⟨(far_any H c0_lk 0).mono ?_, (klist_any H c0_lk).mono ?_, (kof_any H c0_lk 1).mono ?_⟩
  · rintro e w' ⟨q, rfl, h1, _, h2⟩
    have a := h1.cell (j := 2) (by decide)
    have b := h1.cell (j := 3) (by decide)
    rw [c0_far2] at a
    rw [c0_far3] at b
    exact ⟨q, rfl, a, b, h1.lt, H.gr h2, g.trans h2⟩
  · rintro e w' ⟨v, rfl, h1, h2⟩
    obtain ⟨ao, k, rfl, _⟩ := h1.shape
    rw [c0_all]
    exact ⟨ao, k, rfl, H.gr h2, g.trans h2⟩
  · rintro e w' ⟨v, rfl, h1, h2⟩
    obtain ⟨ao, k, rfl, _⟩ := h1.shape
    rw [c0_of]
    exact ⟨ao, k, rfl, H.gr h2, g.trans h2⟩

set_option maxRecDepth 20000 in
set_option maxHeartbeats 1000000 in
theorem kbegun_any (w : World) : Calls Try.prog 5 #[] w fun e w' => e = .returned (.bool true) ∧ Gr w w' := by
  obtain ⟨S1, S2, S3⟩ := kbegun_sets w
  have H1 := hide S1
  have H2 := hide S2
  have H3 := hide S3
  have HR := hide (kbegun_reads w)
  have HB : Hid (setB 1 1 1 = false) := by unfold Hid; decide
  have HN : Hid (nodeB 5 = true) := by unfold Hid; decide
  have HW := hide (knew_any w)
  clear S1 S2 S3
  go_enter Try.func5, Try.ntmps5
  go_upto_region 2 with (first
    | (go_at_call 12; with_reducible refine HW.out.mono ?_; rintro e w1 ⟨rfl, k1, g1, l1⟩))
  have K1 := hide k1
  clear k1 l1 HW
  go_upto_region 3 with (first
    | (go_at_call 11; with_reducible refine (H1.out _ K1.out g1).mono ?_; rintro e w2 ⟨rfl, k2, g2⟩))
  have K2 := hide k2
  clear k2
  go_upto_region 4 with (first
    | (go_at_call 11; with_reducible refine (H2.out _ K2.out g2).mono ?_; rintro e w3 ⟨rfl, k3, g3⟩))
  have K3 := hide k3
  clear k3
  go_upto_region 5 with (first
    | (go_at_call 11; with_reducible refine (H3.out _ K3.out g3).mono ?_; rintro e w4 ⟨rfl, k4, g4⟩))
  have F4 := hide (HR.out _ _ k4 g4).1
  clear k4 g4 g3 g2 g1 K1 K2 K3 H1 H2 H3
  go_upto_region 6 with (first
    | (go_at_call 13; with_reducible refine F4.out.mono ?_; rintro e w5 ⟨q, rfl, d2, d3, lq, k5, g5⟩))
  have L5 := hide (HR.out _ _ k5 g5).2.1
  clear k5 F4
  go_wp2_with (first
    | (go_at_call 11; with_reducible refine (kset_bad HB.out).mono ?_; rintro e w6 ⟨rfl, hw6⟩; subst hw6)
    | (go_at_call 14; with_reducible refine L5.out.mono ?_; rintro e w7 ⟨a7, q7, rfl, k7, g7⟩; have O7 := hide (HR.out _ _ k7 g7).2.2; clear k7)
    | (go_at_call 10; with_reducible refine O7.out.mono ?_; rintro e w8 ⟨a8, q8, rfl, k8, g8⟩; clear k8)
    | (go_at_call 15; with_reducible refine (node_is HN.out _).mono ?_; rintro e w9 ⟨rfl, hw9⟩; subst hw9))
  go_ret
  exact ⟨rfl, g8⟩

end Go.Proofs.Ytimbgijpeomfcad
