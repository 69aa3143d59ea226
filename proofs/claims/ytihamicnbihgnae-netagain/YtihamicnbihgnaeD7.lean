/- CONTRACTS OF package node: Way, Best. -/
import Derived.Test.YtihamicnbihgnaeD4
import Derived.Test.YtihamicnbihgnaeNwMem
namespace Go.Proofs.Ytihamicnbihgnae
open Go.RowKit
attribute [local go_sem] Ext.all Ext.cell Ext.frozen Ext.lt Ext.lt1 Ext.lt2 Ext.ne Ext.ne'

def wayV (v : Int × Int × Int) : Value := .agg #[iv v.1, iv v.2.1, iv v.2.2]
/-- The way to a node, or none of the age 0. -/
def wayOf (m : Md) (k : Int) : Int × Int × Int := if 0 ≤ k ∧ k < 6 then m.ways k.toNat else (0, 200, -1)
theorem wayOf_nat (m : Md) {k : Nat} (h : k < 6) : wayOf m (k : Int) = m.ways k := by
  unfold wayOf
  rw [if_pos ⟨by omega, by omega⟩, Int.toNat_natCast]

set_option maxRecDepth 20000 in
set_option maxHeartbeats 8000000 in
theorem nway_any {w : World} {p : Nat} {m : Md} (H : DAt w p m) (k : Int) :
    Calls Try.prog 29 #[pv p, iv k] w fun e w' => e = .returned (wayV (wayOf m k)) ∧ ∃ d : Ext w, w' = d.out := by
  have hp := H.lt
  by_cases e : 0 ≤ k ∧ k < 6
  · have B1 : Hid (decide (0 ≤ k ∧ k < 6) = true) := decide_eq_true e
    obtain ⟨z, rfl⟩ : ∃ z : Nat, k = (z : Int) := ⟨k.toNat, by omega⟩
    have hz : z < 6 := by omega
    have hzi : (z : Int) < 6 := by omega
    obtain ⟨q0, q1, q2⟩ := H.ways hz
    have HV := hide (wayOf_nat m hz)
    generalize m.ways z = v at *
    obtain ⟨s, d, h⟩ := v
    simp only at q0 q1 q2
    clear H e
    go_enter Try.func29, Try.ntmps29
    go_wp2_with (go_at_call 28; with_reducible refine (lnode_is B1.out _).mono ?_; rintro e w1 ⟨rfl, hw1⟩; subst hw1)
    refine bodyPost_ret (v := .agg #[iv s, iv d, iv h]) (by simp [results, Try.results29, go_sem]) rfl ⟨by rw [HV.out]; rfl, ext_mk ?_⟩
    first
      | exact (Gr.refl _).alloc _
      | exact (((((Gr.refl _).alloc _).setCell (by simp) _).setCell (by simp) _).setCell (by simp) _)
  · have B1 : Hid (decide (0 ≤ k ∧ k < 6) = false) := decide_eq_false e
    have HV : Hid (wayOf m k = (0, 200, -1)) := by unfold Hid wayOf; rw [if_neg e]
    clear H e
    go_enter Try.func29, Try.ntmps29
    go_wp2_with (first | (go_at_call 28; with_reducible refine (lnode_is B1.out _).mono ?_; rintro e w1 ⟨rfl, hw1⟩; subst hw1) | (go_at_call 44; with_reducible refine (noWay_any 0 _).mono ?_; rintro e _ ⟨rfl, d1, rfl⟩))
    refine bodyPost_ret (v := .agg #[iv 0, iv 200, iv (-1)]) (by simp [results, Try.results29, go_sem]) rfl ⟨by rw [HV.out]; rfl, ext_mk ?_⟩
    exact (((((Gr.refl _).alloc _).trans d1.gr).setCell (by simp) _).setCell (by simp) _).setCell (by simp) _

/-- The best that is told. -/
def bestOf (m : Md) (k : Int) : Int × Int := if 0 ≤ k ∧ k < 6 then (if k = (m.me : Int) then ((m.ways m.me).1, (m.ways m.me).2.1) else m.bests k.toNat) else (0, 200)
set_option maxRecDepth 20000 in
set_option maxHeartbeats 8000000 in
theorem nbest_any {w : World} {p : Nat} {m : Md} (H : DAt w p m) (k : Int) :
    Calls Try.prog 33 #[pv p, iv k] w fun e w' => e = .returned (.tuple #[iv (bestOf m k).1, iv (bestOf m k).2]) ∧ ∃ d : Ext w, w' = d.out := by
  have hp := H.lt
  have c0 := H.me
  by_cases e : 0 ≤ k ∧ k < 6
  · have B1 : Hid (decide (0 ≤ k ∧ k < 6) = true) := decide_eq_true e
    have HV : Hid (bestOf m k = if k = (m.me : Int) then ((m.ways m.me).1, (m.ways m.me).2.1) else m.bests k.toNat) := by unfold Hid bestOf; rw [if_pos e]
    obtain ⟨z, rfl⟩ : ∃ z : Nat, k = (z : Int) := ⟨k.toNat, by omega⟩
    have hz : z < 6 := by omega
    have hzi : (z : Int) < 6 := by omega
    by_cases hme : (z : Int) = (m.me : Int)
    · have g1 : ((z : Int) == (m.me : Int)) = true := by simpa using hme
      obtain ⟨q0, q1, q2⟩ := H.ways hz
      have HV2 : Hid (bestOf m z = ((m.ways z).1, (m.ways z).2.1)) := by unfold Hid; rw [HV.out, if_pos hme, show m.me = z by omega]
      generalize m.ways z = v at *
      obtain ⟨s, d, h⟩ := v
      simp only at q0 q1 q2 HV2
      clear H e HV hme
      go_enter Try.func33, Try.ntmps33
      go_upto_region 4 with (go_at_call 28; with_reducible refine (lnode_is B1.out _).mono ?_; rintro e w1 ⟨rfl, hw1⟩; have hw2 := hw1.symm; clear hw1; subst hw2)
      refine wp_region_ext (by kernel_rfl) (by kernel_rfl) ?_
      repeat (go_big_quiet_step (fail))
      refine wpQuiet_nil ?_
      rintro _ ⟨d2, rfl⟩
      go_wp2_with fail
      go_ret2
      exact ⟨by rw [HV2.out]; rfl, d2, rfl⟩
    · have g1 : ((z : Int) == (m.me : Int)) = false := by simpa using hme
      obtain ⟨q0, q1⟩ := H.bests hz
      have HV2 : Hid (bestOf m z = m.bests z) := by unfold Hid; rw [HV.out, if_neg hme, Int.toNat_natCast]
      generalize m.bests z = v at *
      obtain ⟨s, d⟩ := v
      simp only at q0 q1
      clear H e HV hme
      go_enter Try.func33, Try.ntmps33
      go_upto_region 5 with (go_at_call 28; with_reducible refine (lnode_is B1.out _).mono ?_; rintro e w1 ⟨rfl, hw1⟩; have hw2 := hw1.symm; clear hw1; subst hw2)
      refine wp_region_ext (by kernel_rfl) (by kernel_rfl) ?_
      repeat (go_big_quiet_step (fail))
      refine wpQuiet_nil ?_
      rintro _ ⟨d2, rfl⟩
      go_wp2_with fail
      go_ret2
      exact ⟨by rw [HV2.out]; rfl, d2, rfl⟩
  · have B1 : Hid (decide (0 ≤ k ∧ k < 6) = false) := decide_eq_false e
    have HV : Hid (bestOf m k = (0, 200)) := by unfold Hid bestOf; rw [if_neg e]
    clear H e c0
    go_enter Try.func33, Try.ntmps33
    go_wp2_with (go_at_call 28; with_reducible refine (lnode_is B1.out _).mono ?_; rintro e w1 ⟨rfl, hw1⟩; have hw2 := hw1.symm; clear hw1; subst hw2)
    go_ret2
    exact ⟨by rw [HV.out]; rfl, ext_mk (Gr.refl _)⟩

end Go.Proofs.Ytihamicnbihgnae
