/- CONTRACTS OF package node: mayBeGone. -/
import Derived.Test.YtihamicnbihgnaeD1
import Derived.Test.YtihamicnbihgnaeN0
namespace Go.Proofs.Ytihamicnbihgnae
open Go.RowKit
attribute [local go_sem] Ext.all Ext.cell Ext.frozen Ext.lt Ext.lt1 Ext.lt2 Ext.ne Ext.ne'

set_option maxRecDepth 20000 in
set_option maxHeartbeats 8000000 in
theorem nmay_any {w : World} {p : Nat} {m : Md} (H : DAt w p m) {f z : Nat} (hf : f < 6) (hz : z < 6) (hcs : 0 ≤ m.cost f ∧ m.cost f ≤ 15) (hsd : 0 ≤ (m.heard f z).2 ∧ (m.heard f z).2 ≤ 200) {v : Bool} (hv : mayB m z f = v) :
    Calls Try.prog 51 #[pv p, iv f, iv z] w fun e w' => e = .returned (.bool v) ∧ ∃ d : Ext w, w' = d.out := by
  subst hv
  have hp := H.lt
  obtain ⟨x1, x2⟩ := H.heard hf hz
  obtain ⟨b0, b1⟩ := H.bests hz
  have c1 := H.cost hf
  have hfi : (f : Int) < 6 := by omega
  have hzi : (z : Int) < 6 := by omega
  have HMB : Hid (mayB m z f = (decide (m.cost f ≠ 0) && decide ((m.heard f z).2 + m.cost f < 200) && bet (m.heard f z).1 (m.heard f z).2 (m.bests z).1 (m.bests z).2)) := rfl
  generalize mayB m z f = mv at *
  generalize m.heard f z = hv at *
  generalize m.bests z = bv at *
  generalize m.cost f = cc at *
  obtain ⟨hs1, hd1⟩ := hv
  obtain ⟨bs, bd⟩ := bv
  simp only at x1 x2 b0 b1 hsd HMB
  have wb : IntKind.i64.wrap (hd1 + cc) = hd1 + cc := by rw [IntKind.wrap_i64]; omega
  clear H
  go_enter Try.func51, Try.ntmps51
  go_upto_region 1 with (fail)
  go_big_region
  all_goals
    by_cases hc0 : cc = 0
    · have g1 : (cc != 0) = false := by simpa using hc0
      have HV : Hid (mv = false) := by unfold Hid; rw [HMB.out]; simp [hc0]
      clear HMB hc0
      go_wp2_with fail
      go_ret
      exact ⟨by rw [HV.out]; rfl, ext_mk (((Gr.refl _).alloc _).alloc _).drew⟩
    · have g1 : (cc != 0) = true := by simpa using hc0
      by_cases h2 : hd1 + cc < 200
      · have g2 : decide (hd1 + cc < 200) = true := decide_eq_true h2
        obtain ⟨bv, hbt⟩ : ∃ bv, bet hs1 hd1 bs bd = bv := ⟨_, rfl⟩
        have HB1 := hide hbt
        have HV : Hid (mv = bv) := by unfold Hid; rw [HMB.out, hbt]; simp [hc0, h2]
        clear HMB hc0 h2 hbt
        go_wp2_with (go_at_call 52; with_reducible refine (nbetter_is HB1.out _).mono ?_; rintro e _ ⟨rfl, rfl⟩)
        go_ret
        exact ⟨by rw [HV.out]; rfl, ext_mk (((Gr.refl _).alloc _).alloc _).drew⟩
      · have g2 : decide (hd1 + cc < 200) = false := decide_eq_false h2
        have HV : Hid (mv = false) := by unfold Hid; rw [HMB.out]; simp [h2]
        clear HMB hc0 h2
        go_wp2_with fail
        go_ret
        exact ⟨by rw [HV.out]; rfl, ext_mk (((Gr.refl _).alloc _).alloc _).drew⟩
theorem nmay_ext {B : World} {p : Nat} {m : Md} (x : Ext B) (H : DAt x.out p m) {f z : Nat} (hf : f < 6) (hz : z < 6) (hcs : 0 ≤ m.cost f ∧ m.cost f ≤ 15) (hsd : 0 ≤ (m.heard f z).2 ∧ (m.heard f z).2 ≤ 200) {v : Bool} (hv : mayB m z f = v) :
    Calls Try.prog 51 #[pv p, iv f, iv z] x.out fun e w' => e = .returned (.bool v) ∧ ∃ d : Ext B, w' = d.out :=
  Calls.ext_of (nmay_any H hf hz hcs hsd hv)

end Go.Proofs.Ytihamicnbihgnae
