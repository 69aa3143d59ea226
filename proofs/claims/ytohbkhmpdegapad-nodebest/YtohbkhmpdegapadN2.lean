/- CONTRACTS OF handpostref: IsNode, Mind.Tick. -/
import Derived.Test.YtohbkhmpdegapadN1
namespace Go.Proofs.Ytohbkhmpdegapad
open Go.RowKit
attribute [local go_sem] Ext.all Ext.cell Ext.frozen Ext.lt Ext.lt1 Ext.lt2 Ext.ne Ext.ne'

theorem isNode_is {k : Int} {v : Bool} (h : decide (0 ≤ k ∧ k < 6) = v) (w : World) : Calls Try.prog 10 #[iv k] w fun e w' => e = .returned (.bool v) ∧ w' = w := by
  subst h
  by_cases e : 0 ≤ k
  · have e1 : decide (0 ≤ k ∧ k < 6) = decide (k < 6) := by simp [e]
    rw [e1]
    clear e1
    go_enter Try.func10, Try.ntmps10
    go_wp2
    go_ret
    exact ⟨rfl, rfl⟩
  · have e1 : decide (0 ≤ k ∧ k < 6) = false := by simp [e]
    have e2 : decide (0 ≤ k) = false := decide_eq_false e
    rw [e1]
    clear e1 e
    go_enter Try.func10, Try.ntmps10
    go_wp2
    go_ret
    exact ⟨rfl, rfl⟩

theorem isNode_ext {k : Int} {v : Bool} (h : decide (0 ≤ k ∧ k < 6) = v) {B : World} (x : Ext B) : Calls Try.prog 10 #[iv k] x.out fun e w' => e = .returned (.bool v) ∧ ∃ m : Ext B, w' = m.out :=
  (isNode_is h x.out).mono fun _ _ ⟨he, hw⟩ => ⟨he, x, hw⟩

set_option maxRecDepth 20000 in
set_option maxHeartbeats 8000000 in
theorem mtick_any {w : World} {p : Nat} {m : Md} (H : MAt w p m) (hme : m.me < 6) (hs : 0 ≤ (m.ways m.me).1) (hs2 : (m.ways m.me).1 < 4611686018427387904) :
    Calls Try.prog 41 #[pv p] w fun e w' => e = .returned (.tuple #[]) ∧ MAt w' p (tickM m) ∧ Wr p w w' := by
  have c0 := H.me
  have hp := H.lt
  have fz := ZArr.free H
  obtain ⟨q0, q1, q2⟩ := H.ways hme
  have hmi : (m.me : Int) < 6 := by omega
  have wb : IntKind.i64.wrap ((m.ways m.me).1 + 1) = (m.ways m.me).1 + 1 := by rw [IntKind.wrap_i64]; omega
  have SM := hide (H.setAge hme ((m.ways m.me).1 + 1))
  have SW := hide ((Wr.refl p w).set (79 + m.me * 3) (iv ((m.ways m.me).1 + 1)))
  have HT : Hid (tickM m = { { m with ways := updW m.ways m.me ((m.ways m.me).1 + 1, (m.ways m.me).2.1, (m.ways m.me).2.2) } with bests := updW m.bests m.me ((m.ways m.me).1 + 1, 0) }) := rfl
  have HA : Hid ((updW m.ways m.me ((m.ways m.me).1 + 1, (m.ways m.me).2.1, (m.ways m.me).2.2) m.me).1 = (m.ways m.me).1 + 1) := by unfold Hid; simp [updW]
  clear H hs hs2
  generalize hM : ({ m with ways := updW m.ways m.me ((m.ways m.me).1 + 1, (m.ways m.me).2.1, (m.ways m.me).2.2) } : Md) = m1 at *
  have hm1 : m1.me = m.me := by rw [← hM]
  have hm2 : (m1.ways m.me).1 = (m.ways m.me).1 + 1 := by rw [← hM]; exact HA.out
  have HB : Hid (m1.bests = m.bests) := by unfold Hid; rw [← hM]
  generalize (m.ways m.me).1 = a at *
  go_enter Try.func41, Try.ntmps41
  go_upto_region 0 with (fail)
  go_still_tail 15, (by kernel_rfl)
  go_upto_region 1 with (fail)
  refine wp_gen (fun V => Hid (MAt V p m1) ∧ Hid (Wr p w V)) ⟨SM.out.gr (Gr.refl _).drew, SW.out.trans ((Gr.refl _).drew.wr p)⟩ ?_
  clear SM SW c0 hp fz q0 q1 q2
  rintro V ⟨M0, gW⟩
  have c0 := M0.out.me
  rw [hm1] at c0
  have hp := M0.out.lt
  have fz := ZArr.free M0.out
  obtain ⟨q0, _, _⟩ := M0.out.ways hme
  rw [hm2] at q0
  obtain ⟨r0, r1⟩ := M0.out.bests hme
  have SM := hide (M0.out.setBests hme (a + 1) 0)
  have SW := hide ((gW.out.set (97 + m.me * 2) (iv (a + 1))).set (97 + m.me * 2 + 1) (iv 0))
  clear M0 gW
  go_still_tail 19, (by kernel_rfl)
  go_wp2_with fail
  refine bodyPost_end (results_none rfl _ _ _) rfl ?_
  exact ⟨rfl, by rw [HT.out]; have := SM.out.gr (Gr.refl _).drew; rw [HB.out] at this; exact this, SW.out.trans ((Gr.refl _).drew.wr p)⟩

end Go.Proofs.Ytohbkhmpdegapad
