/- CONTRACT OF handpostlaw.trieBegun. -/
import Derived.Test.YtmlmcpopkcgflabT7
namespace Go.Proofs.Ytmlmcpopkcgflab
open Go.RowKit
attribute [local go_sem] Ext.all Ext.cell Ext.frozen Ext.lt Ext.lt1 Ext.lt2 Ext.ne Ext.ne'

theorem begun_leaf : (trT rsA).isLeaf = false := by decide +kernel
theorem begun_size : (trT rsA).leaves.length = 2 := by decide +kernel
theorem begun_128 : (trT rsA).look 128 = 3 := by rw [trT_look]; decide +kernel
theorem begun_0 : (trT rsA).look 0 = -1 := by rw [trT_look]; decide +kernel

theorem size_gr {B : World} {T : TT} {q n : Nat} (h : Tr B T q) (e : T.leaves.length = n) (hm : n ≤ 1000) (wX : World) (gX : Gr B wX) :
    Calls Try.prog 24 #[pv q] wX fun e w' => e = .returned (.int .i64 n) ∧ Gr wX w' := by
  subst e
  refine (size_any T wX q (h.gr gX) hm).mono ?_
  rintro e _ ⟨rfl, d, rfl⟩
  exact ⟨rfl, d.gr⟩
theorem look_gr {B : World} {T : TT} {q : Nat} {a x : Int} (h : Tr B T q) (e : T.look a = x) (wX : World) (gX : Gr B wX) :
    Calls Try.prog 25 #[pv q, .int .i64 a] wX fun e w' => e = .returned (.int .i64 x) ∧ Gr wX w' := by
  subst e
  refine (tlook_any T wX q a (h.gr gX)).mono ?_
  rintro e _ ⟨rfl, d, rfl⟩
  exact ⟨rfl, d.gr⟩
theorem leaf_gr {B : World} {T : TT} {q : Nat} {v : Bool} (h : Tr B T q) (e : T.isLeaf = v) (wX : World) (gX : Gr B wX) :
    Calls Try.prog 31 #[pv q] wX fun e w' => e = .returned (.bool v) ∧ Gr wX w' := by
  refine (leaf_as (h.gr gX) e).mono ?_
  rintro e _ ⟨rfl, d, rfl⟩
  exact ⟨rfl, d.gr⟩
theorem eqF_self (f : Nat → Int) : eqF f f = true := eqF_yes fun _ _ => rfl

set_option maxRecDepth 20000 in
set_option maxHeartbeats 2000000 in
theorem tbegun_any (w : World) :
    Calls Try.prog 18 #[] w fun e w' => e = .returned (.bool true) ∧ ∃ d : Ext w, w' = d.out := by
  have hA := hide (show setL [] 1 1 3 = (rsA, 0) by decide +kernel)
  have hl : rsA.length ≤ 1000 := by decide
  have S0 := hide (TabS.new w (fun k => k < w.heap.size) (fun _ h => h))
  obtain ⟨W0, hW0⟩ : ∃ W0, W0 = w.alloc (.cells #[.slice none 0 0] 65) := ⟨_, rfl⟩
  have g00 : Gr w W0 := by rw [hW0]; exact (Gr.refl w).alloc _
  have HW0 := hide hW0
  clear hW0
  rw [← HW0.out] at S0
  have hend : Hid (∀ w2, Kp (fun k => k < w.heap.size) W0 w2 → Gr w w2) := fun w2 h2 => Below.trans g00 (h2.below (Below.size g00) (fun _ h => h))
  go_enter Try.func18, Try.ntmps18
  go_wp2_with (first
    | (go_at_call 33; refine (new_any _).mono ?_; rintro e w1 ⟨rfl, hw1⟩; rw [← HW0.out] at hw1; subst hw1)
    | (go_at_call 16; with_reducible refine (set_is S0.out Tab.nil hA.out).mono ?_; rintro e w1 ⟨rfl, v1, S1, K1⟩; have S1h := hide S1; have GE := hide (hend.out _ K1); clear S1 K1)
    | (go_at_call 19; refine (tof_is S1h.out hl _ (Gr.refl _)).mono ?_; rintro e w2 ⟨q, rfl, t2, g2⟩; have TQ := hide t2; have G2 := hide g2; clear t2 g2)
    | (go_at_call 31; refine (leaf_gr TQ.out begun_leaf w2 (Gr.refl _)).mono ?_; rintro e w3 ⟨rfl, g3⟩; have G3 := hide g3; clear g3)
    | (go_at_call 24; refine (size_gr TQ.out begun_size (by decide) w3 G3.out).mono ?_; rintro e w4 ⟨rfl, g4⟩; have G4 := hide (G3.out.trans g4); clear g4)
    | (go_at_call 25; with_reducible refine (look_gr TQ.out begun_128 w4 G4.out).mono ?_; rintro e w5 ⟨rfl, g5⟩; have G5 := hide (G4.out.trans g5); clear g5)
    | (go_at_call 25; with_reducible refine (look_gr TQ.out begun_0 w5 G5.out).mono ?_; rintro e w6 ⟨rfl, g6⟩; have G6 := hide (G5.out.trans g6); clear g6)
    | (go_at_call 26; have X := tsame_is S1h.out S1h.out hl hl w6 (G2.out.trans G6.out); rw [eqF_self] at X; refine X.mono ?_; clear X; rintro e w7 ⟨rfl, g7⟩; have G7 := hide (G6.out.trans g7); clear g7))
  go_ret
  exact ⟨rfl, ext_mk ((GE.out.trans G2.out).trans G7.out)⟩

end Go.Proofs.Ytmlmcpopkcgflab
