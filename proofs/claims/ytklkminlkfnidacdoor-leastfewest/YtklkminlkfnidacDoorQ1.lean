/- CONTRACT OF sort.insertionSort_func, the comparison making memory. -/
import Derived.Test.YtklkminlkfnidacDoorQ0
import Derived.WalkKit
namespace Go.Proofs.YtklkminlkfnidacDoor
open Go.RowKit Go.Sort

abbrev datV (lb sb : Array Value) : Value := .agg #[lesV lb, swaV sb]
theorem les_enters : ∀ args w, (callFunc 64 args).run Tryd.prog w = .ok (.enter 64 args) w := enters_of Tryd.func64 (by kernel_rfl) rfl

set_option maxHeartbeats 2000000 in
set_option maxRecDepth 100000 in
theorem insertion_any {B W : World} {g n : Nat} {lb sb : Array Value} {d : Array Pf} (hC : Cx B g n lb sb) (hS : SG B g d W) (hs : d.size = n) (hn : n ≤ 1000) {a b : Nat} (hab : a ≤ b) (hb : b ≤ n) :
    Calls Tryd.prog 91 #[datV lb sb, .int .i64 a, .int .i64 b] W fun e w' => e = .returned (.tuple #[]) ∧ SG B g (Sort.insertionSort ltP d a b) w' := by
  obtain ⟨A, hA, hD, hI, hOut⟩ := hC.door hS hs
  have HA := hide hA
  have HO := hide hOut
  have eg := les_enters
  clear hA hOut hC hS
  go_enter Tryd.func91, Tryd.ntmps91
  go_wp2
  rw [← HA.out]
  go_loopw [6] (fun vi wr => ∃ (i : Nat) (dk : Array Pf), vi = .int .i64 i ∧ a < i ∧ i ≤ b + 1 ∧ In A W.heap.size g n lb sb dk wr ∧ Hid (insOuter ltP a b i dk = insOuter ltP a b (a + 1) d)) (fun vi _ => b + 1 - (intOf vi).toNat)
  case atStart => exact ⟨a + 1, d, by go_num, by omega, by omega, hI, rfl⟩
  case round =>
    obtain ⟨i, dk, rfl, hai, hib, hk, HX⟩ := hrel
    by_cases hlt : i < b
    · go_wp2
      go_loopw [7] (fun vj wr2 => ∃ (j : Nat) (dj : Array Pf), vj = .int .i64 j ∧ a ≤ j ∧ j ≤ i ∧ In A W.heap.size g n lb sb dj wr2 ∧ Hid (insInner ltP a j dj = insInner ltP a i dk)) (fun vj _ => (intOf vj).toNat)
      case atStart => exact ⟨i, dk, rfl, by omega, Nat.le_refl _, hk, rfl⟩
      case round =>
        obtain ⟨j, dj, rfl, haj, hji, hj, HI⟩ := hrel
        have c0 := hj.c0
        have HOUT : Hid (∀ w1, In A W.heap.size g n lb sb dj w1 → (j ≤ a ∨ ltP dj[j]! dj[j - 1]! = false) → ∃ (i' : Nat) (dk' : Array Pf), Value.int .i64 ((i : Int) + 1) = .int .i64 i' ∧ a < i' ∧ i' ≤ b + 1 ∧ In A W.heap.size g n lb sb dk' w1 ∧ Hid (insOuter ltP a b i' dk' = insOuter ltP a b (a + 1) d)) := fun w1 h1 hst =>
          ⟨i + 1, dj, by go_num, by omega, by omega, h1, by unfold Hid; rw [← HX.out, insOuter_go _ _ _ _ _ hlt, ← HI.out, insInner_stop _ _ _ _ hst]⟩
        by_cases hja : a < j
        · cases hv : ltP dj[j]! dj[j - 1]! with
          | true =>
            have hl := hD.less hj (i := j) (j := j - 1) (by omega) (by omega) hv
            rw [show (((j - 1 : Nat) : Int)) = (j : Int) - 1 by omega] at hl
            have HL := hide hl
            clear hl
            go_wp2_with (go_at_fn 64; refine HL.out.mono ?_; rintro e w1 ⟨rfl, h1⟩; have c1 := h1.c1)
            obtain ⟨Y, hrun, hY⟩ := hD.swap h1 (i := j) (j := j - 1) (by omega) (by omega)
            rw [show (((j - 1 : Nat) : Int)) = (j : Int) - 1 by omega] at hrun
            rw [hrun, Oper.upon_value]
            go_wp2
            go_roundw
            case rel => exact ⟨j - 1, swp dj j (j - 1), by congr 1; omega, by omega, by omega, hY, by unfold Hid; rw [← HI.out, insInner_go ltP a j dj hja hv]⟩
            case measure => simp [intOf]; omega
          | false =>
            have hl := hD.less hj (i := j) (j := j - 1) (by omega) (by omega) hv
            rw [show (((j - 1 : Nat) : Int)) = (j : Int) - 1 by omega] at hl
            have HL := hide hl
            clear hl
            go_wp2_with (go_at_fn 64; refine HL.out.mono ?_; rintro e w1 ⟨rfl, h1⟩)
            go_roundw
            case rel => exact HOUT.out _ h1 (.inr hv)
            case measure => simp [intOf]; omega
        · go_wp2
          go_roundw
          case rel => exact HOUT.out _ hj (.inl (by omega))
          case measure => simp [intOf]; omega
    · have HE : Hid (insOuter ltP a b i dk = dk) := insOuter_stop _ _ _ _ _ hlt
      go_wp2
      go_end0
      exact ⟨rfl, HO.out _ _ (by unfold Sort.insertionSort; rw [← HX.out, HE.out]; exact hk.sg)⟩

end Go.Proofs.YtklkminlkfnidacDoor
