import Derived.Test.YtimbgijpeomfcacGreatDoorQ4
import Derived.Sort.LotD7
import Derived.Sort.WalkB3
import Derived.Deep.Cut
/- CONTRACTS OF sort.reverseRange_func, siftDown_func, heapSort_func, the comparison making memory. -/
namespace Go.Proofs.YtimbgijpeomfcacGreatDoor
open Go.RowKit Go.Sort

set_option maxHeartbeats 2000000 in
set_option maxRecDepth 100000 in
theorem reverse_any {B W : World} {g n : Nat} {lb sb : Array Value} {d : Array Pf} (hC : Cx B g n lb sb) (hS : SG B g d W) (hs : d.size = n) (hn : n ≤ 1000) {a b : Nat} (hab : a < b) (hb : b ≤ n) :
    Calls Tryz.prog 94 #[datV lb sb, .int .i64 a, .int .i64 b] W fun e w' => e = .returned (.tuple #[]) ∧ SG B g (reverseRange d a b) w' := by
  obtain ⟨A, hA, hD, hI, hOut⟩ := hC.door hS hs
  have HA := hide hA
  have HO := hide hOut
  clear hA hOut hC hS
  go_enter Tryz.func94, Tryz.ntmps94
  go_wp2
  rw [← HA.out]
  go_loopw [6, 7] (fun vi vj wr => ∃ (i j : Nat) (dk : Array Pf), vi = .int .i64 i ∧ vj = .int .i64 j ∧ i ≤ j + 1 ∧ j < n ∧ In A W.heap.size g n lb sb dk wr ∧ Hid (reverseLoop i j dk = reverseLoop a (b - 1) d)) (fun vi vj _ => (intOf vj - intOf vi).toNat)
  case atStart => exact ⟨a, b - 1, d, rfl, by congr 1; omega, by omega, by omega, hI, rfl⟩
  case round =>
    obtain ⟨i, j, dk, rfl, rfl, hij, hjn, hk, HX⟩ := hrel
    have c1 := hk.c1
    by_cases hlt : i < j
    · have hd : decide ((i : Int) < (j : Int)) = true := decide_eq_true (by omega)
      obtain ⟨Y, hrun, hY⟩ := hD.swap hk (i := i) (j := j) (by omega) (by omega)
      go_wp2
      go_roundw
      case rel => exact ⟨i + 1, j - 1, swp dk i j, by go_num, by congr 1; omega, by omega, by omega, hY, by unfold Hid; rw [← HX.out]; conv => rhs; rw [reverseLoop, if_pos hlt]⟩
      case measure => simp [intOf]; omega
    · have hd : decide ((i : Int) < (j : Int)) = false := decide_eq_false (by omega)
      go_wp2
      go_end0
      exact ⟨rfl, HO.out _ _ (by unfold reverseRange; rw [← HX.out, reverseLoop, if_neg hlt]; exact hk.sg)⟩

set_option maxHeartbeats 4000000 in
set_option maxRecDepth 100000 in
theorem sift_any {B W : World} {g n : Nat} {lb sb : Array Value} {d : Array Pf} (hC : Cx B g n lb sb) (hS : SG B g d W) (hs : d.size = n) (hn : n ≤ 1000) {lo hi first : Nat} (hlo : lo ≤ 1000) (hb : first + hi ≤ n) :
    Calls Tryz.prog 102 #[datV lb sb, .int .i64 lo, .int .i64 hi, .int .i64 first] W fun e w' => e = .returned (.tuple #[]) ∧ SG B g (siftDown ltP hi first lo d) w' := by
  obtain ⟨A, hA, hD, hI, hOut⟩ := hC.door hS hs
  have HA := hide hA
  have HO := hide hOut
  have eg := les_enters
  clear hA hOut hC hS
  go_enter Tryz.func102, Tryz.ntmps102
  go_wp2
  rw [← HA.out]
  go_loopw [8] (fun vi wr => ∃ (r : Nat) (dk : Array Pf), vi = .int .i64 r ∧ r ≤ 1000 ∧ In A W.heap.size g n lb sb dk wr ∧ Hid (siftDown ltP hi first r dk = siftDown ltP hi first lo d)) (fun vi _ => hi - (intOf vi).toNat)
  case atStart => exact ⟨lo, d, rfl, hlo, hI, rfl⟩
  case round =>
    obtain ⟨r, dk, rfl, hr, hk, HX⟩ := hrel
    have c0 := hk.c0
    by_cases h1 : 2 * r + 1 ≥ hi
    · have hd : decide ((hi : Int) ≤ 2 * (r : Int) + 1) = true := decide_eq_true (by omega)
      have HE : Hid (siftDown ltP hi first r dk = dk) := by unfold Hid; rw [siftDown, dif_pos h1]
      go_wp2
      go_end0
      exact ⟨rfl, HO.out _ _ (by rw [← HX.out, HE.out]; exact hk.sg)⟩
    · have hd : decide ((hi : Int) ≤ 2 * (r : Int) + 1) = false := decide_eq_false (by omega)
      by_cases h2 : 2 * r + 1 + 1 < hi
      · have hd2 : decide (2 * (r : Int) + 1 + 1 < (hi : Int)) = true := decide_eq_true (by omega)
        cases hv : ltP dk[first + (2 * r + 1)]! dk[first + (2 * r + 1) + 1]!
        · have HL1 := hide (hD.less hk (i := first + (2 * r + 1)) (j := first + (2 * r + 1) + 1) (by omega) (by omega) hv)
          cases hv2 : ltP dk[first + r]! dk[first + (2 * r + 1)]!
          · have HE : Hid (siftDown ltP hi first r dk = dk) := by unfold Hid; rw [siftDown, dif_neg h1, if_neg (by simp [hv]), if_pos (by simp [hv2])]
            have HL2 := hide (fun w (h : In A W.heap.size g n lb sb dk w) => hD.less h (i := first + r) (j := first + (2 * r + 1)) (by omega) (by omega) hv2)
            push_cast at HL1 HL2
            go_wp2_with (first
              | (go_at_fn 52; with_reducible refine HL1.out.mono ?_; rintro e w1 ⟨rfl, k1⟩; have z0 := k1.c0; have z1 := k1.c1)
              | (go_at_fn 52; with_reducible refine (HL2.out _ k1).mono ?_; rintro e w2 ⟨rfl, k2⟩; have y1 := k2.c1)
              | fail)
            first | go_end0 | (refine bodyPost_ret (results_none rfl _ _ _) rfl ?_)
            exact ⟨rfl, HO.out _ _ (by rw [← HX.out, HE.out]; exact k2.sg)⟩
          · have HE : Hid (siftDown ltP hi first r dk = siftDown ltP hi first (2 * r + 1) (swp dk (first + r) (first + (2 * r + 1)))) := by unfold Hid; conv => lhs; rw [siftDown, dif_neg h1, if_neg (by simp [hv]), if_neg (by simp [hv2])]
            have HL2 := hide (fun w (h : In A W.heap.size g n lb sb dk w) => hD.less h (i := first + r) (j := first + (2 * r + 1)) (by omega) (by omega) hv2)
            have HSW := hide (fun w (h : In A W.heap.size g n lb sb dk w) => hD.swap h (i := first + r) (j := first + (2 * r + 1)) (by omega) (by omega))
            push_cast at HL1 HL2 HSW
            go_wp2_with (first
              | (go_at_fn 52; with_reducible refine HL1.out.mono ?_; rintro e w1 ⟨rfl, k1⟩; have z0 := k1.c0; have z1 := k1.c1)
              | (go_at_fn 52; with_reducible refine (HL2.out _ k1).mono ?_; rintro e w2 ⟨rfl, k2⟩; have y1 := k2.c1; obtain ⟨Y, hrun, hY⟩ := HSW.out _ k2)
              | fail)
            go_roundw
            case rel => exact ⟨2 * r + 1, swp dk (first + r) (first + (2 * r + 1)), by go_num, by omega, hY, by unfold Hid; rw [← HX.out, HE.out]⟩
            case measure => simp [intOf]; omega
        · have HL1 := hide (hD.less hk (i := first + (2 * r + 1)) (j := first + (2 * r + 1) + 1) (by omega) (by omega) hv)
          cases hv2 : ltP dk[first + r]! dk[first + (2 * r + 2)]!
          · have HE : Hid (siftDown ltP hi first r dk = dk) := by unfold Hid; rw [siftDown, dif_neg h1, if_pos (by simp [hv]; omega), if_pos (by simp [hv2])]
            have HL2 := hide (fun w (h : In A W.heap.size g n lb sb dk w) => hD.less h (i := first + r) (j := first + (2 * r + 2)) (by omega) (by omega) hv2)
            push_cast at HL1 HL2
            go_wp2_with (first
              | (go_at_fn 52; with_reducible refine HL1.out.mono ?_; rintro e w1 ⟨rfl, k1⟩; have z0 := k1.c0; have z1 := k1.c1)
              | (go_at_fn 52; with_reducible refine (HL2.out _ k1).mono ?_; rintro e w2 ⟨rfl, k2⟩; have y1 := k2.c1)
              | fail)
            first | go_end0 | (refine bodyPost_ret (results_none rfl _ _ _) rfl ?_)
            exact ⟨rfl, HO.out _ _ (by rw [← HX.out, HE.out]; exact k2.sg)⟩
          · have HE : Hid (siftDown ltP hi first r dk = siftDown ltP hi first (2 * r + 2) (swp dk (first + r) (first + (2 * r + 2)))) := by unfold Hid; conv => lhs; rw [siftDown, dif_neg h1, if_pos (by simp [hv]; omega), if_neg (by simp [hv2]), dif_pos (by omega)]
            have HL2 := hide (fun w (h : In A W.heap.size g n lb sb dk w) => hD.less h (i := first + r) (j := first + (2 * r + 2)) (by omega) (by omega) hv2)
            have HSW := hide (fun w (h : In A W.heap.size g n lb sb dk w) => hD.swap h (i := first + r) (j := first + (2 * r + 2)) (by omega) (by omega))
            push_cast at HL1 HL2 HSW
            go_wp2_with (first
              | (go_at_fn 52; with_reducible refine HL1.out.mono ?_; rintro e w1 ⟨rfl, k1⟩; have z0 := k1.c0; have z1 := k1.c1)
              | (go_at_fn 52; with_reducible refine (HL2.out _ k1).mono ?_; rintro e w2 ⟨rfl, k2⟩; have y1 := k2.c1; obtain ⟨Y, hrun, hY⟩ := HSW.out _ k2)
              | fail)
            go_roundw
            case rel => exact ⟨2 * r + 2, swp dk (first + r) (first + (2 * r + 2)), by go_num, by omega, hY, by unfold Hid; rw [← HX.out, HE.out]⟩
            case measure => simp [intOf]; omega
      · have hd2 : decide (2 * (r : Int) + 1 + 1 < (hi : Int)) = false := decide_eq_false (by omega)
        cases hv2 : ltP dk[first + r]! dk[first + (2 * r + 1)]!
        · have HE : Hid (siftDown ltP hi first r dk = dk) := by unfold Hid; rw [siftDown, dif_neg h1, if_neg (by simp; omega), if_pos (by simp [hv2])]
          have HL2 := hide (fun w (h : In A W.heap.size g n lb sb dk w) => hD.less h (i := first + r) (j := first + (2 * r + 1)) (by omega) (by omega) hv2)
          push_cast at HL2
          go_wp2_with (first
            | (go_at_fn 52; with_reducible refine (HL2.out _ hk).mono ?_; rintro e w2 ⟨rfl, k2⟩; have y1 := k2.c1)
            | fail)
          first | go_end0 | (refine bodyPost_ret (results_none rfl _ _ _) rfl ?_)
          exact ⟨rfl, HO.out _ _ (by rw [← HX.out, HE.out]; exact k2.sg)⟩
        · have HE : Hid (siftDown ltP hi first r dk = siftDown ltP hi first (2 * r + 1) (swp dk (first + r) (first + (2 * r + 1)))) := by unfold Hid; conv => lhs; rw [siftDown, dif_neg h1, if_neg (by simp; omega), if_neg (by simp [hv2])]
          have HL2 := hide (fun w (h : In A W.heap.size g n lb sb dk w) => hD.less h (i := first + r) (j := first + (2 * r + 1)) (by omega) (by omega) hv2)
          have HSW := hide (fun w (h : In A W.heap.size g n lb sb dk w) => hD.swap h (i := first + r) (j := first + (2 * r + 1)) (by omega) (by omega))
          push_cast at HL2 HSW
          go_wp2_with (first
            | (go_at_fn 52; with_reducible refine (HL2.out _ hk).mono ?_; rintro e w2 ⟨rfl, k2⟩; have y1 := k2.c1; obtain ⟨Y, hrun, hY⟩ := HSW.out _ k2)
            | fail)
          go_roundw
          case rel => exact ⟨2 * r + 1, swp dk (first + r) (first + (2 * r + 1)), by go_num, by omega, hY, by unfold Hid; rw [← HX.out, HE.out]⟩
          case measure => simp [intOf]; omega

end Go.Proofs.YtimbgijpeomfcacGreatDoor

/- CONTRACT OF sort.heapSort_func, the comparison making memory. -/
namespace Go.Proofs.YtimbgijpeomfcacGreatDoor
open Go.RowKit Go.Sort

set_option maxHeartbeats 4000000 in
set_option maxRecDepth 100000 in
theorem heap_any {B W : World} {g n : Nat} {lb sb : Array Value} {d : Array Pf} (hC : Cx B g n lb sb) (hS : SG B g d W) (hs : d.size = n) (hn : n ≤ 1000) {a b : Nat} (hab : a < b) (hb : b ≤ n) :
    Calls Tryz.prog 91 #[datV lb sb, .int .i64 a, .int .i64 b] W fun e w' => e = .returned (.tuple #[]) ∧ SG B g (heapSort ltP d a b) w' := by
  obtain ⟨A, hA, hD, hI, hOut⟩ := hC.door hS hs
  have HA := hide hA
  have HO := hide hOut
  obtain ⟨hi, hhi⟩ : ∃ hi, b - a = hi := ⟨_, rfl⟩
  have e1 : (b : Int) - (a : Int) = (hi : Int) := by omega
  have HF := hide (fun (dk : Array Pf) lo hi' w (h : In A W.heap.size g n lb sb dk w) (hl : lo ≤ 1000) (hb' : a + hi' ≤ n) => sift_any hD.cx h.sg h.size hn (lo := lo) (hi := hi') (first := a) hl hb')
  have HH : Hid (heapSort ltP d a b = heapPop ltP a hi (heapBuild ltP hi a ((hi - 1) / 2 + 1) d)) := by unfold Hid heapSort; rw [hhi]
  clear hA hOut hC hS
  go_enter Tryz.func91, Tryz.ntmps91
  go_upto_region 4 with (fail)
  rw [← HA.out]
  have hd2 : (((hi : Int) - 1) / 2) = (((hi - 1) / 2 + 1 : Nat) : Int) - 1 := by omega
  have htd : ((hi : Int) - 1).tdiv 2 = (((hi - 1) / 2 + 1 : Nat) : Int) - 1 := by rw [Int.tdiv_eq_ediv_of_nonneg (by omega)]; omega
  obtain ⟨K, hK⟩ : ∃ K, (hi - 1) / 2 + 1 = K := ⟨_, rfl⟩
  rw [hK] at hd2 htd HH
  have hKh : K ≤ hi := by omega
  go_wp2_with (simp only [hd2, htd])
  go_loopw [9] (fun vi wr => ∃ (k : Nat) (dk : Array Pf), vi = .int .i64 ((k : Int) - 1) ∧ k ≤ hi ∧ In A W.heap.size g n lb sb dk wr ∧ Hid (heapBuild ltP hi a k dk = heapBuild ltP hi a K d)) (fun vi _ => (intOf vi + 1).toNat)
  case atStart => exact ⟨K, d, by first | rfl | (congr 1; omega), hKh, hI, rfl⟩
  case round =>
    obtain ⟨k, dk, rfl, hk, hw, HX⟩ := hrel
    have c0 := hw.c0
    have c1 := hw.c1
    by_cases h0 : k = 0
    · subst h0
      have HE : Hid (heapBuild ltP hi a 0 dk = dk) := rfl
      rw [show (((0 : Nat) : Int) - 1) = -1 from rfl]
      have hdd : decide ((0 : Int) ≤ (-1 : Int)) = false := by decide
      go_wp2_with fail
      go_loopw [10] (fun vi wr => ∃ (k : Nat) (dq : Array Pf), vi = .int .i64 ((k : Int) - 1) ∧ k ≤ hi ∧ In A W.heap.size g n lb sb dq wr ∧ Hid (heapPop ltP a k dq = heapPop ltP a hi dk)) (fun vi _ => (intOf vi + 1).toNat)
      case atStart => exact ⟨hi, dk, by first | rfl | (congr 1; omega), Nat.le_refl _, hw, rfl⟩
      case round =>
        obtain ⟨q, dq, rfl, hq, hwq, HY⟩ := hrel
        have b0 := hwq.c0
        have b1 := hwq.c1
        by_cases hq0 : q = 0
        · subst hq0
          have hdq : decide ((0 : Int) ≤ ((0 : Nat) : Int) - 1) = false := by decide
          go_wp2_with fail
          go_end0
          exact ⟨rfl, HO.out _ _ (by rw [HH.out, ← HX.out, HE.out, ← HY.out]; exact hwq.sg)⟩
        · obtain ⟨q', rfl⟩ : ∃ q', q = q' + 1 := ⟨q - 1, by omega⟩
          have eq : (((q' + 1 : Nat) : Int) - 1) = (q' : Int) := by omega
          rw [eq]
          have hdq : decide ((0 : Int) ≤ (q' : Int)) = true := decide_eq_true (by omega)
          obtain ⟨Y, hrun, hY⟩ := hD.swap hwq (i := a) (j := a + q') (by omega) (by omega)
          push_cast at hrun
          have d0 := hY.c0
          have d1 := hY.c1
          have HF1 := hide (HF.out _ 0 q' Y hY (by omega) (by omega))
          go_wp2_with (go_at_call 102; refine HF1.out.mono ?_; rintro e w2 ⟨rfl, hw2⟩)
          go_roundw
          case rel => exact ⟨q', _, by congr 1 <;> omega, by omega, hD.in hw2 (by rw [size_siftDown ltP _ _ _ _ _ (Nat.le_refl _), size_swp]; exact hwq.size), by unfold Hid; rw [← HY.out, heapPop]⟩
          case measure => first | (simp [intOf]; done) | (simp [intOf]; omega)
    · obtain ⟨k', rfl⟩ : ∃ k', k = k' + 1 := ⟨k - 1, by omega⟩
      have eq : (((k' + 1 : Nat) : Int) - 1) = (k' : Int) := by omega
      rw [eq]
      have hdk : decide ((0 : Int) ≤ (k' : Int)) = true := decide_eq_true (by omega)
      have HF1 := hide (HF.out _ k' hi wr hw (by omega) (by omega))
      go_wp2_with (go_at_call 102; refine HF1.out.mono ?_; rintro e w2 ⟨rfl, hw2⟩)
      go_roundw
      case rel => exact ⟨k', _, by congr 1 <;> omega, by omega, hD.in hw2 (by rw [size_siftDown ltP _ _ _ _ _ (Nat.le_refl _)]; exact hw.size), by unfold Hid; rw [← HX.out, heapBuild]⟩
      case measure => first | (simp [intOf]; done) | (simp [intOf]; omega)

end Go.Proofs.YtimbgijpeomfcacGreatDoor
