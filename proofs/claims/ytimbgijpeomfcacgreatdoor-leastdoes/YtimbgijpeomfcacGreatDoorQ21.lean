import Derived.Test.YtimbgijpeomfcacGreatDoorQ4
import Derived.Sort.LotA
import Derived.Deep.CutRange
import Derived.Deep.CutBlock
import Derived.Test.YtimbgijpeomfcacGreatDoorQ13
import Derived.Test.YtimbgijpeomfcacGreatDoorQ20
import Derived.Test.YtimbgijpeomfcacGreatDoorQ17
import Derived.Sort.LotB
import Derived.Sort.LotC
import Derived.Sort.LotD3
/- CONTRACT OF sort.partialInsertionSort_func, the comparison making memory. -/
namespace Go.Proofs.YtimbgijpeomfcacGreatDoor
open Go.RowKit Go.Sort

theorem shiftDown_stop (j : Nat) (d : Array Pf) (h : j = 0 ∨ ltP d[j]! d[j - 1]! = false) : shiftDown ltP j d = d := by
  cases j with
  | zero => rfl
  | succ j =>
    rcases h with h | h
    · omega
    · rw [shiftDown, if_pos (by rw [show j + 1 - 1 = j by omega] at h; simp [h])]
theorem shiftDown_go (j : Nat) (d : Array Pf) (h0 : 0 < j) (h : ltP d[j]! d[j - 1]! = true) : shiftDown ltP j d = shiftDown ltP (j - 1) (swp d j (j - 1)) := by
  cases j with
  | zero => omega
  | succ j => rw [shiftDown, if_neg (by rw [show j + 1 - 1 = j by omega] at h; simp [h]), show j + 1 - 1 = j by omega]

set_option maxHeartbeats 8000000 in
set_option maxRecDepth 100000 in
theorem partial_any {B W : World} {g n : Nat} {lb sb : Array Value} {d : Array Pf} (hC : Cx B g n lb sb) (hS : SG B g d W) (hs : d.size = n) (hn : n ≤ 1000) {a b : Nat} (hab : a < b) (hb : b ≤ n) :
    Calls Tryz.prog 95 #[datV lb sb, .int .i64 a, .int .i64 b] W fun e w' => e = .returned (.bool (partialInsertionSort ltP d a b).2) ∧ SG B g (partialInsertionSort ltP d a b).1 w' := by
  obtain ⟨A, hA, hD, hI, hOut⟩ := hC.door hS hs
  have HA := hide hA
  have HO := hide hOut
  have eg := les_enters
  obtain ⟨PR, hPR⟩ : ∃ PR, partialInsertionSort ltP d a b = PR := ⟨_, rfl⟩
  have HP : Hid (partialIns ltP a b 5 (a + 1) d = PR) := hPR
  rw [hPR]
  clear hA hOut hC hS hPR
  go_enter Tryz.func95, Tryz.ntmps95
  go_upto_region 1 with (fail)
  rw [← HA.out]
  go_wp2_with fail
  go_loopw [7, 8, 9, 10] (fun vi vj _ _ wr => ∃ (s i : Nat) (dk : Array Pf), vi = .int .i64 i ∧ vj = .int .i64 (5 - (s : Int)) ∧ s ≤ 5 ∧ a < i ∧ i ≤ b ∧ In A W.heap.size g n lb sb dk wr ∧ Hid (partialIns ltP a b s i dk = PR)) (fun _ vj _ _ _ => (5 - intOf vj).toNat)
  case atStart => exact ⟨5, a + 1, d, by go_num, by rfl, by omega, by omega, by omega, hI, HP⟩
  case round =>
    obtain ⟨s, i, dk, rfl, rfl, hs5, hai, hib, hk, HX⟩ := hrel
    by_cases h0 : s = 0
    · subst h0
      rw [show ((5 : Int) - ((0 : Nat) : Int)) = 5 from rfl]
      have HE : Hid (PR = (dk, false)) := by unfold Hid; rw [← HX.out]; rfl
      go_wp2_with fail
      go_ret
      exact ⟨by rw [HE.out]; first | done | rfl, HO.out _ _ (by rw [HE.out]; exact hk.sg)⟩
    · obtain ⟨s', hs'⟩ : ∃ s', s' + 1 = s := ⟨s - 1, by omega⟩
      have hds : decide ((5 : Int) - (s : Int) < 5) = true := decide_eq_true (by omega)
      have HX1 : Hid (partialIns ltP a b (s' + 1) i dk = PR) := by rw [hs']; exact HX
      have hs1 : s ≤ s' + 1 := by omega
      have hs2 : s' + 1 ≤ s := by omega
      clear hs' HX
      go_upto_block 2 with (fail)
      go_cut [7] from 17 to 30 (fun vk wc => ∃ k : Nat, vk = .int .i64 k ∧ i ≤ k ∧ k ≤ b ∧ In A W.heap.size g n lb sb dk wc ∧ Hid (scanSorted ltP dk b i = k))
      case first =>
        go_wp2_with fail
        go_loopw [7] (fun vk wr2 => ∃ k : Nat, vk = .int .i64 k ∧ i ≤ k ∧ k ≤ b ∧ In A W.heap.size g n lb sb dk wr2 ∧ Hid (scanSorted ltP dk b k = scanSorted ltP dk b i)) (fun vk _ => b - (intOf vk).toNat)
        case atStart => exact ⟨i, rfl, Nat.le_refl _, hib, hk, rfl⟩
        case round =>
          obtain ⟨k, rfl, hik, hkb, kk, HK⟩ := hrel
          have c0 := kk.c0
          by_cases hlt : k < b
          · have hdl : decide ((k : Int) < (b : Int)) = true := decide_eq_true (by omega)
            cases hv : ltP dk[k]! dk[k - 1]!
            · have hl := hD.less kk (i := k) (j := k - 1) (by omega) (by omega) hv
              rw [show (((k - 1 : Nat) : Int)) = (k : Int) - 1 by omega] at hl
              have HL := hide hl
              clear hl
              go_wp2_with (go_at_fn 52; refine HL.out.mono ?_; rintro e w1 ⟨rfl, k1⟩)
              go_roundw
              case rel => exact ⟨k + 1, by go_num, by omega, by omega, k1, by unfold Hid; rw [← HK.out]; conv => rhs; rw [scanSorted, if_pos (by simp [hlt, hv])]⟩
              case measure => simp [intOf]; omega
            · have hl := hD.less kk (i := k) (j := k - 1) (by omega) (by omega) hv
              rw [show (((k - 1 : Nat) : Int)) = (k : Int) - 1 by omega] at hl
              have HL := hide hl
              clear hl
              have HKS : Hid (scanSorted ltP dk b i = k) := by unfold Hid; rw [← HK.out, scanSorted, if_neg (by simp [hv])]
              go_wp2_with (go_at_fn 52; refine HL.out.mono ?_; rintro e w1 ⟨rfl, k1⟩)
              go_meet
              case rel => exact ⟨k, rfl, hik, hkb, k1, HKS⟩
          · have hdl : decide ((k : Int) < (b : Int)) = false := decide_eq_false (by omega)
            have HKS : Hid (scanSorted ltP dk b i = k) := by unfold Hid; rw [← HK.out, scanSorted, if_neg (by simp; omega)]
            go_wp2_with fail
            go_meet
            case rel => exact ⟨k, rfl, hik, hkb, kk, HKS⟩
      case rest =>
        obtain ⟨k, rfl, hik, hkb, kk, HKS⟩ := hcut
        have HX2 : Hid ((if k = b then (dk, true) else if b - a < 50 then (dk, false) else partialIns ltP a b s' k (fixUp ltP b k (fixDown ltP a k (swp dk k (k - 1))))) = PR) := by
          unfold Hid; rw [← HX1.out, partialIns_succ, HKS.out]
        by_cases hkb' : k = b
        · have HE : Hid (PR = (dk, true)) := by unfold Hid; rw [← HX2.out, if_pos hkb']
          subst hkb'
          go_wp2_with fail
          go_ret
          exact ⟨by rw [HE.out]; first | done | rfl, HO.out _ _ (by rw [HE.out]; exact kk.sg)⟩
        · have hne : ¬ (k : Int) = (b : Int) := by omega
          have hbe : ((k : Int) == (b : Int)) = false := by simp [hne]
          by_cases h50 : b - a < 50
          · have HE : Hid (PR = (dk, false)) := by unfold Hid; rw [← HX2.out, if_neg hkb', if_pos h50]
            have hd5 : decide ((b : Int) - (a : Int) < 50) = true := decide_eq_true (by omega)
            go_wp2_with fail
            go_ret
            exact ⟨by rw [HE.out]; first | done | rfl, HO.out _ _ (by rw [HE.out]; exact kk.sg)⟩
          · have hd5 : decide ((b : Int) - (a : Int) < 50) = false := decide_eq_false (by omega)
            have c1 := kk.c1
            obtain ⟨Y, hrun, hY⟩ := hD.swap kk (i := k) (j := k - 1) (by omega) (by omega)
            rw [show (((k - 1 : Nat) : Int)) = (k : Int) - 1 by omega] at hrun
            have HX3 : Hid (partialIns ltP a b s' k (fixUp ltP b k (fixDown ltP a k (swp dk k (k - 1)))) = PR) := by unfold Hid; rw [← HX2.out, if_neg hkb', if_neg h50]
            generalize swp dk k (k - 1) = d1 at hY HX3
            go_upto_if 47 with (fail)
            clear hrun
            go_cut [9] from 31 to 66 (fun _ wc => In A W.heap.size g n lb sb (fixDown ltP a k d1) wc)
            case first =>
              by_cases h2 : k - a ≥ 2
              · have HF : Hid (shiftDown ltP (k - 1) d1 = fixDown ltP a k d1) := by unfold Hid fixDown; rw [if_pos h2]
                have hd2 : decide ((2 : Int) ≤ (k : Int) - (a : Int)) = true := decide_eq_true (by omega)
                rw [hd2]
                go_wp2_with fail
                go_loopw [9] (fun v9 wr2 => ∃ (j : Nat) (dj : Array Pf), v9 = .int .i64 j ∧ j ≤ k - 1 ∧ In A W.heap.size g n lb sb dj wr2 ∧ Hid (shiftDown ltP j dj = fixDown ltP a k d1)) (fun v9 _ => (intOf v9).toNat)
                case atStart => exact ⟨k - 1, d1, by congr 1; omega, Nat.le_refl _, hY, HF⟩
                case round =>
                  obtain ⟨j, dj, rfl, hj, kj, HJ⟩ := hrel
                  have f0 := kj.c0
                  have f1 := kj.c1
                  by_cases j0 : 0 < j
                  · have hd1 : decide ((1 : Int) ≤ (j : Int)) = true := decide_eq_true (by omega)
                    cases hv : ltP dj[j]! dj[j - 1]!
                    · have hl := hD.less kj (i := j) (j := j - 1) (by omega) (by omega) hv
                      rw [show (((j - 1 : Nat) : Int)) = (j : Int) - 1 by omega] at hl
                      have HL := hide hl
                      clear hl
                      have HE : Hid (fixDown ltP a k d1 = dj) := by unfold Hid; rw [← HJ.out, shiftDown_stop j dj (.inr hv)]
                      go_wp2_with (go_at_fn 52; refine HL.out.mono ?_; rintro e w1 ⟨rfl, k1⟩)
                      go_meet
                      case rel => rw [HE.out]; exact k1
                    · have hl := hD.less kj (i := j) (j := j - 1) (by omega) (by omega) hv
                      rw [show (((j - 1 : Nat) : Int)) = (j : Int) - 1 by omega] at hl
                      have HL := hide hl
                      clear hl
                      go_wp2_with (go_at_fn 52; refine HL.out.mono ?_; rintro e w1 ⟨rfl, k1⟩; have f2 := k1.c1)
                      obtain ⟨Z, hrun2, hZ⟩ := hD.swap k1 (i := j) (j := j - 1) (by omega) (by omega)
                      rw [show (((j - 1 : Nat) : Int)) = (j : Int) - 1 by omega] at hrun2
                      rw [hrun2, Oper.upon_value]
                      go_wp2_with fail
                      go_roundw
                      case rel => exact ⟨j - 1, swp dj j (j - 1), by congr 1; omega, by omega, hZ, by unfold Hid; rw [← HJ.out, ← shiftDown_go j dj j0 hv]⟩
                      case measure => simp [intOf]; omega
                  · have hd1 : decide ((1 : Int) ≤ (j : Int)) = false := decide_eq_false (by omega)
                    have HE : Hid (fixDown ltP a k d1 = dj) := by unfold Hid; rw [← HJ.out, shiftDown_stop j dj (.inl (by omega))]
                    go_wp2_with fail
                    go_meet
                    case rel => rw [HE.out]; exact kj
              · have HF : Hid (fixDown ltP a k d1 = d1) := by unfold Hid fixDown; rw [if_neg h2]
                have hd2 : decide ((2 : Int) ≤ (k : Int) - (a : Int)) = false := decide_eq_false (by omega)
                go_wp2_with fail
                go_meet
                case rel => rw [HF.out]; exact hY
            case rest =>
              have hY2 := hcut
              generalize fixDown ltP a k d1 = d2 at hY2 HX3
              clear hY
              by_cases h2 : b - k ≥ 2
              · have HF : Hid (shiftUp ltP b (k + 1) d2 = fixUp ltP b k d2) := by unfold Hid fixUp; rw [if_pos h2]
                have hd2 : decide ((2 : Int) ≤ (b : Int) - (k : Int)) = true := decide_eq_true (by omega)
                go_wp2_with fail
                go_loopw [10] (fun v9 wr2 => ∃ (j : Nat) (dj : Array Pf), v9 = .int .i64 j ∧ k + 1 ≤ j ∧ j ≤ b ∧ In A W.heap.size g n lb sb dj wr2 ∧ Hid (shiftUp ltP b j dj = fixUp ltP b k d2)) (fun v9 _ => b - (intOf v9).toNat)
                case atStart => exact ⟨k + 1, d2, by go_num, Nat.le_refl _, by omega, hY2, HF⟩
                case round =>
                  obtain ⟨j, dj, rfl, hj, hjb, kj, HJ⟩ := hrel
                  have f0 := kj.c0
                  have f1 := kj.c1
                  by_cases j0 : j < b
                  · have hd1 : decide ((j : Int) < (b : Int)) = true := decide_eq_true (by omega)
                    cases hv : ltP dj[j]! dj[j - 1]!
                    · have hl := hD.less kj (i := j) (j := j - 1) (by omega) (by omega) hv
                      rw [show (((j - 1 : Nat) : Int)) = (j : Int) - 1 by omega] at hl
                      have HL := hide hl
                      clear hl
                      have HE : Hid (fixUp ltP b k d2 = dj) := by unfold Hid; rw [← HJ.out, shiftUp, if_pos j0, if_pos (by simp [hv])]
                      go_wp2_with (go_at_fn 52; refine HL.out.mono ?_; rintro e w1 ⟨rfl, k1⟩)
                      go_roundw
                      case rel => exact ⟨s', k, dj, rfl, by congr 1; omega, by omega, by omega, hkb, k1, by rw [← HE.out]; exact HX3⟩
                      case measure => simp [intOf]; omega
                    · have hl := hD.less kj (i := j) (j := j - 1) (by omega) (by omega) hv
                      rw [show (((j - 1 : Nat) : Int)) = (j : Int) - 1 by omega] at hl
                      have HL := hide hl
                      clear hl
                      have HN : Hid (shiftUp ltP b j dj = shiftUp ltP b (j + 1) (swp dj j (j - 1))) := by unfold Hid; conv => lhs; rw [shiftUp, if_pos j0, if_neg (by simp [hv])]
                      go_wp2_with (go_at_fn 52; refine HL.out.mono ?_; rintro e w1 ⟨rfl, k1⟩; have f2 := k1.c1)
                      obtain ⟨Z, hrun2, hZ⟩ := hD.swap k1 (i := j) (j := j - 1) (by omega) (by omega)
                      rw [show (((j - 1 : Nat) : Int)) = (j : Int) - 1 by omega] at hrun2
                      rw [hrun2, Oper.upon_value]
                      go_wp2_with fail
                      go_roundw
                      case rel => exact ⟨j + 1, swp dj j (j - 1), by go_num, by omega, by omega, hZ, by unfold Hid; rw [← HJ.out, HN.out]⟩
                      case measure => simp [intOf]; omega
                  · have hd1 : decide ((j : Int) < (b : Int)) = false := decide_eq_false (by omega)
                    have HE : Hid (fixUp ltP b k d2 = dj) := by unfold Hid; rw [← HJ.out, shiftUp, if_neg j0]
                    go_wp2_with fail
                    go_roundw
                    case rel => exact ⟨s', k, dj, rfl, by congr 1; omega, by omega, by omega, hkb, kj, by rw [← HE.out]; exact HX3⟩
                    case measure => simp [intOf]; omega
              · have HF : Hid (fixUp ltP b k d2 = d2) := by unfold Hid fixUp; rw [if_neg h2]
                have hd2 : decide ((2 : Int) ≤ (b : Int) - (k : Int)) = false := decide_eq_false (by omega)
                go_wp2_with fail
                go_roundw
                case rel => exact ⟨s', k, d2, rfl, by congr 1; omega, by omega, by omega, hkb, hY2, by rw [HF.out] at HX3; exact HX3⟩
                case measure => simp [intOf]; omega

end Go.Proofs.YtimbgijpeomfcacGreatDoor

/- CONTRACT OF sort.pdqsort_func, the comparison making memory. -/
namespace Go.Proofs.YtimbgijpeomfcacGreatDoor
open Go.RowKit Go.Sort

def PdqAny (N : Nat) : Prop := ∀ (B W : World) (g n a b lim : Nat) (lb sb : Array Value) (d : Array Pf), Cx B g n lb sb → SG B g d W → d.size = n → n ≤ 1000 → a ≤ b → b ≤ n → b - a ≤ N → lim ≤ 1000 → Go.Sort.Below ltP a b d →
  Calls Tryz.prog 73 #[datV lb sb, .int .i64 a, .int .i64 b, .int .i64 lim] W fun e w' => e = .returned (.tuple #[]) ∧ ∃ d', PermIn a b d d' ∧ SortedIn ltP a b d' ∧ SG B g d' w'

set_option maxHeartbeats 40000000 in
set_option maxRecDepth 100000 in
theorem pdq_step (N : Nat) (ih : ∀ M, M < N → PdqAny M) : PdqAny N := by
  intro B W g n a b lim lb sb d hC hS hs hn hab hb hN hl hBel
  obtain ⟨A, hA, hD, hI, hOut⟩ := hC.door hS hs
  have HA := hide hA
  have HO := hide hOut
  have eg := les_enters
  have HIH := hide ih
  have HBel := hide hBel
  clear hA hOut hC hS ih hBel
  go_enter Tryz.func73, Tryz.ntmps73
  go_upto_region 1 with (fail)
  rw [← HA.out]
  go_wp2_with fail
  go_loopw [1, 2, 3, 8, 9, 10, 11, 12, 13, 14, 15, 16, 17, 18] (fun v1 v2 v3 v8 v9 _ _ _ _ _ _ _ _ _ wr => ∃ (a' b' l' : Nat) (wb wp : Bool) (dk : Array Pf), v1 = .int .i64 a' ∧ v2 = .int .i64 b' ∧ v3 = .int .i64 l' ∧ v8 = .bool wb ∧ v9 = .bool wp ∧ a' ≤ b' ∧ b' ≤ n ∧ b' - a' ≤ N ∧ l' ≤ 1000 ∧ In A W.heap.size g n lb sb dk wr ∧ Hid (Go.Sort.Below ltP a' b' dk) ∧ Hid (∀ R, PermIn a' b' dk R → SortedIn ltP a' b' R → PermIn a b d R ∧ SortedIn ltP a b R)) (fun v1 v2 _ _ _ _ _ _ _ _ _ _ _ _ _ => (intOf v2 - intOf v1).toNat)
  case atStart => exact ⟨a, b, lim, true, true, d, rfl, rfl, rfl, rfl, rfl, hab, hb, hN, hl, hI, HBel, fun R h1 h2 => ⟨h1, h2⟩⟩
  case round =>
    clear HBel hI hab hb hN hl
    obtain ⟨a', b', l', wb, wp, dk, rfl, rfl, rfl, rfl, rfl, hab, hb, hN, hl, hk, HB, HR⟩ := hrel
    obtain ⟨ln, hln1, hln2⟩ : ∃ ln, b' ≤ a' + ln ∧ a' + ln ≤ b' := ⟨b' - a', by omega, by omega⟩
    have eln : (b' : Int) - (a' : Int) = (ln : Int) := by omega
    have c0 := hk.c0
    have c1 := hk.c1
    by_cases h12 : ln ≤ 12
    · have hd12 : decide ((ln : Int) ≤ 12) = true := decide_eq_true (by omega)
      have HI := hide (insertion_any hD.cx hk.sg hk.size hn (a := a') (b := b') (by omega) hb)
      have HF := hide (insertionSort_holds (lt := ltP) ltP_swo dk a' b' (by omega) (by rw [hk.size]; exact hb))
      go_wp2_with (go_at_call 90; refine HI.out.mono ?_; rintro e w' ⟨rfl, hw⟩)
      (try simp only [Exit.inBlock, Exit.then])
      refine bodyPost_ret (results_none rfl _ _ _) rfl ?_
      exact ⟨rfl, _, (HR.out _ HF.out.1 HF.out.2).1, (HR.out _ HF.out.1 HF.out.2).2, HO.out _ _ hw⟩
    · have hd12 : decide ((ln : Int) ≤ 12) = false := decide_eq_false (by omega)
      by_cases hl0 : l' = 0
      · subst hl0
        rw [show (((0 : Nat) : Int)) = 0 from rfl]
        have HI := hide (heap_any hD.cx hk.sg hk.size hn (a := a') (b := b') (by omega) hb)
        have HF := hide (heapSort_holds (lt := ltP) ltP_swo dk a' b' (by omega) (by rw [hk.size]; exact hb))
        go_wp2_with (go_at_call 91; refine HI.out.mono ?_; rintro e w' ⟨rfl, hw⟩)
        (try simp only [Exit.inBlock, Exit.then])
        refine bodyPost_ret (results_none rfl _ _ _) rfl ?_
        exact ⟨rfl, _, (HR.out _ HF.out.1 HF.out.2).1, (HR.out _ HF.out.1 HF.out.2).2, HO.out _ _ hw⟩
      · have hbl : ((l' : Int) == 0) = false := by simp; omega
        go_upto_if 35 with (fail)
        go_cut [3] from 19 to 41 (fun v3 wc => ∃ (l2 : Nat) (d2 : Array Pf), v3 = .int .i64 l2 ∧ l2 ≤ 1000 ∧ In A W.heap.size g n lb sb d2 wc ∧ PermIn a' b' dk d2)
        case first =>
          cases wb
          · have HP := hide (breakp_any hD.cx hk.sg hk.size hn (a := a') (b := b') (by omega) hb)
            go_wp2_with (go_at_call 92; refine HP.out.mono ?_; rintro e w' ⟨rfl, d2, hP2, hw⟩)
            go_meet
            case rel => exact ⟨l' - 1, d2, by congr 1; omega, by omega, hD.in hw (by rw [hP2.1]; exact hk.size), hP2⟩
          · go_wp2_with fail
            go_meet
            case rel => exact ⟨l', dk, rfl, hl, hk, permIn_refl _ _ _⟩
        case rest =>
          obtain ⟨l2, d2, rfl, hl2, hk2, hP2⟩ := hcut
          clear c0 c1 hbl hl0 hl
          have c0 := hk2.c0
          have c1 := hk2.c1
          have HCH := hide (choose_any hD.cx hk2.sg hk2.size hn (a := a') (b := b') (by omega) hb)
          go_upto_if 50 with (go_at_call 93; refine HCH.out.mono ?_; rintro e w' ⟨p, h, rfl, hp1, hp2, hh, hw⟩)
          have hkw : In A W.heap.size g n lb sb d2 w' := hD.in hw hk2.size
          clear c0 c1
          have c0 := hkw.c0
          have c1 := hkw.c1
          go_cut [11, 12] from 19 to 60 (fun v11 v12 wc => ∃ (p h : Nat) (d3 : Array Pf), v11 = .int .i64 p ∧ v12 = .int .i64 h ∧ a' ≤ p ∧ p < b' ∧ h ≤ 2 ∧ In A W.heap.size g n lb sb d3 wc ∧ PermIn a' b' dk d3)
          case first =>
            by_cases h2 : h = 2
            · subst h2
              rw [show (((2 : Nat) : Int)) = 2 from rfl]
              have HRV := hide (reverse_any hD.cx hkw.sg hkw.size hn (a := a') (b := b') (by omega) hb)
              have HRP := hide (reverseRange_holds d2 a' b' (by omega) (by rw [hkw.size]; exact hb))
              go_wp2_with (go_at_call 94; refine HRV.out.mono ?_; rintro e w2 ⟨rfl, hw2⟩)
              go_meet
              case rel => exact ⟨b' - 1 - (p - a'), 1, _, by congr 1; omega, rfl, by omega, by omega, by omega, hD.in hw2 (by rw [HRP.out.1]; exact hkw.size), permIn_trans _ _ _ _ _ hP2 HRP.out⟩
            · have hb2 : ((h : Int) == 2) = false := by simp; omega
              rw [hb2]
              go_wp2_with fail
              go_meet
              case rel => exact ⟨p, h, d2, rfl, rfl, hp1, hp2, hh, hkw, hP2⟩
          case rest =>
            clear c0 c1 hkw hw hk2 hP2 hp1 hp2 hh HCH
            obtain ⟨p, h, d3, rfl, rfl, hp1, hp2, hh, hk3, hP3⟩ := hcut
            go_upto_region 16 with (fail)
            go_cut [68] from 19 to 67 (fun v68 wc => ∃ t : Bool, v68 = .bool t ∧ In A W.heap.size g n lb sb d3 wc)
            case first =>
              cases wb
              · go_wp2_with fail
                go_meet
                case rel => exact ⟨_, rfl, hk3⟩
              · cases wp
                · go_wp2_with fail
                  go_meet
                  case rel => exact ⟨_, rfl, hk3⟩
                · go_wp2_with fail
                  go_meet
                  case rel => exact ⟨_, rfl, hk3⟩
            case rest =>
              clear hk3
              obtain ⟨t, rfl, hk3⟩ := hcut
              have hB3 := hide (HB.out.permA permIn_all (by rw [hk.size]; exact hb) hP3)
              go_upto_if 68 with (fail)
              go_cut [] from 19 to 72 (fun wc => ∃ d4 : Array Pf, In A W.heap.size g n lb sb d4 wc ∧ PermIn a' b' dk d4)
              case first =>
                cases t
                · go_wp2_with fail
                  go_meet
                  case rel => exact ⟨d3, hk3, hP3⟩
                · have c0 := hk3.c0
                  have c1 := hk3.c1
                  have HPA := hide (partial_any hD.cx hk3.sg hk3.size hn (a := a') (b := b') (by omega) hb)
                  have HPF := hide (partialInsertionSort_holds (lt := ltP) ltP_swo d3 a' b' (by omega) (by rw [hk3.size]; exact hb) hB3.out)
                  generalize partialInsertionSort ltP d3 a' b' = PR at HPA HPF
                  obtain ⟨d5, v⟩ := PR
                  have hPd := permIn_trans _ _ _ _ _ hP3 HPF.out.1
                  cases v
                  · go_wp2_with (go_at_call 95; refine HPA.out.mono ?_; rintro e w2 ⟨rfl, hw2⟩)
                    go_meet
                    case rel => exact ⟨d5, hD.in hw2 (by rw [HPF.out.1.1]; exact hk3.size), hPd⟩
                  · go_wp2_with (go_at_call 95; refine HPA.out.mono ?_; rintro e w2 ⟨rfl, hw2⟩)
                    (try simp only [Exit.inBlock, Exit.then])
                    refine bodyPost_ret (results_none rfl _ _ _) rfl ?_
                    exact ⟨rfl, d5, (HR.out _ hPd (HPF.out.2 trivial)).1, (HR.out _ hPd (HPF.out.2 trivial)).2, HO.out _ _ hw2⟩
              case rest =>
                clear hk3 hP3 hB3
                obtain ⟨d4, hk4, hP4⟩ := hcut
                have hB4 := hide (HB.out.permA permIn_all (by rw [hk.size]; exact hb) hP4)
                go_upto_region 18 with (fail)
                go_cut [83] from 19 to 82 (fun v83 wc => ∃ t : Bool, v83 = .bool t ∧ In A W.heap.size g n lb sb d4 wc ∧ (t = true → 0 < a' ∧ ltP d4[a' - 1]! d4[p]! = false))
                case first =>
                  by_cases ha0 : 0 < a'
                  · have hda : decide ((0 : Int) < (a' : Int)) = true := decide_eq_true (by omega)
                    have c0 := hk4.c0
                    cases hv : ltP d4[a' - 1]! d4[p]!
                    · have hlx := hD.less hk4 (i := a' - 1) (j := p) (by omega) (by omega) hv
                      rw [show (((a' - 1 : Nat) : Int)) = (a' : Int) - 1 by omega] at hlx
                      have HL := hide hlx
                      clear hlx
                      go_wp2_with (go_at_fn 52; refine HL.out.mono ?_; rintro e w1 ⟨rfl, k1⟩)
                      go_meet
                      case rel => exact ⟨true, rfl, k1, fun _ => ⟨ha0, hv⟩⟩
                    · have hlx := hD.less hk4 (i := a' - 1) (j := p) (by omega) (by omega) hv
                      rw [show (((a' - 1 : Nat) : Int)) = (a' : Int) - 1 by omega] at hlx
                      have HL := hide hlx
                      clear hlx
                      go_wp2_with (go_at_fn 52; refine HL.out.mono ?_; rintro e w1 ⟨rfl, k1⟩)
                      go_meet
                      case rel => exact ⟨false, rfl, k1, fun h => by cases h⟩
                  · have hda : decide ((0 : Int) < (a' : Int)) = false := decide_eq_false (by omega)
                    go_wp2_with fail
                    go_meet
                    case rel => exact ⟨false, rfl, hk4, fun h => by cases h⟩
                case rest =>
                  clear hk4
                  obtain ⟨t, rfl, hk4, hnl⟩ := hcut
                  have c0 := hk4.c0
                  have c1 := hk4.c1
                  have hb4 : b' ≤ d4.size := by rw [hk4.size]; exact hb
                  have HR4 : Hid (∀ R, PermIn a' b' d4 R → SortedIn ltP a' b' R → PermIn a b d R ∧ SortedIn ltP a b R) := fun R h1 h2 => HR.out R (permIn_trans _ _ _ _ _ hP4 h1) h2
                  cases t
                  · clear hnl
                    have HPT := hide (parti_any hD.cx hk4.sg hk4.size hn (a := a') (b := b') (pivot := p) hp1 hp2 hb)
                    have HRP := hide (fun mid ap d5 => round_part (lt := ltP) ltP_swo (partition_holds _) (d3 := d4) (d4 := d5) (a := a') (b := b') (pivot := p) (mid := mid) (ap := ap) hp1 hp2 hb4 hB4.out)
                    have hrp := HRP.out (partition ltP d4 a' b' p).1 (partition ltP d4 a' b' p).2.1 (partition ltP d4 a' b' p).2.2 rfl
                    generalize partition ltP d4 a' b' p = PT at HPT hrp
                    obtain ⟨mid, ap0, d5⟩ := PT
                    dsimp only at HPT hrp
                    obtain ⟨hm1, hm2, hsz, hBl, hBr, hL, hR⟩ := hrp
                    have HBl := hide hBl
                    have HBr := hide hBr
                    have HLL := hide hL
                    have HRR := hide hR
                    clear hBl hBr hL hR HRP
                    obtain ⟨q8, hq8⟩ : ∃ q8 : Nat, (ln : Int) / 8 = (q8 : Int) := ⟨ln / 8, by omega⟩
                    have hq8t : (ln : Int).tdiv 8 = (q8 : Int) := by rw [Int.tdiv_eq_ediv_of_nonneg (by omega)]; exact hq8
                    go_upto_region 22 with (go_at_call 97; refine HPT.out.mono ?_; rintro e w2 ⟨m', ap, hmm, rfl, hw2⟩)
                    subst hmm
                    have hk5 : In A W.heap.size g n lb sb d5 w2 := hD.in hw2 (by rw [hsz]; exact hk4.size)
                    clear c0 c1 HPT hw2
                    have c0 := hk5.c0
                    have c1 := hk5.c1
                    by_cases hlr : mid - a' < b' - mid
                    · have hdl : decide ((mid : Int) - (a' : Int) < (b' : Int) - (mid : Int)) = true := decide_eq_true (by omega)
                      have HC1 := hide (HIH.out (mid - a') (by omega) A w2 g n a' mid l2 lb sb d5 hD.cx hk5.sg hk5.size hn hm1 (by omega) (Nat.le_refl _) hl2 HBl.out)
                      go_wp2_with (first | (go_at_call 73; refine HC1.out.mono ?_; rintro e w3 ⟨rfl, L, hPL, hSL, hw3⟩) | fail)
                      go_roundw
                      case rel => exact ⟨mid + 1, b', l2, _, ap, L, by go_num, rfl, rfl, rfl, rfl, by omega, hb, by omega, hl2, hD.in hw3 (by rw [hPL.1]; exact hk5.size), (HLL.out L hPL hSL).1, fun R h1 h2 => HR4.out R ((HLL.out L hPL hSL).2 R h1 h2).1 ((HLL.out L hPL hSL).2 R h1 h2).2⟩
                      case measure => simp [intOf]; omega
                    · have hdl : decide ((mid : Int) - (a' : Int) < (b' : Int) - (mid : Int)) = false := decide_eq_false (by omega)
                      have hc1 := HIH.out (b' - (mid + 1)) (by omega) A w2 g n (mid + 1) b' l2 lb sb d5 hD.cx hk5.sg hk5.size hn (by omega) hb (Nat.le_refl _) hl2 HBr.out
                      rw [show (((mid + 1 : Nat) : Int)) = (mid : Int) + 1 by omega] at hc1
                      have HC1 := hide hc1
                      clear hc1
                      go_wp2_with (first | (go_at_call 73; refine HC1.out.mono ?_; rintro e w3 ⟨rfl, L, hPL, hSL, hw3⟩) | fail)
                      go_roundw
                      case rel => exact ⟨a', mid, l2, _, ap, L, rfl, rfl, rfl, rfl, rfl, hm1, by omega, by omega, hl2, hD.in hw3 (by rw [hPL.1]; exact hk5.size), (HRR.out L hPL hSL).1, fun R h1 h2 => HR4.out R ((HRR.out L hPL hSL).2 R h1 h2).1 ((HRR.out L hPL hSL).2 R h1 h2).2⟩
                      case measure => simp [intOf]; omega
                  · obtain ⟨ha0, hv⟩ := hnl rfl
                    have HPQ := hide (parteq_any hD.cx hk4.sg hk4.size hn (a := a') (b := b') (pivot := p) hp1 hp2 hb)
                    have HRE := hide (fun mid d5 => round_eq (lt := ltP) ltP_swo (partitionEqual_holds _) (d3 := d4) (d4 := d5) (a := a') (b := b') (pivot := p) (mid := mid) ha0 hp1 hp2 hb4 hB4.out hv)
                    go_wp2_with (go_at_call 96; refine HPQ.out.mono ?_; rintro e w2 ⟨mid, d5, heq, rfl, hw2⟩)
                    obtain ⟨hm1, hm2, hsz, hBm, hRm⟩ := HRE.out mid d5 heq
                    go_roundw
                    case rel => exact ⟨mid, b', l2, wb, wp, d5, rfl, rfl, rfl, rfl, rfl, hm2, hb, by omega, hl2, hD.in hw2 (by rw [hsz]; exact hk4.size), hBm, fun R h1 h2 => HR4.out R (hRm R h1 h2).1 (hRm R h1 h2).2⟩
                    case measure => simp [intOf]; omega

theorem pdq_all (N : Nat) : PdqAny N := by
  induction N using Nat.strongRecOn with
  | _ N ih => exact pdq_step N ih
theorem pdq_ok {n : Nat} (h : n ≤ 1000) : PdqOK n := fun B W g lim lb sb d hC hS hs hl =>
  pdq_all n B W g n 0 n lim lb sb d hC hS hs h (Nat.zero_le _) (Nat.le_refl _) (Nat.sub_le _ _) hl (.inl rfl)

end Go.Proofs.YtimbgijpeomfcacGreatDoor
