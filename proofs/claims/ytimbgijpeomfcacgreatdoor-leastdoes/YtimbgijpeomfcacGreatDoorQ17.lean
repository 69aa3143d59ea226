import Derived.Test.YtimbgijpeomfcacGreatDoorQ4
import Derived.Sort.LotC
import Derived.Deep.Cut
import Derived.Deep.CutRange
import Derived.Deep.CutBlock
/- CONTRACT OF sort.partitionEqual_func, the comparison making memory. (Written by tools/genpart.py.) -/
namespace Go.Proofs.YtimbgijpeomfcacGreatDoor
open Go.RowKit Go.Sort

set_option maxHeartbeats 40000000 in
set_option maxRecDepth 100000 in
theorem parteq_any {B W : World} {g n : Nat} {lb sb : Array Value} {d : Array Pf} (hC : Cx B g n lb sb) (hS : SG B g d W) (hs : d.size = n) (hn : n ≤ 1000) {a b pivot : Nat} (h1 : a ≤ pivot) (h2 : pivot < b) (hb : b ≤ n) :
    Calls Tryz.prog 96 #[datV lb sb, .int .i64 a, .int .i64 b, .int .i64 pivot] W fun e w' => ∃ mid d4, partitionEqual ltP d a b pivot = (mid, d4) ∧ e = .returned (.int .i64 (mid : Nat)) ∧ SG B g d4 w' := by
  obtain ⟨A, hA, hD, hI, hOut⟩ := hC.door hS hs
  have HA := hide hA
  have HO := hide hOut
  have eg := les_enters
  have c1 := hI.c1
  obtain ⟨Y, hrun, hY⟩ := hD.swap hI (i := a) (j := pivot) (by omega) (by omega)
  clear hA hOut hC hS
  go_enter Tryz.func96, Tryz.ntmps96
  go_upto_region 1 with (fail)
  rw [← HA.out]
  go_wp2_with fail
  clear hrun
  go_loopw [9, 10] (fun vi vj wr => ∃ (i j : Nat) (dk : Array Pf), vi = .int .i64 i ∧ vj = .int .i64 j ∧ a < i ∧ i ≤ b + 1 ∧ j < b ∧ In A W.heap.size g n lb sb dk wr ∧ Hid (partEqLoop ltP a i j dk = partEqLoop ltP a (a + 1) (b - 1) (swp d a pivot))) (fun vi vj _ => (intOf vj + 1 - intOf vi).toNat)
  case atStart => exact ⟨a + 1, b - 1, swp d a pivot, by go_num, by congr 1; omega, by omega, by omega, by omega, hY, rfl⟩
  case round =>
    obtain ⟨i, j, dk, rfl, rfl, hai, hib, hjb, hk, HX⟩ := hrel
    go_wp2_with fail
    go_loopw [9] (fun vu wr2 => ∃ u : Nat, vu = .int .i64 u ∧ i ≤ u ∧ u ≤ b + 1 ∧ In A W.heap.size g n lb sb dk wr2 ∧ Hid (scanUp (fun x => !ltP dk[a]! x) dk j u = scanUp (fun x => !ltP dk[a]! x) dk j i)) (fun vu _ => b + 2 - (intOf vu).toNat)
    case atStart => exact ⟨i, by go_num, Nat.le_refl _, by omega, by assumption, rfl⟩
    case round =>
      obtain ⟨u, rfl, hiu, hub, ku, HU⟩ := hrel
      have cu0 := ku.c0
      have cu1 := ku.c1
      by_cases hle : u ≤ j
      · have hde : decide ((u : Int) ≤ (j : Int)) = true := decide_eq_true (by omega)
        cases hv : ltP dk[a]! dk[u]!
        · have HL := hide (hD.less ku (i := a) (j := u) (by omega) (by omega) hv)
          go_wp2_with (go_at_fn 52; refine HL.out.mono ?_; rintro e w1 ⟨rfl, k1⟩)
          go_roundw
          case rel => exact ⟨u + 1, by go_num, by omega, by omega, k1, by unfold Hid; rw [← HU.out]; conv => rhs; rw [scanUp, if_pos (by simp [hle, hv])]⟩
          case measure => simp [intOf]; omega
        · have HL := hide (hD.less ku (i := a) (j := u) (by omega) (by omega) hv)
          have HUS : Hid (scanUp (fun x => !ltP dk[a]! x) dk j i = u) := by unfold Hid; rw [← HU.out, scanUp, if_neg (by simp [hv])]
          go_wp2_with (go_at_fn 52; refine HL.out.mono ?_; rintro e w1 ⟨rfl, ku'⟩)
          go_loopw [10] (fun vv wr3 => ∃ v : Nat, vv = .int .i64 v ∧ v ≤ j ∧ In A W.heap.size g n lb sb dk wr3 ∧ Hid (scanDown (fun x => ltP dk[a]! x) dk u v = scanDown (fun x => ltP dk[a]! x) dk u j)) (fun vv _ => (intOf vv).toNat)
          case atStart => exact ⟨j, by go_num, Nat.le_refl _, ku', rfl⟩
          case round =>
            obtain ⟨v, rfl, hvj, kv, HV⟩ := hrel
            have cv0 := kv.c0
            have cv1 := kv.c1
            by_cases hle2 : u ≤ v
            · have hde2 : decide ((u : Int) ≤ (v : Int)) = true := decide_eq_true (by omega)
              cases hv2 : ltP dk[a]! dk[v]!
              · have HL2 := hide (hD.less kv (i := a) (j := v) (by omega) (by omega) hv2)
                have HVS : Hid (scanDown (fun x => ltP dk[a]! x) dk u j = v) := by
                  unfold Hid; rw [← HV.out]
                  obtain ⟨t, rfl⟩ : ∃ t, v = t + 1 := ⟨v - 1, by omega⟩
                  rw [scanDown, if_neg (by simp [hv2])]
                have hgt : ¬ v < u := by omega
                have hdg : decide ((v : Int) < (u : Int)) = false := decide_eq_false (by omega)
                have HNX : Hid (partEqLoop ltP a (u + 1) (v - 1) (swp dk u v) = partEqLoop ltP a (a + 1) (b - 1) (swp d a pivot)) := by unfold Hid; rw [← HX.out]; conv => rhs; rw [partEqLoop_eq, HUS.out, HVS.out, if_neg hgt]
                have HSW := hide (fun w (h : In A W.heap.size g n lb sb dk w) => hD.swap h (i := u) (j := v) (by omega) (by omega))
                go_wp2_with (go_at_fn 52; refine HL2.out.mono ?_; rintro e w2 ⟨rfl, kv'⟩; have cw1 := kv'.c1; obtain ⟨Z, hrun2, hZ⟩ := HSW.out _ kv')
                go_roundw
                case rel => exact ⟨u + 1, v - 1, swp dk u v, by go_num, by congr 1; omega, by omega, by omega, by omega, hZ, HNX⟩
                case measure => simp [intOf]; omega
              · have HL2 := hide (hD.less kv (i := a) (j := v) (by omega) (by omega) hv2)
                go_wp2_with (go_at_fn 52; refine HL2.out.mono ?_; rintro e w2 ⟨rfl, k2⟩)
                go_roundw
                case rel =>
                  refine ⟨v - 1, by congr 1; omega, by omega, k2, ?_⟩
                  unfold Hid; rw [← HV.out]
                  obtain ⟨t, rfl⟩ : ∃ t, v = t + 1 := ⟨v - 1, by omega⟩
                  conv => rhs; rw [scanDown, if_pos (by simp [hle2, hv2])]
                  rfl
                case measure => simp [intOf]; omega
            · have hde2 : decide ((u : Int) ≤ (v : Int)) = false := decide_eq_false (by omega)
              have HVS : Hid (scanDown (fun x => ltP dk[a]! x) dk u j = v) := by
                unfold Hid; rw [← HV.out]
                cases v with
                | zero => rfl
                | succ t => rw [scanDown, if_neg (by simp; omega)]
              have kv' := kv
              have cw1 := kv'.c1
              have hgt : v < u := by omega
              have hdg : decide ((v : Int) < (u : Int)) = true := decide_eq_true (by omega)
              have HEND : Hid (partitionEqual ltP d a b pivot = (u, dk)) := by unfold Hid partitionEqual; rw [← HX.out, partEqLoop_eq, HUS.out, HVS.out, if_pos hgt]
              go_wp2_with fail
              go_ret
              exact ⟨u, dk, HEND.out, rfl, HO.out _ _ kv'.sg⟩
      · have hde : decide ((u : Int) ≤ (j : Int)) = false := decide_eq_false (by omega)
        have HUS : Hid (scanUp (fun x => !ltP dk[a]! x) dk j i = u) := by unfold Hid; rw [← HU.out, scanUp, if_neg (by simp; omega)]
        have ku' := ku
        go_wp2_with fail
        go_loopw [10] (fun vv wr3 => ∃ v : Nat, vv = .int .i64 v ∧ v ≤ j ∧ In A W.heap.size g n lb sb dk wr3 ∧ Hid (scanDown (fun x => ltP dk[a]! x) dk u v = scanDown (fun x => ltP dk[a]! x) dk u j)) (fun vv _ => (intOf vv).toNat)
        case atStart => exact ⟨j, by go_num, Nat.le_refl _, ku', rfl⟩
        case round =>
          obtain ⟨v, rfl, hvj, kv, HV⟩ := hrel
          have cv0 := kv.c0
          have cv1 := kv.c1
          by_cases hle2 : u ≤ v
          · exact absurd hle2 (by omega)
          · have hde2 : decide ((u : Int) ≤ (v : Int)) = false := decide_eq_false (by omega)
            have HVS : Hid (scanDown (fun x => ltP dk[a]! x) dk u j = v) := by
              unfold Hid; rw [← HV.out]
              cases v with
              | zero => rfl
              | succ t => rw [scanDown, if_neg (by simp; omega)]
            have kv' := kv
            have cw1 := kv'.c1
            have hgt : v < u := by omega
            have hdg : decide ((v : Int) < (u : Int)) = true := decide_eq_true (by omega)
            have HEND : Hid (partitionEqual ltP d a b pivot = (u, dk)) := by unfold Hid partitionEqual; rw [← HX.out, partEqLoop_eq, HUS.out, HVS.out, if_pos hgt]
            go_wp2_with fail
            go_ret
            exact ⟨u, dk, HEND.out, rfl, HO.out _ _ kv'.sg⟩

end Go.Proofs.YtimbgijpeomfcacGreatDoor

/- CONTRACT OF sort.partition_func, the comparison making memory. (Written by tools/genpart.py.) -/
namespace Go.Proofs.YtimbgijpeomfcacGreatDoor
open Go.RowKit Go.Sort

set_option maxHeartbeats 40000000 in
set_option maxRecDepth 100000 in
theorem parti_any {B W : World} {g n : Nat} {lb sb : Array Value} {d : Array Pf} (hC : Cx B g n lb sb) (hS : SG B g d W) (hs : d.size = n) (hn : n ≤ 1000) {a b pivot : Nat} (h1 : a ≤ pivot) (h2 : pivot < b) (hb : b ≤ n) :
    Calls Tryz.prog 97 #[datV lb sb, .int .i64 a, .int .i64 b, .int .i64 pivot] W fun e w' => ∃ (mid : Nat) (ap : Bool), (partition ltP d a b pivot).1 = mid ∧ e = .returned (.tuple #[.int .i64 mid, .bool ap]) ∧ SG B g (partition ltP d a b pivot).2.2 w' := by
  obtain ⟨A, hA, hD, hI, hOut⟩ := hC.door hS hs
  have HA := hide hA
  have HO := hide hOut
  have eg := les_enters
  have c1 := hI.c1
  obtain ⟨Y, hrun, hY⟩ := hD.swap hI (i := a) (j := pivot) (by omega) (by omega)
  clear hA hOut hC hS
  go_enter Tryz.func97, Tryz.ntmps97
  go_upto_region 1 with (fail)
  rw [← HA.out]
  go_upto_region 2 with (fail)
  clear hrun
  generalize hd0 : swp d a pivot = d0 at hY
  have HD0 := hide hd0
  clear hd0
  go_upto_block 0 with (fail)
  have hb1 : ((b : Int) - 1) = ((b - 1 : Nat) : Int) := by omega
  rw [hb1]
  go_cut [10] from 21 to 32 (fun vu wc => ∃ u : Nat, vu = .int .i64 u ∧ a + 1 ≤ u ∧ u ≤ b + 1 ∧ In A W.heap.size g n lb sb d0 wc ∧ Hid (scanUp (fun x => ltP x d0[a]!) d0 (b - 1) (a + 1) = u))
  case first =>
    go_wp2_with fail
    go_loopw [10] (fun vu wr2 => ∃ u : Nat, vu = .int .i64 u ∧ (a + 1) ≤ u ∧ u ≤ b + 1 ∧ In A W.heap.size g n lb sb d0 wr2 ∧ Hid (scanUp (fun x => ltP x d0[a]!) d0 (b - 1) u = scanUp (fun x => ltP x d0[a]!) d0 (b - 1) (a + 1))) (fun vu _ => b + 2 - (intOf vu).toNat)
    case atStart => exact ⟨(a + 1), by go_num, Nat.le_refl _, by omega, by assumption, rfl⟩
    case round =>
      obtain ⟨u, rfl, hiu, hub, ku, HU⟩ := hrel
      have cu0 := ku.c0
      have cu1 := ku.c1
      by_cases hle : u ≤ (b - 1)
      · have hde : decide ((u : Int) ≤ ((b - 1) : Int)) = true := decide_eq_true (by omega)
        cases hv : ltP d0[u]! d0[a]!
        · have HL := hide (hD.less ku (i := u) (j := a) (by omega) (by omega) hv)
          have HUS : Hid (scanUp (fun x => ltP x d0[a]!) d0 (b - 1) (a + 1) = u) := by unfold Hid; rw [← HU.out, scanUp, if_neg (by simp [hv])]
          go_wp2_with (go_at_fn 52; refine HL.out.mono ?_; rintro e w1 ⟨rfl, ku'⟩)
          go_meet
          case rel => exact ⟨u, rfl, by omega, by omega, ku', HUS⟩
        · have HL := hide (hD.less ku (i := u) (j := a) (by omega) (by omega) hv)
          go_wp2_with (go_at_fn 52; refine HL.out.mono ?_; rintro e w1 ⟨rfl, k1⟩)
          go_roundw
          case rel => exact ⟨u + 1, by go_num, by omega, by omega, k1, by unfold Hid; rw [← HU.out]; conv => rhs; rw [scanUp, if_pos (by simp [hle, hv])]⟩
          case measure => simp [intOf]; omega
      · have hde : decide ((u : Int) ≤ ((b - 1) : Int)) = false := decide_eq_false (by omega)
        have HUS : Hid (scanUp (fun x => ltP x d0[a]!) d0 (b - 1) (a + 1) = u) := by unfold Hid; rw [← HU.out, scanUp, if_neg (by simp; omega)]
        have ku' := ku
        go_wp2_with fail
        go_meet
        case rel => exact ⟨u, rfl, by omega, by omega, ku', HUS⟩
  case rest =>
    obtain ⟨u, rfl, hau, hub, ku', HUS⟩ := hcut
    go_upto_block 2 with (fail)
    go_cut [11] from 33 to 45 (fun vv wc => ∃ v : Nat, vv = .int .i64 v ∧ v ≤ b - 1 ∧ In A W.heap.size g n lb sb d0 wc ∧ Hid (scanDown (fun x => !ltP x d0[a]!) d0 u (b - 1) = v))
    case first =>
      go_wp2_with fail
      go_loopw [11] (fun vv wr3 => ∃ v : Nat, vv = .int .i64 v ∧ v ≤ (b - 1) ∧ In A W.heap.size g n lb sb d0 wr3 ∧ Hid (scanDown (fun x => !ltP x d0[a]!) d0 u v = scanDown (fun x => !ltP x d0[a]!) d0 u (b - 1))) (fun vv _ => (intOf vv).toNat)
      case atStart => exact ⟨(b - 1), by go_num, Nat.le_refl _, ku', rfl⟩
      case round =>
        obtain ⟨v, rfl, hvj, kv, HV⟩ := hrel
        have cv0 := kv.c0
        have cv1 := kv.c1
        by_cases hle2 : u ≤ v
        · have hde2 : decide ((u : Int) ≤ (v : Int)) = true := decide_eq_true (by omega)
          cases hv2 : ltP d0[v]! d0[a]!
          · have HL2 := hide (hD.less kv (i := v) (j := a) (by omega) (by omega) hv2)
            go_wp2_with (go_at_fn 52; refine HL2.out.mono ?_; rintro e w2 ⟨rfl, k2⟩)
            go_roundw
            case rel =>
              refine ⟨v - 1, by congr 1; omega, by omega, k2, ?_⟩
              unfold Hid; rw [← HV.out]
              obtain ⟨t, rfl⟩ : ∃ t, v = t + 1 := ⟨v - 1, by omega⟩
              conv => rhs; rw [scanDown, if_pos (by simp [hle2, hv2])]
              rfl
            case measure => simp [intOf]; omega
          · have HL2 := hide (hD.less kv (i := v) (j := a) (by omega) (by omega) hv2)
            have HVS : Hid (scanDown (fun x => !ltP x d0[a]!) d0 u (b - 1) = v) := by
              unfold Hid; rw [← HV.out]
              obtain ⟨t, rfl⟩ : ∃ t, v = t + 1 := ⟨v - 1, by omega⟩
              rw [scanDown, if_neg (by simp [hv2])]
            go_wp2_with (go_at_fn 52; refine HL2.out.mono ?_; rintro e w2 ⟨rfl, kv'⟩)
            go_meet
            case rel => exact ⟨v, rfl, hvj, kv', HVS⟩
        · have hde2 : decide ((u : Int) ≤ (v : Int)) = false := decide_eq_false (by omega)
          have HVS : Hid (scanDown (fun x => !ltP x d0[a]!) d0 u (b - 1) = v) := by
            unfold Hid; rw [← HV.out]
            cases v with
            | zero => rfl
            | succ t => rw [scanDown, if_neg (by simp; omega)]
          have kv' := kv
          have cw1 := kv'.c1
          go_wp2_with fail
          go_meet
          case rel => exact ⟨v, rfl, hvj, kv', HVS⟩
    case rest =>
      obtain ⟨v, rfl, hvj, kv', HVS⟩ := hcut
      have cw1 := kv'.c1
      by_cases hgt : v < u
      · have hdg : decide ((v : Int) < (u : Int)) = true := decide_eq_true (by omega)
        have HEND : Hid (partLoop ltP a (a + 1) (b - 1) d0 = (v, d0)) := by unfold Hid; rw [partLoop_eq, HUS.out, HVS.out, if_pos hgt]
        obtain ⟨Z, hrun2, hZ⟩ := hD.swap kv' (i := v) (j := a) (by omega) (by omega)
        go_wp2_with fail
        go_ret2
        exact ⟨v, _, by rw [partition_fst, HD0.out, HEND.out], rfl, HO.out _ _ (by rw [partition_arr, HD0.out, HEND.out]; exact hZ.sg)⟩
      · have hdg : decide ((v : Int) < (u : Int)) = false := decide_eq_false (by omega)
        have HNX : Hid (partLoop ltP a (u + 1) (v - 1) (swp d0 u v) = partLoop ltP a (a + 1) (b - 1) d0) := by unfold Hid; conv => rhs; rw [partLoop_eq, HUS.out, HVS.out, if_neg hgt]
        obtain ⟨Z, hrun2, hZ⟩ := hD.swap kv' (i := u) (j := v) (by omega) (by omega)
        go_wp2_with fail
        clear hrun2
        go_loopw [10, 11] (fun vi vj wr => ∃ (i j : Nat) (dk : Array Pf), vi = .int .i64 i ∧ vj = .int .i64 j ∧ a < i ∧ i ≤ b + 1 ∧ j < b ∧ In A W.heap.size g n lb sb dk wr ∧ Hid (partLoop ltP a i j dk = partLoop ltP a (a + 1) (b - 1) d0)) (fun vi vj _ => (intOf vj + 1 - intOf vi).toNat)
        case atStart => exact ⟨u + 1, v - 1, swp d0 u v, by go_num, by congr 1; omega, by omega, by omega, by omega, hZ, HNX⟩
        case round =>
          obtain ⟨i, j, dk, rfl, rfl, hai, hib, hjb, hk, HX⟩ := hrel
          go_wp2_with fail
          go_loopw [10] (fun vu wr2 => ∃ u : Nat, vu = .int .i64 u ∧ i ≤ u ∧ u ≤ b + 1 ∧ In A W.heap.size g n lb sb dk wr2 ∧ Hid (scanUp (fun x => ltP x dk[a]!) dk j u = scanUp (fun x => ltP x dk[a]!) dk j i)) (fun vu _ => b + 2 - (intOf vu).toNat)
          case atStart => exact ⟨i, by go_num, Nat.le_refl _, by omega, by assumption, rfl⟩
          case round =>
            obtain ⟨u, rfl, hiu, hub, ku, HU⟩ := hrel
            have cu0 := ku.c0
            have cu1 := ku.c1
            by_cases hle : u ≤ j
            · have hde : decide ((u : Int) ≤ (j : Int)) = true := decide_eq_true (by omega)
              cases hv : ltP dk[u]! dk[a]!
              · have HL := hide (hD.less ku (i := u) (j := a) (by omega) (by omega) hv)
                have HUS : Hid (scanUp (fun x => ltP x dk[a]!) dk j i = u) := by unfold Hid; rw [← HU.out, scanUp, if_neg (by simp [hv])]
                go_wp2_with (go_at_fn 52; refine HL.out.mono ?_; rintro e w1 ⟨rfl, ku'⟩)
                go_loopw [11] (fun vv wr3 => ∃ v : Nat, vv = .int .i64 v ∧ v ≤ j ∧ In A W.heap.size g n lb sb dk wr3 ∧ Hid (scanDown (fun x => !ltP x dk[a]!) dk u v = scanDown (fun x => !ltP x dk[a]!) dk u j)) (fun vv _ => (intOf vv).toNat)
                case atStart => exact ⟨j, by go_num, Nat.le_refl _, ku', rfl⟩
                case round =>
                  obtain ⟨v, rfl, hvj, kv, HV⟩ := hrel
                  have cv0 := kv.c0
                  have cv1 := kv.c1
                  by_cases hle2 : u ≤ v
                  · have hde2 : decide ((u : Int) ≤ (v : Int)) = true := decide_eq_true (by omega)
                    cases hv2 : ltP dk[v]! dk[a]!
                    · have HL2 := hide (hD.less kv (i := v) (j := a) (by omega) (by omega) hv2)
                      go_wp2_with (go_at_fn 52; refine HL2.out.mono ?_; rintro e w2 ⟨rfl, k2⟩)
                      go_roundw
                      case rel =>
                        refine ⟨v - 1, by congr 1; omega, by omega, k2, ?_⟩
                        unfold Hid; rw [← HV.out]
                        obtain ⟨t, rfl⟩ : ∃ t, v = t + 1 := ⟨v - 1, by omega⟩
                        conv => rhs; rw [scanDown, if_pos (by simp [hle2, hv2])]
                        rfl
                      case measure => simp [intOf]; omega
                    · have HL2 := hide (hD.less kv (i := v) (j := a) (by omega) (by omega) hv2)
                      have HVS : Hid (scanDown (fun x => !ltP x dk[a]!) dk u j = v) := by
                        unfold Hid; rw [← HV.out]
                        obtain ⟨t, rfl⟩ : ∃ t, v = t + 1 := ⟨v - 1, by omega⟩
                        rw [scanDown, if_neg (by simp [hv2])]
                      have hgt : ¬ v < u := by omega
                      have hdg : decide ((v : Int) < (u : Int)) = false := decide_eq_false (by omega)
                      have HNX : Hid (partLoop ltP a (u + 1) (v - 1) (swp dk u v) = partLoop ltP a (a + 1) (b - 1) d0) := by unfold Hid; rw [← HX.out]; conv => rhs; rw [partLoop_eq, HUS.out, HVS.out, if_neg hgt]
                      have HSW := hide (fun w (h : In A W.heap.size g n lb sb dk w) => hD.swap h (i := u) (j := v) (by omega) (by omega))
                      go_wp2_with (go_at_fn 52; refine HL2.out.mono ?_; rintro e w2 ⟨rfl, kv'⟩; have cw1 := kv'.c1; obtain ⟨Z, hrun2, hZ⟩ := HSW.out _ kv')
                      go_roundw
                      case rel => exact ⟨u + 1, v - 1, swp dk u v, by go_num, by congr 1; omega, by omega, by omega, by omega, hZ, HNX⟩
                      case measure => simp [intOf]; omega
                  · have hde2 : decide ((u : Int) ≤ (v : Int)) = false := decide_eq_false (by omega)
                    have HVS : Hid (scanDown (fun x => !ltP x dk[a]!) dk u j = v) := by
                      unfold Hid; rw [← HV.out]
                      cases v with
                      | zero => rfl
                      | succ t => rw [scanDown, if_neg (by simp; omega)]
                    have kv' := kv
                    have cw1 := kv'.c1
                    have hgt : v < u := by omega
                    have hdg : decide ((v : Int) < (u : Int)) = true := decide_eq_true (by omega)
                    have HEND : Hid (partLoop ltP a (a + 1) (b - 1) d0 = (v, dk)) := by unfold Hid; rw [← HX.out, partLoop_eq, HUS.out, HVS.out, if_pos hgt]
                    obtain ⟨Z, hrun2, hZ⟩ := hD.swap kv' (i := v) (j := a) (by omega) (by omega)
                    go_wp2_with fail
                    go_ret2
                    exact ⟨v, _, by rw [partition_fst, HD0.out, HEND.out], rfl, HO.out _ _ (by rw [partition_arr, HD0.out, HEND.out]; exact hZ.sg)⟩
              · have HL := hide (hD.less ku (i := u) (j := a) (by omega) (by omega) hv)
                go_wp2_with (go_at_fn 52; refine HL.out.mono ?_; rintro e w1 ⟨rfl, k1⟩)
                go_roundw
                case rel => exact ⟨u + 1, by go_num, by omega, by omega, k1, by unfold Hid; rw [← HU.out]; conv => rhs; rw [scanUp, if_pos (by simp [hle, hv])]⟩
                case measure => simp [intOf]; omega
            · have hde : decide ((u : Int) ≤ (j : Int)) = false := decide_eq_false (by omega)
              have HUS : Hid (scanUp (fun x => ltP x dk[a]!) dk j i = u) := by unfold Hid; rw [← HU.out, scanUp, if_neg (by simp; omega)]
              have ku' := ku
              go_wp2_with fail
              go_loopw [11] (fun vv wr3 => ∃ v : Nat, vv = .int .i64 v ∧ v ≤ j ∧ In A W.heap.size g n lb sb dk wr3 ∧ Hid (scanDown (fun x => !ltP x dk[a]!) dk u v = scanDown (fun x => !ltP x dk[a]!) dk u j)) (fun vv _ => (intOf vv).toNat)
              case atStart => exact ⟨j, by go_num, Nat.le_refl _, ku', rfl⟩
              case round =>
                obtain ⟨v, rfl, hvj, kv, HV⟩ := hrel
                have cv0 := kv.c0
                have cv1 := kv.c1
                by_cases hle2 : u ≤ v
                · exact absurd hle2 (by omega)
                · have hde2 : decide ((u : Int) ≤ (v : Int)) = false := decide_eq_false (by omega)
                  have HVS : Hid (scanDown (fun x => !ltP x dk[a]!) dk u j = v) := by
                    unfold Hid; rw [← HV.out]
                    cases v with
                    | zero => rfl
                    | succ t => rw [scanDown, if_neg (by simp; omega)]
                  have kv' := kv
                  have cw1 := kv'.c1
                  have hgt : v < u := by omega
                  have hdg : decide ((v : Int) < (u : Int)) = true := decide_eq_true (by omega)
                  have HEND : Hid (partLoop ltP a (a + 1) (b - 1) d0 = (v, dk)) := by unfold Hid; rw [← HX.out, partLoop_eq, HUS.out, HVS.out, if_pos hgt]
                  obtain ⟨Z, hrun2, hZ⟩ := hD.swap kv' (i := v) (j := a) (by omega) (by omega)
                  go_wp2_with fail
                  go_ret2
                  exact ⟨v, _, by rw [partition_fst, HD0.out, HEND.out], rfl, HO.out _ _ (by rw [partition_arr, HD0.out, HEND.out]; exact hZ.sg)⟩

end Go.Proofs.YtimbgijpeomfcacGreatDoor
