/- CONTRACTS OF handpostref: NewMind. -/
import Derived.Test.YtohbkhmpdegapadD9
namespace Go.Proofs.Ytohbkhmpdegapad
open Go.RowKit
attribute [local go_sem] Ext.all Ext.cell Ext.frozen Ext.lt Ext.lt1 Ext.lt2 Ext.ne Ext.ne'

theorem zero_mind (w : World) : (zeroValue 61).run Try.prog w = .ok (.agg (zcells 109 (fun _ => 0))) w := by kernel_rfl
def nvM1 (me k : Nat) : Md := { nwM me k with ways := updW (nwM me k).ways k (0, 200, -1) }
def nvM2 (me k : Nat) : Md := { nvM1 me k with bests := updW (nvM1 me k).bests k (0, 200) }
theorem nv_succ (me k : Nat) : { nvM2 me k with heard := updW (nvM2 me k).heard k (fun _ => (0, 200)) } = nwM me (k + 1) := by
  unfold nvM2 nvM1 nwM
  dsimp only
  rw [upd_lt, upd_lt, upd_lt2]
def nvE (me : Nat) : Md := { nwM me 6 with ways := updW (nwM me 6).ways me (0, 0, (me : Int)) }
theorem nv_end {t : TypeId} {w : World} {p me : Nat} (h : NdAt t w p { nvE me with bests := updW (nvE me).bests me (0, 0) }) : NdAt t w p (newM me) := by
  refine ZArr.congr h fun i hi => ?_
  unfold mdF
  have e1 : ∀ a b, a < 6 → ({ nvE me with bests := updW (nvE me).bests me (0, 0) } : Md).heard a b = (newM me).heard a b := fun a b ha => by
    show (if a < 6 then ((0, 200) : Int × Int) else (0, 0)) = (0, 200)
    rw [if_pos ha]
  have e2 : ∀ a, a < 6 → ({ nvE me with bests := updW (nvE me).bests me (0, 0) } : Md).ways a = (newM me).ways a := fun a ha => by
    show updW (fun j => if j < 6 then ((0, 200, -1) : Int × Int × Int) else (0, 0, 0)) me (0, 0, (me : Int)) a = updW (fun _ => (0, 200, -1)) me (0, 0, (me : Int)) a
    by_cases e : a = me
    · rw [e, updW_same, updW_same]
    · rw [updW_ne _ _ e, updW_ne _ _ e, if_pos ha]
  have e3 : ∀ a, a < 6 → ({ nvE me with bests := updW (nvE me).bests me (0, 0) } : Md).bests a = (newM me).bests a := fun a ha => by
    show updW (fun j => if j < 6 then ((0, 200) : Int × Int) else (0, 0)) me (0, 0) a = updW (fun _ => (0, 200)) me (0, 0) a
    by_cases e : a = me
    · rw [e, updW_same, updW_same]
    · rw [updW_ne _ _ e, updW_ne _ _ e, if_pos ha]
  by_cases a0 : i = 0
  · rw [if_pos a0, if_pos a0]; rfl
  · rw [if_neg a0, if_neg a0]
    by_cases a1 : i < 7
    · rw [if_pos a1, if_pos a1]; rfl
    · rw [if_neg a1, if_neg a1]
      by_cases a2 : i < 79
      · rw [if_pos a2, if_pos a2, e1 _ _ (by omega)]
      · rw [if_neg a2, if_neg a2]
        by_cases a3 : i < 97
        · rw [if_pos a3, if_pos a3, e2 _ (by omega)]
        · rw [if_neg a3, if_neg a3, e3 _ (by omega)]

set_option maxRecDepth 20000 in
set_option maxHeartbeats 8000000 in
theorem newMind_ok {me : Nat} (hme : me < 6) (w : World) :
    Calls Try.prog 18 #[iv me] w fun e w' => e = .returned (pv w.heap.size) ∧ MAt w' w.heap.size (newM me) ∧ Gr w w' := by
  have hmi : (me : Int) < 6 := by omega
  have M0 : Hid (NdAt 61 (w.alloc (.cells (zcells 109 (mdF (nwM me 0))) 61)) w.heap.size (nwM me 0)) := ZArr.new w 61 109 (mdF (nwM me 0))
  have hz := zero_mind
  have hne := z109_ne
  have hset := z109_set me
  generalize zcells 109 (fun _ => 0) = Z at hz hne hset
  generalize zcells 109 (mdF (nwM me 0)) = U at hset M0
  go_enter Try.func18, Try.ntmps18
  go_upto_region 2 with (fail)
  refine wp_gen (fun V => Hid (MAt V w.heap.size (nwM me 0)) ∧ Hid (Gr w V)) ⟨M0.out, (Gr.refl _).alloc _⟩ ?_
  clear M0
  generalize hp : w.heap.size = p at *
  have hpw : w.heap.size ≤ p := by omega
  have HP := hide hp
  clear hp
  rintro V ⟨M0, g0⟩
  go_wp2_with fail
  go_loopw [4] (fun v4 wr => ∃ k : Nat, k ≤ 6 ∧ v4 = .int .i64 (k : Int) ∧ Hid (MAt wr p (nwM me k)) ∧ Hid (Gr w wr)) (fun v4 _ => (6 - intOf v4).toNat)
  case atStart => exact ⟨0, by omega, rfl, M0, g0⟩
  case round =>
    clear M0 g0
    obtain ⟨k, hk6, rfl, M0, g0⟩ := hrel
    by_cases hk : k < 6
    · have hki : decide ((k : Int) < 6) = true := decide_eq_true (by omega)
      have hk0 : (k : Int) < 6 := by omega
      have wk : IntKind.i64.wrap ((k : Int) + 1) = (k : Int) + 1 := by rw [IntKind.wrap_i64]; omega
      have fz := NdAt.free M0.out
      obtain ⟨q0, q1, q2⟩ := M0.out.ways hk
      have hp := M0.out.lt
      have SM := hide (M0.out.setWays hk 0 200 (-1))
      have SG := hide (((g0.out.setCell (p := ⟨p, 79 + k * 3, none⟩) hpw (iv 0)).setCell (p := ⟨p, 79 + k * 3 + 1, none⟩) hpw (iv 200)).setCell (p := ⟨p, 79 + k * 3 + 2, none⟩) hpw (iv (-1)))
      go_upto_region 6 with (fail)
      refine wp_gen (fun V => Hid (MAt V p (nvM1 me k)) ∧ Hid (Gr w V)) ⟨SM, SG⟩ ?_
      clear fz q0 q1 q2 hp SM SG M0 g0
      rintro V ⟨M0, g0⟩
      have fz := NdAt.free M0.out
      obtain ⟨q0, q1⟩ := M0.out.bests hk
      have hp := M0.out.lt
      have SM := hide (M0.out.setBests hk 0 200)
      have SG := hide ((g0.out.setCell (p := ⟨p, 97 + k * 2, none⟩) hpw (iv 0)).setCell (p := ⟨p, 97 + k * 2 + 1, none⟩) hpw (iv 200))
      go_upto_region 7 with (fail)
      refine wp_gen (fun V => Hid (MAt V p (fgM (nvM2 me k) k 0)) ∧ Hid (Gr w V)) ⟨by rw [fg_zero]; exact SM, SG⟩ ?_
      clear fz q0 q1 hp SM SG M0 g0
      rintro V ⟨M0, g0⟩
      go_wp2_with fail
      go_loopw [5] (fun v5 wr => ∃ i : Nat, i ≤ 6 ∧ v5 = .int .i64 (i : Int) ∧ Hid (MAt wr p (fgM (nvM2 me k) k i)) ∧ Hid (Gr w wr)) (fun v5 _ => (6 - intOf v5).toNat)
      case atStart => exact ⟨0, by omega, rfl, M0, g0⟩
      case round =>
        clear M0 g0
        obtain ⟨i, hi6, rfl, M0, g0⟩ := hrel
        by_cases hi : i < 6
        · have hii : decide ((i : Int) < 6) = true := decide_eq_true (by omega)
          have hi0 : (i : Int) < 6 := by omega
          have wi : IntKind.i64.wrap ((i : Int) + 1) = (i : Int) + 1 := by rw [IntKind.wrap_i64]; omega
          have fz := NdAt.free M0.out
          obtain ⟨q0, q1⟩ := M0.out.heard hk hi
          have hp := M0.out.lt
          have SM := hide (M0.out.setHeard hk hi 0 200)
          rw [fg_succ] at SM
          have SG := hide ((g0.out.setCell (p := ⟨p, 7 + k * 12 + i * 2, none⟩) hpw (iv 0)).setCell (p := ⟨p, 7 + k * 12 + i * 2 + 1, none⟩) hpw (iv 200))
          go_wp2_with fail
          go_roundw
          case rel => exact ⟨i + 1, by omega, by congr 1, SM, SG⟩
          case measure => simp [intOf]; omega
        · have hii : decide ((i : Int) < 6) = false := decide_eq_false (by omega)
          have ei : i = 6 := by omega
          subst ei
          have SM := hide (fg_end M0.out)
          rw [nv_succ] at SM
          go_wp2_with fail
          go_roundw
          case rel => exact ⟨k + 1, by omega, by congr 1, SM, g0⟩
          case measure => simp [intOf]; omega
    · have hki : decide ((k : Int) < 6) = false := decide_eq_false (by omega)
      have ek : k = 6 := by omega
      subst ek
      have fz := NdAt.free M0.out
      obtain ⟨q0, q1, q2⟩ := M0.out.ways hme
      have hp := M0.out.lt
      have SM := hide (M0.out.setWays hme 0 0 (me : Int))
      have SG := hide (((g0.out.setCell (p := ⟨p, 79 + me * 3, none⟩) hpw (iv 0)).setCell (p := ⟨p, 79 + me * 3 + 1, none⟩) hpw (iv 0)).setCell (p := ⟨p, 79 + me * 3 + 2, none⟩) hpw (iv (me : Int)))
      go_upto_region 12 with (fail)
      refine wp_gen (fun V => Hid (MAt V p (nvE me)) ∧ Hid (Gr w V)) ⟨SM, SG⟩ ?_
      clear fz q0 q1 q2 hp SM SG M0 g0
      rintro V ⟨M0, g0⟩
      have fz := NdAt.free M0.out
      obtain ⟨q0, q1⟩ := M0.out.bests hme
      have hp := M0.out.lt
      have SM := hide (nv_end (M0.out.setBests hme 0 0))
      have SG := hide ((g0.out.setCell (p := ⟨p, 97 + me * 2, none⟩) hpw (iv 0)).setCell (p := ⟨p, 97 + me * 2 + 1, none⟩) hpw (iv 0))
      go_wp2_with fail
      have hpe := HP.out
      clear HP
      subst hpe
      go_ret
      exact ⟨rfl, SM.out, SG.out⟩

end Go.Proofs.Ytohbkhmpdegapad
