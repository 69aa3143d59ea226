import Derived.Test.YthiojjkgodffnaeB1a
import Derived.Test.YthiojjkgodffnaeNMm
import Derived.Test.YthiojjkgodffnaeN5
/- CONTRACTS OF handpostref: NewMind. -/
namespace Go.Proofs.Ythiojjkgodffnae
open Go.RowKit
attribute [local go_sem] Ext.all Ext.cell Ext.frozen Ext.lt Ext.lt1 Ext.lt2 Ext.ne Ext.ne'

theorem zero_mind (w : World) : (zeroValue 89).run Try.prog w = .ok (.agg (zcells 109 (fun _ => 0))) w := by kernel_rfl
def nvM1 (me k : Nat) : Md := { nwM me k with ways := updW (nwM me k).ways k (0, 200, -1) }
def nvM2 (me k : Nat) : Md := { nvM1 me k with bests := updW (nvM1 me k).bests k (0, 200) }
theorem nv_succ (me k : Nat) : { nvM2 me k with heard := updW (nvM2 me k).heard k (fun _ => (0, 200)) } = nwM me (k + 1) := by
  unfold nvM2 nvM1 nwM
  dsimp only
  rw [upd_lt, upd_lt, upd_lt2]
def nvE (me : Nat) : Md := { nwM me 6 with ways := updW (nwM me 6).ways me (0, 0, (me : Int)) }
theorem nv_end {t : TypeId} {w : World} {p me : Nat} (h : NdAt t w p { nvE me with bests := updW (nvE me).bests me (0, 0) }) : NdAt t w p (newM me) := by
  refine ZArr.congr h fun i hi => ?_
  unfold mdF
  have e1 : ∀ a b, a < 6 → ({ nvE me with bests := updW (nvE me).bests me (0, 0) } : Md).heard a b = (newM me).heard a b := fun a b ha => by
    show (if a < 6 then ((0, 200) : Int × Int) else (0, 0)) = (0, 200)
    rw [if_pos ha]
  have e2 : ∀ a, a < 6 → ({ nvE me with bests := updW (nvE me).bests me (0, 0) } : Md).ways a = (newM me).ways a := fun a ha => by
    show updW (fun j => if j < 6 then ((0, 200, -1) : Int × Int × Int) else (0, 0, 0)) me (0, 0, (me : Int)) a = updW (fun _ => (0, 200, -1)) me (0, 0, (me : Int)) a
    by_cases e : a = me
    · rw [e, updW_same, updW_same]
    · rw [updW_ne _ _ e, updW_ne _ _ e, if_pos ha]
  have e3 : ∀ a, a < 6 → ({ nvE me with bests := updW (nvE me).bests me (0, 0) } : Md).bests a = (newM me).bests a := fun a ha => by
    show updW (fun j => if j < 6 then ((0, 200) : Int × Int) else (0, 0)) me (0, 0) a = updW (fun _ => (0, 200)) me (0, 0) a
    by_cases e : a = me
    · rw [e, updW_same, updW_same]
    · rw [updW_ne _ _ e, updW_ne _ _ e, if_pos ha]
  by_cases a0 : i = 0
  · rw [if_pos a0, if_pos a0]; rfl
  · rw [if_neg a0, if_neg a0]
    by_cases a1 : i < 7
    · rw [if_pos a1, if_pos a1]; rfl
    · rw [if_neg a1, if_neg a1]
      by_cases a2 : i < 79
      · rw [if_pos a2, if_pos a2, e1 _ _ (by omega)]
      · rw [if_neg a2, if_neg a2]
        by_cases a3 : i < 97
        · rw [if_pos a3, if_pos a3, e2 _ (by omega)]
        · rw [if_neg a3, if_neg a3, e3 _ (by omega)]

set_option maxRecDepth 20000 in
set_option maxHeartbeats 8000000 in
theorem newMind_ok {me : Nat} (hme : me < 6) (w : World) :
    Calls Try.prog 32 #[iv me] w fun e w' => e = .returned (pv w.heap.size) ∧ MAt w' w.heap.size (newM me) ∧ Gr w w' := by
  have hmi : (me : Int) < 6 := by omega
  have M0 : Hid (NdAt 89 (w.alloc (.cells (zcells 109 (mdF (nwM me 0))) 89)) w.heap.size (nwM me 0)) := ZArr.new w 89 109 (mdF (nwM me 0))
  have hz := zero_mind
  have hne := z109_ne
  have hset := z109_set me
  generalize zcells 109 (fun _ => 0) = Z at hz hne hset
  generalize zcells 109 (mdF (nwM me 0)) = U at hset M0
  go_enter Try.func32, Try.ntmps32
  go_upto_region 2 with (fail)
  refine wp_gen (fun V => Hid (MAt V w.heap.size (nwM me 0)) ∧ Hid (Gr w V)) ⟨M0.out, (Gr.refl _).alloc _⟩ ?_
  clear M0
  generalize hp : w.heap.size = p at *
  have hpw : w.heap.size ≤ p := by omega
  have HP := hide hp
  clear hp
  rintro V ⟨M0, g0⟩
  go_wp2_with fail
  go_loopw [4] (fun v4 wr => ∃ k : Nat, k ≤ 6 ∧ v4 = .int .i64 (k : Int) ∧ Hid (MAt wr p (nwM me k)) ∧ Hid (Gr w wr)) (fun v4 _ => (6 - intOf v4).toNat)
  case atStart => exact ⟨0, by omega, rfl, M0, g0⟩
  case round =>
    clear M0 g0
    obtain ⟨k, hk6, rfl, M0, g0⟩ := hrel
    by_cases hk : k < 6
    · have hki : decide ((k : Int) < 6) = true := decide_eq_true (by omega)
      have hk0 : (k : Int) < 6 := by omega
      have wk : IntKind.i64.wrap ((k : Int) + 1) = (k : Int) + 1 := by rw [IntKind.wrap_i64]; omega
      have fz := NdAt.free M0.out
      obtain ⟨q0, q1, q2⟩ := M0.out.ways hk
      have hp := M0.out.lt
      have SM := hide (M0.out.setWays hk 0 200 (-1))
      have SG := hide (((g0.out.setCell (p := ⟨p, 79 + k * 3, none⟩) hpw (iv 0)).setCell (p := ⟨p, 79 + k * 3 + 1, none⟩) hpw (iv 200)).setCell (p := ⟨p, 79 + k * 3 + 2, none⟩) hpw (iv (-1)))
      go_upto_region 6 with (fail)
      refine wp_gen (fun V => Hid (MAt V p (nvM1 me k)) ∧ Hid (Gr w V)) ⟨SM, SG⟩ ?_
      clear fz q0 q1 q2 hp SM SG M0 g0
      rintro V ⟨M0, g0⟩
      have fz := NdAt.free M0.out
      obtain ⟨q0, q1⟩ := M0.out.bests hk
      have hp := M0.out.lt
      have SM := hide (M0.out.setBests hk 0 200)
      have SG := hide ((g0.out.setCell (p := ⟨p, 97 + k * 2, none⟩) hpw (iv 0)).setCell (p := ⟨p, 97 + k * 2 + 1, none⟩) hpw (iv 200))
      go_upto_region 7 with (fail)
      refine wp_gen (fun V => Hid (MAt V p (fgM (nvM2 me k) k 0)) ∧ Hid (Gr w V)) ⟨by rw [fg_zero]; exact SM, SG⟩ ?_
      clear fz q0 q1 hp SM SG M0 g0
      rintro V ⟨M0, g0⟩
      go_wp2_with fail
      go_loopw [5] (fun v5 wr => ∃ i : Nat, i ≤ 6 ∧ v5 = .int .i64 (i : Int) ∧ Hid (MAt wr p (fgM (nvM2 me k) k i)) ∧ Hid (Gr w wr)) (fun v5 _ => (6 - intOf v5).toNat)
      case atStart => exact ⟨0, by omega, rfl, M0, g0⟩
      case round =>
        clear M0 g0
        obtain ⟨i, hi6, rfl, M0, g0⟩ := hrel
        by_cases hi : i < 6
        · have hii : decide ((i : Int) < 6) = true := decide_eq_true (by omega)
          have hi0 : (i : Int) < 6 := by omega
          have wi : IntKind.i64.wrap ((i : Int) + 1) = (i : Int) + 1 := by rw [IntKind.wrap_i64]; omega
          have fz := NdAt.free M0.out
          obtain ⟨q0, q1⟩ := M0.out.heard hk hi
          have hp := M0.out.lt
          have SM := hide (M0.out.setHeard hk hi 0 200)
          rw [fg_succ] at SM
          have SG := hide ((g0.out.setCell (p := ⟨p, 7 + k * 12 + i * 2, none⟩) hpw (iv 0)).setCell (p := ⟨p, 7 + k * 12 + i * 2 + 1, none⟩) hpw (iv 200))
          go_wp2_with fail
          go_roundw
          case rel => exact ⟨i + 1, by omega, by congr 1, SM, SG⟩
          case measure => simp [intOf]; omega
        · have hii : decide ((i : Int) < 6) = false := decide_eq_false (by omega)
          have ei : i = 6 := by omega
          subst ei
          have SM := hide (fg_end M0.out)
          rw [nv_succ] at SM
          go_wp2_with fail
          go_roundw
          case rel => exact ⟨k + 1, by omega, by congr 1, SM, g0⟩
          case measure => simp [intOf]; omega
    · have hki : decide ((k : Int) < 6) = false := decide_eq_false (by omega)
      have ek : k = 6 := by omega
      subst ek
      have fz := NdAt.free M0.out
      obtain ⟨q0, q1, q2⟩ := M0.out.ways hme
      have hp := M0.out.lt
      have SM := hide (M0.out.setWays hme 0 0 (me : Int))
      have SG := hide (((g0.out.setCell (p := ⟨p, 79 + me * 3, none⟩) hpw (iv 0)).setCell (p := ⟨p, 79 + me * 3 + 1, none⟩) hpw (iv 0)).setCell (p := ⟨p, 79 + me * 3 + 2, none⟩) hpw (iv (me : Int)))
      go_upto_region 12 with (fail)
      refine wp_gen (fun V => Hid (MAt V p (nvE me)) ∧ Hid (Gr w V)) ⟨SM, SG⟩ ?_
      clear fz q0 q1 q2 hp SM SG M0 g0
      rintro V ⟨M0, g0⟩
      have fz := NdAt.free M0.out
      obtain ⟨q0, q1⟩ := M0.out.bests hme
      have hp := M0.out.lt
      have SM := hide (nv_end (M0.out.setBests hme 0 0))
      have SG := hide ((g0.out.setCell (p := ⟨p, 97 + me * 2, none⟩) hpw (iv 0)).setCell (p := ⟨p, 97 + me * 2 + 1, none⟩) hpw (iv 0))
      go_wp2_with fail
      have hpe := HP.out
      clear HP
      subst hpe
      go_ret
      exact ⟨rfl, SM.out, SG.out⟩

end Go.Proofs.Ythiojjkgodffnae

/- THE REFERENCE'S NODE: Link, Hear and Tick of whatever is handed in; steps of both. -/
namespace Go.Proofs.Ythiojjkgodffnae
open Go.RowKit

theorem mlinkN {w : World} {p : Nat} {m : Md} (H : MAt w p m) (hz : MdZ m) (f c : Int) :
    Calls Try.prog 40 #[pv p, iv f, iv c] w fun e w' => e = .returned (iv (lcode m f c)) ∧ MAt w' p (lnkM m f c) ∧ Wr p w w' := by
  unfold lcode lnkM
  by_cases q : lkOk m f c
  · rw [if_pos q, if_pos q]
    obtain ⟨k, rfl⟩ : ∃ k : Nat, f = (k : Int) := ⟨f.toNat, by omega⟩
    rw [Int.toNat_natCast]
    exact mlink_ok H hz.ok (f := k) (c := c) (by omega) (show k ≠ m.me by omega) q.2.1 q.2.2
  · rw [if_neg q, if_neg q]
    refine (mlink_bad H (f := f) (c := c) ?_).mono fun e w' ⟨h1, h2⟩ => ⟨h1, by rw [h2]; exact H, by rw [h2]; exact Wr.refl _ _⟩
    omega
theorem mhearN {w : World} {p : Nat} {m : Md} (H : MAt w p m) (hz : MdZ m) (f o z s d : Int) :
    Calls Try.prog 43 #[pv p, .agg #[iv f, iv o, iv z, iv s, iv d]] w fun e w' => e = .returned (iv (hcode m f z s d)) ∧ MAt w' p (hrM m f z s d) ∧ Wr p w w' := by
  unfold hcode hrM
  by_cases q : hrOk m f z s d
  · rw [if_pos q]
    obtain ⟨k, rfl⟩ : ∃ k : Nat, f = (k : Int) := ⟨f.toNat, by omega⟩
    obtain ⟨i, rfl⟩ : ∃ i : Nat, z = (i : Int) := ⟨z.toNat, by omega⟩
    rw [Int.toNat_natCast, Int.toNat_natCast]
    by_cases hc : m.cost k = 0
    · rw [if_pos hc, if_neg (fun x => x.2 hc)]
      exact (mhear_none H (f := k) (z := i) (o := o) (s := s) (d := d) (by omega) (by omega) (show k ≠ m.me by omega) hc q.2.2.1 q.2.2.2.1 q.2.2.2.2).mono fun e w' ⟨h1, h2⟩ => ⟨h1, H.gr h2, h2.wr p⟩
    · rw [if_neg hc, if_pos ⟨q, hc⟩]
      exact mhear_ok H hz.ok (f := k) (z := i) (o := o) (s := s) (d := d) (by omega) (by omega) (show k ≠ m.me by omega) hc q.2.2.1 q.2.2.2.1 q.2.2.2.2
  · rw [if_neg q, if_neg (fun x => q x.1)]
    refine (mhear_bad H (f := f) (o := o) (z := z) (s := s) (d := d) ?_).mono fun e w' ⟨h1, h2⟩ => ⟨h1, H.gr h2, h2.wr p⟩
    omega
theorem mtickN {w : World} {p : Nat} {m : Md} (H : MAt w p m) (hz : MdZ m) (ha : age m < 4611686018427387904) :
    Calls Try.prog 41 #[pv p] w fun e w' => e = .returned (.tuple #[]) ∧ MAt w' p (tickM m) ∧ Wr p w w' := by
  obtain ⟨s, h0, hw, _⟩ := hz.ok.self
  exact mtick_any H hz.ok.me (by rw [hw]; exact h0) ha

/-- A step of a law: Do, Cost, From, For, To, Seq, Dist. -/
structure Stp where
  k : Int
  c : Int
  f : Int
  o : Int
  z : Int
  s : Int
  d : Int
def Stp.val (x : Stp) : Value := .agg #[iv x.k, iv x.c, iv x.f, iv x.o, iv x.z, iv x.s, iv x.d]
def stepM (m : Md) (x : Stp) : Md := if x.k = 0 then lnkM m x.f x.c else if x.k = 1 then hrM m x.f x.z x.s x.d else if x.k = 2 then tickM m else m
theorem step_z {m : Md} (h : MdZ m) (x : Stp) : MdZ (stepM m x) := by
  unfold stepM
  split
  · exact lnk_z h _ _
  · split
    · exact hr_z h _ _ _ _
    · split
      · exact tick_z h
      · exact h
theorem step_me (m : Md) (x : Stp) : (stepM m x).me = m.me := by
  unfold stepM
  split
  · exact lnk_me _ _ _
  · split
    · exact hr_me _ _ _ _ _
    · split <;> rfl
theorem link_self (m : Md) (f : Nat) (c : Int) : (linkM m f c).ways m.me = m.ways m.me := by
  unfold linkM
  exact (lookTo_all _ 6).2.2.2.1
theorem hear_self (m : Md) (f z : Nat) (s d : Int) : (hearM m f z s d).ways m.me = m.ways m.me := by
  unfold hearM
  exact (look_self _ z).1
theorem step_age (m : Md) (x : Stp) : age (stepM m x) ≤ age m + 1 := by
  have h := step_me m x
  unfold age
  rw [h]
  unfold stepM lnkM hrM
  split
  · split
    · rw [link_self]; omega
    · omega
  · split
    · split
      · rw [hear_self]; omega
      · omega
    · split
      · show (updW m.ways m.me _ m.me).1 ≤ _
        rw [updW_same]; exact Int.le_refl _
      · omega
/-- Behind the first n steps of a list. -/
def runM (m : Md) (l : List Stp) : Nat → Md
  | 0 => m
  | n + 1 => match l[n]? with
    | some x => stepM (runM m l n) x
    | none => runM m l n
theorem run_succ (m : Md) (l : List Stp) {n : Nat} (h : n < l.length) : runM m l (n + 1) = stepM (runM m l n) l[n] := by
  rw [runM, List.getElem?_eq_getElem h]
theorem run_z {m : Md} (h : MdZ m) (l : List Stp) : ∀ n, MdZ (runM m l n)
  | 0 => h
  | n + 1 => by
    rw [runM]
    split
    · exact step_z (run_z h l n) _
    · exact run_z h l n
theorem run_me (m : Md) (l : List Stp) : ∀ n, (runM m l n).me = m.me
  | 0 => rfl
  | n + 1 => by
    rw [runM]
    split
    · rw [step_me, run_me m l n]
    · exact run_me m l n
theorem run_age (m : Md) (l : List Stp) : ∀ n, age (runM m l n) ≤ age m + n
  | 0 => by show age m ≤ _; omega
  | n + 1 => by
    have := run_age m l n
    rw [runM]
    split
    · have := step_age (runM m l n) ‹Stp›; omega
    · omega

end Go.Proofs.Ythiojjkgodffnae
