import Derived.Test.YthiojjkgodffnaeD6
/- CONTRACTS OF package node: New. -/
namespace Go.Proofs.Ythiojjkgodffnae
open Go.RowKit
attribute [local go_sem] Ext.all Ext.cell Ext.frozen Ext.lt Ext.lt1 Ext.lt2 Ext.ne Ext.ne'

/-- A node that is being made: the first k of all. -/
def nwM (me k : Nat) : Md := { me := me, cost := fun _ => 0, heard := fun j _ => if j < k then (0, 200) else (0, 0), ways := fun j => if j < k then (0, 200, -1) else (0, 0, 0), bests := fun j => if j < k then (0, 200) else (0, 0) }
def nwM1 (me k : Nat) : Md := { nwM me k with heard := updW (nwM me k).heard k (fun _ => (0, 200)) }
def nwM2 (me k : Nat) : Md := { nwM1 me k with bests := updW (nwM1 me k).bests k (0, 200) }
theorem upd_lt {α : Type} (a b : α) (k : Nat) : updW (fun j => if j < k then a else b) k a = fun j => if j < k + 1 then a else b := by
  funext j
  unfold updW
  by_cases e : j = k
  · rw [if_pos e, if_pos (by omega)]
  · rw [if_neg e]
    dsimp only
    by_cases e2 : j < k
    · rw [if_pos e2, if_pos (by omega)]
    · rw [if_neg e2, if_neg (by omega)]
theorem upd_lt2 {α : Type} (a b : α) (k : Nat) : updW (fun j (_ : Nat) => if j < k then a else b) k (fun _ => a) = fun j _ => if j < k + 1 then a else b := by
  funext j i
  unfold updW
  by_cases e : j = k
  · rw [if_pos e, if_pos (by omega)]
  · rw [if_neg e]
    dsimp only
    by_cases e2 : j < k
    · rw [if_pos e2, if_pos (by omega)]
    · rw [if_neg e2, if_neg (by omega)]
theorem nw_succ (me k : Nat) : { nwM2 me k with ways := updW (nwM2 me k).ways k (0, 200, -1) } = nwM me (k + 1) := by
  unfold nwM2 nwM1 nwM
  dsimp only
  rw [upd_lt, upd_lt, upd_lt2]
theorem nw_end {t : TypeId} {w : World} {p me : Nat} (h : NdAt t w p { nwM me 6 with ways := updW (nwM me 6).ways me (0, 0, (me : Int)) }) : NdAt t w p (sel (newM me)) := by
  refine ZArr.congr h fun i hi => ?_
  unfold mdF
  have e1 : ∀ a b, a < 6 → ({ nwM me 6 with ways := updW (nwM me 6).ways me (0, 0, (me : Int)) } : Md).heard a b = (sel (newM me)).heard a b := fun a b ha => by
    show (if a < 6 then ((0, 200) : Int × Int) else (0, 0)) = (0, 200)
    rw [if_pos ha]
  have e2 : ∀ a, a < 6 → ({ nwM me 6 with ways := updW (nwM me 6).ways me (0, 0, (me : Int)) } : Md).ways a = (sel (newM me)).ways a := fun a ha => by
    show updW (fun j => if j < 6 then ((0, 200, -1) : Int × Int × Int) else (0, 0, 0)) me (0, 0, (me : Int)) a = updW (fun _ => (0, 200, -1)) me (0, 0, (me : Int)) a
    by_cases e : a = me
    · rw [e, updW_same, updW_same]
    · rw [updW_ne _ _ e, updW_ne _ _ e, if_pos ha]
  have e3 : ∀ a, a < 6 → ({ nwM me 6 with ways := updW (nwM me 6).ways me (0, 0, (me : Int)) } : Md).bests a = (sel (newM me)).bests a := fun a ha => by
    show (if a < 6 then ((0, 200) : Int × Int) else (0, 0)) = updW (updW (fun _ => (0, 200)) me (0, 0)) me (0, 200) a
    rw [if_pos ha]
    unfold updW
    split <;> rfl
  by_cases a0 : i = 0
  · rw [if_pos a0, if_pos a0]; rfl
  · rw [if_neg a0, if_neg a0]
    by_cases a1 : i < 7
    · rw [if_pos a1, if_pos a1]; rfl
    · rw [if_neg a1, if_neg a1]
      by_cases a2 : i < 79
      · rw [if_pos a2, if_pos a2, e1 _ _ (by omega)]
      · rw [if_neg a2, if_neg a2]
        by_cases a3 : i < 97
        · rw [if_pos a3, if_pos a3, e2 _ (by omega)]
        · rw [if_neg a3, if_neg a3, e3 _ (by omega)]

/-- The node's block, at the beginning. -/
theorem zero_node (w : World) : (zeroValue 103).run Try.prog w = .ok (.agg (zcells 109 (fun _ => 0))) w := by kernel_rfl
theorem z109_ne : (zcells 109 (fun _ => 0) = #[]) = False := by
  apply eq_false
  intro h
  have := congrArg Array.size h
  simp [zcells] at this
theorem z109_set (me : Nat) : (zcells 109 (fun _ => 0)).setIfInBounds 0 (iv (me : Int)) = zcells 109 (mdF (nwM me 0)) := by
  apply Array.ext
  · simp [zcells]
  · intro i h1 h2
    have hi : i < 109 := by simpa [zcells] using h2
    rw [Array.getElem_setIfInBounds (by simpa [zcells] using hi)]
    simp only [zcells, List.getElem_toArray, List.getElem_map, List.getElem_range]
    by_cases e : 0 = i
    · subst e
      rw [if_pos rfl, mdF_me]
      rfl
    · rw [if_neg e]
      unfold mdF nwM
      rw [if_neg (fun q => e q.symm)]
      split
      · rfl
      · split
        · split <;> rfl
        · split
          · split
            · rfl
            · split <;> rfl
          · split <;> rfl

theorem nnew_nil {k : Int} (h : ¬ (0 ≤ k ∧ k < 6)) (w : World) : Calls Try.prog 31 #[iv k] w fun e w' => e = .returned (.pointer none) ∧ w' = w := by
  have B1 : Hid (decide (0 ≤ k ∧ k < 6) = false) := decide_eq_false h
  clear h
  go_enter Try.func31, Try.ntmps31
  go_wp2_with (go_at_call 45; with_reducible refine (lnode_is B1.out _).mono ?_; rintro e w1 ⟨rfl, hw1⟩; have hw2 := hw1.symm; clear hw1; subst hw2)
  go_ret
  exact ⟨rfl, rfl⟩

set_option maxRecDepth 20000 in
set_option maxHeartbeats 8000000 in
theorem nnew_ok {me : Nat} (hme : me < 6) (w : World) :
    Calls Try.prog 31 #[iv me] w fun e w' => e = .returned (pv w.heap.size) ∧ DAt w' w.heap.size (sel (newM me)) ∧ Gr w w' := by
  have hmi : (me : Int) < 6 := by omega
  have B1 : Hid (decide (0 ≤ (me : Int) ∧ (me : Int) < 6) = true) := decide_eq_true ⟨by omega, hmi⟩
  have M0 : Hid (NdAt 103 (w.alloc (.cells (zcells 109 (mdF (nwM me 0))) 103)) w.heap.size (nwM me 0)) := ZArr.new w 103 109 (mdF (nwM me 0))
  have hz := zero_node
  have hne := z109_ne
  have hset := z109_set me
  generalize zcells 109 (fun _ => 0) = Z at hz hne hset
  generalize zcells 109 (mdF (nwM me 0)) = U at hset M0
  go_enter Try.func31, Try.ntmps31
  go_upto_region 4 with (go_at_call 45; with_reducible refine (lnode_is B1.out _).mono ?_; rintro e w1 ⟨rfl, hw1⟩; have hw2 := hw1.symm; clear hw1; subst hw2)
  refine wp_gen (fun V => Hid (DAt V w.heap.size (nwM me 0)) ∧ Hid (Gr w V)) ⟨M0.out, (Gr.refl _).alloc _⟩ ?_
  clear M0
  generalize hp : w.heap.size = p at *
  have hpw : w.heap.size ≤ p := by omega
  have HP := hide hp
  clear hp
  rintro V ⟨M0, g0⟩
  go_wp2_with fail
  go_loopw [11] (fun v11 wr => ∃ k : Nat, k ≤ 6 ∧ v11 = .int .i64 (k : Int) ∧ Hid (DAt wr p (nwM me k)) ∧ Hid (Gr w wr)) (fun v11 _ => (6 - intOf v11).toNat)
  case atStart => exact ⟨0, by omega, rfl, M0, g0⟩
  case round =>
    clear M0 g0
    obtain ⟨k, hk6, rfl, M0, g0⟩ := hrel
    by_cases hk : k < 6
    · have hki : decide ((k : Int) < 6) = true := decide_eq_true (by omega)
      have hk0 : (k : Int) < 6 := by omega
      have wk : IntKind.i64.wrap ((k : Int) + 1) = (k : Int) + 1 := by rw [IntKind.wrap_i64]; omega
      go_upto_region 8 with (go_at_call 56; with_reducible refine (nforget_any M0.out hk).mono ?_; rintro e V1 ⟨rfl, M1', W1'⟩; have M1 := hide M1'; have W1 := hide W1'; clear M1' W1')
      refine wp_gen (fun V => Hid (DAt V p (nwM1 me k)) ∧ Hid (Gr w V)) ⟨M1.out, W1.out.gr g0.out hpw⟩ ?_
      clear M0 M1 W1 g0
      rintro V2 ⟨M2, g2⟩
      have fz := NdAt.free M2.out
      obtain ⟨q0, q1⟩ := M2.out.bests hk
      have hp := M2.out.lt
      go_cut [] from 17 to 22 (fun wx => Hid (DAt wx p (nwM2 me k)) ∧ Hid (Gr w wx))
      case first =>
        go_region_with (go_at_call 57; with_reducible refine (nothing_any _).mono ?_; rintro e V ⟨rfl, d2, hV⟩; have gV : Hid (Gr V2 V) := (by unfold Hid; rw [hV]; exact (Gr.refl _).drewTo d2.gr); clear hV d2; have hp2 := (M2.out.gr gV.out).lt; have fz2 := NdAt.free (M2.out.gr gV.out); obtain ⟨r0, r1⟩ := (M2.out.gr gV.out).bests hk)
        all_goals
          have SM := hide ((M2.out.gr gV.out).setBests hk 0 200)
          have SW := hide (((g2.out.trans gV.out).setCell (p := ⟨p, 97 + k * 2, none⟩) hpw (iv 0)).setCell (p := ⟨p, 97 + k * 2 + 1, none⟩) hpw (iv 200))
          go_wp2_with fail
          go_meet
          exact ⟨SM, SW⟩
      case rest =>
        clear fz q0 q1 hp M2 g2
        obtain ⟨M2, g2⟩ := hcut
        have fz := NdAt.free M2.out
        obtain ⟨q0, q1, q2⟩ := M2.out.ways hk
        have hp := M2.out.lt
        have HS := hide (nw_succ me k)
        go_upto_region 9 with (fail)
        go_region_with (go_at_call 58; with_reducible refine (noWay_any 0 _).mono ?_; rintro e V ⟨rfl, d2, hV⟩; have gV : Hid (Gr wc V) := (by unfold Hid; rw [hV]; exact (Gr.refl _).drewTo d2.gr); clear hV d2; have hp2 := (M2.out.gr gV.out).lt; have fz2 := NdAt.free (M2.out.gr gV.out); obtain ⟨r0, r1, r2⟩ := (M2.out.gr gV.out).ways hk)
        all_goals
          have SM := hide ((M2.out.gr gV.out).setWays hk 0 200 (-1))
          have SW := hide ((((g2.out.trans gV.out).setCell (p := ⟨p, 79 + k * 3, none⟩) hpw (iv 0)).setCell (p := ⟨p, 79 + k * 3 + 1, none⟩) hpw (iv 200)).setCell (p := ⟨p, 79 + k * 3 + 2, none⟩) hpw (iv (-1)))
          rw [HS.out] at SM
          go_wp2_with fail
          go_roundw
          case rel => exact ⟨k + 1, by omega, by congr 1, SM, SW⟩
          case measure => simp [intOf]; omega
    · have hki : decide ((k : Int) < 6) = false := decide_eq_false (by omega)
      have ek : k = 6 := by omega
      subst ek
      have fz := NdAt.free M0.out
      obtain ⟨q0, q1, q2⟩ := M0.out.ways hme
      have hp := M0.out.lt
      have SM := hide (nw_end (M0.out.setWays hme 0 0 (me : Int)))
      have SW := hide (((g0.out.setCell (p := ⟨p, 79 + me * 3, none⟩) hpw (iv 0)).setCell (p := ⟨p, 79 + me * 3 + 1, none⟩) hpw (iv 0)).setCell (p := ⟨p, 79 + me * 3 + 2, none⟩) hpw (iv (me : Int)))
      go_wp2_with fail
      have hpe := HP.out
      clear HP
      subst hpe
      go_ret
      exact ⟨rfl, SM.out, SW.out⟩

end Go.Proofs.Ythiojjkgodffnae

/- THE PROGRAM'S NODE: Link, Hear and Tick of whatever is handed in. -/
namespace Go.Proofs.Ythiojjkgodffnae
open Go.RowKit

abbrev lkOk (m : Md) (f c : Int) : Prop := ((0 ≤ f ∧ f < 6) ∧ f ≠ (m.me : Int)) ∧ 0 ≤ c ∧ c ≤ 15
def lcode (m : Md) (f c : Int) : Int := if lkOk m f c then 0 else 1
def lnkM (m : Md) (f c : Int) : Md := if lkOk m f c then linkM m f.toNat c else m
abbrev hrOk (m : Md) (f z s d : Int) : Prop := ((0 ≤ f ∧ f < 6) ∧ f ≠ (m.me : Int)) ∧ (0 ≤ z ∧ z < 6) ∧ 0 ≤ s ∧ 0 ≤ d ∧ d ≤ 200
def hcode (m : Md) (f z s d : Int) : Int := if hrOk m f z s d then (if m.cost f.toNat = 0 then 6 else 0) else 1
def hrM (m : Md) (f z s d : Int) : Md := if hrOk m f z s d ∧ m.cost f.toNat ≠ 0 then hearM m f.toNat z.toNat s d else m
theorem lnk_z {m : Md} (h : MdZ m) (f c : Int) : MdZ (lnkM m f c) := by
  unfold lnkM
  split
  · next q => exact link_z h q.2.1 q.2.2
  · exact h
theorem hr_z {m : Md} (h : MdZ m) (f z s d : Int) : MdZ (hrM m f z s d) := by
  unfold hrM
  split
  · next q => exact hear_z h q.1.2.2.1 q.1.2.2.2.1 q.1.2.2.2.2
  · exact h
theorem lnk_me (m : Md) (f c : Int) : (lnkM m f c).me = m.me := by
  unfold lnkM
  split
  · unfold linkM; rw [(lookTo_all _ 6).1]
  · rfl
theorem hr_me (m : Md) (f z s d : Int) : (hrM m f z s d).me = m.me := by
  unfold hrM
  split
  · exact look_me _ _
  · rfl
theorem MdZ.bd {m : Md} (h : MdZ m) : Bd (sel m) := by
  refine ⟨h.ok.cost, fun r k => (h.ok.said r k).2, fun k => ?_⟩
  show (updW m.bests m.me (0, 200) k).2 ≤ 200
  unfold updW
  split
  · exact Int.le_refl _
  · exact (h.x.b200 k).2
theorem DAt.gr' {w w' : World} {p : Nat} {m : Md} (h : DAt w p m) (g : Gr w w') : DAt w' p m := NdAt.gr h g

theorem nlinkN {w : World} {p : Nat} {m : Md} (H : DAt w p (sel m)) (hz : MdZ m) (f c : Int) :
    Calls Try.prog 60 #[pv p, iv f, iv c] w fun e w' => e = .returned (iv (lcode m f c)) ∧ DAt w' p (sel (lnkM m f c)) ∧ Wr p w w' := by
  unfold lcode lnkM
  by_cases q : lkOk m f c
  · rw [if_pos q, if_pos q]
    obtain ⟨k, rfl⟩ : ∃ k : Nat, f = (k : Int) := ⟨f.toNat, by omega⟩
    have := nlink_ok H hz.bd (f := k) (c := c) (by omega) (show k ≠ m.me by omega) q.2.1 q.2.2
    rw [sel_link] at this
    rw [Int.toNat_natCast]
    exact this
  · rw [if_neg q, if_neg q]
    refine (nlink_bad H (f := f) (c := c) ?_).mono fun e w' ⟨h1, h2⟩ => ⟨h1, by rw [h2]; exact H, by rw [h2]; exact Wr.refl _ _⟩
    show ¬ (0 ≤ f ∧ f < 6) ∨ f = (m.me : Int) ∨ c < 0 ∨ 15 < c
    omega
theorem nhearN {w : World} {p : Nat} {m : Md} (H : DAt w p (sel m)) (hz : MdZ m) (f o z s d : Int) :
    Calls Try.prog 63 #[pv p, .agg #[iv f, iv o, iv z, iv s, iv d]] w fun e w' => e = .returned (iv (hcode m f z s d)) ∧ DAt w' p (sel (hrM m f z s d)) ∧ Wr p w w' := by
  unfold hcode hrM
  by_cases q : hrOk m f z s d
  · rw [if_pos q]
    obtain ⟨k, rfl⟩ : ∃ k : Nat, f = (k : Int) := ⟨f.toNat, by omega⟩
    obtain ⟨i, rfl⟩ : ∃ i : Nat, z = (i : Int) := ⟨z.toNat, by omega⟩
    rw [Int.toNat_natCast, Int.toNat_natCast]
    by_cases hc : m.cost k = 0
    · rw [if_pos hc, if_neg (fun x => x.2 hc)]
      exact (nhear_none H (f := k) (z := i) (o := o) (s := s) (d := d) (by omega) (by omega) (show k ≠ m.me by omega) hc q.2.2.1 q.2.2.2.1 q.2.2.2.2).mono fun e w' ⟨h1, h2⟩ => ⟨h1, H.gr h2, h2.wr p⟩
    · rw [if_neg hc, if_pos ⟨q, hc⟩]
      have := nhear_ok H hz.bd (f := k) (z := i) (o := o) (s := s) (d := d) (by omega) (by omega) (show k ≠ m.me by omega) hc q.2.2.1 q.2.2.2.1 q.2.2.2.2
      rw [sel_hear hz.l (show i < 6 by omega)] at this
      exact this
  · rw [if_neg q, if_neg (fun x => q x.1)]
    refine (nhear_bad H (f := f) (o := o) (z := z) (s := s) (d := d) ?_).mono fun e w' ⟨h1, h2⟩ => ⟨h1, H.gr h2, h2.wr p⟩
    show ¬ (0 ≤ f ∧ f < 6) ∨ ¬ (0 ≤ z ∧ z < 6) ∨ f = (m.me : Int) ∨ s < 0 ∨ d < 0 ∨ 200 < d
    omega
/-- How often the age of a node's way to itself rose. -/
def age (m : Md) : Int := (m.ways m.me).1
theorem ntickN {w : World} {p : Nat} {m : Md} (H : DAt w p (sel m)) (hz : MdZ m) (ha : age m < 4611686018427387904) :
    Calls Try.prog 50 #[pv p] w fun e w' => e = .returned (.tuple #[]) ∧ DAt w' p (sel (tickM m)) ∧ Wr p w w' := by
  obtain ⟨s, h0, hw, _⟩ := hz.ok.self
  have := ntick_any H hz.ok.me (show 0 ≤ (m.ways m.me).1 by rw [hw]; exact h0) ha
  rw [sel_tick] at this
  exact this

end Go.Proofs.Ythiojjkgodffnae
