import Derived.Test.YtfcknkanbcndjagGreatDoorD7
import Derived.Maps.AppendAt
import Derived.Test.YtfcknkanbcndjagGreatDoorRows
import Derived.Test.YtfcknkanbcndjagGreatDoorTPlain
import Derived.Test.YtfcknkanbcndjagGreatDoorS5
import Derived.Test.YtfcknkanbcndjagGreatDoorNtPlain
import Derived.OneCell
import Derived.Lib.AppendZerosOnto
import Derived.Lib.Overlaps
import Derived.Laws.Externs
import Derived.Laws.CopyOwn
import Derived.Deep.RegionLaw
import Derived.Deep.RegionHeld3
import Derived.Deep.DeepCutAuto
import Derived.Test.YtfcknkanbcndjagGreatDoorD2
/- CONTRACTS OF package node: New. -/
namespace Go.Proofs.YtfcknkanbcndjagGreatDoor
open Go.RowKit
attribute [local go_sem] Ext.all Ext.cell Ext.frozen Ext.lt Ext.lt1 Ext.lt2 Ext.ne Ext.ne'
/-- A node that is being made: the first k of all. -/
def nwM (me k : Nat) : Md := { me := me, cost := fun _ => 0, heard := fun j _ => if j < k then (0, 200) else (0, 0), ways := fun j => if j < k then (0, 200, -1) else (0, 0, 0), bests := fun j => if j < k then (0, 200) else (0, 0) }
def nwM1 (me k : Nat) : Md := { nwM me k with heard := updW (nwM me k).heard k (fun _ => (0, 200)) }
def nwM2 (me k : Nat) : Md := { nwM1 me k with bests := updW (nwM1 me k).bests k (0, 200) }
theorem upd_lt {α : Type} (a b : α) (k : Nat) : updW (fun j => if j < k then a else b) k a = fun j => if j < k + 1 then a else b := by
  funext j
  unfold updW
  by_cases e : j = k
  · rw [if_pos e, if_pos (by omega)]
  · rw [if_neg e]
    dsimp only
    by_cases e2 : j < k
    · rw [if_pos e2, if_pos (by omega)]
    · rw [if_neg e2, if_neg (by omega)]
theorem upd_lt2 {α : Type} (a b : α) (k : Nat) : updW (fun j (_ : Nat) => if j < k then a else b) k (fun _ => a) = fun j _ => if j < k + 1 then a else b := by
  funext j i
  unfold updW
  by_cases e : j = k
  · rw [if_pos e, if_pos (by omega)]
  · rw [if_neg e]
    dsimp only
    by_cases e2 : j < k
    · rw [if_pos e2, if_pos (by omega)]
    · rw [if_neg e2, if_neg (by omega)]
theorem nw_succ (me k : Nat) : { nwM2 me k with ways := updW (nwM2 me k).ways k (0, 200, -1) } = nwM me (k + 1) := by
  unfold nwM2 nwM1 nwM
  dsimp only
  rw [upd_lt, upd_lt, upd_lt2]
theorem nw_end {t : TypeId} {w : World} {p me : Nat} (h : NdAt t w p { nwM me 6 with ways := updW (nwM me 6).ways me (0, 0, (me : Int)) }) : NdAt t w p (sel (newM me)) := by
  refine ZArr.congr h fun i hi => ?_
  unfold mdF
  have e1 : ∀ a b, a < 6 → ({ nwM me 6 with ways := updW (nwM me 6).ways me (0, 0, (me : Int)) } : Md).heard a b = (sel (newM me)).heard a b := fun a b ha => by
    show (if a < 6 then ((0, 200) : Int × Int) else (0, 0)) = (0, 200)
    rw [if_pos ha]
  have e2 : ∀ a, a < 6 → ({ nwM me 6 with ways := updW (nwM me 6).ways me (0, 0, (me : Int)) } : Md).ways a = (sel (newM me)).ways a := fun a ha => by
    show updW (fun j => if j < 6 then ((0, 200, -1) : Int × Int × Int) else (0, 0, 0)) me (0, 0, (me : Int)) a = updW (fun _ => (0, 200, -1)) me (0, 0, (me : Int)) a
    by_cases e : a = me
    · rw [e, updW_same, updW_same]
    · rw [updW_ne _ _ e, updW_ne _ _ e, if_pos ha]
  have e3 : ∀ a, a < 6 → ({ nwM me 6 with ways := updW (nwM me 6).ways me (0, 0, (me : Int)) } : Md).bests a = (sel (newM me)).bests a := fun a ha => by
    show (if a < 6 then ((0, 200) : Int × Int) else (0, 0)) = updW (updW (fun _ => (0, 200)) me (0, 0)) me (0, 200) a
    rw [if_pos ha]
    unfold updW
    split <;> rfl
  by_cases a0 : i = 0
  · rw [if_pos a0, if_pos a0]; rfl
  · rw [if_neg a0, if_neg a0]
    by_cases a1 : i < 7
    · rw [if_pos a1, if_pos a1]; rfl
    · rw [if_neg a1, if_neg a1]
      by_cases a2 : i < 79
      · rw [if_pos a2, if_pos a2, e1 _ _ (by omega)]
      · rw [if_neg a2, if_neg a2]
        by_cases a3 : i < 97
        · rw [if_pos a3, if_pos a3, e2 _ (by omega)]
        · rw [if_neg a3, if_neg a3, e3 _ (by omega)]

/-- The node's block, at the beginning. -/
theorem zero_node (w : World) : (zeroValue 126).run Tryz.prog w = .ok (.agg (zcells 109 (fun _ => 0))) w := by kernel_rfl
theorem z109_ne : (zcells 109 (fun _ => 0) = #[]) = False := by
  apply eq_false
  intro h
  have := congrArg Array.size h
  simp [zcells] at this
theorem z109_set (me : Nat) : (zcells 109 (fun _ => 0)).setIfInBounds 0 (iv (me : Int)) = zcells 109 (mdF (nwM me 0)) := by
  apply Array.ext
  · simp [zcells]
  · intro i h1 h2
    have hi : i < 109 := by simpa [zcells] using h2
    rw [Array.getElem_setIfInBounds (by simpa [zcells] using hi)]
    simp only [zcells, List.getElem_toArray, List.getElem_map, List.getElem_range]
    by_cases e : 0 = i
    · subst e
      rw [if_pos rfl, mdF_me]
      rfl
    · rw [if_neg e]
      unfold mdF nwM
      rw [if_neg (fun q => e q.symm)]
      split
      · rfl
      · split
        · split <;> rfl
        · split
          · split
            · rfl
            · split <;> rfl
          · split <;> rfl

set_option maxRecDepth 20000 in
set_option maxHeartbeats 8000000 in
theorem nnew_ok {me : Nat} (hme : me < 6) (w : World) :
    Calls Tryz.prog 101 #[iv me] w fun e w' => e = .returned (pv w.heap.size) ∧ DAt w' w.heap.size (sel (newM me)) ∧ Gr w w' := by
  have hmi : (me : Int) < 6 := by omega
  have B1 : Hid (decide (0 ≤ (me : Int) ∧ (me : Int) < 6) = true) := decide_eq_true ⟨by omega, hmi⟩
  have M0 : Hid (NdAt 126 (w.alloc (.cells (zcells 109 (mdF (nwM me 0))) 126)) w.heap.size (nwM me 0)) := ZArr.new w 126 109 (mdF (nwM me 0))
  have hz := zero_node
  have hne := z109_ne
  have hset := z109_set me
  generalize zcells 109 (fun _ => 0) = Z at hz hne hset
  generalize zcells 109 (mdF (nwM me 0)) = U at hset M0
  go_enter Tryz.func101, Tryz.ntmps101
  go_upto_region 4 with (go_at_call 33; with_reducible refine (lnode_is B1.out _).mono ?_; rintro e w1 ⟨rfl, hw1⟩; have hw2 := hw1.symm; clear hw1; subst hw2)
  refine wp_gen (fun V => Hid (DAt V w.heap.size (nwM me 0)) ∧ Hid (Gr w V)) ⟨M0.out, (Gr.refl _).alloc _⟩ ?_
  clear M0
  generalize hp : w.heap.size = p at *
  have hpw : w.heap.size ≤ p := by omega
  have HP := hide hp
  clear hp
  rintro V ⟨M0, g0⟩
  go_wp2_with fail
  go_loopw [11] (fun v11 wr => ∃ k : Nat, k ≤ 6 ∧ v11 = .int .i64 (k : Int) ∧ Hid (DAt wr p (nwM me k)) ∧ Hid (Gr w wr)) (fun v11 _ => (6 - intOf v11).toNat)
  case atStart => exact ⟨0, by omega, rfl, M0, g0⟩
  case round =>
    clear M0 g0
    obtain ⟨k, hk6, rfl, M0, g0⟩ := hrel
    by_cases hk : k < 6
    · have hki : decide ((k : Int) < 6) = true := decide_eq_true (by omega)
      have hk0 : (k : Int) < 6 := by omega
      have wk : IntKind.i64.wrap ((k : Int) + 1) = (k : Int) + 1 := by rw [IntKind.wrap_i64]; omega
      go_upto_region 8 with (go_at_call 142; with_reducible refine (nforget_any M0.out hk).mono ?_; rintro e V1 ⟨rfl, M1', W1'⟩; have M1 := hide M1'; have W1 := hide W1'; clear M1' W1')
      refine wp_gen (fun V => Hid (DAt V p (nwM1 me k)) ∧ Hid (Gr w V)) ⟨M1.out, W1.out.gr g0.out hpw⟩ ?_
      clear M0 M1 W1 g0
      rintro V2 ⟨M2, g2⟩
      have fz := NdAt.free M2.out
      obtain ⟨q0, q1⟩ := M2.out.bests hk
      have hp := M2.out.lt
      go_cut [] from 17 to 22 (fun wx => Hid (DAt wx p (nwM2 me k)) ∧ Hid (Gr w wx))
      case first =>
        go_region_with (go_at_call 143; with_reducible refine (nothing_any _).mono ?_; rintro e V ⟨rfl, d2, hV⟩; have gV : Hid (Gr V2 V) := (by unfold Hid; rw [hV]; exact (Gr.refl _).drewTo d2.gr); clear hV d2; have hp2 := (M2.out.gr gV.out).lt; have fz2 := NdAt.free (M2.out.gr gV.out); obtain ⟨r0, r1⟩ := (M2.out.gr gV.out).bests hk)
        all_goals
          have SM := hide ((M2.out.gr gV.out).setBests hk 0 200)
          have SW := hide (((g2.out.trans gV.out).setCell (p := ⟨p, 97 + k * 2, none⟩) hpw (iv 0)).setCell (p := ⟨p, 97 + k * 2 + 1, none⟩) hpw (iv 200))
          go_wp2_with fail
          go_meet
          exact ⟨SM, SW⟩
      case rest =>
        clear fz q0 q1 hp M2 g2
        obtain ⟨M2, g2⟩ := hcut
        have fz := NdAt.free M2.out
        obtain ⟨q0, q1, q2⟩ := M2.out.ways hk
        have hp := M2.out.lt
        have HS := hide (nw_succ me k)
        go_upto_region 9 with (fail)
        go_region_with (go_at_call 144; with_reducible refine (noWay_any 0 _).mono ?_; rintro e V ⟨rfl, d2, hV⟩; have gV : Hid (Gr wc V) := (by unfold Hid; rw [hV]; exact (Gr.refl _).drewTo d2.gr); clear hV d2; have hp2 := (M2.out.gr gV.out).lt; have fz2 := NdAt.free (M2.out.gr gV.out); obtain ⟨r0, r1, r2⟩ := (M2.out.gr gV.out).ways hk)
        all_goals
          have SM := hide ((M2.out.gr gV.out).setWays hk 0 200 (-1))
          have SW := hide ((((g2.out.trans gV.out).setCell (p := ⟨p, 79 + k * 3, none⟩) hpw (iv 0)).setCell (p := ⟨p, 79 + k * 3 + 1, none⟩) hpw (iv 200)).setCell (p := ⟨p, 79 + k * 3 + 2, none⟩) hpw (iv (-1)))
          rw [HS.out] at SM
          go_wp2_with fail
          go_roundw
          case rel => exact ⟨k + 1, by omega, by congr 1, SM, SW⟩
          case measure => simp [intOf]; omega
    · have hki : decide ((k : Int) < 6) = false := decide_eq_false (by omega)
      have ek : k = 6 := by omega
      subst ek
      have fz := NdAt.free M0.out
      obtain ⟨q0, q1, q2⟩ := M0.out.ways hme
      have hp := M0.out.lt
      have SM := hide (nw_end (M0.out.setWays hme 0 0 (me : Int)))
      have SW := hide (((g0.out.setCell (p := ⟨p, 79 + me * 3, none⟩) hpw (iv 0)).setCell (p := ⟨p, 79 + me * 3 + 1, none⟩) hpw (iv 0)).setCell (p := ⟨p, 79 + me * 3 + 2, none⟩) hpw (iv (me : Int)))
      go_wp2_with fail
      have hpe := HP.out
      clear HP
      subst hpe
      go_ret
      exact ⟨rfl, SM.out, SW.out⟩

end Go.Proofs.YtfcknkanbcndjagGreatDoor

/- THE PROGRAM'S NODE: Link, Hear and Tick of whatever is handed in. -/
namespace Go.Proofs.YtfcknkanbcndjagGreatDoor
open Go.RowKit

abbrev lkOk (m : Md) (f c : Int) : Prop := ((0 ≤ f ∧ f < 6) ∧ f ≠ (m.me : Int)) ∧ 0 ≤ c ∧ c ≤ 15
def lcode (m : Md) (f c : Int) : Int := if lkOk m f c then 0 else 1
def lnkM (m : Md) (f c : Int) : Md := if lkOk m f c then linkM m f.toNat c else m
abbrev hrOk (m : Md) (f z s d : Int) : Prop := ((0 ≤ f ∧ f < 6) ∧ f ≠ (m.me : Int)) ∧ (0 ≤ z ∧ z < 6) ∧ 0 ≤ s ∧ 0 ≤ d ∧ d ≤ 200
def hcode (m : Md) (f z s d : Int) : Int := if hrOk m f z s d then (if m.cost f.toNat = 0 then 6 else 0) else 1
def hrM (m : Md) (f z s d : Int) : Md := if hrOk m f z s d ∧ m.cost f.toNat ≠ 0 then hearM m f.toNat z.toNat s d else m
theorem MdZ.bd {m : Md} (h : MdZ m) : Bd (sel m) := by
  refine ⟨h.ok.cost, fun r k => (h.ok.said r k).2, fun k => ?_⟩
  show (updW m.bests m.me (0, 200) k).2 ≤ 200
  unfold updW
  split
  · exact Int.le_refl _
  · exact (h.x.b200 k).2
theorem nlinkN {w : World} {p : Nat} {m : Md} (H : DAt w p (sel m)) (hz : MdZ m) (f c : Int) :
    Calls Tryz.prog 121 #[pv p, iv f, iv c] w fun e w' => e = .returned (iv (lcode m f c)) ∧ DAt w' p (sel (lnkM m f c)) ∧ Wr p w w' := by
  unfold lcode lnkM
  by_cases q : lkOk m f c
  · rw [if_pos q, if_pos q]
    obtain ⟨k, rfl⟩ : ∃ k : Nat, f = (k : Int) := ⟨f.toNat, by omega⟩
    have := nlink_ok H hz.bd (f := k) (c := c) (by omega) (show k ≠ m.me by omega) q.2.1 q.2.2
    rw [sel_link] at this
    rw [Int.toNat_natCast]
    exact this
  · rw [if_neg q, if_neg q]
    refine (nlink_bad H (f := f) (c := c) ?_).mono fun e w' ⟨h1, h2⟩ => ⟨h1, by rw [h2]; exact H, by rw [h2]; exact Wr.refl _ _⟩
    show ¬ (0 ≤ f ∧ f < 6) ∨ f = (m.me : Int) ∨ c < 0 ∨ 15 < c
    omega
theorem nhearN {w : World} {p : Nat} {m : Md} (H : DAt w p (sel m)) (hz : MdZ m) (f o z s d : Int) :
    Calls Tryz.prog 58 #[pv p, .agg #[iv f, iv o, iv z, iv s, iv d]] w fun e w' => e = .returned (iv (hcode m f z s d)) ∧ DAt w' p (sel (hrM m f z s d)) ∧ Wr p w w' := by
  unfold hcode hrM
  by_cases q : hrOk m f z s d
  · rw [if_pos q]
    obtain ⟨k, rfl⟩ : ∃ k : Nat, f = (k : Int) := ⟨f.toNat, by omega⟩
    obtain ⟨i, rfl⟩ : ∃ i : Nat, z = (i : Int) := ⟨z.toNat, by omega⟩
    rw [Int.toNat_natCast, Int.toNat_natCast]
    by_cases hc : m.cost k = 0
    · rw [if_pos hc, if_neg (fun x => x.2 hc)]
      exact (nhear_none H (f := k) (z := i) (o := o) (s := s) (d := d) (by omega) (by omega) (show k ≠ m.me by omega) hc q.2.2.1 q.2.2.2.1 q.2.2.2.2).mono fun e w' ⟨h1, h2⟩ => ⟨h1, H.gr h2, h2.wr p⟩
    · rw [if_neg hc, if_pos ⟨q, hc⟩]
      have := nhear_ok H hz.bd (f := k) (z := i) (o := o) (s := s) (d := d) (by omega) (by omega) (show k ≠ m.me by omega) hc q.2.2.1 q.2.2.2.1 q.2.2.2.2
      rw [sel_hear hz.l (show i < 6 by omega)] at this
      exact this
  · rw [if_neg q, if_neg (fun x => q x.1)]
    refine (nhear_bad H (f := f) (o := o) (z := z) (s := s) (d := d) ?_).mono fun e w' ⟨h1, h2⟩ => ⟨h1, H.gr h2, h2.wr p⟩
    show ¬ (0 ≤ f ∧ f < 6) ∨ ¬ (0 ≤ z ∧ z < 6) ∨ f = (m.me : Int) ∨ s < 0 ∨ d < 0 ∨ 200 < d
    omega
/-- How often the age of a node's way to itself rose. -/
def age (m : Md) : Int := (m.ways m.me).1
theorem ntickN {w : World} {p : Nat} {m : Md} (H : DAt w p (sel m)) (hz : MdZ m) (ha : age m < 4611686018427387904) :
    Calls Tryz.prog 29 #[pv p] w fun e w' => e = .returned (.tuple #[]) ∧ DAt w' p (sel (tickM m)) ∧ Wr p w w' := by
  obtain ⟨s, h0, hw, _⟩ := hz.ok.self
  have := ntick_any H hz.ok.me (show 0 ≤ (m.ways m.me).1 by rw [hw]; exact h0) ha
  rw [sel_tick] at this
  exact this

end Go.Proofs.YtfcknkanbcndjagGreatDoor

/- SIX NODES AND NEWS IN MEMORY: blocks of any values, six nodes apart from each other, a list of news of their owner's own. -/
namespace Go.Proofs.YtfcknkanbcndjagGreatDoor
open Go.RowKit

/-- n values, as cells. -/
def vcells (n : Nat) (g : Nat → Value) : Array Value := ((List.range n).map g).toArray
def VArr (w : World) (t : TypeId) (n p : Nat) (g : Nat → Value) : Prop := w.heap[p]? = some (.cells (vcells n g) t (0, 0))
theorem VArr.lt {w : World} {t n p : Nat} {g : Nat → Value} (h : VArr w t n p g) : p < w.heap.size := lt_of_block h
theorem VArr.cell {w : World} {t n p : Nat} {g : Nat → Value} (h : VArr w t n p g) {j : Nat} (hj : j < n) : w.cell? ⟨p, j, none⟩ = some (g j) := by
  unfold VArr at h
  simp [World.cell?, h, vcells, hj]
theorem VArr.free {w : World} {t n p : Nat} {g : Nat → Value} (h : VArr w t n p g) (j : Nat) : w.frozen? ⟨p, j, none⟩ = false := by
  unfold VArr at h
  simp [World.frozen?, h]
theorem VArr.gr {w w' : World} {t n p : Nat} {g : Nat → Value} (h : VArr w t n p g) (k : Gr w w') : VArr w' t n p g := (Below.block k p (lt_of_block h)).trans h
theorem VArr.congr {w : World} {t n p : Nat} {g g' : Nat → Value} (h : VArr w t n p g) (e : ∀ j, j < n → g j = g' j) : VArr w t n p g' := by
  unfold VArr at h ⊢
  have : vcells n g = vcells n g' := by
    unfold vcells
    congr 1
    apply List.map_congr_left
    intro j hj
    exact e j (List.mem_range.1 hj)
  rw [← this]; exact h
theorem VArr.set {w : World} {t n p : Nat} {g g' : Nat → Value} (h : VArr w t n p g) {j : Nat} {v : Value} (e : ∀ i, i < n → g' i = if i = j then v else g i) : VArr (w.setCell ⟨p, j, none⟩ v) t n p g' := by
  unfold VArr at h ⊢
  have : (w.setCell ⟨p, j, none⟩ v).heap[p]? = some (.cells ((vcells n g).setIfInBounds j v) t (0, 0)) := by
    simp [World.setCell, Array.getElem?_modify, h]
  rw [this]
  congr 2
  apply Array.ext
  · simp [vcells]
  · intro i h1 h2
    have hi : i < n := by simpa [vcells] using h1
    rw [Array.getElem_setIfInBounds (by simpa [vcells] using hi)]
    simp only [vcells, List.getElem_toArray, List.getElem_map, List.getElem_range, e i hi]
    by_cases q : j = i
    · subst q; simp
    · rw [if_neg q, if_neg (fun x => q x.symm)]
theorem VArr.other {w : World} {t n p q : Nat} {g : Nat → Value} (h : VArr w t n p g) (hn : p ≠ q) (j : Nat) (v : Value) : VArr (w.setCell ⟨q, j, none⟩ v) t n p g := by
  unfold VArr
  rw [Below.heap_setCell w ⟨q, j, none⟩ v p hn]; exact h
theorem VArr.new (w : World) (t n : Nat) (g : Nat → Value) : VArr (w.alloc (.cells (vcells n g) t)) t n w.heap.size g := heap_alloc_new w _
theorem Wr.varr {p t n q : Nat} {a b : World} {g : Nat → Value} (h : Wr p a b) (k : VArr a t n q g) (hq : q ≠ p) : VArr b t n q g := (h.block q k.lt hq).trans k

/-- Six nodes, each in a block of its own. -/
structure Six (t : TypeId) (w : World) (q : Nat → Nat) (nd : Nat → Md) : Prop where
  at_ : ∀ a, a < 6 → NdAt t w (q a) (nd a)
  inj : ∀ a b, a < 6 → b < 6 → a ≠ b → q a ≠ q b
theorem Six.gr {t : TypeId} {w w' : World} {q : Nat → Nat} {nd : Nat → Md} (h : Six t w q nd) (g : Gr w w') : Six t w' q nd := ⟨fun a ha => (h.at_ a ha).gr g, h.inj⟩
/-- One of them has changed. -/
theorem Six.put {t : TypeId} {w w' : World} {q : Nat → Nat} {nd : Nat → Md} (h : Six t w q nd) {a : Nat} (ha : a < 6) {m : Md} (hw : Wr (q a) w w') (hm : NdAt t w' (q a) m) : Six t w' q (updW nd a m) := by
  refine ⟨fun b hb => ?_, h.inj⟩
  by_cases e : b = a
  · subst e; rw [updW_same]; exact hm
  · rw [updW_ne _ _ e]
    exact (hw.block (q b) (h.at_ b hb).lt (h.inj b a hb ha e)).trans (h.at_ b hb)
theorem Six.keep {t : TypeId} {w w' : World} {q : Nat → Nat} {nd : Nat → Md} (h : Six t w q nd) (k : ∀ a, a < 6 → w'.heap[q a]? = w.heap[q a]?) : Six t w' q nd := ⟨fun a ha => (k a ha).trans (h.at_ a ha), h.inj⟩

/-- A list of news of its owner's own, in a block that is not below lo. -/
def NwO (lo : Nat) (w : World) (v : Value) (l : List Nws) : Prop := w.ownsRow lo 114 5 v l.length (celn l)
theorem NwO.nil (lo : Nat) (w : World) : NwO lo w (.slice none 0 0) [] := World.ownsRow_nil _ _ _ _
theorem NwO.keep {lo : Nat} {w w' : World} {v : Value} {l : List Nws} (h : NwO lo w v l) (k : ∀ b, v.ownBlock = some b → w'.heap[b]? = w.heap[b]?) : NwO lo w' v l := by
  refine ⟨h.1, ?_⟩
  rcases h.2 with hn | ⟨b, cap, cur, rfl, hb, hgg, rest⟩
  · exact .inl hn
  · exact .inr ⟨b, cap, cur, rfl, hb, (k b rfl).trans hgg, rest⟩
theorem NwO.gr {lo : Nat} {w w' : World} {v : Value} {l : List Nws} (h : NwO lo w v l) (g : Gr w w') : NwO lo w' v l := by
  refine ⟨h.1, ?_⟩
  rcases h.2 with hn | ⟨b, cap, cur, rfl, hb, hgg, rest⟩
  · exact .inl hn
  · exact .inr ⟨b, cap, cur, rfl, hb, by rw [g.block b (lt_of_block hgg)]; exact hgg, rest⟩
theorem NwO.shape {lo : Nat} {w : World} {v : Value} {l : List Nws} (h : NwO lo w v l) : ∃ ao c, v = .slice ao l.length c ∧ NewsAt w ao l ∧ l.length ≤ c ∧ ∀ b o, ao = some ⟨b, o, none⟩ → lo ≤ b ∧ o = 0 ∧ v.ownBlock = some b := by
  rcases h.2 with ⟨rfl, hn⟩ | ⟨g, cap, cur, rfl, hb, hg, hn, hc, hs, ht⟩
  · have : l = [] := List.eq_nil_of_length_eq_zero hn
    subst this
    exact ⟨none, 0, rfl, .inl rfl, Nat.le_refl _, fun _ _ e => by cases e⟩
  · refine ⟨_, _, rfl, .inr ⟨g, 0, rfl, (Array.getElem?_eq_some_iff.1 hg).1, fun i hi => ?_⟩, hn, fun b o e => by cases e; exact ⟨hb, rfl, rfl⟩⟩
    have e : ∀ j, j < l.length * 5 → w.cell? ⟨g, 0 + j, none⟩ = (celn l)[j]? := by
      intro j hj
      rw [← ht, List.getElem?_take_of_lt hj]
      simp [World.cell?, hg]
    have ha := celn_at l i hi
    rw [Nat.add_assoc, Nat.add_assoc, Nat.add_assoc, Nat.add_assoc, e _ (by omega), e _ (by omega), e _ (by omega), e _ (by omega), e _ (by omega)]
    exact ha
theorem celn_length : ∀ l : List Nws, (celn l).length = l.length * 5
  | [] => rfl
  | x :: l => by rw [celn_cons]; simp only [List.length_cons, celn_length l]; omega
theorem celn_cells {w : World} {b o : Nat} : ∀ {l : List Nws}, (∀ i (h : i < l.length), w.cell? ⟨b, o + i * 5, none⟩ = some (iv l[i].1) ∧ w.cell? ⟨b, o + i * 5 + 1, none⟩ = some (iv l[i].2.1) ∧ w.cell? ⟨b, o + i * 5 + 2, none⟩ = some (iv l[i].2.2.1) ∧ w.cell? ⟨b, o + i * 5 + 3, none⟩ = some (iv l[i].2.2.2.1) ∧ w.cell? ⟨b, o + i * 5 + 4, none⟩ = some (iv l[i].2.2.2.2)) →
    ∀ j u, (celn l)[j]? = some u → w.cell? ⟨b, o + j, none⟩ = some u := by
  intro l h j u hj
  have hl : j < l.length * 5 := by
    have := (List.getElem?_eq_some_iff.1 hj).1
    rw [celn_length] at this; exact this
  have hi : j / 5 < l.length := by omega
  obtain ⟨c0, c1, c2, c3, c4⟩ := h (j / 5) hi
  obtain ⟨a0, a1, a2, a3, a4⟩ := celn_at l (j / 5) hi
  rcases (show j = j / 5 * 5 ∨ j = j / 5 * 5 + 1 ∨ j = j / 5 * 5 + 2 ∨ j = j / 5 * 5 + 3 ∨ j = j / 5 * 5 + 4 by omega) with e | e | e | e | e
  · rw [e] at hj ⊢; rw [a0] at hj; rw [c0]; exact hj
  · rw [e] at hj ⊢; rw [a1] at hj; rw [← Nat.add_assoc, c1]; exact hj
  · rw [e] at hj ⊢; rw [a2] at hj; rw [← Nat.add_assoc, c2]; exact hj
  · rw [e] at hj ⊢; rw [a3] at hj; rw [← Nat.add_assoc, c3]; exact hj
  · rw [e] at hj ⊢; rw [a4] at hj; rw [← Nat.add_assoc, c4]; exact hj
theorem celn_one : ∀ l : List Nws, ∀ u ∈ celn l, Value.oneCell' u = true
  | [], u, h => by cases h
  | x :: l, u, h => by
    rw [celn_cons] at h
    simp only [List.mem_cons] at h
    rcases h with rfl | rfl | rfl | rfl | rfl | h
    · rfl
    · rfl
    · rfl
    · rfl
    · rfl
    · exact celn_one l u h
/-- 'append(l, x...)'. -/
theorem NwO.app {lo : Nat} {w : World} {v : Value} {l xs : List Nws} {ao : Option Addr} {c : Nat} (ty : TypeId) (hO : NwO lo w v l) (hlo : lo ≤ w.heap.size) (H : NewsAt w ao xs) (h0 : 0 < xs.length) (hm : l.length + xs.length ≤ 1000) :
    ∃ v' w', (Builtin.append_ #[46, 46] ty #[v, .slice ao xs.length c]).run Tryz.prog w = .ok v' w' ∧ NwO lo w' v' (l ++ xs) ∧ w.grownBy w' v.ownBlock ∧ (v'.ownBlock = v.ownBlock ∨ v'.ownBlock = some w.heap.size) := by
  obtain ⟨i0, hi, hz0, hz1, hz2⟩ := info_parts Tryz.info114
  rcases H with h | ⟨b, o, rfl, _, hcs⟩
  · subst h; simp at h0
  · obtain ⟨v', w', h1, h2, h3, _, h5⟩ := run_append_own_at (P := Tryz.prog) w lo 46 ty 114 i0 _ 5 40 Tryz.underlying46 hi hz0 hz1 hz2 (by rfl) (by decide) v l.length (celn l) hO
      ⟨b, o, none⟩ xs.length c (celn xs) (celn_length xs) (fun j u hj => by rw [Addr.add_lit]; exact celn_cells hcs j u hj) (celn_one xs) (by unfold maxLen; omega) (by omega) hlo
    refine ⟨v', w', h1, ?_, h3, h5⟩
    unfold NwO
    rw [celn_append, List.length_append]
    exact h2

end Go.Proofs.YtfcknkanbcndjagGreatDoor

/- NUMBERS AND LINKS IN MEMORY: arrays of numbers, lists of links, lists of a call's own. -/
namespace Go.Proofs.YtfcknkanbcndjagGreatDoor
open Go.RowKit


/-- n numbers, as cells. -/
def ncells (n : Nat) (g : Nat → Nat) : Array Value := ((List.range n).map fun i => iv (g i)).toArray
/-- At block p there are n numbers. -/
def NArr (w : World) (t : TypeId) (n p : Nat) (g : Nat → Nat) : Prop := w.heap[p]? = some (.cells (ncells n g) t (0, 0))
theorem NArr.lt {w : World} {t n p : Nat} {g : Nat → Nat} (h : NArr w t n p g) : p < w.heap.size := lt_of_block h
theorem NArr.cell {w : World} {t n p : Nat} {g : Nat → Nat} (h : NArr w t n p g) {j : Nat} (hj : j < n) : w.cell? ⟨p, j, none⟩ = some (iv (g j)) := by
  unfold NArr at h
  simp [World.cell?, h, ncells, hj]
theorem NArr.free {w : World} {t n p : Nat} {g : Nat → Nat} (h : NArr w t n p g) (j : Nat) : w.frozen? ⟨p, j, none⟩ = false := by
  unfold NArr at h
  simp [World.frozen?, h]
theorem NArr.gr {w w' : World} {t n p : Nat} {g : Nat → Nat} (h : NArr w t n p g) (k : Gr w w') : NArr w' t n p g := (Below.block k p (lt_of_block h)).trans h
theorem ncells_congr {n : Nat} {g g' : Nat → Nat} (e : ∀ j, j < n → g j = g' j) : ncells n g = ncells n g' := by
  unfold ncells
  congr 1
  apply List.map_congr_left
  intro j hj
  rw [e j (List.mem_range.1 hj)]
theorem NArr.congr {w : World} {t n p : Nat} {g g' : Nat → Nat} (h : NArr w t n p g) (e : ∀ j, j < n → g j = g' j) : NArr w t n p g' := by
  unfold NArr at h ⊢
  rw [← ncells_congr e]; exact h
theorem NArr.set {w : World} {t n p : Nat} {g g' : Nat → Nat} (h : NArr w t n p g) {j v : Nat} (e : ∀ i, i < n → g' i = if i = j then v else g i) : NArr (w.setCell ⟨p, j, none⟩ (iv v)) t n p g' := by
  unfold NArr at h ⊢
  have : (w.setCell ⟨p, j, none⟩ (iv v)).heap[p]? = some (.cells ((ncells n g).setIfInBounds j (iv v)) t (0, 0)) := by
    simp [World.setCell, Array.getElem?_modify, h]
  rw [this]
  congr 2
  apply Array.ext
  · simp [ncells]
  · intro i h1 h2
    have hi : i < n := by simpa [ncells] using h1
    rw [Array.getElem_setIfInBounds (by simpa [ncells] using hi)]
    simp only [ncells, List.getElem_toArray, List.getElem_map, List.getElem_range, e i hi]
    by_cases q : j = i
    · subst q; simp
    · rw [if_neg q, if_neg (fun x => q x.symm)]
theorem NArr.other {w : World} {t n p q : Nat} {g : Nat → Nat} (h : NArr w t n p g) (hn : p ≠ q) (j : Nat) (v : Value) : NArr (w.setCell ⟨q, j, none⟩ v) t n p g := by
  unfold NArr
  rw [Below.heap_setCell w ⟨q, j, none⟩ v p hn]; exact h
theorem NArr.new (w : World) (t n : Nat) (g : Nat → Nat) : NArr (w.alloc (.cells (ncells n g) t)) t n w.heap.size g := heap_alloc_new w _

/-- Links with these costs. -/
def KL (w : World) (p : Nat) (c : Nat → Nat → Nat) : Prop := NArr w 84 36 p (fun i => if i / 6 < i % 6 then c (i / 6) (i % 6) else 0)
theorem KL.gr {w w' : World} {p : Nat} {c : Nat → Nat → Nat} (h : KL w p c) (k : Gr w w') : KL w' p c := NArr.gr h k
theorem KL.lt {w : World} {p : Nat} {c : Nat → Nat → Nat} (h : KL w p c) : p < w.heap.size := NArr.lt h
theorem KL.cell {w : World} {p : Nat} {c : Nat → Nat → Nat} (h : KL w p c) {a b : Nat} (hab : a < b) (hb : b < 6) : w.cell? ⟨p, a * 6 + b, none⟩ = some (iv (c a b)) := by
  have := NArr.cell h (j := a * 6 + b) (by omega)
  rw [show (a * 6 + b) / 6 = a by omega, show (a * 6 + b) % 6 = b by omega, if_pos hab] at this
  exact this
theorem KL.cell0 {w : World} {p : Nat} {c : Nat → Nat → Nat} (h : KL w p c) {a b : Nat} (hab : b ≤ a) (ha : a < 6) : w.cell? ⟨p, a * 6 + b, none⟩ = some (iv 0) := by
  have := NArr.cell h (j := a * 6 + b) (by omega)
  rw [show (a * 6 + b) / 6 = a by omega, show (a * 6 + b) % 6 = b by omega, if_neg (by omega)] at this
  exact this
theorem KL.set {w : World} {p : Nat} {c : Nat → Nat → Nat} (h : KL w p c) {a b v : Nat} (hab : a < b) (hb : b < 6) : KL (w.setCell ⟨p, a * 6 + b, none⟩ (iv v)) p (setC c a b v) := by
  refine NArr.set h fun i hi => ?_
  unfold setC
  by_cases e : i = a * 6 + b
  · subst e
    rw [if_pos rfl, if_pos (by omega), if_pos (by omega)]
  · rw [if_neg e]
    by_cases q : i / 6 < i % 6
    · rw [if_pos q, if_pos q, if_neg (by omega)]
    · rw [if_neg q, if_neg q]
theorem KL.new (w : World) : KL (w.alloc (.cells (ncells 36 fun _ => 0) 84)) w.heap.size (fun _ _ => 0) := NArr.congr (NArr.new w 84 36 fun _ => 0) (fun j _ => by split <;> rfl)
def OwnI (B w : World) (v : Value) (l : List Nat) : Prop := w.ownsRow B.heap.size 3 1 v l.length (l.map fun (n : Nat) => iv n)
theorem own_gr {w w' : World} {base e size n : Nat} {v : Value} {xs : List Value} (h : w.ownsRow base e size v n xs) (g : Gr w w') : w'.ownsRow base e size v n xs := by
  refine ⟨h.1, ?_⟩
  rcases h.2 with hn | ⟨b, cap, cur, rfl, hb, hgg, rest⟩
  · exact .inl hn
  · exact .inr ⟨b, cap, cur, rfl, hb, by rw [g.block b (lt_of_block hgg)]; exact hgg, rest⟩
theorem OwnI.gr {B w w' : World} {v : Value} {l : List Nat} (h : OwnI B w v l) (g : Gr w w') : OwnI B w' v l := own_gr h g
theorem OwnI.nil (B w : World) : OwnI B w (.slice none 0 0) [] := World.ownsRow_nil _ _ _ _
/-- Numbers in a row. -/
def NumAt (w : World) (ao : Option Addr) (l : List Nat) : Prop := l = [] ∨ ∃ b o, ao = some ⟨b, o, none⟩ ∧ b < w.heap.size ∧ ∀ i (h : i < l.length), w.cell? ⟨b, o + i, none⟩ = some (iv l[i])
theorem OwnI.shape {B w : World} {v : Value} {l : List Nat} (h : OwnI B w v l) : ∃ ao c, v = .slice ao l.length c ∧ NumAt w ao l := by
  rcases h.2 with ⟨rfl, hn⟩ | ⟨g, cap, cur, rfl, hb, hg, hn, hc, hs, ht⟩
  · have : l = [] := List.eq_nil_of_length_eq_zero hn
    subst this
    exact ⟨none, 0, rfl, .inl rfl⟩
  · refine ⟨_, _, rfl, .inr ⟨g, 0, rfl, (Array.getElem?_eq_some_iff.1 hg).1, fun i hi => ?_⟩⟩
    have e : w.cell? ⟨g, 0 + i, none⟩ = (l.map fun (n : Nat) => iv n)[i]? := by
      rw [← ht, List.getElem?_take_of_lt (by omega)]
      simp [World.cell?, hg]
    rw [e]
    simp [hi]

theorem OwnI.app {B X : World} {v : Value} {l : List Nat} (ty : TypeId) (hO : OwnI B X v l) (g : Gr B X) (x : Nat) (hm : l.length ≤ 1000) :
    ∃ v' w', (Builtin.append_ #[34, 34] ty #[v, .slice (some ⟨X.heap.size, 0, none⟩) 1 1]).run Tryz.prog (X.alloc (.cells #[iv x] 3)) = .ok v' w' ∧ OwnI B w' v' (l ++ [x]) ∧ Gr B w' := by
  obtain ⟨i0, hi, hz0, hz1, hz2⟩ := info_parts Tryz.info3
  have hY := hO.gr ((Gr.refl X).alloc (.cells #[iv x] 3))
  obtain ⟨v', w', h1, h2, h3, _⟩ := run_append_own (P := Tryz.prog) _ B.heap.size 34 ty 3 i0 _ 1 8 Tryz.underlying34 hi hz0 hz1 hz2 (by rfl) (by decide) v l.length (l.map fun (n : Nat) => iv n) hY
      ⟨X.heap.size, 0, none⟩ 1 1 [iv x] rfl
      (fun j u hj => by
        have hl : j < 1 := (List.getElem?_eq_some_iff.1 hj).1
        have : j = 0 := by omega
        subst this; simp at hj; subst hj; simp [Addr.add, go_sem])
      (by simp [Value.oneCell']) (by unfold maxLen; omega) (by omega) (by have := Below.size g; simp; omega)
  refine ⟨v', w', h1, ?_, (g.alloc _).grown h3 (fun k hk => (hO.lt k hk).1)⟩
  unfold OwnI
  rw [List.map_append, List.length_append]
  exact h2

end Go.Proofs.YtfcknkanbcndjagGreatDoor

/- CONTRACTS OF package links: Node, New, Cost, Set; of handpostref: IsNode, Map.Set. -/
namespace Go.Proofs.YtfcknkanbcndjagGreatDoor
open Go.RowKit

def nodeB (a : Int) : Bool := decide (0 ≤ a ∧ a < 6)
theorem node_iff {a : Int} : nodeB a = true ↔ 0 ≤ a ∧ a < 6 := by unfold nodeB; simp
theorem node_not {a : Int} : nodeB a = false ↔ ¬ (0 ≤ a ∧ a < 6) := by unfold nodeB; simp
theorem node_is {a : Int} {v : Bool} (h : nodeB a = v) (w : World) : Calls Tryz.prog 33 #[iv a] w fun e w' => e = .returned (.bool v) ∧ w' = w := by
  subst h
  by_cases h1 : 0 ≤ a
  · have hd : decide (0 ≤ a) = true := by simpa using h1
    have ho : nodeB a = decide (a < 6) := by unfold nodeB; congr 1; simp only [eq_iff_iff]; omega
    rw [ho]; clear ho
    go_enter Tryz.func33, Tryz.ntmps33
    go_wp2
    go_ret
    exact ⟨rfl, rfl⟩
  · have hd : decide (0 ≤ a) = false := by simpa using h1
    have ho : nodeB a = false := node_not.2 (by omega)
    rw [ho]; clear ho
    go_enter Tryz.func33, Tryz.ntmps33
    go_wp2
    go_ret
    exact ⟨rfl, rfl⟩
theorem knew_any (w : World) : Calls Tryz.prog 100 #[] w fun e w' => e = .returned (pv w.heap.size) ∧ KL w' w.heap.size (fun _ _ => 0) ∧ Gr w w' ∧ w.heap.size < w'.heap.size := by
  have HN := hide (KL.new w)
  go_enter Tryz.func100, Tryz.ntmps100
  go_wp2
  go_ret
  exact ⟨rfl, HN.out, (Gr.refl _).alloc _, by simp⟩

/-- What the link of two nodes costs. -/
def cst (c : Nat → Nat → Nat) (a b : Int) : Nat := if nodeB a = true ∧ nodeB b = true then c a.toNat b.toNat else 0
theorem cost_nat {w : World} {p : Nat} {c : Nat → Nat → Nat} (H : KL w p c) (hc : Lk c) {a b : Nat} (ha : a < 6) (hb : b < 6) : Calls Tryz.prog 18 #[pv p, iv a, iv b] w fun e w' => e = .returned (iv (c a b)) ∧ w' = w := by
  have A : Hid (nodeB (a : Int) = true) := node_iff.2 (by omega)
  have B : Hid (nodeB (b : Int) = true) := node_iff.2 (by omega)
  have hlt := H.lt
  by_cases h1 : a < b
  · have c1 := H.cell h1 hb
    clear H hc
    go_enter Tryz.func18, Tryz.ntmps18
    go_wp2_with (first | (go_at_call 33; with_reducible refine (node_is A.out _).mono ?_; rintro e w' ⟨rfl, hw⟩; subst hw) | (go_at_call 33; with_reducible refine (node_is B.out _).mono ?_; rintro e w' ⟨rfl, hw⟩; subst hw))
    go_ret
    exact ⟨rfl, rfl⟩
  · by_cases h2 : b < a
    · have c1 := H.cell h2 ha
      rw [hc.sym b a] at c1
      clear H hc
      go_enter Tryz.func18, Tryz.ntmps18
      go_wp2_with (first | (go_at_call 33; with_reducible refine (node_is A.out _).mono ?_; rintro e w' ⟨rfl, hw⟩; subst hw) | (go_at_call 33; with_reducible refine (node_is B.out _).mono ?_; rintro e w' ⟨rfl, hw⟩; subst hw))
      go_ret
      exact ⟨rfl, rfl⟩
    · have e : a = b := by omega
      subst e
      have c1 := H.cell0 (Nat.le_refl a) ha
      have HC := hide (hc.self a)
      clear H hc
      go_enter Tryz.func18, Tryz.ntmps18
      go_wp2_with (first | (go_at_call 33; with_reducible refine (node_is A.out _).mono ?_; rintro e w' ⟨rfl, hw⟩; subst hw))
      go_ret
      exact ⟨by rw [HC.out]; rfl, rfl⟩
theorem cost_any {w : World} {p : Nat} {c : Nat → Nat → Nat} (H : KL w p c) (hc : Lk c) (a b : Int) : Calls Tryz.prog 18 #[pv p, iv a, iv b] w fun e w' => e = .returned (iv (cst c a b)) ∧ w' = w := by
  cases hA : nodeB a
  · have A := hide hA
    have ho : cst c a b = 0 := by unfold cst; rw [if_neg (by simp [hA])]
    rw [ho]
    clear hA H ho
    go_enter Tryz.func18, Tryz.ntmps18
    go_wp2_with (first | (go_at_call 33; with_reducible refine (node_is A.out _).mono ?_; rintro e w' ⟨rfl, hw⟩; subst hw))
    go_ret
    exact ⟨rfl, rfl⟩
  · cases hB : nodeB b
    · have A := hide hA
      have B := hide hB
      have ho : cst c a b = 0 := by unfold cst; rw [if_neg (by simp [hB])]
      rw [ho]
      clear hA hB H ho
      go_enter Tryz.func18, Tryz.ntmps18
      go_wp2_with (first | (go_at_call 33; with_reducible refine (node_is A.out _).mono ?_; rintro e w' ⟨rfl, hw⟩; subst hw) | (go_at_call 33; with_reducible refine (node_is B.out _).mono ?_; rintro e w' ⟨rfl, hw⟩; subst hw))
      go_ret
      exact ⟨rfl, rfl⟩
    · obtain ⟨a0, a1⟩ := node_iff.1 hA
      obtain ⟨b0, b1⟩ := node_iff.1 hB
      have ho : cst c a b = c a.toNat b.toNat := by unfold cst; rw [if_pos ⟨hA, hB⟩]
      have := cost_nat H hc (a := a.toNat) (b := b.toNat) (by omega) (by omega)
      rw [show ((a.toNat : Nat) : Int) = a by omega, show ((b.toNat : Nat) : Int) = b by omega] at this
      rw [ho]; exact this

theorem setC_swap (c : Nat → Nat → Nat) (a b v : Nat) : setC c a b v = setC c b a v := by
  funext i j
  unfold setC
  by_cases e : (i = a ∧ j = b) ∨ (i = b ∧ j = a)
  · rw [if_pos e, if_pos (by omega)]
  · rw [if_neg e, if_neg (by omega)]
/-- May it be set? -/
def setB (a b v : Int) : Bool := nodeB a && nodeB b && decide (a ≠ b) && decide (0 ≤ v) && decide (v ≤ 15)
theorem set_iff {a b v : Int} : setB a b v = true ↔ (0 ≤ a ∧ a < 6) ∧ (0 ≤ b ∧ b < 6) ∧ a ≠ b ∧ 0 ≤ v ∧ v ≤ 15 := by
  unfold setB
  simp only [Bool.and_eq_true, node_iff, decide_eq_true_eq]
  constructor
  · rintro ⟨⟨⟨⟨h1, h2⟩, h3⟩, h4⟩, h5⟩; exact ⟨h1, h2, h3, h4, h5⟩
  · rintro ⟨h1, h2, h3, h4, h5⟩; exact ⟨⟨⟨⟨h1, h2⟩, h3⟩, h4⟩, h5⟩
theorem kset_ok {w : World} {p : Nat} {c : Nat → Nat → Nat} (H : KL w p c) {a b v : Nat} (ha : a < 6) (hb : b < 6) (hne : a ≠ b) (hv : v ≤ 15) :
    Calls Tryz.prog 120 #[pv p, iv a, iv b, iv v] w fun e w' => e = .returned (iv 0) ∧ ∃ j, w' = w.setCell ⟨p, j, none⟩ (iv v) ∧ KL w' p (setC c a b v) := by
  have A : Hid (nodeB (a : Int) = true) := node_iff.2 (by omega)
  have B : Hid (nodeB (b : Int) = true) := node_iff.2 (by omega)
  have hlt := H.lt
  have fz := NArr.free H
  have hne' : ((a : Int) == (b : Int)) = false := by simp; omega
  by_cases h1 : a < b
  · have c1 := H.cell h1 hb
    have HS := hide (H.set (v := v) h1 hb)
    clear H
    go_enter Tryz.func120, Tryz.ntmps120
    go_wp2_with (first | (go_at_call 33; with_reducible refine (node_is A.out _).mono ?_; rintro e w' ⟨rfl, hw⟩; subst hw) | (go_at_call 33; with_reducible refine (node_is B.out _).mono ?_; rintro e w' ⟨rfl, hw⟩; subst hw))
    go_ret
    exact ⟨rfl, _, rfl, HS.out⟩
  · have h2 : b < a := by omega
    have c1 := H.cell h2 ha
    have HS := hide (H.set (v := v) h2 ha)
    rw [setC_swap c b a v] at HS
    clear H
    go_enter Tryz.func120, Tryz.ntmps120
    go_wp2_with (first | (go_at_call 33; with_reducible refine (node_is A.out _).mono ?_; rintro e w' ⟨rfl, hw⟩; subst hw) | (go_at_call 33; with_reducible refine (node_is B.out _).mono ?_; rintro e w' ⟨rfl, hw⟩; subst hw))
    go_ret
    exact ⟨rfl, _, rfl, HS.out⟩
theorem kset_bad {w : World} {p : Nat} {a b v : Int} (h : setB a b v = false) : Calls Tryz.prog 120 #[pv p, iv a, iv b, iv v] w fun e w' => e = .returned (iv 1) ∧ w' = w := by
  cases hA : nodeB a
  · have A := hide hA
    clear hA h
    go_enter Tryz.func120, Tryz.ntmps120
    go_wp2_with (first | (go_at_call 33; with_reducible refine (node_is A.out _).mono ?_; rintro e w' ⟨rfl, hw⟩; subst hw))
    go_ret
    exact ⟨rfl, rfl⟩
  cases hB : nodeB b
  · have A := hide hA
    have B := hide hB
    clear hA hB h
    go_enter Tryz.func120, Tryz.ntmps120
    go_wp2_with (first | (go_at_call 33; with_reducible refine (node_is A.out _).mono ?_; rintro e w' ⟨rfl, hw⟩; subst hw) | (go_at_call 33; with_reducible refine (node_is B.out _).mono ?_; rintro e w' ⟨rfl, hw⟩; subst hw))
    go_ret
    exact ⟨rfl, rfl⟩
  have A := hide hA
  have B := hide hB
  by_cases he : a = b
  · subst he
    clear hA hB h B
    have he' : (a == a) = true := by simp
    go_enter Tryz.func120, Tryz.ntmps120
    go_wp2_with (first | (go_at_call 33; with_reducible refine (node_is A.out _).mono ?_; rintro e w' ⟨rfl, hw⟩; subst hw))
    go_ret
    exact ⟨rfl, rfl⟩
  have he' : (a == b) = false := by simpa using he
  by_cases h0 : v < 0
  · have hd : decide (v < 0) = true := by simpa using h0
    clear hA hB h he
    go_enter Tryz.func120, Tryz.ntmps120
    go_wp2_with (first | (go_at_call 33; with_reducible refine (node_is A.out _).mono ?_; rintro e w' ⟨rfl, hw⟩; subst hw) | (go_at_call 33; with_reducible refine (node_is B.out _).mono ?_; rintro e w' ⟨rfl, hw⟩; subst hw))
    go_ret
    exact ⟨rfl, rfl⟩
  · have h15 : 15 < v := by
      refine Int.not_le.1 fun hle => ?_
      have := set_iff.2 ⟨node_iff.1 hA, node_iff.1 hB, he, by omega, hle⟩
      rw [h] at this; cases this
    have hd : decide (v < 0) = false := by simpa using h0
    clear hA hB h he
    go_enter Tryz.func120, Tryz.ntmps120
    go_wp2_with (first | (go_at_call 33; with_reducible refine (node_is A.out _).mono ?_; rintro e w' ⟨rfl, hw⟩; subst hw) | (go_at_call 33; with_reducible refine (node_is B.out _).mono ?_; rintro e w' ⟨rfl, hw⟩; subst hw))
    go_ret
    exact ⟨rfl, rfl⟩

end Go.Proofs.YtfcknkanbcndjagGreatDoor

/- CONTRACTS OF package links: List, Of. -/
namespace Go.Proofs.YtfcknkanbcndjagGreatDoor
open Go.RowKit

/-- Those with which a is linked, of the first j. -/
def ofB (c : Nat → Nat → Nat) (a : Int) (j : Nat) : List Nat := ofTo (fun _ i => cst c a i) 0 j
set_option maxHeartbeats 1000000 in
theorem kof_any {w : World} {p : Nat} {c : Nat → Nat → Nat} (H : KL w p c) (hc : Lk c) (a : Int) :
    Calls Tryz.prog 55 #[pv p, iv a] w fun e w' => ∃ v, e = .returned v ∧ OwnI w w' v (ofB c a 6) ∧ Gr w w' := by
  have HC := hide (fun (wX : World) (gX : Gr w wX) (b : Nat) => cost_any (H.gr gX) hc a b)
  clear H hc
  go_enter Tryz.func55, Tryz.ntmps55
  go_wp2_with fail
  go_loopw [5, 7] (fun v5 v7 wr => ∃ b : Nat, b ≤ 6 ∧ v7 = .int .i64 b ∧ Hid (OwnI w wr v5 (ofB c a b)) ∧ Gr w wr) (fun _ v7 _ => 6 - (intOf v7).toNat)
  case atStart => exact ⟨0, by omega, rfl, OwnI.nil _ _, Gr.refl _⟩
  case round =>
    obtain ⟨b, hb6, rfl, HJ, gj⟩ := hrel
    by_cases hb : b < 6
    · have hbi : (b : Int) < 6 := by omega
      have hN : (ofB c a b).length ≤ b := of_len _ 0 b
      have H1 := hide (HC.out wr gj b)
      have HX : Hid (ofB c a (b + 1) = ofB c a b ++ (if cst c a b = 0 then [] else [b])) := rfl
      generalize cst c a b = k at *
      by_cases h0 : k = 0
      · subst h0
        go_wp2_with (first | (go_at_call 18; with_reducible refine H1.out.mono ?_; rintro e w' ⟨rfl, hw⟩; subst hw))
        go_roundw
        case rel => exact ⟨b + 1, by omega, by go_num, by rw [HX.out, if_pos trivial, List.append_nil]; exact HJ, gj⟩
        case measure => simp [intOf]; omega
      · have hk : ((k : Int) != 0) = true := by simp; omega
        obtain ⟨v', w', hrun, hown, hgr⟩ := OwnI.app 34 HJ.out gj b (by omega)
        have HR := hide hrun
        have HW := hide hown
        clear hrun hown
        go_wp2_with (first | (go_at_call 18; with_reducible refine H1.out.mono ?_; rintro e w' ⟨rfl, hw⟩; subst hw) | (at_builtin; refine Lib.wpList_append_run _ rfl _ _ _ _ rfl _ _ rfl rfl _ _ HR.out ?_))
        go_roundw
        case rel => exact ⟨b + 1, by omega, by go_num, by rw [HX.out, if_neg h0]; exact HW, hgr⟩
        case measure => simp [intOf]; omega
    · have e6 : b = 6 := by omega
      subst e6
      go_wp2_with fail
      go_ret
      exact ⟨_, rfl, HJ.out, gj⟩

end Go.Proofs.YtfcknkanbcndjagGreatDoor

/- CONTRACT OF handpostref.SameInts, at two lists that are the same. -/
namespace Go.Proofs.YtfcknkanbcndjagGreatDoor
open Go.RowKit
attribute [local go_sem] Ext.all Ext.cell Ext.frozen Ext.lt Ext.lt1 Ext.lt2 Ext.ne Ext.ne'
end Go.Proofs.YtfcknkanbcndjagGreatDoor

/- CONTRACT OF handpostref.IsNode. -/
namespace Go.Proofs.YtfcknkanbcndjagGreatDoor
open Go.RowKit
attribute [local go_sem] Ext.all Ext.cell Ext.frozen Ext.lt Ext.lt1 Ext.lt2 Ext.ne Ext.ne'
theorem isNode_is {k : Int} {v : Bool} (h : decide (0 ≤ k ∧ k < 6) = v) (w : World) : Calls Tryz.prog 9 #[iv k] w fun e w' => e = .returned (.bool v) ∧ w' = w := by
  subst h
  by_cases e : 0 ≤ k
  · have e1 : decide (0 ≤ k ∧ k < 6) = decide (k < 6) := by simp [e]
    rw [e1]
    clear e1
    go_enter Tryz.func9, Tryz.ntmps9
    go_wp2
    go_ret
    exact ⟨rfl, rfl⟩
  · have e1 : decide (0 ≤ k ∧ k < 6) = false := by simp [e]
    have e2 : decide (0 ≤ k) = false := decide_eq_false e
    rw [e1]
    clear e1 e
    go_enter Tryz.func9, Tryz.ntmps9
    go_wp2
    go_ret
    exact ⟨rfl, rfl⟩

theorem isNode_ext {k : Int} {v : Bool} (h : decide (0 ≤ k ∧ k < 6) = v) {B : World} (x : Ext B) : Calls Tryz.prog 9 #[iv k] x.out fun e w' => e = .returned (.bool v) ∧ ∃ m : Ext B, w' = m.out :=
  (isNode_is h x.out).mono fun _ _ ⟨he, hw⟩ => ⟨he, x, hw⟩

end Go.Proofs.YtfcknkanbcndjagGreatDoor

/- WHAT BOTH THE PROGRAM'S Net AND THE REFERENCE'S Town NAME: news as numbers in memory, frames. -/
namespace Go.Proofs.YtfcknkanbcndjagGreatDoor
open Go.RowKit

def newsL (l : List Nw) : List Nws := l.map fun x => ((x.f : Int), (x.g : Int), (x.to : Int), x.s, x.d)
theorem newsL_len (l : List Nw) : (newsL l).length = l.length := List.length_map _
theorem newsL_app (a b : List Nw) : newsL (a ++ b) = newsL a ++ newsL b := List.map_append
theorem NwO.own_lt {lo : Nat} {w : World} {v : Value} {l : List Nws} (h : NwO lo w v l) {b : Nat} (e : v.ownBlock = some b) : b < w.heap.size := by
  rcases h.2 with ⟨rfl, _⟩ | ⟨g, cap, cur, rfl, hb, hgg, _⟩
  · cases e
  · cases e; exact lt_of_block hgg
theorem NwO.apart {lo : Nat} {w : World} {v : Value} {l : List Nws} (h : NwO lo w v l) {b : Nat} (e : v.ownBlock = some b) {t : TypeId} {cs : Array Value} {fr : Nat × Nat} {k : Nat} (hk : w.heap[k]? = some (.cells cs t fr)) (ht : t ≠ 114) : b ≠ k := by
  rcases h.2 with ⟨rfl, _⟩ | ⟨g, cap, cur, rfl, hb, hgg, _⟩
  · cases e
  · cases e
    exact blk_ne hgg hk (fun q => ht q.symm)
theorem tell_news {t : Tn} {a b : Nat} (hme : (t.nd a).me = a) : newsL (tellT t a b) = tellL (t.nd a) (b : Int) 6 := by
  unfold newsL tellT
  simp [List.range, List.range.loop, tellL, hme]
theorem Wr.kp {M : Nat → Prop} {p : Nat} {w w' : World} (h : Wr p w w') (hp : ¬ M p) : Kp M w w' := ⟨h.os, h.tape, h.output, h.size, fun k hk hm => h.block k hk (fun e => hp (e ▸ hm))⟩
theorem Kp.wr {M : Nat → Prop} {B w w' : World} {p : Nat} (h : Kp M B w) (k : Wr p w w') (hp : ¬ M p) : Kp M B w' := h.trans (k.kp hp)
/-- A call of a Go function whose contract is known, as one step of a region that draws. -/
theorem step_call2 {P : Program} {ops : Array Oper} {oo : Oper} {a : Act} {w : World} {K : Act → World → Prop} {Q : Exit → Act → World → Prop} {E : Prop}
    (hg : oo.guard = none) (f : FuncId) (args : Array Value) (he : (execOp a.eval oo).run P w = .ok (.enter f args) w)
    {R : Value → World → Prop} (hC : Calls P f args w fun e w' => ∃ r, e = .returned r ∧ R r w') (hK : ∀ r w', R r w' → K (a.put oo.dst r) w') :
    if Region.wanted oo (yielded ops a.tmps) = true then Oper.wp P oo a w K Q else E := by
  have hw : Region.wanted oo (yielded ops a.tmps) = true := by simp [Region.wanted, hg]
  rw [if_pos hw]
  unfold Oper.wp
  rw [he, Oper.upon_enter]
  refine hC.mono fun e w' ⟨r, he, hr⟩ => ?_
  subst he
  exact hK r w' hr

end Go.Proofs.YtfcknkanbcndjagGreatDoor

/- THE PROGRAM'S Net IN MEMORY. -/
namespace Go.Proofs.YtfcknkanbcndjagGreatDoor
open Go.RowKit

/-- The cells of a Net: its links, its nodes, the news. -/
def ntF (k : Nat) (q : Nat → Nat) (v : Value) : Nat → Value := fun i => if i = 0 then pv k else if i < 7 then pv (q (i - 1)) else v
/-- A Net at p: its links at k, its nodes at q 0 .. q 5, its news in v; c: what links cost; t: as numbers. Of the world B the blocks M are as they were, and none of M's is the Net's. -/
structure Ne (M : Nat → Prop) (B w : World) (p k : Nat) (q : Nat → Nat) (v : Value) (c : Nat → Nat → Nat) (t : Tn) : Prop where
  kp : Kp M B w
  bd : ∀ b, M b → b < B.heap.size
  blk : VArr w 48 8 p (ntF k q v)
  lk : KL w k c
  six : Six 126 w q (fun a => sel (t.nd a))
  nw : NwO 0 w v (newsL t.news)
  nop : ¬ M p
  nok : ¬ M k
  noq : ∀ a, a < 6 → ¬ M (q a)
  nov : ∀ b, v.ownBlock = some b → ¬ M b
section
variable {M : Nat → Prop} {B w w' : World} {p k : Nat} {q : Nat → Nat} {v : Value} {c : Nat → Nat → Nat} {t : Tn}
theorem Ne.ext (h : Ne M B w p k q v c t) (g : Gr w w') : Ne M B w' p k q v c t :=
  ⟨h.kp.ext g, h.bd, h.blk.gr g, h.lk.gr g, h.six.gr g, h.nw.gr g, h.nop, h.nok, h.noq, h.nov⟩
theorem Ne.links (h : Ne M B w p k q v c t) : w.cell? ⟨p, 0, none⟩ = some (pv k) := h.blk.cell (j := 0) (by omega)
theorem Ne.node (h : Ne M B w p k q v c t) {a : Nat} (ha : a < 6) : w.cell? ⟨p, 1 + a, none⟩ = some (pv (q a)) := by
  have := h.blk.cell (j := 1 + a) (by omega)
  unfold ntF at this
  rw [if_neg (by omega), if_pos (by omega), show 1 + a - 1 = a by omega] at this
  exact this
theorem Ne.news (h : Ne M B w p k q v c t) : w.cell? ⟨p, 7, none⟩ = some v := h.blk.cell (j := 7) (by omega)
theorem Ne.pk (h : Ne M B w p k q v c t) : p ≠ k := blk_ne h.blk h.lk (by decide)
theorem Ne.pq (h : Ne M B w p k q v c t) {a : Nat} (ha : a < 6) : p ≠ q a := blk_ne h.blk (h.six.at_ a ha) (by decide)
theorem Ne.kq (h : Ne M B w p k q v c t) {a : Nat} (ha : a < 6) : k ≠ q a := blk_ne h.lk (h.six.at_ a ha) (by decide)
theorem Ne.vq (h : Ne M B w p k q v c t) {b : Nat} (e : v.ownBlock = some b) : b ≠ p ∧ b ≠ k ∧ ∀ a, a < 6 → b ≠ q a :=
  ⟨h.nw.apart e h.blk (by decide), h.nw.apart e h.lk (by decide), fun a ha => h.nw.apart e (h.six.at_ a ha) (by decide)⟩
/-- One node has changed. -/
theorem Ne.put (h : Ne M B w p k q v c t) {a : Nat} (ha : a < 6) {m : Md} (hw : Wr (q a) w w') (hm : DAt w' (q a) (sel m)) : Ne M B w' p k q v c { t with nd := updW t.nd a m } := by
  refine ⟨h.kp.wr hw (h.noq a ha), h.bd, hw.varr h.blk (h.pq ha), (hw.block k h.lk.lt (h.kq ha)).trans h.lk, ?_, h.nw.keep (fun b e => hw.block b (h.nw.own_lt e) ((h.vq e).2.2 a ha)), h.nop, h.nok, h.noq, h.nov⟩
  have := h.six.put ha hw hm
  have e : updW (fun a => sel (t.nd a)) a (sel m) = fun x => sel (updW t.nd a m x) := by
    funext x
    by_cases q : x = a
    · rw [q, updW_same, updW_same]
    · rw [updW_ne _ _ q, updW_ne _ _ q]
  rw [e] at this
  exact this
/-- A link has changed. -/
theorem Ne.setLk (h : Ne M B w p k q v c t) {j : Nat} {u : Value} {c' : Nat → Nat → Nat} (hk : KL (w.setCell ⟨k, j, none⟩ u) k c') (f : Nat → Nat → Int) : Ne M B (w.setCell ⟨k, j, none⟩ u) p k q v c' { t with cst := f } :=
  ⟨h.kp.set h.nok _ _, h.bd, h.blk.other h.pk _ _, hk, h.six.keep (fun a ha => Below.heap_setCell w ⟨k, j, none⟩ u (q a) (fun e => h.kq ha e.symm)), h.nw.keep (fun b e => Below.heap_setCell w ⟨k, j, none⟩ u b (h.vq e).2.1), h.nop, h.nok, h.noq, h.nov⟩
/-- The news have changed: the row behind them, and the Net's own word of it. -/
theorem Ne.newsPut {v' : Value} {nl : List Nw} (h : Ne M B w p k q v c t) (g : w.grownBy w' v.ownBlock) (hn : NwO 0 w' v' (newsL nl)) (ho : v'.ownBlock = none ∨ v'.ownBlock = v.ownBlock ∨ v'.ownBlock = some w.heap.size) :
    Ne M B (w'.setCell ⟨p, 7, none⟩ v') p k q v' c { t with news := nl } := by
  have kb : ∀ {b : Nat}, b < w.heap.size → (∀ x, v.ownBlock = some x → x ≠ b) → w'.heap[b]? = w.heap[b]? := fun {b} hb hx => g.block b hb (fun e => hx b e.symm rfl)
  have hblk : VArr w' 48 8 p (ntF k q v) := (kb h.blk.lt (fun x e => (h.vq e).1)).trans h.blk
  have hlk : KL w' k c := (kb h.lk.lt (fun x e => (h.vq e).2.1)).trans h.lk
  have hs : Six 126 w' q (fun a => sel (t.nd a)) := h.six.keep (fun a ha => kb (h.six.at_ a ha).lt (fun x e => (h.vq e).2.2 a ha))
  have hp' : ∀ b, v'.ownBlock = some b → b ≠ p := fun b e => hn.apart e hblk (by decide)
  refine ⟨(h.kp.trans (Kp.grown g (fun b e => h.nov b e))).set h.nop _ _, h.bd, hblk.set fun i hi => ?_, ?_, hs.keep (fun a ha => Below.heap_setCell w' ⟨p, 7, none⟩ v' (q a) (fun e => h.pq ha e.symm)), hn.keep (fun b e => Below.heap_setCell w' ⟨p, 7, none⟩ v' b (hp' b e)), h.nop, h.nok, h.noq, fun b e hm => ?_⟩
  · unfold ntF
    by_cases e0 : i = 0
    · rw [if_pos e0, if_pos e0, if_neg (by omega)]
    · rw [if_neg e0, if_neg e0]
      by_cases e1 : i < 7
      · rw [if_pos e1, if_pos e1, if_neg (by omega)]
      · rw [if_neg e1, if_neg e1, if_pos (by omega)]
  · exact (Below.heap_setCell w' ⟨p, 7, none⟩ v' k (fun e => h.pk e.symm)).trans hlk
  · rcases ho with o | o | o
    · rw [o] at e; cases e
    · exact h.nov b (o ▸ e) hm
    · rw [o] at e
      have := h.bd b hm
      have := h.kp.size
      cases e
      omega
/-- The same Net, as it is now, and other blocks that are to stay. -/
theorem Ne.re (h : Ne M B w p k q v c t) {N : Nat → Prop} (hb : ∀ b, N b → b < w.heap.size) (h1 : ¬ N p) (h2 : ¬ N k) (h3 : ∀ a, a < 6 → ¬ N (q a)) (h4 : ∀ b, v.ownBlock = some b → ¬ N b) : Ne N w w p k q v c t :=
  ⟨Kp.refl _ _, hb, h.blk, h.lk, h.six, h.nw, h1, h2, h3, h4⟩
/-- And back. -/
theorem Ne.back {N : Nat → Prop} {v' : Value} {c' : Nat → Nat → Nat} {t' : Tn} (h : Ne M B w p k q v c t) (h' : Ne N w w' p k q v' c' t') (hMN : ∀ b, M b → N b) : Ne M B w' p k q v' c' t' :=
  ⟨h.kp.trans (h'.kp.mono fun b _ hm => hMN b hm), h.bd, h'.blk, h'.lk, h'.six, h'.nw, h.nop, h.nok, h.noq, fun b e hm => h'.nov b e (hMN b hm)⟩
/-- All stays where no block of the Net's is written. -/
theorem Ne.keep {N : Nat → Prop} (h : Ne M B w p k q v c t) (hk : Kp N w w') (hMN : ∀ b, M b → N b) (h1 : N p) (h2 : N k) (h3 : ∀ a, a < 6 → N (q a)) (h4 : ∀ b, v.ownBlock = some b → N b) : Ne M B w' p k q v c t :=
  ⟨h.kp.trans (hk.mono fun b _ hm => hMN b hm), h.bd, (hk.block p h.blk.lt h1).trans h.blk, (hk.block k h.lk.lt h2).trans h.lk, h.six.keep (fun a ha => hk.block (q a) (h.six.at_ a ha).lt (h3 a ha)), h.nw.keep (fun b e => hk.block b (h.nw.own_lt e) (h4 b e)), h.nop, h.nok, h.noq, h.nov⟩
end

end Go.Proofs.YtfcknkanbcndjagGreatDoor
