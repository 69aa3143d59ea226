/- CONTRACT OF handpostlaw.maps. -/
import Derived.Test.YtimbgijpeomfcadK3
import Derived.Test.YtimbgijpeomfcadK1
namespace Go.Proofs.Ytimbgijpeomfcad
open Go.RowKit
attribute [local go_sem] Ext.all Ext.cell Ext.frozen Ext.lt Ext.lt1 Ext.lt2 Ext.ne Ext.ne'

def scode (a b v : Int) : Int := if setB a b v = true then 0 else 1
/-- Links and a Map, both younger than w. -/
structure Two (w : World) (p q : Nat) (c c' : Nat → Nat → Nat) (X : World) : Prop where
  l : KL X p c
  m : KM X q c'
  gr : Gr w X
  lp : w.heap.size ≤ p
  lq : w.heap.size ≤ q
  ne : p ≠ q
theorem Two.to {w X X' : World} {p q : Nat} {c c' : Nat → Nat → Nat} (h : Two w p q c c' X) (g : Gr X X') : Two w p q c c' X' := ⟨h.l.gr g, h.m.gr g, h.gr.trans g, h.lp, h.lq, h.ne⟩
theorem kset_two {w X : World} {p q : Nat} {c c' : Nat → Nat → Nat} (T : Two w p q c c' X) (a b v : Int) :
    Calls Try.prog 11 #[pv p, iv a, iv b, iv v] X fun e X' => e = .returned (iv (scode a b v)) ∧ Two w p q (stp c a b v) c' X' := by
  cases h : setB a b v
  · refine (kset_bad h).mono ?_
    rintro e X' ⟨rfl, rfl⟩
    refine ⟨by unfold scode; rw [if_neg (by simp [h])], ?_⟩
    unfold stp
    rw [if_neg (by simp [h])]; exact T
  · obtain ⟨⟨a0, a1⟩, ⟨b0, b1⟩, hne, v0, v1⟩ := set_iff.1 h
    have := kset_ok T.l (a := a.toNat) (b := b.toNat) (v := v.toNat) (by omega) (by omega) (by omega) (by omega)
    rw [show ((a.toNat : Nat) : Int) = a by omega, show ((b.toNat : Nat) : Int) = b by omega, show ((v.toNat : Nat) : Int) = v by omega] at this
    refine this.mono ?_
    rintro e X' ⟨rfl, j, rfl, hk⟩
    refine ⟨by unfold scode; rw [if_pos h], ?_, NArr.other T.m (fun e => T.ne e.symm) _ _, T.gr.setCell T.lp _, T.lp, T.lq, T.ne⟩
    unfold stp
    rw [if_pos h]; exact hk
theorem mset_two {w X : World} {p q : Nat} {c c' : Nat → Nat → Nat} (T : Two w p q c c' X) (a b v : Int) :
    Calls Try.prog 16 #[pv q, iv a, iv b, iv v] X fun e X' => e = .returned (iv (scode a b v)) ∧ Two w p q c (stp c' a b v) X' := by
  cases h : setB a b v
  · refine (mset_bad h).mono ?_
    rintro e X' ⟨rfl, rfl⟩
    refine ⟨by unfold scode; rw [if_neg (by simp [h])], ?_⟩
    unfold stp
    rw [if_neg (by simp [h])]; exact T
  · obtain ⟨⟨a0, a1⟩, ⟨b0, b1⟩, hne, v0, v1⟩ := set_iff.1 h
    have := mset_ok T.m (a := a.toNat) (b := b.toNat) (v := v.toNat) (by omega) (by omega) (by omega) (by omega)
    rw [show ((a.toNat : Nat) : Int) = a by omega, show ((b.toNat : Nat) : Int) = b by omega, show ((v.toNat : Nat) : Int) = v by omega] at this
    refine this.mono ?_
    rintro e X' ⟨rfl, j, j', rfl, hk⟩
    refine ⟨by unfold scode; rw [if_pos h], NArr.other (NArr.other T.l T.ne _ _) T.ne _ _, ?_, (T.gr.setCell T.lq _).setCell T.lq _, T.lp, T.lq, T.ne⟩
    unfold stp
    rw [if_pos h]; exact hk

/-- The costs behind a list of links. -/
def costs (xs : List (Int × Int × Int)) : Nat → Nat → Nat := xs.foldl (fun c x => stp c x.1 x.2.1 x.2.2) (fun _ _ => 0)
theorem costs_lk (xs : List (Int × Int × Int)) : Lk (costs xs) := by
  unfold costs
  have : ∀ (xs : List (Int × Int × Int)) c, Lk c → Lk (xs.foldl (fun c x => stp c x.1 x.2.1 x.2.2) c) := by
    intro xs
    induction xs with
    | nil => intro c h; exact h
    | cons x xs ih => intro c h; exact ih _ (h.stp _ _ _)
  exact this xs _ lk_zero
theorem costs_take {xs : List (Int × Int × Int)} {i : Nat} (h : i < xs.length) : costs (xs.take (i + 1)) = stp (costs (xs.take i)) xs[i].1 xs[i].2.1 xs[i].2.2 := by
  unfold costs
  rw [List.take_succ_eq_append_getElem h, List.foldl_append]; rfl

set_option maxRecDepth 20000 in
set_option maxHeartbeats 4000000 in
theorem maps_any (w : World) (ao : Option Addr) (n k : Nat) (xs : List (Int × Int × Int)) (H : LinkAt w ao xs) (hn : xs.length = n) (hm : n ≤ 1000) :
    Calls Try.prog 7 #[.slice ao n k] w fun e w' => ∃ p q, e = .returned (.tuple #[pv p, pv q, .bool true]) ∧ Two w p q (costs xs) (costs xs) w' := by
  have HX := hide (fun (wX : World) (gX : Gr w wX) => H.gr gX)
  clear H
  go_enter Try.func7, Try.ntmps7
  go_upto_region 2 with (first | (go_at_call 12; with_reducible refine (knew_any _).mono ?_; rintro e w1 ⟨rfl, hk, g1, l1⟩))
  have T0 : Two w w.heap.size w1.heap.size (fun _ _ => 0) (fun _ _ => 0) (w1.alloc (.cells (ncells 36 fun _ => 0) 39)) :=
    ⟨hk.gr ((Gr.refl _).alloc _), KM.new w1, g1.alloc _, Nat.le_refl _, Nat.le_of_lt l1, by omega⟩
  refine wp_gen (fun Y => Two w w.heap.size w1.heap.size (fun _ _ => 0) (fun _ _ => 0) Y) T0 ?_
  intro Y TY
  clear T0 hk g1 l1
  generalize w1.heap.size = q at *
  generalize hp : w.heap.size = p at TY ⊢
  clear hp
  go_wp2_with fail
  go_loopw [7, 8] (fun v7 v8 wr => ∃ i : Nat, i ≤ n ∧ v7 = .bool true ∧ v8 = .int .i64 i ∧ Hid (Two w p q (costs (xs.take i)) (costs (xs.take i)) wr)) (fun _ v8 _ => n - (intOf v8).toNat)
  case atStart => exact ⟨0, by omega, rfl, rfl, TY⟩
  case round =>
    obtain ⟨i, hi, rfl, rfl, Ti⟩ := hrel
    clear TY
    by_cases hlt : i < n
    · have hil : i < xs.length := by omega
      obtain ⟨b, o, rfl, hb, hcs⟩ : ∃ b o, ao = some ⟨b, o, none⟩ ∧ b < w.heap.size ∧ ∀ i (h : i < xs.length), w.cell? ⟨b, o + i * 3, none⟩ = some (iv xs[i].1) ∧ w.cell? ⟨b, o + i * 3 + 1, none⟩ = some (iv xs[i].2.1) ∧ w.cell? ⟨b, o + i * 3 + 2, none⟩ = some (iv xs[i].2.2) := by
        rcases HX.out w (Gr.refl _) with h | h
        · rw [h] at hil; simp at hil
        · exact h
      have HN := hide (costs_take hil)
      obtain ⟨c1, c2, c3⟩ := hcs i hil
      clear hcs HX
      generalize costs (xs.take i) = c at *
      generalize xs[i] = x at *
      obtain ⟨xa, xb, xc⟩ := x
      simp only at c1 c2 c3 HN
      have HK := hide (fun (wX : World) (gX : Gr w wX) => (show wX.cell? ⟨b, o + i * 3, none⟩ = some (iv xa) ∧ wX.cell? ⟨b, o + i * 3 + 1, none⟩ = some (iv xb) ∧ wX.cell? ⟨b, o + i * 3 + 2, none⟩ = some (iv xc) from
        ⟨(Below.cell gX (p := ⟨b, _, none⟩) hb).trans c1, (Below.cell gX (p := ⟨b, _, none⟩) hb).trans c2, (Below.cell gX (p := ⟨b, _, none⟩) hb).trans c3⟩))
      obtain ⟨a1, a2, a3⟩ := HK.out _ Ti.out.gr
      have TD := hide (Ti.out.to (Gr.refl _).drew)
      clear c1 c2 c3
      go_wp2_with fail
      go_region_held3 (fun w' => w'.cell? ⟨b, o + i * 3, none⟩ = some (iv xa) ∧ w'.cell? ⟨b, o + i * 3 + 1, none⟩ = some (iv xb) ∧ w'.cell? ⟨b, o + i * 3 + 2, none⟩ = some (iv xc)) (first | exact HK.out _ T2.out.gr | exact HK.out _ T1.out.gr | exact ⟨a1, a2, a3⟩ | go_keep)
        (first
        | (go_at_call 11; with_reducible refine (kset_two TD.out xa xb xc).mono ?_; rintro e w1 ⟨rfl, t1⟩; have T1 := hide t1; clear t1)
        | (go_at_call 16; with_reducible refine (mset_two T1.out xa xb xc).mono ?_; rintro e w2 ⟨rfl, t2⟩; have T2 := hide t2; clear t2)
        | fail)
      all_goals
        go_wp2_with fail
        go_roundw
        case rel => exact ⟨i + 1, by omega, by simp, by go_num, by rw [HN.out]; exact T2⟩
        case measure => simp [intOf]; omega
    · have e : i = n := by omega
      have HZ : Hid (Two w p q (costs xs) (costs xs) wr) := by
        have := Ti.out
        rw [List.take_of_length_le (by omega)] at this
        exact this
      clear Ti
      go_wp2_with fail
      go_ret3
      exact ⟨p, q, rfl, HZ.out⟩

end Go.Proofs.Ytimbgijpeomfcad
