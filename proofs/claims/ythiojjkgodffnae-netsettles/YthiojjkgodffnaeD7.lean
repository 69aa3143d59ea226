import Derived.Test.YthiojjkgodffnaeN0
import Derived.Lib.SmallJoins
import Derived.Carry
import Derived.Test.YthiojjkgodffnaeD6
/- LISTS OF NEWS IN MEMORY. -/
namespace Go.Proofs.Ythiojjkgodffnae
open Go.RowKit

/-- News: From, For, To, Seq, Dist. -/
abbrev Nws := Int × Int × Int × Int × Int
def celn (l : List Nws) : List Value := l.flatMap fun x => [iv x.1, iv x.2.1, iv x.2.2.1, iv x.2.2.2.1, iv x.2.2.2.2]
theorem celn_cons (x : Nws) (l : List Nws) : celn (x :: l) = iv x.1 :: iv x.2.1 :: iv x.2.2.1 :: iv x.2.2.2.1 :: iv x.2.2.2.2 :: celn l := rfl
theorem celn_append (a b : List Nws) : celn (a ++ b) = celn a ++ celn b := by simp [celn]
theorem celn_at : ∀ (l : List Nws) (i : Nat) (h : i < l.length), (celn l)[i * 5]? = some (iv l[i].1) ∧ (celn l)[i * 5 + 1]? = some (iv l[i].2.1) ∧ (celn l)[i * 5 + 2]? = some (iv l[i].2.2.1) ∧ (celn l)[i * 5 + 3]? = some (iv l[i].2.2.2.1) ∧ (celn l)[i * 5 + 4]? = some (iv l[i].2.2.2.2)
  | x :: l, 0, _ => by simp [celn_cons]
  | x :: l, i + 1, h => by
    obtain ⟨h0, h1, h2, h3, h4⟩ := celn_at l i (by simpa using h)
    rw [celn_cons, show (i + 1) * 5 = i * 5 + 1 + 1 + 1 + 1 + 1 by omega]
    refine ⟨?_, ?_, ?_, ?_, ?_⟩
    · simpa using h0
    · rw [show i * 5 + 1 + 1 + 1 + 1 + 1 + 1 = (i * 5 + 1) + 1 + 1 + 1 + 1 + 1 by omega]; simpa using h1
    · rw [show i * 5 + 1 + 1 + 1 + 1 + 1 + 2 = (i * 5 + 2) + 1 + 1 + 1 + 1 + 1 by omega]; simpa using h2
    · rw [show i * 5 + 1 + 1 + 1 + 1 + 1 + 3 = (i * 5 + 3) + 1 + 1 + 1 + 1 + 1 by omega]; simpa using h3
    · rw [show i * 5 + 1 + 1 + 1 + 1 + 1 + 4 = (i * 5 + 4) + 1 + 1 + 1 + 1 + 1 by omega]; simpa using h4
/-- A list of news that is younger than B. -/
def OwnN (B w : World) (v : Value) (l : List Nws) : Prop := w.ownsRow B.heap.size 66 5 v l.length (celn l)
theorem OwnN.gr {B w w' : World} {v : Value} {l : List Nws} (h : OwnN B w v l) (g : Gr w w') : OwnN B w' v l := by
  refine ⟨h.1, ?_⟩
  rcases h.2 with hn | ⟨b, cap, cur, rfl, hb, hgg, rest⟩
  · exact .inl hn
  · exact .inr ⟨b, cap, cur, rfl, hb, by rw [g.block b (lt_of_block hgg)]; exact hgg, rest⟩
theorem OwnN.nil (B w : World) : OwnN B w (.slice none 0 0) [] := World.ownsRow_nil _ _ _ _
/-- A slice that reads as news. -/
def NewsAt (w : World) (ao : Option Addr) (l : List Nws) : Prop := l = [] ∨ ∃ b o, ao = some ⟨b, o, none⟩ ∧ b < w.heap.size ∧ ∀ i (h : i < l.length),
    w.cell? ⟨b, o + i * 5, none⟩ = some (iv l[i].1) ∧ w.cell? ⟨b, o + i * 5 + 1, none⟩ = some (iv l[i].2.1) ∧ w.cell? ⟨b, o + i * 5 + 2, none⟩ = some (iv l[i].2.2.1) ∧ w.cell? ⟨b, o + i * 5 + 3, none⟩ = some (iv l[i].2.2.2.1) ∧ w.cell? ⟨b, o + i * 5 + 4, none⟩ = some (iv l[i].2.2.2.2)
theorem NewsAt.keep {w w' : World} {ao : Option Addr} {l : List Nws} (h : NewsAt w ao l) (k : ∀ b o, ao = some ⟨b, o, none⟩ → b < w.heap.size → w'.heap[b]? = w.heap[b]?) : NewsAt w' ao l := by
  rcases h with h | ⟨b, o, ha, hb, hc⟩
  · exact .inl h
  · have hk := k b o ha hb
    refine .inr ⟨b, o, ha, ?_, fun i hi => ?_⟩
    · have : w.heap[b]? = some w.heap[b] := by simp [hb]
      rw [this] at hk
      exact lt_of_block hk
    · have e : ∀ q, w'.cell? ⟨b, q, none⟩ = w.cell? ⟨b, q, none⟩ := fun q => World.cell?_of_block (a := ⟨b, q, none⟩) hk
      rw [e, e, e, e, e]
      exact hc i hi
theorem NewsAt.gr {w w' : World} {ao : Option Addr} {l : List Nws} (h : NewsAt w ao l) (k : Gr w w') : NewsAt w' ao l := h.keep fun b _ _ hb => k.block b hb
theorem OwnN.shape {B w : World} {v : Value} {l : List Nws} (h : OwnN B w v l) : ∃ ao c, v = .slice ao l.length c ∧ NewsAt w ao l ∧ ∀ b o, ao = some ⟨b, o, none⟩ → B.heap.size ≤ b := by
  rcases h.2 with ⟨rfl, hn⟩ | ⟨g, cap, cur, rfl, hb, hg, hn, hc, hs, ht⟩
  · have : l = [] := List.eq_nil_of_length_eq_zero hn
    subst this
    exact ⟨none, 0, rfl, .inl rfl, fun _ _ e => by cases e⟩
  · refine ⟨_, _, rfl, .inr ⟨g, 0, rfl, (Array.getElem?_eq_some_iff.1 hg).1, fun i hi => ?_⟩, fun b o e => by cases e; exact hb⟩
    have e : ∀ j, j < l.length * 5 → w.cell? ⟨g, 0 + j, none⟩ = (celn l)[j]? := by
      intro j hj
      rw [← ht, List.getElem?_take_of_lt hj]
      simp [World.cell?, hg]
    have ha := celn_at l i hi
    rw [Nat.add_assoc, Nat.add_assoc, Nat.add_assoc, Nat.add_assoc, e _ (by omega), e _ (by omega), e _ (by omega), e _ (by omega), e _ (by omega)]
    exact ha
theorem Try.info66 : (Try.prog.info? 66).map (fun i => (i.zero, i.size, i.bytes)) = some (some (.agg #[iv 0, iv 0, iv 0, iv 0, iv 0]), 5, 40) := by kernel_rfl
/-- 'append(l, x)'. -/
theorem OwnN.app {B X : World} {v : Value} {l : List Nws} (ty : TypeId) (hO : OwnN B X v l) (g : Gr B X) (x : Nws) (hm : l.length ≤ 1000) :
    ∃ v' w', (Builtin.append_ #[49, 49] ty #[v, .slice (some ⟨X.heap.size, 0, none⟩) 1 1]).run Try.prog (X.alloc (.cells #[iv x.1, iv x.2.1, iv x.2.2.1, iv x.2.2.2.1, iv x.2.2.2.2] 66)) = .ok v' w' ∧ OwnN B w' v' (l ++ [x]) ∧ Gr B w' := by
  obtain ⟨i0, hi, hz0, hz1, hz2⟩ := info_parts Try.info66
  have hY := hO.gr ((Gr.refl X).alloc (.cells #[iv x.1, iv x.2.1, iv x.2.2.1, iv x.2.2.2.1, iv x.2.2.2.2] 66))
  obtain ⟨v', w', h1, h2, h3, _⟩ := run_append_own (P := Try.prog) _ B.heap.size 49 ty 66 i0 _ 5 40 Try.underlying49 hi hz0 hz1 hz2 (by rfl) (by decide) v l.length (celn l) hY
      ⟨X.heap.size, 0, none⟩ 1 1 [iv x.1, iv x.2.1, iv x.2.2.1, iv x.2.2.2.1, iv x.2.2.2.2] rfl
      (fun j u hj => by
        have hl : j < 5 := (List.getElem?_eq_some_iff.1 hj).1
        have : j = 0 ∨ j = 1 ∨ j = 2 ∨ j = 3 ∨ j = 4 := by omega
        rcases this with rfl | rfl | rfl | rfl | rfl <;> (simp at hj; subst hj; simp [Addr.add, go_sem]))
      (by simp [Value.oneCell']) (by unfold maxLen; omega) (by omega) (by have := Below.size g; simp; omega)
  refine ⟨v', w', h1, ?_, (g.alloc _).grown h3 (fun k hk => (hO.lt k hk).1)⟩
  unfold OwnN
  rw [celn_append, List.length_append]
  exact h2
/-- What a node tells, of the first k nodes. -/
def tellL (m : Md) (who : Int) : Nat → List Nws
  | 0 => []
  | k + 1 => tellL m who k ++ [((m.me : Int), who, (k : Int), (m.ways k).1, (m.ways k).2.1)]
theorem tell_len (m : Md) (who : Int) : ∀ k, (tellL m who k).length = k
  | 0 => rfl
  | k + 1 => by rw [tellL, List.length_append, tell_len m who k]; rfl
theorem tell_at (m : Md) (who : Int) : ∀ k i (h : i < (tellL m who k).length), (tellL m who k)[i] = ((m.me : Int), who, (i : Int), (m.ways i).1, (m.ways i).2.1)
  | 0, i, h => by simp [tellL] at h
  | k + 1, i, h => by
    have hk := tell_len m who k
    have hl : i < k + 1 := by rw [tell_len] at h; exact h
    simp only [tellL]
    by_cases e : i = k
    · subst e
      rw [List.getElem_append_right (by omega)]
      simp [hk]
    · rw [List.getElem_append_left (by omega)]
      exact tell_at m who k i (by omega)

end Go.Proofs.Ythiojjkgodffnae

/- CONTRACTS OF package node: Way, Best. -/
namespace Go.Proofs.Ythiojjkgodffnae
open Go.RowKit
attribute [local go_sem] Ext.all Ext.cell Ext.frozen Ext.lt Ext.lt1 Ext.lt2 Ext.ne Ext.ne'

def wayV (v : Int × Int × Int) : Value := .agg #[iv v.1, iv v.2.1, iv v.2.2]
/-- The way to a node, or none of the age 0. -/
def wayOf (m : Md) (k : Int) : Int × Int × Int := if 0 ≤ k ∧ k < 6 then m.ways k.toNat else (0, 200, -1)
theorem wayOf_nat (m : Md) {k : Nat} (h : k < 6) : wayOf m (k : Int) = m.ways k := by
  unfold wayOf
  rw [if_pos ⟨by omega, by omega⟩, Int.toNat_natCast]

set_option maxRecDepth 20000 in
set_option maxHeartbeats 8000000 in
theorem nway_any {w : World} {p : Nat} {m : Md} (H : DAt w p m) (k : Int) :
    Calls Try.prog 48 #[pv p, iv k] w fun e w' => e = .returned (wayV (wayOf m k)) ∧ ∃ d : Ext w, w' = d.out := by
  have hp := H.lt
  by_cases e : 0 ≤ k ∧ k < 6
  · have B1 : Hid (decide (0 ≤ k ∧ k < 6) = true) := decide_eq_true e
    obtain ⟨z, rfl⟩ : ∃ z : Nat, k = (z : Int) := ⟨k.toNat, by omega⟩
    have hz : z < 6 := by omega
    have hzi : (z : Int) < 6 := by omega
    obtain ⟨q0, q1, q2⟩ := H.ways hz
    have HV := hide (wayOf_nat m hz)
    generalize m.ways z = v at *
    obtain ⟨s, d, h⟩ := v
    simp only at q0 q1 q2
    clear H e
    go_enter Try.func48, Try.ntmps48
    go_wp2_with (go_at_call 45; with_reducible refine (lnode_is B1.out _).mono ?_; rintro e w1 ⟨rfl, hw1⟩; subst hw1)
    refine bodyPost_ret (v := .agg #[iv s, iv d, iv h]) (by simp [results, Try.results48, go_sem]) rfl ⟨by rw [HV.out]; rfl, ext_mk ?_⟩
    first
      | exact (Gr.refl _).alloc _
      | exact (((((Gr.refl _).alloc _).setCell (by simp) _).setCell (by simp) _).setCell (by simp) _)
  · have B1 : Hid (decide (0 ≤ k ∧ k < 6) = false) := decide_eq_false e
    have HV : Hid (wayOf m k = (0, 200, -1)) := by unfold Hid wayOf; rw [if_neg e]
    clear H e
    go_enter Try.func48, Try.ntmps48
    go_wp2_with (first | (go_at_call 45; with_reducible refine (lnode_is B1.out _).mono ?_; rintro e w1 ⟨rfl, hw1⟩; subst hw1) | (go_at_call 58; with_reducible refine (noWay_any 0 _).mono ?_; rintro e _ ⟨rfl, d1, rfl⟩))
    refine bodyPost_ret (v := .agg #[iv 0, iv 200, iv (-1)]) (by simp [results, Try.results48, go_sem]) rfl ⟨by rw [HV.out]; rfl, ext_mk ?_⟩
    exact (((((Gr.refl _).alloc _).trans d1.gr).setCell (by simp) _).setCell (by simp) _).setCell (by simp) _

/-- The best that is told. -/
def bestOf (m : Md) (k : Int) : Int × Int := if 0 ≤ k ∧ k < 6 then (if k = (m.me : Int) then ((m.ways m.me).1, (m.ways m.me).2.1) else m.bests k.toNat) else (0, 200)
set_option maxRecDepth 20000 in
set_option maxHeartbeats 8000000 in
theorem nbest_any {w : World} {p : Nat} {m : Md} (H : DAt w p m) (k : Int) :
    Calls Try.prog 53 #[pv p, iv k] w fun e w' => e = .returned (.tuple #[iv (bestOf m k).1, iv (bestOf m k).2]) ∧ ∃ d : Ext w, w' = d.out := by
  have hp := H.lt
  have c0 := H.me
  by_cases e : 0 ≤ k ∧ k < 6
  · have B1 : Hid (decide (0 ≤ k ∧ k < 6) = true) := decide_eq_true e
    have HV : Hid (bestOf m k = if k = (m.me : Int) then ((m.ways m.me).1, (m.ways m.me).2.1) else m.bests k.toNat) := by unfold Hid bestOf; rw [if_pos e]
    obtain ⟨z, rfl⟩ : ∃ z : Nat, k = (z : Int) := ⟨k.toNat, by omega⟩
    have hz : z < 6 := by omega
    have hzi : (z : Int) < 6 := by omega
    by_cases hme : (z : Int) = (m.me : Int)
    · have g1 : ((z : Int) == (m.me : Int)) = true := by simpa using hme
      obtain ⟨q0, q1, q2⟩ := H.ways hz
      have HV2 : Hid (bestOf m z = ((m.ways z).1, (m.ways z).2.1)) := by unfold Hid; rw [HV.out, if_pos hme, show m.me = z by omega]
      generalize m.ways z = v at *
      obtain ⟨s, d, h⟩ := v
      simp only at q0 q1 q2 HV2
      clear H e HV hme
      go_enter Try.func53, Try.ntmps53
      go_upto_region 4 with (go_at_call 45; with_reducible refine (lnode_is B1.out _).mono ?_; rintro e w1 ⟨rfl, hw1⟩; have hw2 := hw1.symm; clear hw1; subst hw2)
      refine wp_region_ext (by kernel_rfl) (by kernel_rfl) ?_
      repeat (go_big_quiet_step (fail))
      refine wpQuiet_nil ?_
      rintro _ ⟨d2, rfl⟩
      go_wp2_with fail
      go_ret2
      exact ⟨by rw [HV2.out]; rfl, d2, rfl⟩
    · have g1 : ((z : Int) == (m.me : Int)) = false := by simpa using hme
      obtain ⟨q0, q1⟩ := H.bests hz
      have HV2 : Hid (bestOf m z = m.bests z) := by unfold Hid; rw [HV.out, if_neg hme, Int.toNat_natCast]
      generalize m.bests z = v at *
      obtain ⟨s, d⟩ := v
      simp only at q0 q1
      clear H e HV hme
      go_enter Try.func53, Try.ntmps53
      go_upto_region 5 with (go_at_call 45; with_reducible refine (lnode_is B1.out _).mono ?_; rintro e w1 ⟨rfl, hw1⟩; have hw2 := hw1.symm; clear hw1; subst hw2)
      refine wp_region_ext (by kernel_rfl) (by kernel_rfl) ?_
      repeat (go_big_quiet_step (fail))
      refine wpQuiet_nil ?_
      rintro _ ⟨d2, rfl⟩
      go_wp2_with fail
      go_ret2
      exact ⟨by rw [HV2.out]; rfl, d2, rfl⟩
  · have B1 : Hid (decide (0 ≤ k ∧ k < 6) = false) := decide_eq_false e
    have HV : Hid (bestOf m k = (0, 200)) := by unfold Hid bestOf; rw [if_neg e]
    clear H e c0
    go_enter Try.func53, Try.ntmps53
    go_wp2_with (go_at_call 45; with_reducible refine (lnode_is B1.out _).mono ?_; rintro e w1 ⟨rfl, hw1⟩; have hw2 := hw1.symm; clear hw1; subst hw2)
    go_ret2
    exact ⟨by rw [HV.out]; rfl, ext_mk (Gr.refl _)⟩

end Go.Proofs.Ythiojjkgodffnae
