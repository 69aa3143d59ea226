/- FOR THE LAWS OF A NET: steps in memory; what a Net leaves as it was; ways, bests, costs as the laws ask them. -/
import Derived.Test.YtihamicnbihgnaeNe18
import Derived.Test.YtihamicnbihgnaeLNb
namespace Go.Proofs.Ytihamicnbihgnae
open Go.RowKit
attribute [local go_sem] Ext.all Ext.cell Ext.frozen Ext.lt Ext.lt1 Ext.lt2 Ext.ne Ext.ne'

/-- A step with its prefix. -/
structure Sx where
  s : Sp
  l : Int
  b : Int
def Sx.val (x : Sx) : Value := .agg #[iv x.s.k, iv x.s.a, iv x.s.b, iv x.s.n, iv x.l, iv x.b]
/-- A slice that reads as steps. -/
def SpAt (w : World) (ao : Option Addr) (l : List Sx) : Prop := l = [] ∨ ∃ b o, ao = some ⟨b, o, none⟩ ∧ b < w.heap.size ∧ ∀ i (h : i < l.length),
    w.cell? ⟨b, o + i * 6, none⟩ = some (iv l[i].s.k) ∧ w.cell? ⟨b, o + i * 6 + 1, none⟩ = some (iv l[i].s.a) ∧ w.cell? ⟨b, o + i * 6 + 2, none⟩ = some (iv l[i].s.b) ∧ w.cell? ⟨b, o + i * 6 + 3, none⟩ = some (iv l[i].s.n) ∧ w.cell? ⟨b, o + i * 6 + 4, none⟩ = some (iv l[i].l) ∧ w.cell? ⟨b, o + i * 6 + 5, none⟩ = some (iv l[i].b)
theorem SpAt.gr {w w' : World} {ao : Option Addr} {l : List Sx} (h : SpAt w ao l) (k : Gr w w') : SpAt w' ao l := by
  rcases h with h | ⟨b, o, ha, hb, hc⟩
  · exact .inl h
  · refine .inr ⟨b, o, ha, Nat.lt_of_lt_of_le hb (Below.size k), fun i hi => ?_⟩
    have e : ∀ q, w'.cell? ⟨b, q, none⟩ = w.cell? ⟨b, q, none⟩ := fun q => Below.cell k (p := ⟨b, q, none⟩) hb
    rw [e, e, e, e, e, e]
    exact hc i hi
/-- One of them. -/
theorem SpAt.get {w : World} {ao : Option Addr} {l : List Sx} (h : SpAt w ao l) {i : Nat} (hi : i < l.length) : ∃ b o, ao = some ⟨b, o, none⟩ ∧ b < w.heap.size ∧ w.cell? ⟨b, o + i * 6, none⟩ = some (iv l[i].s.k) ∧ w.cell? ⟨b, o + i * 6 + 1, none⟩ = some (iv l[i].s.a) ∧ w.cell? ⟨b, o + i * 6 + 2, none⟩ = some (iv l[i].s.b) ∧ w.cell? ⟨b, o + i * 6 + 3, none⟩ = some (iv l[i].s.n) ∧ w.cell? ⟨b, o + i * 6 + 4, none⟩ = some (iv l[i].l) ∧ w.cell? ⟨b, o + i * 6 + 5, none⟩ = some (iv l[i].b) := by
  rcases h with h | ⟨b, o, ha, hb, hc⟩
  · exfalso; rw [h] at hi; simp at hi
  · exact ⟨b, o, ha, hb, hc i hi⟩
/-- The steps of a list, without prefixes. -/
def spsOf (l : List Sx) : List Sp := l.map Sx.s
theorem sps_len (l : List Sx) : (spsOf l).length = l.length := List.length_map _
theorem play_next (l : List Sx) {i : Nat} (h : i < l.length) : playT newT (spsOf l) (i + 1) = (doT (playT newT (spsOf l) i) l[i].s).1 := by
  rw [play_succ newT (spsOf l) (by rw [sps_len]; exact h)]
  unfold spsOf
  rw [List.getElem_map]

/-- What is not the Net's is as it was, and still not the Net's. -/
structure Fr (w : World) (p k : Nat) (q : Nat → Nat) (v : Value) (w' : World) (v' : Value) : Prop where
  kp : Kp (rest w p k q v) w w'
  rst : ∀ {b}, rest w p k q v b → rest w' p k q v' b
section
variable {M : Nat → Prop} {B w w' : World} {p k : Nat} {q : Nat → Nat} {v v' : Value} {c c' : Nat → Nat → Nat} {t t' : Tn} {n : Nat}
theorem Ne.fr (h' : Ne (Ytihamicnbihgnae.rest w p k q v) w w' p k q v' c' t') : Fr w p k q v w' v' :=
  ⟨h'.kp, fun {b} hb => ⟨Nat.lt_of_lt_of_le hb.1 h'.kp.size, hb.2.1, hb.2.2.1, hb.2.2.2.1, fun e => h'.nov b e hb⟩⟩
theorem Fr.zarr {t n X : Nat} {g : Nat → Int} (h : Fr w p k q v w' v') (z : ZArr w t n X g) (hX : rest w p k q v X) : ZArr w' t n X g := (h.kp.block X hX.1 hX).trans z
theorem Nl.do' (H : Nl M B w p k q v c t n) (hn : n ≤ 100000) (x : Sp) (X Y : Value) :
    Calls Try.prog 9 #[pv p, .agg #[iv x.k, iv x.a, iv x.b, iv x.n, X, Y]] w fun e w' => ∃ v', e = .returned (iv (doT t x).2) ∧ Nl M B w' p k q v' (nextC c x) (doT t x).1 (n + 1) ∧ Fr w p k q v w' v' :=
  (Nl.do (M := rest w p k q v) (B := w) ⟨H.h.rest, H.a, H.l, H.g⟩ hn x X Y).mono fun _ _ ⟨v', he, hh⟩ =>
    ⟨v', he, ⟨H.h.unrest hh.h, hh.a, hh.l, hh.g⟩, hh.h.fr⟩
theorem Nl.settle' (H : Nl M B w p k q v c t n) (hn : n ≤ 100000) (R : Int) (hR : R ≤ 1000) :
    Calls Try.prog 8 #[pv p, iv R] w fun e w' => ∃ v', e = .returned (.tuple #[]) ∧ Nl M B w' p k q v' c (settleT t R.toNat) (n + 1) ∧ Fr w p k q v w' v' :=
  (Nl.settle (M := rest w p k q v) (B := w) ⟨H.h.rest, H.a, H.l, H.g⟩ hn R hR).mono fun _ _ ⟨v', he, hh⟩ =>
    ⟨v', he, ⟨H.h.unrest hh.h, hh.a, hh.l, hh.g⟩, hh.h.fr⟩
/-- A block that is not the Net's is written. -/
theorem Nl.aside (H : Nl M B w p k q v c t n) {X : Nat} (hX : rest w p k q v X) (hM : ¬ M X) (hw : Wr X w w') : Nl M B w' p k q v c t n :=
  ⟨H.h.aside hw hX.2.1.symm hX.2.2.1.symm (fun a ha => (hX.2.2.2.1 a ha).symm) (fun _ e e2 => hX.2.2.2.2 (e2 ▸ e)) hM, H.a, H.l, H.g⟩
theorem rest_wr {X b : Nat} (hb : rest w p k q v b) (hw : Wr X w w') : rest w' p k q v b := ⟨Nat.lt_of_lt_of_le hb.1 hw.size, hb.2⟩
theorem rest_gr {b : Nat} (hb : rest w p k q v b) (hw : Gr w w') : rest w' p k q v b := ⟨Nat.lt_of_lt_of_le hb.1 (Below.size hw), hb.2⟩
/-- Way and Best of two nodes. -/
theorem Nl.way (H : Nl M B w p k q v c t n) {a b : Nat} (ha : a < 6) (hb : b < 6) : Calls Try.prog 11 #[pv p, iv (a : Int), iv (b : Int)] w fun e w' => e = .returned (.agg #[iv ((t.nd a).ways b).1, iv ((t.nd a).ways b).2.1, iv ((t.nd a).ways b).2.2]) ∧ ∃ d : Ext w, w' = d.out := by
  have := netWay_any H.h (a : Int) (b : Int)
  have e : wayTn t (a : Int) (b : Int) = (t.nd a).ways b := by
    unfold wayTn
    rw [if_pos ⟨by omega, by omega⟩, Int.toNat_natCast, wayOf_nat _ hb]
  rw [e] at this
  exact this
theorem Nl.best (H : Nl M B w p k q v c t n) {a b : Nat} (ha : a < 6) (hb : b < 6) : Calls Try.prog 16 #[pv p, iv (a : Int), iv (b : Int)] w fun e w' => e = .returned (.tuple #[iv ((t.nd a).bests b).1, iv ((t.nd a).bests b).2]) ∧ ∃ d : Ext w, w' = d.out := by
  have := netBest_any H.h (a : Int) (b : Int)
  have e : bestTn t (a : Int) (b : Int) = (t.nd a).bests b := by
    unfold bestTn
    rw [if_pos ⟨by omega, by omega⟩, Int.toNat_natCast, best_sel (H.a.s.z a ha).ok hb]
  rw [e] at this
  exact this
end
/-- The Net's own blocks. -/
def own (p k : Nat) (q : Nat → Nat) (v : Value) (b : Nat) : Prop := b = p ∨ b = k ∨ (∃ a, a < 6 ∧ b = q a) ∨ v.ownBlock = some b
/-- Another Net beside it. -/
def Apart (w : World) (p k : Nat) (q : Nat → Nat) (v : Value) (p' k' : Nat) (q' : Nat → Nat) (v' : Value) : Prop := ∀ b, own p' k' q' v' b → rest w p k q v b
section
variable {M : Nat → Prop} {B w w' : World} {p k p' k' : Nat} {q q' : Nat → Nat} {v v' v1 : Value} {c c' : Nat → Nat → Nat} {t t' : Tn} {n n' : Nat}
theorem Ne.own_lt (h : Ne M B w p k q v c t) {b : Nat} (hb : own p k q v b) : b < w.heap.size := by
  rcases hb with rfl | rfl | ⟨a, ha, rfl⟩ | e
  · exact h.blk.lt
  · exact h.lk.lt
  · exact (h.six.at_ a ha).lt
  · exact h.nw.own_lt e
theorem Apart.symm (h : Apart w p k q v p' k' q' v') (H : Ne M B w p k q v c t) : Apart w p' k' q' v' p k q v := fun b hb => by
  have no : ∀ x, own p' k' q' v' x → ¬ own p k q v x := fun x hx ho => by
    obtain ⟨_, r1, r2, r3, r4⟩ := h x hx
    rcases ho with e | e | ⟨a, ha, e⟩ | e
    · exact r1 e
    · exact r2 e
    · exact r3 a ha e
    · exact r4 e
  refine ⟨H.own_lt hb, fun e => no b (.inl e) hb, fun e => no b (.inr (.inl e)) hb, fun a ha e => no b (.inr (.inr (.inl ⟨a, ha, e⟩))) hb, fun e => no b (.inr (.inr (.inr e))) hb⟩
/-- What was done to the one leaves the other one as it was. -/
theorem Nl.beside (H' : Nl M B w p' k' q' v' c' t' n') (H : Nl M B w p k q v c t n) (ap : Apart w p k q v p' k' q' v') (f : Fr w p k q v w' v1) : Nl M B w' p' k' q' v' c' t' n' ∧ Apart w' p k q v1 p' k' q' v' :=
  ⟨⟨H'.h.keep f.kp (fun _ hm => H.h.sub hm) (ap _ (.inl rfl)) (ap _ (.inr (.inl rfl))) (fun a ha => ap _ (.inr (.inr (.inl ⟨a, ha, rfl⟩)))) (fun _ e => ap _ (.inr (.inr (.inr e)))), H'.a, H'.l, H'.g⟩, fun b hb => f.rst (ap b hb)⟩
theorem Apart.gr (h : Apart w p k q v p' k' q' v') (g : Gr w w') : Apart w' p k q v p' k' q' v' := fun b hb => rest_gr (h b hb) g
end
/-- A field of a way. -/
theorem fld0 (a b c : Int) (w : World) : (Instr.field 41 (.agg #[iv a, iv b, iv c]) 0).run Try.prog w = .ok (iv a) w := by kernel_rfl
theorem fld1 (a b c : Int) (w : World) : (Instr.field 41 (.agg #[iv a, iv b, iv c]) 1).run Try.prog w = .ok (iv b) w := by kernel_rfl

end Go.Proofs.Ytihamicnbihgnae
