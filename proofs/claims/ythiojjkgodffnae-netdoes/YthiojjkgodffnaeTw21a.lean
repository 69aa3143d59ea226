/- A Town as the laws use it; a Net and a Town beside each other. -/
import Derived.Test.YthiojjkgodffnaeTw8
import Derived.Test.YthiojjkgodffnaeLNt
namespace Go.Proofs.Ythiojjkgodffnae
open Go.RowKit

section
variable {M : Nat → Prop} {B w w' : World} {p : Nat} {q : Nat → Nat} {v o : Value} {c : Nat → Nat → Nat} {t : Tn} {n : Nat}
/-- A Town behind at most n steps. -/
structure Tl (M : Nat → Prop) (B w : World) (p : Nat) (q : Nat → Nat) (v o : Value) (c : Nat → Nat → Nat) (t : Tn) (n : Nat) : Prop where
  h : Tw M B w p q v o t
  a : TnA t c
  l : t.news.length ≤ 40
  g : ∀ k, k < 6 → agT t k ≤ (n : Int)
theorem Tl.ext (H : Tl M B w p q v o c t n) (g : Gr w w') : Tl M B w' p q v o c t n := ⟨H.h.ext g, H.a, H.l, H.g⟩
theorem Tl.settle' (H : Tl M B w p q v o c t n) (hn : n ≤ 100000) (R : Int) (hR : R ≤ 1000) :
    Calls Try.prog 21 #[pv p, iv R] w fun e w' => ∃ v', e = .returned (.tuple #[]) ∧ Tl M B w' p q v' o c (settleT t R.toNat) (n + 1) ∧ FrW w p q v w' v' :=
  (wsettle_ok H.h.rest H.a (fun k hk => by have := H.g k hk; omega) R hR).mono fun _ _ ⟨he, hh⟩ =>
    ⟨_, he, ⟨H.h.unrest hh, settle_a H.a _, by rw [settleT_news]; simp, fun k hk => by rw [settle_age H.a _ hk]; have := H.g k hk; omega⟩, hh.fr⟩
/-- The Town's own blocks. -/
def ownT (p : Nat) (q : Nat → Nat) (v : Value) (b : Nat) : Prop := b = p ∨ (∃ a, a < 6 ∧ b = q a) ∨ v.ownBlock = some b
theorem Tw.own_lt (h : Tw M B w p q v o t) {b : Nat} (hb : ownT p q v b) : b < w.heap.size := by
  rcases hb with rfl | ⟨a, ha, rfl⟩ | e
  · exact h.blk.lt
  · exact (h.six.at_ a ha).lt
  · exact h.nw.own_lt e
end
/-- A Net (at p, k, q, v) and a Town (at P, Q, V) beside each other: the Town's blocks are none of the Net's. -/
def Beside (w : World) (p k : Nat) (q : Nat → Nat) (v : Value) (P : Nat) (Q : Nat → Nat) (V : Value) : Prop := ∀ b, ownT P Q V b → rest w p k q v b
section
variable {M : Nat → Prop} {B w w' : World} {p k P : Nat} {q Q : Nat → Nat} {v v1 V V1 o : Value} {c c' : Nat → Nat → Nat} {t t' t'' : Tn} {n n' : Nat}
theorem Beside.gr (h : Beside w p k q v P Q V) (g : Gr w w') : Beside w' p k q v P Q V := fun b hb => rest_gr (h b hb) g
theorem Beside.town (h : Beside w p k q v P Q V) (H : Ne M B w p k q v c t) : ∀ b, own p k q v b → restT w P Q V b := fun b hb => by
  have no : ∀ x, ownT P Q V x → ¬ own p k q v x := fun x hx ho => by
    obtain ⟨_, r1, r2, r3, r4⟩ := h x hx
    rcases ho with e | e | ⟨a, ha, e⟩ | e
    · exact r1 e
    · exact r2 e
    · exact r3 a ha e
    · exact r4 e
  exact ⟨H.own_lt hb, fun e => no b (.inl e) hb, fun a ha e => no b (.inr (.inl ⟨a, ha, e⟩)) hb, fun e => no b (.inr (.inr e)) hb⟩
/-- What was done to the Net leaves the Town. -/
theorem Tl.beside (HT : Tl M B w P Q V o c' t' n') (HN : Nl M B w p k q v c t n) (bs : Beside w p k q v P Q V) (f : Fr w p k q v w' v1) : Tl M B w' P Q V o c' t' n' ∧ Beside w' p k q v1 P Q V :=
  ⟨⟨HT.h.keep f.kp (fun _ hm => HN.h.sub hm) (bs _ (.inl rfl)) (fun a ha => bs _ (.inr (.inl ⟨a, ha, rfl⟩))) (fun _ e => bs _ (.inr (.inr e))), HT.a, HT.l, HT.g⟩, fun b hb => f.rst (bs b hb)⟩
/-- What was done to the Town leaves the Net. -/
theorem Nl.besideT (HN : Nl M B w p k q v c t n) (HT : Tl M B w P Q V o c' t' n') (bs : Beside w p k q v P Q V) (f : FrW w P Q V w' V1) (h1 : Tw M B w' P Q V1 o t'') : Nl M B w' p k q v c t n ∧ Beside w' p k q v P Q V1 := by
  have tn := bs.town HN.h
  refine ⟨⟨HN.h.keep f.kp (fun _ hm => HT.h.sub hm) (tn _ (.inl rfl)) (tn _ (.inr (.inl rfl))) (fun a ha => tn _ (.inr (.inr (.inl ⟨a, ha, rfl⟩)))) (fun _ e => tn _ (.inr (.inr (.inr e)))), HN.a, HN.l, HN.g⟩, fun b hb => ?_⟩
  have no : ∀ x, own p k q v x → ¬ ownT P Q V1 x := fun x hx ho => by
    obtain ⟨_, r1, r2, r3⟩ := f.rst (tn x hx)
    rcases ho with e | ⟨a, ha, e⟩ | e
    · exact r1 e
    · exact r2 a ha e
    · exact r3 e
  exact ⟨h1.own_lt hb, fun e => no b (.inl e) hb, fun e => no b (.inr (.inl e)) hb, fun a ha e => no b (.inr (.inr (.inl ⟨a, ha, e⟩))) hb, fun e => no b (.inr (.inr (.inr e))) hb⟩
end

end Go.Proofs.Ythiojjkgodffnae
