import Derived.Test.YtfcknkanbcndjagGreatDoorTw17
import Derived.Test.YtfcknkanbcndjagGreatDoorPo0
import Derived.Test.YtfcknkanbcndjagGreatDoorTw18
import Derived.Test.YtfcknkanbcndjagGreatDoorTw19
import Derived.Test.YtfcknkanbcndjagGreatDoorTw20
/- A Town as the laws use it; a Net and a Town beside each other. -/
namespace Go.Proofs.YtfcknkanbcndjagGreatDoor
open Go.RowKit

section
variable {M : Nat → Prop} {B w w' : World} {p : Nat} {q : Nat → Nat} {v o : Value} {c : Nat → Nat → Nat} {t : Tn} {n : Nat}
/-- A Town behind at most n steps. -/
structure Tl (M : Nat → Prop) (B w : World) (p : Nat) (q : Nat → Nat) (v o : Value) (c : Nat → Nat → Nat) (t : Tn) (n : Nat) : Prop where
  h : Tw M B w p q v o t
  a : TnA t c
  l : t.news.length ≤ 40
  g : ∀ k, k < 6 → agT t k ≤ (n : Int)
theorem Tl.ext (H : Tl M B w p q v o c t n) (g : Gr w w') : Tl M B w' p q v o c t n := ⟨H.h.ext g, H.a, H.l, H.g⟩
/-- The Town's own blocks. -/
def ownT (p : Nat) (q : Nat → Nat) (v : Value) (b : Nat) : Prop := b = p ∨ (∃ a, a < 6 ∧ b = q a) ∨ v.ownBlock = some b
theorem Tw.own_lt (h : Tw M B w p q v o t) {b : Nat} (hb : ownT p q v b) : b < w.heap.size := by
  rcases hb with rfl | ⟨a, ha, rfl⟩ | e
  · exact h.blk.lt
  · exact (h.six.at_ a ha).lt
  · exact h.nw.own_lt e
end
section
variable {M : Nat → Prop} {B w w' : World} {p k P : Nat} {q Q : Nat → Nat} {v v1 V V1 o : Value} {c c' : Nat → Nat → Nat} {t t' t'' : Tn} {n n' : Nat}
end

end Go.Proofs.YtfcknkanbcndjagGreatDoor

/- THE REFERENCE'S Town: Do, of whatever is handed in but whose is what. -/
namespace Go.Proofs.YtfcknkanbcndjagGreatDoor
open Go.RowKit

section
variable {M : Nat → Prop} {B w w' : World} {p : Nat} {q : Nat → Nat} {v o : Value} {c : Nat → Nat → Nat} {t : Tn} {n : Nat}
theorem wdo_any (H : Tw M B w p q v o t) (A : TnA t c) (hA : ∀ k, k < 6 → agT t k < 4611686018427387904) (hl : t.news.length ≤ 40) (x : Sp) (h7 : x.k ≠ 7) (X Y : Value) :
    Calls Tryz.prog 28 #[pv p, .agg #[iv x.k, iv x.a, iv x.b, iv x.n, X, Y]] w fun e w' => ∃ v', e = .returned (iv (doT t x).2) ∧ Tw M B w' p q v' o (doT t x).1 := by
  obtain ⟨kd, a, b, n⟩ := x
  dsimp only at h7 ⊢
  unfold doT
  dsimp only
  by_cases e1 : kd = 1
  · subst e1
    rw [if_pos rfl]
    unfold linkC
    by_cases h : isN a ∧ isN b ∧ a ≠ b ∧ 0 ≤ n ∧ n ≤ 15
    · rw [if_pos h]
      obtain ⟨i, rfl⟩ : ∃ i : Nat, a = (i : Int) := ⟨a.toNat, by omega⟩
      obtain ⟨j, rfl⟩ : ∃ j : Nat, b = (j : Int) := ⟨b.toNat, by omega⟩
      exact (wdo_link H A (by omega) (by omega) (by omega) h.2.2.2.1 h.2.2.2.2 X Y).mono fun _ _ ⟨h1, h2⟩ => ⟨v, h1, h2⟩
    · rw [if_neg h]
      exact (wdo_unlink H h X Y).mono fun _ _ ⟨h1, h2⟩ => ⟨v, h1, h2⟩
  · rw [if_neg e1]
    by_cases e2 : kd = 2
    · subst e2
      rw [if_pos rfl]
      by_cases h : isN a
      · rw [if_pos h]
        obtain ⟨i, rfl⟩ : ∃ i : Nat, a = (i : Int) := ⟨a.toNat, by omega⟩
        exact wdo_tick H A (by omega) (hA _ (by omega)) hl b n X Y
      · rw [if_neg h]
        exact (wdo_tick_no H h X Y).mono fun _ _ ⟨h1, h2⟩ => ⟨v, h1, h2⟩
    · rw [if_neg e2]
      by_cases e3 : kd = 3
      · subst e3
        rw [if_pos rfl]
        exact wdo_tell H A.s.tc.me hl a b n X Y
      · rw [if_neg e3]
        by_cases e4 : kd = 4 ∨ kd = 5 ∨ kd = 6
        · rw [if_pos e4]
          unfold newsC
          by_cases h : 0 ≤ n ∧ n.toNat < t.news.length
          · rw [dif_pos h]
            obtain ⟨i, rfl⟩ : ∃ i : Nat, n = (i : Int) := ⟨n.toNat, by omega⟩
            rcases e4 with rfl | rfl | rfl
            · rw [if_neg (by omega), if_pos rfl]
              exact wdo_hear H A hl (by omega) rfl X Y
            · rw [if_neg (by omega), if_neg (by omega)]
              exact wdo_lose H hl (by omega) X Y
            · rw [if_pos rfl]
              by_cases h4 : 40 ≤ t.news.length
              · rw [if_pos h4]
                exact wdo_full H h4 (n := i) (by omega) rfl X Y
              · rw [if_neg h4]
                exact wdo_double H (by omega) (n := i) (by omega) rfl X Y
          · rw [dif_neg h]
            exact (wdo_none H e4 (by omega) X Y).mono fun _ _ ⟨h1, h2⟩ => ⟨v, h1, H.ext h2⟩
        · rw [if_neg e4]
          exact (wdo_kind (by omega) a b n X Y).mono fun _ _ ⟨h1, h2⟩ => ⟨v, h1, H.ext h2⟩
theorem Tl.do' (H : Tl M B w p q v o c t n) (hn : n ≤ 100000) (x : Sp) (h7 : x.k ≠ 7) (X Y : Value) :
    Calls Tryz.prog 28 #[pv p, .agg #[iv x.k, iv x.a, iv x.b, iv x.n, X, Y]] w fun e w' => ∃ v', e = .returned (iv (doT t x).2) ∧ Tl M B w' p q v' o (nextC c x) (doT t x).1 (n + 1) ∧ FrW w p q v w' v' :=
  (wdo_any H.h.rest H.a (fun k hk => by have := H.g k hk; omega) H.l x h7 X Y).mono fun _ _ ⟨v', he, hh⟩ => by
    have hx := do_nx H.a x
    exact ⟨v', he, ⟨H.h.unrest hh, hx.a, do_len H.l x, fun k hk => by have := hx.age k hk; have := up_le x k; have := H.g k hk; omega⟩, hh.fr⟩
end

end Go.Proofs.YtfcknkanbcndjagGreatDoor
