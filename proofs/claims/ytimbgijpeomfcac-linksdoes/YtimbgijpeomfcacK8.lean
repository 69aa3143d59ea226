/- TWO LISTS OF A CALL's OWN, of links and of numbers: an append onto one leaves the other. -/
import Derived.Test.YtimbgijpeomfcacKMem
namespace Go.Proofs.Ytimbgijpeomfcac
open Go.RowKit

/-- An append onto the one's row leaves a row of another type. -/
theorem own_apart {w w' : World} {B e e' s s' n n' : Nat} {v u : Value} {xs ys : List Value} (h : w.ownsRow B e s v n xs) (k : w.ownsRow B e' s' u n' ys) (hne : e ≠ e') (hg : w.grownBy w' v.ownBlock) : w'.ownsRow B e' s' u n' ys := by
  refine ⟨k.1, ?_⟩
  rcases k.2 with hn | ⟨b, cap, cur, rfl, hb, hgg, rest⟩
  · exact .inl hn
  · refine .inr ⟨b, cap, cur, rfl, hb, ?_, rest⟩
    rw [hg.block b (lt_of_block hgg) (fun q => ?_)]
    · exact hgg
    · rcases h.2 with ⟨rfl, _⟩ | ⟨b2, cap2, cur2, rfl, hb2, hgg2, rest2⟩
      · cases q
      · simp only [Value.ownBlock, Option.some.injEq] at q
        rw [← q, hgg] at hgg2
        simp at hgg2
        exact hne hgg2.2.symm
theorem OwnK.app2 {B X : World} {v u : Value} {l : List Tri} {l' : List Nat} (ty : TypeId) (hO : OwnK B X v l) (hI : OwnI B X u l') (g : Gr B X) (x : Tri) (hm : l.length ≤ 1000) :
    ∃ v' w', (Builtin.append_ #[22, 22] ty #[v, .slice (some ⟨X.heap.size, 0, none⟩) 1 1]).run Try.prog (X.alloc (.cells #[iv x.1, iv x.2.1, iv x.2.2] 34)) = .ok v' w' ∧ OwnK B w' v' (l ++ [x]) ∧ OwnI B w' u l' ∧ Gr B w' := by
  obtain ⟨i0, hi, hz0, hz1, hz2⟩ := info_parts Try.info34
  have gY := (Gr.refl X).alloc (.cells #[iv x.1, iv x.2.1, iv x.2.2] 34)
  have hY := hO.gr gY
  obtain ⟨v', w', h1, h2, h3, _⟩ := run_append_own (P := Try.prog) _ B.heap.size 22 ty 34 i0 _ 3 24 Try.underlying22 hi hz0 hz1 hz2 (by rfl) (by decide) v l.length (celk l) hY
      ⟨X.heap.size, 0, none⟩ 1 1 [iv x.1, iv x.2.1, iv x.2.2] rfl
      (fun j u hj => by
        have hl : j < 3 := (List.getElem?_eq_some_iff.1 hj).1
        have : j = 0 ∨ j = 1 ∨ j = 2 := by omega
        rcases this with rfl | rfl | rfl <;> (simp at hj; subst hj; simp [Addr.add, go_sem]))
      (by simp [Value.oneCell']) (by unfold maxLen; omega) (by omega) (by have := Below.size g; simp; omega)
  refine ⟨v', w', h1, ?_, own_apart hY (hI.gr gY) (by decide) h3, (g.alloc _).grown h3 (fun k hk => (hO.lt k hk).1)⟩
  unfold OwnK
  rw [celk_append, List.length_append]
  exact h2
theorem OwnI.app2 {B X : World} {v u : Value} {l : List Nat} {l' : List Tri} (ty : TypeId) (hO : OwnI B X v l) (hK : OwnK B X u l') (g : Gr B X) (x : Nat) (hm : l.length ≤ 1000) :
    ∃ v' w', (Builtin.append_ #[30, 30] ty #[v, .slice (some ⟨X.heap.size, 0, none⟩) 1 1]).run Try.prog (X.alloc (.cells #[iv x] 3)) = .ok v' w' ∧ OwnI B w' v' (l ++ [x]) ∧ OwnK B w' u l' ∧ Gr B w' := by
  obtain ⟨i0, hi, hz0, hz1, hz2⟩ := info_parts Try.info3
  have gY := (Gr.refl X).alloc (.cells #[iv x] 3)
  have hY := hO.gr gY
  obtain ⟨v', w', h1, h2, h3, _⟩ := run_append_own (P := Try.prog) _ B.heap.size 30 ty 3 i0 _ 1 8 Try.underlying30 hi hz0 hz1 hz2 (by rfl) (by decide) v l.length (l.map fun (n : Nat) => iv n) hY
      ⟨X.heap.size, 0, none⟩ 1 1 [iv x] rfl
      (fun j u hj => by
        have hl : j < 1 := (List.getElem?_eq_some_iff.1 hj).1
        have : j = 0 := by omega
        subst this; simp at hj; subst hj; simp [Addr.add, go_sem])
      (by simp [Value.oneCell']) (by unfold maxLen; omega) (by omega) (by have := Below.size g; simp; omega)
  refine ⟨v', w', h1, ?_, own_apart hY (hK.gr gY) (by decide) h3, (g.alloc _).grown h3 (fun k hk => (hO.lt k hk).1)⟩
  unfold OwnI
  rw [List.map_append, List.length_append]
  exact h2

end Go.Proofs.Ytimbgijpeomfcac
