/- THE PROGRAM'S Net: a round: lists of those who are told; ways held against each other. -/
import Derived.Test.YtihamicnbihgnaeNe12
import Derived.Test.YtihamicnbihgnaePlainAll
namespace Go.Proofs.Ytihamicnbihgnae
open Go.RowKit

/-- Those of a list are told, one behind the other, and hear it at once; did it change a way? -/
def rowL (t : Tn) (a : Nat) (L : List Nat) : Nat → Tn
  | 0 => t
  | i + 1 => match L[i]? with
    | some b => tellTo (rowL t a L i) a b
    | none => rowL t a L i
def rowLC (t : Tn) (a : Nat) (L : List Nat) : Nat → Bool
  | 0 => false
  | i + 1 => rowLC t a L i || match L[i]? with
    | some b => tellChg ((rowL t a L i).nd b) a ((rowL t a L i).nd a).ways 6
    | none => false
theorem rowL_next (t : Tn) (a : Nat) {L : List Nat} {i : Nat} (hi : i < L.length) : rowL t a L (i + 1) = tellTo (rowL t a L i) a L[i] ∧ rowLC t a L (i + 1) = (rowLC t a L i || tellChg ((rowL t a L i).nd L[i]) a ((rowL t a L i).nd a).ways 6) := by
  rw [rowL, rowLC, List.getElem?_eq_getElem hi]
  exact ⟨rfl, rfl⟩
theorem rowL_app (t : Tn) (a : Nat) (L K : List Nat) : ∀ i, i ≤ L.length → rowL t a (L ++ K) i = rowL t a L i ∧ rowLC t a (L ++ K) i = rowLC t a L i
  | 0, _ => ⟨rfl, rfl⟩
  | i + 1, h => by
    obtain ⟨h1, h2⟩ := rowL_app t a L K i (by omega)
    rw [rowL, rowL, rowLC, rowLC, h1, h2, List.getElem?_append_left (by omega)]
    exact ⟨rfl, rfl⟩
theorem rowL_cst (t : Tn) (a : Nat) (L : List Nat) : ∀ i, (rowL t a L i).cst = t.cst
  | 0 => rfl
  | i + 1 => by
    rw [rowL]
    split
    · rw [tellTo_cst, rowL_cst t a L i]
    · exact rowL_cst t a L i
theorem rowL_all (t : Tn) {a : Nat} {f : Nat → Nat → Nat} (hf : ∀ b, b < 6 → (t.cst a b = 0 ↔ f 0 b = 0)) : ∀ j, j ≤ 6 → rowL t a (ofTo f 0 j) (ofTo f 0 j).length = rowT t a j ∧ rowLC t a (ofTo f 0 j) (ofTo f 0 j).length = rowChg t a j
  | 0, _ => ⟨rfl, rfl⟩
  | j + 1, h => by
    obtain ⟨h1, h2⟩ := rowL_all t hf j (by omega)
    rw [rowT, rowChg, ofTo, rowT_cst]
    by_cases e : f 0 j = 0
    · have e' := (hf j (by omega)).2 e
      rw [if_pos e, List.append_nil, h1, h2, if_pos e', Bool.or_false]
      exact ⟨(if_pos (by rw [rowT_cst]; exact e')).symm, rfl⟩
    · have e' : t.cst a j ≠ 0 := fun q => e ((hf j (by omega)).1 q)
      rw [if_neg e, if_neg e', List.length_append]
      show rowL t a (ofTo f 0 j ++ [j]) ((ofTo f 0 j).length + 1) = _ ∧ rowLC t a (ofTo f 0 j ++ [j]) ((ofTo f 0 j).length + 1) = _
      obtain ⟨k1, k2⟩ := rowL_app t a (ofTo f 0 j) [j] _ (Nat.le_refl _)
      rw [rowL, rowLC, k1, k2, h1, h2]
      simp
theorem rowL_a {t : Tn} {c : Nat → Nat → Nat} (H : TnA t c) {a : Nat} (ha : a < 6) {L : List Nat} (hL : ∀ x ∈ L, x < 6) : ∀ i, TnA (rowL t a L i) c
  | 0 => H
  | i + 1 => by
    have ih := rowL_a H ha hL i
    rw [rowL]
    split
    · rename_i b hb
      exact ih.tell' ha (hL b (List.mem_of_getElem? hb))
    · exact ih
/-- Two ways held against each other. -/
theorem way_neq (s d h s' d' h' : Int) (w : World) : (binOp .neq 41 (.agg #[iv s, iv d, iv h]) (.agg #[iv s', iv d', iv h'])).run Try.prog w = .ok (.bool (decide ((s, d, h) ≠ (s', d', h')))) w := by
  by_cases e1 : s = s'
  · subst e1
    by_cases e2 : d = d'
    · subst e2
      by_cases e3 : h = h'
      · subst e3
        go_simp
      · have q3 : (h == h') = false := by simpa using e3
        have r : decide ((s, d, h) ≠ (s, d, h')) = true := decide_eq_true (fun q => e3 (by injection q with _ q; injection q))
        rw [r]
        go_simp
    · have q2 : (d == d') = false := by simpa using e2
      have r : decide ((s, d, h) ≠ (s, d', h')) = true := decide_eq_true (fun q => e2 (by injection q with _ q; injection q))
      rw [r]
      go_simp
  · have q1 : (s == s') = false := by simpa using e1
    have r : decide ((s, d, h) ≠ (s', d', h')) = true := decide_eq_true (fun q => e1 (by injection q))
    rw [r]
    go_simp
/-- What a tells, as a list that stays. -/
theorem tellCall2 {M : Nat → Prop} {B w : World} {p k : Nat} {q : Nat → Nat} {v : Value} {c : Nat → Nat → Nat} {t : Tn} (H : Ne M B w p k q v c t) (hme : ∀ a, a < 6 → (t.nd a).me = a) {a : Nat} (ha : a < 6) (b : Nat) :
    Calls Try.prog 36 #[pv (q a), iv (b : Int)] w fun e w' => ∃ ao cp, e = .returned (.slice ao 6 cp) ∧ NewsAt w' ao (newsL (tellT t a b)) ∧ Gr w w' ∧ ∀ b o, ao = some ⟨b, o, none⟩ → b < w'.heap.size → rest w' p k q v b :=
  (ntell_any (H.six.at_ a ha) (b : Int)).mono fun e w' ⟨v, he, ho, hg⟩ => by
    obtain ⟨ao, c, hv, hn, hy⟩ := OwnN.shape ho
    rw [tell_len] at hv
    exact ⟨ao, c, by rw [he, hv], by rw [tell_news (hme a ha)]; exact hn, hg, fun b o e hb => H.notOwn hg (hy b o e) hb⟩
/-- One of the six pointers of an array. -/
theorem idx_nodes {C : Array Value} {g : Nat → Nat} (hC : #[pv (g 0), pv (g 1), pv (g 2), pv (g 3), pv (g 4), pv (g 5)] = C) {s : Nat} (hs : s < 6) (w : World) :
    (Instr.index 36 (.agg C) (iv s)).run Try.prog w = .ok (pv (g s)) w := by
  subst hC
  rcases (show s = 0 ∨ s = 1 ∨ s = 2 ∨ s = 3 ∨ s = 4 ∨ s = 5 by omega) with rfl | rfl | rfl | rfl | rfl | rfl <;> kernel_rfl

end Go.Proofs.Ytihamicnbihgnae
