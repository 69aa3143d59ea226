/- SIX NODES AND NEWS IN MEMORY: blocks of any values, six nodes apart from each other, a list of news of their owner's own. -/
import Derived.Test.YtihamicnbihgnaeNwMem
import Derived.Test.YtihamicnbihgnaeD4
import Derived.Maps.AppendAt
namespace Go.Proofs.Ytihamicnbihgnae
open Go.RowKit

/-- n values, as cells. -/
def vcells (n : Nat) (g : Nat → Value) : Array Value := ((List.range n).map g).toArray
def VArr (w : World) (t : TypeId) (n p : Nat) (g : Nat → Value) : Prop := w.heap[p]? = some (.cells (vcells n g) t (0, 0))
theorem VArr.lt {w : World} {t n p : Nat} {g : Nat → Value} (h : VArr w t n p g) : p < w.heap.size := lt_of_block h
theorem VArr.cell {w : World} {t n p : Nat} {g : Nat → Value} (h : VArr w t n p g) {j : Nat} (hj : j < n) : w.cell? ⟨p, j, none⟩ = some (g j) := by
  unfold VArr at h
  simp [World.cell?, h, vcells, hj]
theorem VArr.free {w : World} {t n p : Nat} {g : Nat → Value} (h : VArr w t n p g) (j : Nat) : w.frozen? ⟨p, j, none⟩ = false := by
  unfold VArr at h
  simp [World.frozen?, h]
theorem VArr.gr {w w' : World} {t n p : Nat} {g : Nat → Value} (h : VArr w t n p g) (k : Gr w w') : VArr w' t n p g := (Below.block k p (lt_of_block h)).trans h
theorem VArr.congr {w : World} {t n p : Nat} {g g' : Nat → Value} (h : VArr w t n p g) (e : ∀ j, j < n → g j = g' j) : VArr w t n p g' := by
  unfold VArr at h ⊢
  have : vcells n g = vcells n g' := by
    unfold vcells
    congr 1
    apply List.map_congr_left
    intro j hj
    exact e j (List.mem_range.1 hj)
  rw [← this]; exact h
theorem VArr.set {w : World} {t n p : Nat} {g g' : Nat → Value} (h : VArr w t n p g) {j : Nat} {v : Value} (e : ∀ i, i < n → g' i = if i = j then v else g i) : VArr (w.setCell ⟨p, j, none⟩ v) t n p g' := by
  unfold VArr at h ⊢
  have : (w.setCell ⟨p, j, none⟩ v).heap[p]? = some (.cells ((vcells n g).setIfInBounds j v) t (0, 0)) := by
    simp [World.setCell, Array.getElem?_modify, h]
  rw [this]
  congr 2
  apply Array.ext
  · simp [vcells]
  · intro i h1 h2
    have hi : i < n := by simpa [vcells] using h1
    rw [Array.getElem_setIfInBounds (by simpa [vcells] using hi)]
    simp only [vcells, List.getElem_toArray, List.getElem_map, List.getElem_range, e i hi]
    by_cases q : j = i
    · subst q; simp
    · rw [if_neg q, if_neg (fun x => q x.symm)]
theorem VArr.other {w : World} {t n p q : Nat} {g : Nat → Value} (h : VArr w t n p g) (hn : p ≠ q) (j : Nat) (v : Value) : VArr (w.setCell ⟨q, j, none⟩ v) t n p g := by
  unfold VArr
  rw [Below.heap_setCell w ⟨q, j, none⟩ v p hn]; exact h
theorem VArr.new (w : World) (t n : Nat) (g : Nat → Value) : VArr (w.alloc (.cells (vcells n g) t)) t n w.heap.size g := heap_alloc_new w _
theorem Wr.varr {p t n q : Nat} {a b : World} {g : Nat → Value} (h : Wr p a b) (k : VArr a t n q g) (hq : q ≠ p) : VArr b t n q g := (h.block q k.lt hq).trans k

/-- Six nodes, each in a block of its own. -/
structure Six (t : TypeId) (w : World) (q : Nat → Nat) (nd : Nat → Md) : Prop where
  at_ : ∀ a, a < 6 → NdAt t w (q a) (nd a)
  inj : ∀ a b, a < 6 → b < 6 → a ≠ b → q a ≠ q b
theorem Six.gr {t : TypeId} {w w' : World} {q : Nat → Nat} {nd : Nat → Md} (h : Six t w q nd) (g : Gr w w') : Six t w' q nd := ⟨fun a ha => (h.at_ a ha).gr g, h.inj⟩
/-- One of them has changed. -/
theorem Six.put {t : TypeId} {w w' : World} {q : Nat → Nat} {nd : Nat → Md} (h : Six t w q nd) {a : Nat} (ha : a < 6) {m : Md} (hw : Wr (q a) w w') (hm : NdAt t w' (q a) m) : Six t w' q (updW nd a m) := by
  refine ⟨fun b hb => ?_, h.inj⟩
  by_cases e : b = a
  · subst e; rw [updW_same]; exact hm
  · rw [updW_ne _ _ e]
    exact (hw.block (q b) (h.at_ b hb).lt (h.inj b a hb ha e)).trans (h.at_ b hb)
theorem Six.keep {t : TypeId} {w w' : World} {q : Nat → Nat} {nd : Nat → Md} (h : Six t w q nd) (k : ∀ a, a < 6 → w'.heap[q a]? = w.heap[q a]?) : Six t w' q nd := ⟨fun a ha => (k a ha).trans (h.at_ a ha), h.inj⟩

/-- A list of news of its owner's own, in a block that is not below lo. -/
def NwO (lo : Nat) (w : World) (v : Value) (l : List Nws) : Prop := w.ownsRow lo 53 5 v l.length (celn l)
theorem NwO.nil (lo : Nat) (w : World) : NwO lo w (.slice none 0 0) [] := World.ownsRow_nil _ _ _ _
theorem NwO.keep {lo : Nat} {w w' : World} {v : Value} {l : List Nws} (h : NwO lo w v l) (k : ∀ b, v.ownBlock = some b → w'.heap[b]? = w.heap[b]?) : NwO lo w' v l := by
  refine ⟨h.1, ?_⟩
  rcases h.2 with hn | ⟨b, cap, cur, rfl, hb, hgg, rest⟩
  · exact .inl hn
  · exact .inr ⟨b, cap, cur, rfl, hb, (k b rfl).trans hgg, rest⟩
theorem NwO.gr {lo : Nat} {w w' : World} {v : Value} {l : List Nws} (h : NwO lo w v l) (g : Gr w w') : NwO lo w' v l := by
  refine ⟨h.1, ?_⟩
  rcases h.2 with hn | ⟨b, cap, cur, rfl, hb, hgg, rest⟩
  · exact .inl hn
  · exact .inr ⟨b, cap, cur, rfl, hb, by rw [g.block b (lt_of_block hgg)]; exact hgg, rest⟩
theorem NwO.shape {lo : Nat} {w : World} {v : Value} {l : List Nws} (h : NwO lo w v l) : ∃ ao c, v = .slice ao l.length c ∧ NewsAt w ao l ∧ l.length ≤ c ∧ ∀ b o, ao = some ⟨b, o, none⟩ → lo ≤ b ∧ o = 0 ∧ v.ownBlock = some b := by
  rcases h.2 with ⟨rfl, hn⟩ | ⟨g, cap, cur, rfl, hb, hg, hn, hc, hs, ht⟩
  · have : l = [] := List.eq_nil_of_length_eq_zero hn
    subst this
    exact ⟨none, 0, rfl, .inl rfl, Nat.le_refl _, fun _ _ e => by cases e⟩
  · refine ⟨_, _, rfl, .inr ⟨g, 0, rfl, (Array.getElem?_eq_some_iff.1 hg).1, fun i hi => ?_⟩, hn, fun b o e => by cases e; exact ⟨hb, rfl, rfl⟩⟩
    have e : ∀ j, j < l.length * 5 → w.cell? ⟨g, 0 + j, none⟩ = (celn l)[j]? := by
      intro j hj
      rw [← ht, List.getElem?_take_of_lt hj]
      simp [World.cell?, hg]
    have ha := celn_at l i hi
    rw [Nat.add_assoc, Nat.add_assoc, Nat.add_assoc, Nat.add_assoc, e _ (by omega), e _ (by omega), e _ (by omega), e _ (by omega), e _ (by omega)]
    exact ha
theorem celn_length : ∀ l : List Nws, (celn l).length = l.length * 5
  | [] => rfl
  | x :: l => by rw [celn_cons]; simp only [List.length_cons, celn_length l]; omega
theorem celn_cells {w : World} {b o : Nat} : ∀ {l : List Nws}, (∀ i (h : i < l.length), w.cell? ⟨b, o + i * 5, none⟩ = some (iv l[i].1) ∧ w.cell? ⟨b, o + i * 5 + 1, none⟩ = some (iv l[i].2.1) ∧ w.cell? ⟨b, o + i * 5 + 2, none⟩ = some (iv l[i].2.2.1) ∧ w.cell? ⟨b, o + i * 5 + 3, none⟩ = some (iv l[i].2.2.2.1) ∧ w.cell? ⟨b, o + i * 5 + 4, none⟩ = some (iv l[i].2.2.2.2)) →
    ∀ j u, (celn l)[j]? = some u → w.cell? ⟨b, o + j, none⟩ = some u := by
  intro l h j u hj
  have hl : j < l.length * 5 := by
    have := (List.getElem?_eq_some_iff.1 hj).1
    rw [celn_length] at this; exact this
  have hi : j / 5 < l.length := by omega
  obtain ⟨c0, c1, c2, c3, c4⟩ := h (j / 5) hi
  obtain ⟨a0, a1, a2, a3, a4⟩ := celn_at l (j / 5) hi
  rcases (show j = j / 5 * 5 ∨ j = j / 5 * 5 + 1 ∨ j = j / 5 * 5 + 2 ∨ j = j / 5 * 5 + 3 ∨ j = j / 5 * 5 + 4 by omega) with e | e | e | e | e
  · rw [e] at hj ⊢; rw [a0] at hj; rw [c0]; exact hj
  · rw [e] at hj ⊢; rw [a1] at hj; rw [← Nat.add_assoc, c1]; exact hj
  · rw [e] at hj ⊢; rw [a2] at hj; rw [← Nat.add_assoc, c2]; exact hj
  · rw [e] at hj ⊢; rw [a3] at hj; rw [← Nat.add_assoc, c3]; exact hj
  · rw [e] at hj ⊢; rw [a4] at hj; rw [← Nat.add_assoc, c4]; exact hj
theorem celn_one : ∀ l : List Nws, ∀ u ∈ celn l, Value.oneCell' u = true
  | [], u, h => by cases h
  | x :: l, u, h => by
    rw [celn_cons] at h
    simp only [List.mem_cons] at h
    rcases h with rfl | rfl | rfl | rfl | rfl | h
    · rfl
    · rfl
    · rfl
    · rfl
    · rfl
    · exact celn_one l u h
/-- 'append(l, x...)'. -/
theorem NwO.app {lo : Nat} {w : World} {v : Value} {l xs : List Nws} {ao : Option Addr} {c : Nat} (ty : TypeId) (hO : NwO lo w v l) (hlo : lo ≤ w.heap.size) (H : NewsAt w ao xs) (h0 : 0 < xs.length) (hm : l.length + xs.length ≤ 1000) :
    ∃ v' w', (Builtin.append_ #[37, 37] ty #[v, .slice ao xs.length c]).run Try.prog w = .ok v' w' ∧ NwO lo w' v' (l ++ xs) ∧ w.grownBy w' v.ownBlock ∧ (v'.ownBlock = v.ownBlock ∨ v'.ownBlock = some w.heap.size) := by
  obtain ⟨i0, hi, hz0, hz1, hz2⟩ := info_parts Try.info53
  rcases H with h | ⟨b, o, rfl, _, hcs⟩
  · subst h; simp at h0
  · obtain ⟨v', w', h1, h2, h3, _, h5⟩ := run_append_own_at (P := Try.prog) w lo 37 ty 53 i0 _ 5 40 Try.underlying37 hi hz0 hz1 hz2 (by rfl) (by decide) v l.length (celn l) hO
      ⟨b, o, none⟩ xs.length c (celn xs) (celn_length xs) (fun j u hj => by rw [Addr.add_lit]; exact celn_cells hcs j u hj) (celn_one xs) (by unfold maxLen; omega) (by omega) hlo
    refine ⟨v', w', h1, ?_, h3, h5⟩
    unfold NwO
    rw [celn_append, List.length_append]
    exact h2

end Go.Proofs.Ytihamicnbihgnae
