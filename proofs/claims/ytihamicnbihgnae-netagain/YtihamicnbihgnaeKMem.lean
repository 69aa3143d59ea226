/- NUMBERS AND LINKS IN MEMORY: arrays of numbers, lists of links, lists of a call's own. -/
import Derived.Test.YtihamicnbihgnaeRows
import Derived.Test.YtihamicnbihgnaeExt
import Derived.Test.YtihamicnbihgnaeIv
import Derived.Test.YtihamicnbihgnaePlainAll
import Derived.OneCell
import Derived.Lib.AppendZerosOnto
import Derived.Lib.Overlaps
import Derived.Laws.Externs
import Derived.Laws.CopyOwn
import Derived.Deep.RegionLaw
import Derived.Deep.RegionHeld3
import Derived.Deep.DeepCutAuto
namespace Go.Proofs.Ytihamicnbihgnae
open Go.RowKit


/-- n numbers, as cells. -/
def ncells (n : Nat) (g : Nat → Nat) : Array Value := ((List.range n).map fun i => iv (g i)).toArray
/-- At block p there are n numbers. -/
def NArr (w : World) (t : TypeId) (n p : Nat) (g : Nat → Nat) : Prop := w.heap[p]? = some (.cells (ncells n g) t (0, 0))
theorem NArr.lt {w : World} {t n p : Nat} {g : Nat → Nat} (h : NArr w t n p g) : p < w.heap.size := lt_of_block h
theorem NArr.cell {w : World} {t n p : Nat} {g : Nat → Nat} (h : NArr w t n p g) {j : Nat} (hj : j < n) : w.cell? ⟨p, j, none⟩ = some (iv (g j)) := by
  unfold NArr at h
  simp [World.cell?, h, ncells, hj]
theorem NArr.free {w : World} {t n p : Nat} {g : Nat → Nat} (h : NArr w t n p g) (j : Nat) : w.frozen? ⟨p, j, none⟩ = false := by
  unfold NArr at h
  simp [World.frozen?, h]
theorem NArr.gr {w w' : World} {t n p : Nat} {g : Nat → Nat} (h : NArr w t n p g) (k : Gr w w') : NArr w' t n p g := (Below.block k p (lt_of_block h)).trans h
theorem ncells_congr {n : Nat} {g g' : Nat → Nat} (e : ∀ j, j < n → g j = g' j) : ncells n g = ncells n g' := by
  unfold ncells
  congr 1
  apply List.map_congr_left
  intro j hj
  rw [e j (List.mem_range.1 hj)]
theorem NArr.congr {w : World} {t n p : Nat} {g g' : Nat → Nat} (h : NArr w t n p g) (e : ∀ j, j < n → g j = g' j) : NArr w t n p g' := by
  unfold NArr at h ⊢
  rw [← ncells_congr e]; exact h
theorem NArr.set {w : World} {t n p : Nat} {g g' : Nat → Nat} (h : NArr w t n p g) {j v : Nat} (e : ∀ i, i < n → g' i = if i = j then v else g i) : NArr (w.setCell ⟨p, j, none⟩ (iv v)) t n p g' := by
  unfold NArr at h ⊢
  have : (w.setCell ⟨p, j, none⟩ (iv v)).heap[p]? = some (.cells ((ncells n g).setIfInBounds j (iv v)) t (0, 0)) := by
    simp [World.setCell, Array.getElem?_modify, h]
  rw [this]
  congr 2
  apply Array.ext
  · simp [ncells]
  · intro i h1 h2
    have hi : i < n := by simpa [ncells] using h1
    rw [Array.getElem_setIfInBounds (by simpa [ncells] using hi)]
    simp only [ncells, List.getElem_toArray, List.getElem_map, List.getElem_range, e i hi]
    by_cases q : j = i
    · subst q; simp
    · rw [if_neg q, if_neg (fun x => q x.symm)]
theorem NArr.other {w : World} {t n p q : Nat} {g : Nat → Nat} (h : NArr w t n p g) (hn : p ≠ q) (j : Nat) (v : Value) : NArr (w.setCell ⟨q, j, none⟩ v) t n p g := by
  unfold NArr
  rw [Below.heap_setCell w ⟨q, j, none⟩ v p hn]; exact h
theorem NArr.new (w : World) (t n : Nat) (g : Nat → Nat) : NArr (w.alloc (.cells (ncells n g) t)) t n w.heap.size g := heap_alloc_new w _

/-- Links with these costs. -/
def KL (w : World) (p : Nat) (c : Nat → Nat → Nat) : Prop := NArr w 86 36 p (fun i => if i / 6 < i % 6 then c (i / 6) (i % 6) else 0)
theorem KL.gr {w w' : World} {p : Nat} {c : Nat → Nat → Nat} (h : KL w p c) (k : Gr w w') : KL w' p c := NArr.gr h k
theorem KL.lt {w : World} {p : Nat} {c : Nat → Nat → Nat} (h : KL w p c) : p < w.heap.size := NArr.lt h
theorem KL.cell {w : World} {p : Nat} {c : Nat → Nat → Nat} (h : KL w p c) {a b : Nat} (hab : a < b) (hb : b < 6) : w.cell? ⟨p, a * 6 + b, none⟩ = some (iv (c a b)) := by
  have := NArr.cell h (j := a * 6 + b) (by omega)
  rw [show (a * 6 + b) / 6 = a by omega, show (a * 6 + b) % 6 = b by omega, if_pos hab] at this
  exact this
theorem KL.cell0 {w : World} {p : Nat} {c : Nat → Nat → Nat} (h : KL w p c) {a b : Nat} (hab : b ≤ a) (ha : a < 6) : w.cell? ⟨p, a * 6 + b, none⟩ = some (iv 0) := by
  have := NArr.cell h (j := a * 6 + b) (by omega)
  rw [show (a * 6 + b) / 6 = a by omega, show (a * 6 + b) % 6 = b by omega, if_neg (by omega)] at this
  exact this
theorem KL.set {w : World} {p : Nat} {c : Nat → Nat → Nat} (h : KL w p c) {a b v : Nat} (hab : a < b) (hb : b < 6) : KL (w.setCell ⟨p, a * 6 + b, none⟩ (iv v)) p (setC c a b v) := by
  refine NArr.set h fun i hi => ?_
  unfold setC
  by_cases e : i = a * 6 + b
  · subst e
    rw [if_pos rfl, if_pos (by omega), if_pos (by omega)]
  · rw [if_neg e]
    by_cases q : i / 6 < i % 6
    · rw [if_pos q, if_pos q, if_neg (by omega)]
    · rw [if_neg q, if_neg q]
theorem KL.new (w : World) : KL (w.alloc (.cells (ncells 36 fun _ => 0) 86)) w.heap.size (fun _ _ => 0) := NArr.congr (NArr.new w 86 36 fun _ => 0) (fun j _ => by split <;> rfl)
theorem KL.congr {w : World} {p : Nat} {c c' : Nat → Nat → Nat} (h : KL w p c) (e : c = c') : KL w p c' := e ▸ h

/-- A slice of links, as it is read. -/
def LinkAt (w : World) (ao : Option Addr) (xs : List (Int × Int × Int)) : Prop :=
  xs = [] ∨ ∃ b o, ao = some ⟨b, o, none⟩ ∧ b < w.heap.size ∧ ∀ i (h : i < xs.length),
    w.cell? ⟨b, o + i * 3, none⟩ = some (iv xs[i].1) ∧ w.cell? ⟨b, o + i * 3 + 1, none⟩ = some (iv xs[i].2.1) ∧ w.cell? ⟨b, o + i * 3 + 2, none⟩ = some (iv xs[i].2.2)
theorem LinkAt.gr {w w' : World} {ao : Option Addr} {xs : List (Int × Int × Int)} (h : LinkAt w ao xs) (k : Gr w w') : LinkAt w' ao xs := by
  rcases h with h | ⟨b, o, ha, hb, hc⟩
  · exact .inl h
  · refine .inr ⟨b, o, ha, Nat.lt_of_lt_of_le hb (Below.size k), fun i hi => ?_⟩
    have e : ∀ q, w'.cell? ⟨b, q, none⟩ = w.cell? ⟨b, q, none⟩ := fun q => Below.cell k (p := ⟨b, q, none⟩) hb
    rw [e, e, e]
    exact hc i hi

/-- Cells of links. -/
def celk (l : List Tri) : List Value := l.flatMap fun x => [iv x.1, iv x.2.1, iv x.2.2]
theorem celk_cons (x : Tri) (l : List Tri) : celk (x :: l) = iv x.1 :: iv x.2.1 :: iv x.2.2 :: celk l := rfl
theorem celk_append (a b : List Tri) : celk (a ++ b) = celk a ++ celk b := by simp [celk]
theorem celk_length : ∀ l : List Tri, (celk l).length = l.length * 3
  | [] => rfl
  | x :: l => by rw [celk_cons]; simp only [List.length_cons, celk_length l]; omega
theorem celk_at : ∀ (l : List Tri) (i : Nat) (h : i < l.length), (celk l)[i * 3]? = some (iv l[i].1) ∧ (celk l)[i * 3 + 1]? = some (iv l[i].2.1) ∧ (celk l)[i * 3 + 2]? = some (iv l[i].2.2)
  | x :: l, 0, _ => by simp [celk_cons]
  | x :: l, i + 1, h => by
    have ih := celk_at l i (by simpa using h)
    rw [celk_cons, show (i + 1) * 3 = i * 3 + 1 + 1 + 1 by omega]
    refine ⟨?_, ?_, ?_⟩
    · simpa using ih.1
    · rw [show i * 3 + 1 + 1 + 1 + 1 = (i * 3 + 1) + 1 + 1 + 1 by omega]; simpa using ih.2.1
    · rw [show i * 3 + 1 + 1 + 1 + 2 = (i * 3 + 2) + 1 + 1 + 1 by omega]; simpa using ih.2.2

/-- Lists that are younger than B: of links, of numbers. -/
def OwnK (B w : World) (v : Value) (l : List Tri) : Prop := w.ownsRow B.heap.size 84 3 v l.length (celk l)
def OwnI (B w : World) (v : Value) (l : List Nat) : Prop := w.ownsRow B.heap.size 3 1 v l.length (l.map fun (n : Nat) => iv n)
theorem own_gr {w w' : World} {base e size n : Nat} {v : Value} {xs : List Value} (h : w.ownsRow base e size v n xs) (g : Gr w w') : w'.ownsRow base e size v n xs := by
  refine ⟨h.1, ?_⟩
  rcases h.2 with hn | ⟨b, cap, cur, rfl, hb, hgg, rest⟩
  · exact .inl hn
  · exact .inr ⟨b, cap, cur, rfl, hb, by rw [g.block b (lt_of_block hgg)]; exact hgg, rest⟩
theorem OwnK.gr {B w w' : World} {v : Value} {l : List Tri} (h : OwnK B w v l) (g : Gr w w') : OwnK B w' v l := own_gr h g
theorem OwnI.gr {B w w' : World} {v : Value} {l : List Nat} (h : OwnI B w v l) (g : Gr w w') : OwnI B w' v l := own_gr h g
theorem OwnK.nil (B w : World) : OwnK B w (.slice none 0 0) [] := World.ownsRow_nil _ _ _ _
theorem OwnI.nil (B w : World) : OwnI B w (.slice none 0 0) [] := World.ownsRow_nil _ _ _ _
/-- Numbers in a row. -/
def NumAt (w : World) (ao : Option Addr) (l : List Nat) : Prop := l = [] ∨ ∃ b o, ao = some ⟨b, o, none⟩ ∧ b < w.heap.size ∧ ∀ i (h : i < l.length), w.cell? ⟨b, o + i, none⟩ = some (iv l[i])
theorem NumAt.gr {w w' : World} {ao : Option Addr} {l : List Nat} (h : NumAt w ao l) (k : Gr w w') : NumAt w' ao l := by
  rcases h with h | ⟨b, o, ha, hb, hc⟩
  · exact .inl h
  · exact .inr ⟨b, o, ha, Nat.lt_of_lt_of_le hb (Below.size k), fun i hi => (Below.cell k (p := ⟨b, o + i, none⟩) hb).trans (hc i hi)⟩
/-- A slice of links that are numbers of nodes and costs. -/
def TriAt (w : World) (ao : Option Addr) (l : List Tri) : Prop := l = [] ∨ ∃ b o, ao = some ⟨b, o, none⟩ ∧ b < w.heap.size ∧ ∀ i (h : i < l.length),
    w.cell? ⟨b, o + i * 3, none⟩ = some (iv l[i].1) ∧ w.cell? ⟨b, o + i * 3 + 1, none⟩ = some (iv l[i].2.1) ∧ w.cell? ⟨b, o + i * 3 + 2, none⟩ = some (iv l[i].2.2)
theorem TriAt.gr {w w' : World} {ao : Option Addr} {l : List Tri} (h : TriAt w ao l) (k : Gr w w') : TriAt w' ao l := by
  rcases h with h | ⟨b, o, ha, hb, hc⟩
  · exact .inl h
  · refine .inr ⟨b, o, ha, Nat.lt_of_lt_of_le hb (Below.size k), fun i hi => ?_⟩
    have e : ∀ q, w'.cell? ⟨b, q, none⟩ = w.cell? ⟨b, q, none⟩ := fun q => Below.cell k (p := ⟨b, q, none⟩) hb
    rw [e, e, e]
    exact hc i hi
theorem OwnK.shape {B w : World} {v : Value} {l : List Tri} (h : OwnK B w v l) : ∃ ao c, v = .slice ao l.length c ∧ TriAt w ao l := by
  rcases h.2 with ⟨rfl, hn⟩ | ⟨g, cap, cur, rfl, hb, hg, hn, hc, hs, ht⟩
  · have : l = [] := List.eq_nil_of_length_eq_zero hn
    subst this
    exact ⟨none, 0, rfl, .inl rfl⟩
  · refine ⟨_, _, rfl, .inr ⟨g, 0, rfl, (Array.getElem?_eq_some_iff.1 hg).1, fun i hi => ?_⟩⟩
    have e : ∀ j, j < l.length * 3 → w.cell? ⟨g, 0 + j, none⟩ = (celk l)[j]? := by
      intro j hj
      rw [← ht, List.getElem?_take_of_lt hj]
      simp [World.cell?, hg]
    have ha := celk_at l i hi
    rw [Nat.add_assoc, Nat.add_assoc, e _ (by omega), e _ (by omega), e _ (by omega)]
    exact ha
theorem OwnK.young {B w : World} {v : Value} {l : List Tri} (h : OwnK B w v l) : ∀ b o n c, v = .slice (some ⟨b, o, none⟩) n c → B.heap.size ≤ b := by
  intro b o n c e
  rcases h.2 with ⟨rfl, hn⟩ | ⟨g, cap, cur, rfl, hb, _⟩
  · cases e
  · cases e; exact hb
theorem TriAt.other {w : World} {ao : Option Addr} {l : List Tri} (h : TriAt w ao l) {q : Nat} (hq : ∀ b o, ao = some ⟨b, o, none⟩ → b ≠ q) (j : Nat) (v : Value) : TriAt (w.setCell ⟨q, j, none⟩ v) ao l := by
  rcases h with h | ⟨b, o, ha, hb, hc⟩
  · exact .inl h
  · refine .inr ⟨b, o, ha, by simpa using hb, fun i hi => ?_⟩
    have e : ∀ k, (w.setCell ⟨q, j, none⟩ v).cell? ⟨b, k, none⟩ = w.cell? ⟨b, k, none⟩ := fun k => World.cell?_of_block (a := ⟨b, k, none⟩) (Below.heap_setCell w ⟨q, j, none⟩ v b (hq b o ha))
    rw [e, e, e]
    exact hc i hi
theorem OwnI.shape {B w : World} {v : Value} {l : List Nat} (h : OwnI B w v l) : ∃ ao c, v = .slice ao l.length c ∧ NumAt w ao l := by
  rcases h.2 with ⟨rfl, hn⟩ | ⟨g, cap, cur, rfl, hb, hg, hn, hc, hs, ht⟩
  · have : l = [] := List.eq_nil_of_length_eq_zero hn
    subst this
    exact ⟨none, 0, rfl, .inl rfl⟩
  · refine ⟨_, _, rfl, .inr ⟨g, 0, rfl, (Array.getElem?_eq_some_iff.1 hg).1, fun i hi => ?_⟩⟩
    have e : w.cell? ⟨g, 0 + i, none⟩ = (l.map fun (n : Nat) => iv n)[i]? := by
      rw [← ht, List.getElem?_take_of_lt (by omega)]
      simp [World.cell?, hg]
    rw [e]
    simp [hi]

theorem Try.info84 : (Try.prog.info? 84).map (fun i => (i.zero, i.size, i.bytes)) = some (some (.agg #[iv 0, iv 0, iv 0]), 3, 24) := by kernel_rfl
/-- 'append(l, x)'. -/
theorem OwnK.app {B X : World} {v : Value} {l : List Tri} (ty : TypeId) (hO : OwnK B X v l) (g : Gr B X) (x : Tri) (hm : l.length ≤ 1000) :
    ∃ v' w', (Builtin.append_ #[81, 81] ty #[v, .slice (some ⟨X.heap.size, 0, none⟩) 1 1]).run Try.prog (X.alloc (.cells #[iv x.1, iv x.2.1, iv x.2.2] 84)) = .ok v' w' ∧ OwnK B w' v' (l ++ [x]) ∧ Gr B w' := by
  obtain ⟨i0, hi, hz0, hz1, hz2⟩ := info_parts Try.info84
  have hY := hO.gr ((Gr.refl X).alloc (.cells #[iv x.1, iv x.2.1, iv x.2.2] 84))
  obtain ⟨v', w', h1, h2, h3, _⟩ := run_append_own (P := Try.prog) _ B.heap.size 81 ty 84 i0 _ 3 24 Try.underlying81 hi hz0 hz1 hz2 (by rfl) (by decide) v l.length (celk l) hY
      ⟨X.heap.size, 0, none⟩ 1 1 [iv x.1, iv x.2.1, iv x.2.2] rfl
      (fun j u hj => by
        have hl : j < 3 := (List.getElem?_eq_some_iff.1 hj).1
        have : j = 0 ∨ j = 1 ∨ j = 2 := by omega
        rcases this with rfl | rfl | rfl <;> (simp at hj; subst hj; simp [Addr.add, go_sem]))
      (by simp [Value.oneCell']) (by unfold maxLen; omega) (by omega) (by have := Below.size g; simp; omega)
  refine ⟨v', w', h1, ?_, (g.alloc _).grown h3 (fun k hk => (hO.lt k hk).1)⟩
  unfold OwnK
  rw [celk_append, List.length_append]
  exact h2
theorem OwnI.app {B X : World} {v : Value} {l : List Nat} (ty : TypeId) (hO : OwnI B X v l) (g : Gr B X) (x : Nat) (hm : l.length ≤ 1000) :
    ∃ v' w', (Builtin.append_ #[55, 55] ty #[v, .slice (some ⟨X.heap.size, 0, none⟩) 1 1]).run Try.prog (X.alloc (.cells #[iv x] 3)) = .ok v' w' ∧ OwnI B w' v' (l ++ [x]) ∧ Gr B w' := by
  obtain ⟨i0, hi, hz0, hz1, hz2⟩ := info_parts Try.info3
  have hY := hO.gr ((Gr.refl X).alloc (.cells #[iv x] 3))
  obtain ⟨v', w', h1, h2, h3, _⟩ := run_append_own (P := Try.prog) _ B.heap.size 55 ty 3 i0 _ 1 8 Try.underlying55 hi hz0 hz1 hz2 (by rfl) (by decide) v l.length (l.map fun (n : Nat) => iv n) hY
      ⟨X.heap.size, 0, none⟩ 1 1 [iv x] rfl
      (fun j u hj => by
        have hl : j < 1 := (List.getElem?_eq_some_iff.1 hj).1
        have : j = 0 := by omega
        subst this; simp at hj; subst hj; simp [Addr.add, go_sem])
      (by simp [Value.oneCell']) (by unfold maxLen; omega) (by omega) (by have := Below.size g; simp; omega)
  refine ⟨v', w', h1, ?_, (g.alloc _).grown h3 (fun k hk => (hO.lt k hk).1)⟩
  unfold OwnI
  rw [List.map_append, List.length_append]
  exact h2

end Go.Proofs.Ytihamicnbihgnae
