import Derived.Test.YtfcknkanbcndjagGreatDoorRows
import Derived.Test.YtfcknkanbcndjagGreatDoorMdPlain3
import Derived.Test.YtfcknkanbcndjagGreatDoorKPlain2
import Derived.OneCell
import Derived.Lib.AppendZerosOnto
import Derived.Lib.Overlaps
import Derived.Laws.Externs
import Derived.Laws.CopyOwn
import Derived.Deep.RegionLaw
import Derived.Deep.RegionHeld3
import Derived.Deep.DeepCutAuto
/- NUMBERS AND LINKS IN MEMORY: arrays of numbers, lists of links, lists of a call's own. -/
namespace Go.Proofs.YtfcknkanbcndjagGreatDoor
open Go.RowKit


/-- n numbers, as cells. -/
def ncells (n : Nat) (g : Nat → Nat) : Array Value := ((List.range n).map fun i => iv (g i)).toArray
/-- At block p there are n numbers. -/
def NArr (w : World) (t : TypeId) (n p : Nat) (g : Nat → Nat) : Prop := w.heap[p]? = some (.cells (ncells n g) t (0, 0))
theorem NArr.lt {w : World} {t n p : Nat} {g : Nat → Nat} (h : NArr w t n p g) : p < w.heap.size := lt_of_block h
theorem NArr.cell {w : World} {t n p : Nat} {g : Nat → Nat} (h : NArr w t n p g) {j : Nat} (hj : j < n) : w.cell? ⟨p, j, none⟩ = some (iv (g j)) := by
  unfold NArr at h
  simp [World.cell?, h, ncells, hj]
theorem NArr.free {w : World} {t n p : Nat} {g : Nat → Nat} (h : NArr w t n p g) (j : Nat) : w.frozen? ⟨p, j, none⟩ = false := by
  unfold NArr at h
  simp [World.frozen?, h]
theorem NArr.gr {w w' : World} {t n p : Nat} {g : Nat → Nat} (h : NArr w t n p g) (k : Gr w w') : NArr w' t n p g := (Below.block k p (lt_of_block h)).trans h
theorem ncells_congr {n : Nat} {g g' : Nat → Nat} (e : ∀ j, j < n → g j = g' j) : ncells n g = ncells n g' := by
  unfold ncells
  congr 1
  apply List.map_congr_left
  intro j hj
  rw [e j (List.mem_range.1 hj)]
theorem NArr.congr {w : World} {t n p : Nat} {g g' : Nat → Nat} (h : NArr w t n p g) (e : ∀ j, j < n → g j = g' j) : NArr w t n p g' := by
  unfold NArr at h ⊢
  rw [← ncells_congr e]; exact h
theorem NArr.set {w : World} {t n p : Nat} {g g' : Nat → Nat} (h : NArr w t n p g) {j v : Nat} (e : ∀ i, i < n → g' i = if i = j then v else g i) : NArr (w.setCell ⟨p, j, none⟩ (iv v)) t n p g' := by
  unfold NArr at h ⊢
  have : (w.setCell ⟨p, j, none⟩ (iv v)).heap[p]? = some (.cells ((ncells n g).setIfInBounds j (iv v)) t (0, 0)) := by
    simp [World.setCell, Array.getElem?_modify, h]
  rw [this]
  congr 2
  apply Array.ext
  · simp [ncells]
  · intro i h1 h2
    have hi : i < n := by simpa [ncells] using h1
    rw [Array.getElem_setIfInBounds (by simpa [ncells] using hi)]
    simp only [ncells, List.getElem_toArray, List.getElem_map, List.getElem_range, e i hi]
    by_cases q : j = i
    · subst q; simp
    · rw [if_neg q, if_neg (fun x => q x.symm)]
theorem NArr.other {w : World} {t n p q : Nat} {g : Nat → Nat} (h : NArr w t n p g) (hn : p ≠ q) (j : Nat) (v : Value) : NArr (w.setCell ⟨q, j, none⟩ v) t n p g := by
  unfold NArr
  rw [Below.heap_setCell w ⟨q, j, none⟩ v p hn]; exact h
theorem NArr.new (w : World) (t n : Nat) (g : Nat → Nat) : NArr (w.alloc (.cells (ncells n g) t)) t n w.heap.size g := heap_alloc_new w _

/-- Links with these costs. -/
def KL (w : World) (p : Nat) (c : Nat → Nat → Nat) : Prop := NArr w 84 36 p (fun i => if i / 6 < i % 6 then c (i / 6) (i % 6) else 0)
theorem KL.gr {w w' : World} {p : Nat} {c : Nat → Nat → Nat} (h : KL w p c) (k : Gr w w') : KL w' p c := NArr.gr h k
theorem KL.lt {w : World} {p : Nat} {c : Nat → Nat → Nat} (h : KL w p c) : p < w.heap.size := NArr.lt h
theorem KL.cell {w : World} {p : Nat} {c : Nat → Nat → Nat} (h : KL w p c) {a b : Nat} (hab : a < b) (hb : b < 6) : w.cell? ⟨p, a * 6 + b, none⟩ = some (iv (c a b)) := by
  have := NArr.cell h (j := a * 6 + b) (by omega)
  rw [show (a * 6 + b) / 6 = a by omega, show (a * 6 + b) % 6 = b by omega, if_pos hab] at this
  exact this
theorem KL.cell0 {w : World} {p : Nat} {c : Nat → Nat → Nat} (h : KL w p c) {a b : Nat} (hab : b ≤ a) (ha : a < 6) : w.cell? ⟨p, a * 6 + b, none⟩ = some (iv 0) := by
  have := NArr.cell h (j := a * 6 + b) (by omega)
  rw [show (a * 6 + b) / 6 = a by omega, show (a * 6 + b) % 6 = b by omega, if_neg (by omega)] at this
  exact this
theorem KL.set {w : World} {p : Nat} {c : Nat → Nat → Nat} (h : KL w p c) {a b v : Nat} (hab : a < b) (hb : b < 6) : KL (w.setCell ⟨p, a * 6 + b, none⟩ (iv v)) p (setC c a b v) := by
  refine NArr.set h fun i hi => ?_
  unfold setC
  by_cases e : i = a * 6 + b
  · subst e
    rw [if_pos rfl, if_pos (by omega), if_pos (by omega)]
  · rw [if_neg e]
    by_cases q : i / 6 < i % 6
    · rw [if_pos q, if_pos q, if_neg (by omega)]
    · rw [if_neg q, if_neg q]
theorem KL.new (w : World) : KL (w.alloc (.cells (ncells 36 fun _ => 0) 84)) w.heap.size (fun _ _ => 0) := NArr.congr (NArr.new w 84 36 fun _ => 0) (fun j _ => by split <;> rfl)
theorem KL.congr {w : World} {p : Nat} {c c' : Nat → Nat → Nat} (h : KL w p c) (e : c = c') : KL w p c' := e ▸ h

/-- A slice of links, as it is read. -/
def LinkAt (w : World) (ao : Option Addr) (xs : List (Int × Int × Int)) : Prop :=
  xs = [] ∨ ∃ b o, ao = some ⟨b, o, none⟩ ∧ b < w.heap.size ∧ ∀ i (h : i < xs.length),
    w.cell? ⟨b, o + i * 3, none⟩ = some (iv xs[i].1) ∧ w.cell? ⟨b, o + i * 3 + 1, none⟩ = some (iv xs[i].2.1) ∧ w.cell? ⟨b, o + i * 3 + 2, none⟩ = some (iv xs[i].2.2)
theorem LinkAt.gr {w w' : World} {ao : Option Addr} {xs : List (Int × Int × Int)} (h : LinkAt w ao xs) (k : Gr w w') : LinkAt w' ao xs := by
  rcases h with h | ⟨b, o, ha, hb, hc⟩
  · exact .inl h
  · refine .inr ⟨b, o, ha, Nat.lt_of_lt_of_le hb (Below.size k), fun i hi => ?_⟩
    have e : ∀ q, w'.cell? ⟨b, q, none⟩ = w.cell? ⟨b, q, none⟩ := fun q => Below.cell k (p := ⟨b, q, none⟩) hb
    rw [e, e, e]
    exact hc i hi

/-- Cells of links. -/
def celk (l : List Tri) : List Value := l.flatMap fun x => [iv x.1, iv x.2.1, iv x.2.2]
theorem celk_cons (x : Tri) (l : List Tri) : celk (x :: l) = iv x.1 :: iv x.2.1 :: iv x.2.2 :: celk l := rfl
theorem celk_append (a b : List Tri) : celk (a ++ b) = celk a ++ celk b := by simp [celk]
theorem celk_at : ∀ (l : List Tri) (i : Nat) (h : i < l.length), (celk l)[i * 3]? = some (iv l[i].1) ∧ (celk l)[i * 3 + 1]? = some (iv l[i].2.1) ∧ (celk l)[i * 3 + 2]? = some (iv l[i].2.2)
  | x :: l, 0, _ => by simp [celk_cons]
  | x :: l, i + 1, h => by
    have ih := celk_at l i (by simpa using h)
    rw [celk_cons, show (i + 1) * 3 = i * 3 + 1 + 1 + 1 by omega]
    refine ⟨?_, ?_, ?_⟩
    · simpa using ih.1
    · rw [show i * 3 + 1 + 1 + 1 + 1 = (i * 3 + 1) + 1 + 1 + 1 by omega]; simpa using ih.2.1
    · rw [show i * 3 + 1 + 1 + 1 + 2 = (i * 3 + 2) + 1 + 1 + 1 by omega]; simpa using ih.2.2

/-- Lists that are younger than B: of links, of numbers. -/
def OwnK (B w : World) (v : Value) (l : List Tri) : Prop := w.ownsRow B.heap.size 141 3 v l.length (celk l)
def OwnI (B w : World) (v : Value) (l : List Nat) : Prop := w.ownsRow B.heap.size 3 1 v l.length (l.map fun (n : Nat) => iv n)
theorem own_gr {w w' : World} {base e size n : Nat} {v : Value} {xs : List Value} (h : w.ownsRow base e size v n xs) (g : Gr w w') : w'.ownsRow base e size v n xs := by
  refine ⟨h.1, ?_⟩
  rcases h.2 with hn | ⟨b, cap, cur, rfl, hb, hgg, rest⟩
  · exact .inl hn
  · exact .inr ⟨b, cap, cur, rfl, hb, by rw [g.block b (lt_of_block hgg)]; exact hgg, rest⟩
theorem OwnK.gr {B w w' : World} {v : Value} {l : List Tri} (h : OwnK B w v l) (g : Gr w w') : OwnK B w' v l := own_gr h g
theorem OwnI.gr {B w w' : World} {v : Value} {l : List Nat} (h : OwnI B w v l) (g : Gr w w') : OwnI B w' v l := own_gr h g
theorem OwnK.nil (B w : World) : OwnK B w (.slice none 0 0) [] := World.ownsRow_nil _ _ _ _
theorem OwnI.nil (B w : World) : OwnI B w (.slice none 0 0) [] := World.ownsRow_nil _ _ _ _
/-- Numbers in a row. -/
def NumAt (w : World) (ao : Option Addr) (l : List Nat) : Prop := l = [] ∨ ∃ b o, ao = some ⟨b, o, none⟩ ∧ b < w.heap.size ∧ ∀ i (h : i < l.length), w.cell? ⟨b, o + i, none⟩ = some (iv l[i])
theorem NumAt.gr {w w' : World} {ao : Option Addr} {l : List Nat} (h : NumAt w ao l) (k : Gr w w') : NumAt w' ao l := by
  rcases h with h | ⟨b, o, ha, hb, hc⟩
  · exact .inl h
  · exact .inr ⟨b, o, ha, Nat.lt_of_lt_of_le hb (Below.size k), fun i hi => (Below.cell k (p := ⟨b, o + i, none⟩) hb).trans (hc i hi)⟩
/-- A slice of links that are numbers of nodes and costs. -/
def TriAt (w : World) (ao : Option Addr) (l : List Tri) : Prop := l = [] ∨ ∃ b o, ao = some ⟨b, o, none⟩ ∧ b < w.heap.size ∧ ∀ i (h : i < l.length),
    w.cell? ⟨b, o + i * 3, none⟩ = some (iv l[i].1) ∧ w.cell? ⟨b, o + i * 3 + 1, none⟩ = some (iv l[i].2.1) ∧ w.cell? ⟨b, o + i * 3 + 2, none⟩ = some (iv l[i].2.2)
theorem TriAt.gr {w w' : World} {ao : Option Addr} {l : List Tri} (h : TriAt w ao l) (k : Gr w w') : TriAt w' ao l := by
  rcases h with h | ⟨b, o, ha, hb, hc⟩
  · exact .inl h
  · refine .inr ⟨b, o, ha, Nat.lt_of_lt_of_le hb (Below.size k), fun i hi => ?_⟩
    have e : ∀ q, w'.cell? ⟨b, q, none⟩ = w.cell? ⟨b, q, none⟩ := fun q => Below.cell k (p := ⟨b, q, none⟩) hb
    rw [e, e, e]
    exact hc i hi
theorem OwnK.shape {B w : World} {v : Value} {l : List Tri} (h : OwnK B w v l) : ∃ ao c, v = .slice ao l.length c ∧ TriAt w ao l := by
  rcases h.2 with ⟨rfl, hn⟩ | ⟨g, cap, cur, rfl, hb, hg, hn, hc, hs, ht⟩
  · have : l = [] := List.eq_nil_of_length_eq_zero hn
    subst this
    exact ⟨none, 0, rfl, .inl rfl⟩
  · refine ⟨_, _, rfl, .inr ⟨g, 0, rfl, (Array.getElem?_eq_some_iff.1 hg).1, fun i hi => ?_⟩⟩
    have e : ∀ j, j < l.length * 3 → w.cell? ⟨g, 0 + j, none⟩ = (celk l)[j]? := by
      intro j hj
      rw [← ht, List.getElem?_take_of_lt hj]
      simp [World.cell?, hg]
    have ha := celk_at l i hi
    rw [Nat.add_assoc, Nat.add_assoc, e _ (by omega), e _ (by omega), e _ (by omega)]
    exact ha
theorem OwnK.young {B w : World} {v : Value} {l : List Tri} (h : OwnK B w v l) : ∀ b o n c, v = .slice (some ⟨b, o, none⟩) n c → B.heap.size ≤ b := by
  intro b o n c e
  rcases h.2 with ⟨rfl, hn⟩ | ⟨g, cap, cur, rfl, hb, _⟩
  · cases e
  · cases e; exact hb
theorem TriAt.other {w : World} {ao : Option Addr} {l : List Tri} (h : TriAt w ao l) {q : Nat} (hq : ∀ b o, ao = some ⟨b, o, none⟩ → b ≠ q) (j : Nat) (v : Value) : TriAt (w.setCell ⟨q, j, none⟩ v) ao l := by
  rcases h with h | ⟨b, o, ha, hb, hc⟩
  · exact .inl h
  · refine .inr ⟨b, o, ha, by simpa using hb, fun i hi => ?_⟩
    have e : ∀ k, (w.setCell ⟨q, j, none⟩ v).cell? ⟨b, k, none⟩ = w.cell? ⟨b, k, none⟩ := fun k => World.cell?_of_block (a := ⟨b, k, none⟩) (Below.heap_setCell w ⟨q, j, none⟩ v b (hq b o ha))
    rw [e, e, e]
    exact hc i hi
theorem OwnI.shape {B w : World} {v : Value} {l : List Nat} (h : OwnI B w v l) : ∃ ao c, v = .slice ao l.length c ∧ NumAt w ao l := by
  rcases h.2 with ⟨rfl, hn⟩ | ⟨g, cap, cur, rfl, hb, hg, hn, hc, hs, ht⟩
  · have : l = [] := List.eq_nil_of_length_eq_zero hn
    subst this
    exact ⟨none, 0, rfl, .inl rfl⟩
  · refine ⟨_, _, rfl, .inr ⟨g, 0, rfl, (Array.getElem?_eq_some_iff.1 hg).1, fun i hi => ?_⟩⟩
    have e : w.cell? ⟨g, 0 + i, none⟩ = (l.map fun (n : Nat) => iv n)[i]? := by
      rw [← ht, List.getElem?_take_of_lt (by omega)]
      simp [World.cell?, hg]
    rw [e]
    simp [hi]

theorem Tryz.info141 : (Tryz.prog.info? 141).map (fun i => (i.zero, i.size, i.bytes)) = some (some (.agg #[iv 0, iv 0, iv 0]), 3, 24) := by kernel_rfl
/-- 'append(l, x)'. -/
theorem OwnK.app {B X : World} {v : Value} {l : List Tri} (ty : TypeId) (hO : OwnK B X v l) (g : Gr B X) (x : Tri) (hm : l.length ≤ 1000) :
    ∃ v' w', (Builtin.append_ #[138, 138] ty #[v, .slice (some ⟨X.heap.size, 0, none⟩) 1 1]).run Tryz.prog (X.alloc (.cells #[iv x.1, iv x.2.1, iv x.2.2] 141)) = .ok v' w' ∧ OwnK B w' v' (l ++ [x]) ∧ Gr B w' := by
  obtain ⟨i0, hi, hz0, hz1, hz2⟩ := info_parts Tryz.info141
  have hY := hO.gr ((Gr.refl X).alloc (.cells #[iv x.1, iv x.2.1, iv x.2.2] 141))
  obtain ⟨v', w', h1, h2, h3, _⟩ := run_append_own (P := Tryz.prog) _ B.heap.size 138 ty 141 i0 _ 3 24 Tryz.underlying138 hi hz0 hz1 hz2 (by rfl) (by decide) v l.length (celk l) hY
      ⟨X.heap.size, 0, none⟩ 1 1 [iv x.1, iv x.2.1, iv x.2.2] rfl
      (fun j u hj => by
        have hl : j < 3 := (List.getElem?_eq_some_iff.1 hj).1
        have : j = 0 ∨ j = 1 ∨ j = 2 := by omega
        rcases this with rfl | rfl | rfl <;> (simp at hj; subst hj; simp [Addr.add, go_sem]))
      (by simp [Value.oneCell']) (by unfold maxLen; omega) (by omega) (by have := Below.size g; simp; omega)
  refine ⟨v', w', h1, ?_, (g.alloc _).grown h3 (fun k hk => (hO.lt k hk).1)⟩
  unfold OwnK
  rw [celk_append, List.length_append]
  exact h2
theorem OwnI.app {B X : World} {v : Value} {l : List Nat} (ty : TypeId) (hO : OwnI B X v l) (g : Gr B X) (x : Nat) (hm : l.length ≤ 1000) :
    ∃ v' w', (Builtin.append_ #[34, 34] ty #[v, .slice (some ⟨X.heap.size, 0, none⟩) 1 1]).run Tryz.prog (X.alloc (.cells #[iv x] 3)) = .ok v' w' ∧ OwnI B w' v' (l ++ [x]) ∧ Gr B w' := by
  obtain ⟨i0, hi, hz0, hz1, hz2⟩ := info_parts Tryz.info3
  have hY := hO.gr ((Gr.refl X).alloc (.cells #[iv x] 3))
  obtain ⟨v', w', h1, h2, h3, _⟩ := run_append_own (P := Tryz.prog) _ B.heap.size 34 ty 3 i0 _ 1 8 Tryz.underlying34 hi hz0 hz1 hz2 (by rfl) (by decide) v l.length (l.map fun (n : Nat) => iv n) hY
      ⟨X.heap.size, 0, none⟩ 1 1 [iv x] rfl
      (fun j u hj => by
        have hl : j < 1 := (List.getElem?_eq_some_iff.1 hj).1
        have : j = 0 := by omega
        subst this; simp at hj; subst hj; simp [Addr.add, go_sem])
      (by simp [Value.oneCell']) (by unfold maxLen; omega) (by omega) (by have := Below.size g; simp; omega)
  refine ⟨v', w', h1, ?_, (g.alloc _).grown h3 (fun k hk => (hO.lt k hk).1)⟩
  unfold OwnI
  rw [List.map_append, List.length_append]
  exact h2

end Go.Proofs.YtfcknkanbcndjagGreatDoor

/- CONTRACTS OF package links: Node, New, Cost, Set; of handpostref: IsNode, Map.Set. -/
namespace Go.Proofs.YtfcknkanbcndjagGreatDoor
open Go.RowKit

def nodeB (a : Int) : Bool := decide (0 ≤ a ∧ a < 6)
theorem node_iff {a : Int} : nodeB a = true ↔ 0 ≤ a ∧ a < 6 := by unfold nodeB; simp
theorem node_not {a : Int} : nodeB a = false ↔ ¬ (0 ≤ a ∧ a < 6) := by unfold nodeB; simp
theorem node_is {a : Int} {v : Bool} (h : nodeB a = v) (w : World) : Calls Tryz.prog 33 #[iv a] w fun e w' => e = .returned (.bool v) ∧ w' = w := by
  subst h
  by_cases h1 : 0 ≤ a
  · have hd : decide (0 ≤ a) = true := by simpa using h1
    have ho : nodeB a = decide (a < 6) := by unfold nodeB; congr 1; simp only [eq_iff_iff]; omega
    rw [ho]; clear ho
    go_enter Tryz.func33, Tryz.ntmps33
    go_wp2
    go_ret
    exact ⟨rfl, rfl⟩
  · have hd : decide (0 ≤ a) = false := by simpa using h1
    have ho : nodeB a = false := node_not.2 (by omega)
    rw [ho]; clear ho
    go_enter Tryz.func33, Tryz.ntmps33
    go_wp2
    go_ret
    exact ⟨rfl, rfl⟩
theorem knew_any (w : World) : Calls Tryz.prog 100 #[] w fun e w' => e = .returned (pv w.heap.size) ∧ KL w' w.heap.size (fun _ _ => 0) ∧ Gr w w' ∧ w.heap.size < w'.heap.size := by
  have HN := hide (KL.new w)
  go_enter Tryz.func100, Tryz.ntmps100
  go_wp2
  go_ret
  exact ⟨rfl, HN.out, (Gr.refl _).alloc _, by simp⟩

/-- What the link of two nodes costs. -/
def cst (c : Nat → Nat → Nat) (a b : Int) : Nat := if nodeB a = true ∧ nodeB b = true then c a.toNat b.toNat else 0
theorem cost_nat {w : World} {p : Nat} {c : Nat → Nat → Nat} (H : KL w p c) (hc : Lk c) {a b : Nat} (ha : a < 6) (hb : b < 6) : Calls Tryz.prog 18 #[pv p, iv a, iv b] w fun e w' => e = .returned (iv (c a b)) ∧ w' = w := by
  have A : Hid (nodeB (a : Int) = true) := node_iff.2 (by omega)
  have B : Hid (nodeB (b : Int) = true) := node_iff.2 (by omega)
  have hlt := H.lt
  by_cases h1 : a < b
  · have c1 := H.cell h1 hb
    clear H hc
    go_enter Tryz.func18, Tryz.ntmps18
    go_wp2_with (first | (go_at_call 33; with_reducible refine (node_is A.out _).mono ?_; rintro e w' ⟨rfl, hw⟩; subst hw) | (go_at_call 33; with_reducible refine (node_is B.out _).mono ?_; rintro e w' ⟨rfl, hw⟩; subst hw))
    go_ret
    exact ⟨rfl, rfl⟩
  · by_cases h2 : b < a
    · have c1 := H.cell h2 ha
      rw [hc.sym b a] at c1
      clear H hc
      go_enter Tryz.func18, Tryz.ntmps18
      go_wp2_with (first | (go_at_call 33; with_reducible refine (node_is A.out _).mono ?_; rintro e w' ⟨rfl, hw⟩; subst hw) | (go_at_call 33; with_reducible refine (node_is B.out _).mono ?_; rintro e w' ⟨rfl, hw⟩; subst hw))
      go_ret
      exact ⟨rfl, rfl⟩
    · have e : a = b := by omega
      subst e
      have c1 := H.cell0 (Nat.le_refl a) ha
      have HC := hide (hc.self a)
      clear H hc
      go_enter Tryz.func18, Tryz.ntmps18
      go_wp2_with (first | (go_at_call 33; with_reducible refine (node_is A.out _).mono ?_; rintro e w' ⟨rfl, hw⟩; subst hw))
      go_ret
      exact ⟨by rw [HC.out]; rfl, rfl⟩
theorem cost_any {w : World} {p : Nat} {c : Nat → Nat → Nat} (H : KL w p c) (hc : Lk c) (a b : Int) : Calls Tryz.prog 18 #[pv p, iv a, iv b] w fun e w' => e = .returned (iv (cst c a b)) ∧ w' = w := by
  cases hA : nodeB a
  · have A := hide hA
    have ho : cst c a b = 0 := by unfold cst; rw [if_neg (by simp [hA])]
    rw [ho]
    clear hA H ho
    go_enter Tryz.func18, Tryz.ntmps18
    go_wp2_with (first | (go_at_call 33; with_reducible refine (node_is A.out _).mono ?_; rintro e w' ⟨rfl, hw⟩; subst hw))
    go_ret
    exact ⟨rfl, rfl⟩
  · cases hB : nodeB b
    · have A := hide hA
      have B := hide hB
      have ho : cst c a b = 0 := by unfold cst; rw [if_neg (by simp [hB])]
      rw [ho]
      clear hA hB H ho
      go_enter Tryz.func18, Tryz.ntmps18
      go_wp2_with (first | (go_at_call 33; with_reducible refine (node_is A.out _).mono ?_; rintro e w' ⟨rfl, hw⟩; subst hw) | (go_at_call 33; with_reducible refine (node_is B.out _).mono ?_; rintro e w' ⟨rfl, hw⟩; subst hw))
      go_ret
      exact ⟨rfl, rfl⟩
    · obtain ⟨a0, a1⟩ := node_iff.1 hA
      obtain ⟨b0, b1⟩ := node_iff.1 hB
      have ho : cst c a b = c a.toNat b.toNat := by unfold cst; rw [if_pos ⟨hA, hB⟩]
      have := cost_nat H hc (a := a.toNat) (b := b.toNat) (by omega) (by omega)
      rw [show ((a.toNat : Nat) : Int) = a by omega, show ((b.toNat : Nat) : Int) = b by omega] at this
      rw [ho]; exact this

theorem setC_swap (c : Nat → Nat → Nat) (a b v : Nat) : setC c a b v = setC c b a v := by
  funext i j
  unfold setC
  by_cases e : (i = a ∧ j = b) ∨ (i = b ∧ j = a)
  · rw [if_pos e, if_pos (by omega)]
  · rw [if_neg e, if_neg (by omega)]
/-- May it be set? -/
def setB (a b v : Int) : Bool := nodeB a && nodeB b && decide (a ≠ b) && decide (0 ≤ v) && decide (v ≤ 15)
theorem set_iff {a b v : Int} : setB a b v = true ↔ (0 ≤ a ∧ a < 6) ∧ (0 ≤ b ∧ b < 6) ∧ a ≠ b ∧ 0 ≤ v ∧ v ≤ 15 := by
  unfold setB
  simp only [Bool.and_eq_true, node_iff, decide_eq_true_eq]
  constructor
  · rintro ⟨⟨⟨⟨h1, h2⟩, h3⟩, h4⟩, h5⟩; exact ⟨h1, h2, h3, h4, h5⟩
  · rintro ⟨h1, h2, h3, h4, h5⟩; exact ⟨⟨⟨⟨h1, h2⟩, h3⟩, h4⟩, h5⟩
theorem kset_ok {w : World} {p : Nat} {c : Nat → Nat → Nat} (H : KL w p c) {a b v : Nat} (ha : a < 6) (hb : b < 6) (hne : a ≠ b) (hv : v ≤ 15) :
    Calls Tryz.prog 120 #[pv p, iv a, iv b, iv v] w fun e w' => e = .returned (iv 0) ∧ ∃ j, w' = w.setCell ⟨p, j, none⟩ (iv v) ∧ KL w' p (setC c a b v) := by
  have A : Hid (nodeB (a : Int) = true) := node_iff.2 (by omega)
  have B : Hid (nodeB (b : Int) = true) := node_iff.2 (by omega)
  have hlt := H.lt
  have fz := NArr.free H
  have hne' : ((a : Int) == (b : Int)) = false := by simp; omega
  by_cases h1 : a < b
  · have c1 := H.cell h1 hb
    have HS := hide (H.set (v := v) h1 hb)
    clear H
    go_enter Tryz.func120, Tryz.ntmps120
    go_wp2_with (first | (go_at_call 33; with_reducible refine (node_is A.out _).mono ?_; rintro e w' ⟨rfl, hw⟩; subst hw) | (go_at_call 33; with_reducible refine (node_is B.out _).mono ?_; rintro e w' ⟨rfl, hw⟩; subst hw))
    go_ret
    exact ⟨rfl, _, rfl, HS.out⟩
  · have h2 : b < a := by omega
    have c1 := H.cell h2 ha
    have HS := hide (H.set (v := v) h2 ha)
    rw [setC_swap c b a v] at HS
    clear H
    go_enter Tryz.func120, Tryz.ntmps120
    go_wp2_with (first | (go_at_call 33; with_reducible refine (node_is A.out _).mono ?_; rintro e w' ⟨rfl, hw⟩; subst hw) | (go_at_call 33; with_reducible refine (node_is B.out _).mono ?_; rintro e w' ⟨rfl, hw⟩; subst hw))
    go_ret
    exact ⟨rfl, _, rfl, HS.out⟩
theorem kset_bad {w : World} {p : Nat} {a b v : Int} (h : setB a b v = false) : Calls Tryz.prog 120 #[pv p, iv a, iv b, iv v] w fun e w' => e = .returned (iv 1) ∧ w' = w := by
  cases hA : nodeB a
  · have A := hide hA
    clear hA h
    go_enter Tryz.func120, Tryz.ntmps120
    go_wp2_with (first | (go_at_call 33; with_reducible refine (node_is A.out _).mono ?_; rintro e w' ⟨rfl, hw⟩; subst hw))
    go_ret
    exact ⟨rfl, rfl⟩
  cases hB : nodeB b
  · have A := hide hA
    have B := hide hB
    clear hA hB h
    go_enter Tryz.func120, Tryz.ntmps120
    go_wp2_with (first | (go_at_call 33; with_reducible refine (node_is A.out _).mono ?_; rintro e w' ⟨rfl, hw⟩; subst hw) | (go_at_call 33; with_reducible refine (node_is B.out _).mono ?_; rintro e w' ⟨rfl, hw⟩; subst hw))
    go_ret
    exact ⟨rfl, rfl⟩
  have A := hide hA
  have B := hide hB
  by_cases he : a = b
  · subst he
    clear hA hB h B
    have he' : (a == a) = true := by simp
    go_enter Tryz.func120, Tryz.ntmps120
    go_wp2_with (first | (go_at_call 33; with_reducible refine (node_is A.out _).mono ?_; rintro e w' ⟨rfl, hw⟩; subst hw))
    go_ret
    exact ⟨rfl, rfl⟩
  have he' : (a == b) = false := by simpa using he
  by_cases h0 : v < 0
  · have hd : decide (v < 0) = true := by simpa using h0
    clear hA hB h he
    go_enter Tryz.func120, Tryz.ntmps120
    go_wp2_with (first | (go_at_call 33; with_reducible refine (node_is A.out _).mono ?_; rintro e w' ⟨rfl, hw⟩; subst hw) | (go_at_call 33; with_reducible refine (node_is B.out _).mono ?_; rintro e w' ⟨rfl, hw⟩; subst hw))
    go_ret
    exact ⟨rfl, rfl⟩
  · have h15 : 15 < v := by
      refine Int.not_le.1 fun hle => ?_
      have := set_iff.2 ⟨node_iff.1 hA, node_iff.1 hB, he, by omega, hle⟩
      rw [h] at this; cases this
    have hd : decide (v < 0) = false := by simpa using h0
    clear hA hB h he
    go_enter Tryz.func120, Tryz.ntmps120
    go_wp2_with (first | (go_at_call 33; with_reducible refine (node_is A.out _).mono ?_; rintro e w' ⟨rfl, hw⟩; subst hw) | (go_at_call 33; with_reducible refine (node_is B.out _).mono ?_; rintro e w' ⟨rfl, hw⟩; subst hw))
    go_ret
    exact ⟨rfl, rfl⟩

end Go.Proofs.YtfcknkanbcndjagGreatDoor

/- CONTRACTS OF package links: List, Of. -/
namespace Go.Proofs.YtfcknkanbcndjagGreatDoor
open Go.RowKit

/-- Those with which a is linked, of the first j. -/
def ofB (c : Nat → Nat → Nat) (a : Int) (j : Nat) : List Nat := ofTo (fun _ i => cst c a i) 0 j
set_option maxHeartbeats 1000000 in
theorem kof_any {w : World} {p : Nat} {c : Nat → Nat → Nat} (H : KL w p c) (hc : Lk c) (a : Int) :
    Calls Tryz.prog 55 #[pv p, iv a] w fun e w' => ∃ v, e = .returned v ∧ OwnI w w' v (ofB c a 6) ∧ Gr w w' := by
  have HC := hide (fun (wX : World) (gX : Gr w wX) (b : Nat) => cost_any (H.gr gX) hc a b)
  clear H hc
  go_enter Tryz.func55, Tryz.ntmps55
  go_wp2_with fail
  go_loopw [5, 7] (fun v5 v7 wr => ∃ b : Nat, b ≤ 6 ∧ v7 = .int .i64 b ∧ Hid (OwnI w wr v5 (ofB c a b)) ∧ Gr w wr) (fun _ v7 _ => 6 - (intOf v7).toNat)
  case atStart => exact ⟨0, by omega, rfl, OwnI.nil _ _, Gr.refl _⟩
  case round =>
    obtain ⟨b, hb6, rfl, HJ, gj⟩ := hrel
    by_cases hb : b < 6
    · have hbi : (b : Int) < 6 := by omega
      have hN : (ofB c a b).length ≤ b := of_len _ 0 b
      have H1 := hide (HC.out wr gj b)
      have HX : Hid (ofB c a (b + 1) = ofB c a b ++ (if cst c a b = 0 then [] else [b])) := rfl
      generalize cst c a b = k at *
      by_cases h0 : k = 0
      · subst h0
        go_wp2_with (first | (go_at_call 18; with_reducible refine H1.out.mono ?_; rintro e w' ⟨rfl, hw⟩; subst hw))
        go_roundw
        case rel => exact ⟨b + 1, by omega, by go_num, by rw [HX.out, if_pos trivial, List.append_nil]; exact HJ, gj⟩
        case measure => simp [intOf]; omega
      · have hk : ((k : Int) != 0) = true := by simp; omega
        obtain ⟨v', w', hrun, hown, hgr⟩ := OwnI.app 34 HJ.out gj b (by omega)
        have HR := hide hrun
        have HW := hide hown
        clear hrun hown
        go_wp2_with (first | (go_at_call 18; with_reducible refine H1.out.mono ?_; rintro e w' ⟨rfl, hw⟩; subst hw) | (at_builtin; refine Lib.wpList_append_run _ rfl _ _ _ _ rfl _ _ rfl rfl _ _ HR.out ?_))
        go_roundw
        case rel => exact ⟨b + 1, by omega, by go_num, by rw [HX.out, if_neg h0]; exact HW, hgr⟩
        case measure => simp [intOf]; omega
    · have e6 : b = 6 := by omega
      subst e6
      go_wp2_with fail
      go_ret
      exact ⟨_, rfl, HJ.out, gj⟩

end Go.Proofs.YtfcknkanbcndjagGreatDoor

/- THE PROGRAM'S Net IN MEMORY. -/
namespace Go.Proofs.YtfcknkanbcndjagGreatDoor
open Go.RowKit

/-- The cells of a Net: its links, its nodes, the news. -/
def ntF (k : Nat) (q : Nat → Nat) (v : Value) : Nat → Value := fun i => if i = 0 then pv k else if i < 7 then pv (q (i - 1)) else v
/-- A Net at p: its links at k, its nodes at q 0 .. q 5, its news in v; c: what links cost; t: as numbers. Of the world B the blocks M are as they were, and none of M's is the Net's. -/
structure Ne (M : Nat → Prop) (B w : World) (p k : Nat) (q : Nat → Nat) (v : Value) (c : Nat → Nat → Nat) (t : Tn) : Prop where
  kp : Kp M B w
  bd : ∀ b, M b → b < B.heap.size
  blk : VArr w 48 8 p (ntF k q v)
  lk : KL w k c
  six : Six 126 w q (fun a => sel (t.nd a))
  nw : NwO 0 w v (newsL t.news)
  nop : ¬ M p
  nok : ¬ M k
  noq : ∀ a, a < 6 → ¬ M (q a)
  nov : ∀ b, v.ownBlock = some b → ¬ M b
section
variable {M : Nat → Prop} {B w w' : World} {p k : Nat} {q : Nat → Nat} {v : Value} {c : Nat → Nat → Nat} {t : Tn}
theorem Ne.ext (h : Ne M B w p k q v c t) (g : Gr w w') : Ne M B w' p k q v c t :=
  ⟨h.kp.ext g, h.bd, h.blk.gr g, h.lk.gr g, h.six.gr g, h.nw.gr g, h.nop, h.nok, h.noq, h.nov⟩
theorem Ne.links (h : Ne M B w p k q v c t) : w.cell? ⟨p, 0, none⟩ = some (pv k) := h.blk.cell (j := 0) (by omega)
theorem Ne.node (h : Ne M B w p k q v c t) {a : Nat} (ha : a < 6) : w.cell? ⟨p, 1 + a, none⟩ = some (pv (q a)) := by
  have := h.blk.cell (j := 1 + a) (by omega)
  unfold ntF at this
  rw [if_neg (by omega), if_pos (by omega), show 1 + a - 1 = a by omega] at this
  exact this
theorem Ne.news (h : Ne M B w p k q v c t) : w.cell? ⟨p, 7, none⟩ = some v := h.blk.cell (j := 7) (by omega)
theorem Ne.pk (h : Ne M B w p k q v c t) : p ≠ k := blk_ne h.blk h.lk (by decide)
theorem Ne.pq (h : Ne M B w p k q v c t) {a : Nat} (ha : a < 6) : p ≠ q a := blk_ne h.blk (h.six.at_ a ha) (by decide)
theorem Ne.kq (h : Ne M B w p k q v c t) {a : Nat} (ha : a < 6) : k ≠ q a := blk_ne h.lk (h.six.at_ a ha) (by decide)
theorem Ne.vq (h : Ne M B w p k q v c t) {b : Nat} (e : v.ownBlock = some b) : b ≠ p ∧ b ≠ k ∧ ∀ a, a < 6 → b ≠ q a :=
  ⟨h.nw.apart e h.blk (by decide), h.nw.apart e h.lk (by decide), fun a ha => h.nw.apart e (h.six.at_ a ha) (by decide)⟩
/-- One node has changed. -/
theorem Ne.put (h : Ne M B w p k q v c t) {a : Nat} (ha : a < 6) {m : Md} (hw : Wr (q a) w w') (hm : DAt w' (q a) (sel m)) : Ne M B w' p k q v c { t with nd := updW t.nd a m } := by
  refine ⟨h.kp.wr hw (h.noq a ha), h.bd, hw.varr h.blk (h.pq ha), (hw.block k h.lk.lt (h.kq ha)).trans h.lk, ?_, h.nw.keep (fun b e => hw.block b (h.nw.own_lt e) ((h.vq e).2.2 a ha)), h.nop, h.nok, h.noq, h.nov⟩
  have := h.six.put ha hw hm
  have e : updW (fun a => sel (t.nd a)) a (sel m) = fun x => sel (updW t.nd a m x) := by
    funext x
    by_cases q : x = a
    · rw [q, updW_same, updW_same]
    · rw [updW_ne _ _ q, updW_ne _ _ q]
  rw [e] at this
  exact this
/-- A link has changed. -/
theorem Ne.setLk (h : Ne M B w p k q v c t) {j : Nat} {u : Value} {c' : Nat → Nat → Nat} (hk : KL (w.setCell ⟨k, j, none⟩ u) k c') (f : Nat → Nat → Int) : Ne M B (w.setCell ⟨k, j, none⟩ u) p k q v c' { t with cst := f } :=
  ⟨h.kp.set h.nok _ _, h.bd, h.blk.other h.pk _ _, hk, h.six.keep (fun a ha => Below.heap_setCell w ⟨k, j, none⟩ u (q a) (fun e => h.kq ha e.symm)), h.nw.keep (fun b e => Below.heap_setCell w ⟨k, j, none⟩ u b (h.vq e).2.1), h.nop, h.nok, h.noq, h.nov⟩
/-- The news have changed: the row behind them, and the Net's own word of it. -/
theorem Ne.newsPut {v' : Value} {nl : List Nw} (h : Ne M B w p k q v c t) (g : w.grownBy w' v.ownBlock) (hn : NwO 0 w' v' (newsL nl)) (ho : v'.ownBlock = none ∨ v'.ownBlock = v.ownBlock ∨ v'.ownBlock = some w.heap.size) :
    Ne M B (w'.setCell ⟨p, 7, none⟩ v') p k q v' c { t with news := nl } := by
  have kb : ∀ {b : Nat}, b < w.heap.size → (∀ x, v.ownBlock = some x → x ≠ b) → w'.heap[b]? = w.heap[b]? := fun {b} hb hx => g.block b hb (fun e => hx b e.symm rfl)
  have hblk : VArr w' 48 8 p (ntF k q v) := (kb h.blk.lt (fun x e => (h.vq e).1)).trans h.blk
  have hlk : KL w' k c := (kb h.lk.lt (fun x e => (h.vq e).2.1)).trans h.lk
  have hs : Six 126 w' q (fun a => sel (t.nd a)) := h.six.keep (fun a ha => kb (h.six.at_ a ha).lt (fun x e => (h.vq e).2.2 a ha))
  have hp' : ∀ b, v'.ownBlock = some b → b ≠ p := fun b e => hn.apart e hblk (by decide)
  refine ⟨(h.kp.trans (Kp.grown g (fun b e => h.nov b e))).set h.nop _ _, h.bd, hblk.set fun i hi => ?_, ?_, hs.keep (fun a ha => Below.heap_setCell w' ⟨p, 7, none⟩ v' (q a) (fun e => h.pq ha e.symm)), hn.keep (fun b e => Below.heap_setCell w' ⟨p, 7, none⟩ v' b (hp' b e)), h.nop, h.nok, h.noq, fun b e hm => ?_⟩
  · unfold ntF
    by_cases e0 : i = 0
    · rw [if_pos e0, if_pos e0, if_neg (by omega)]
    · rw [if_neg e0, if_neg e0]
      by_cases e1 : i < 7
      · rw [if_pos e1, if_pos e1, if_neg (by omega)]
      · rw [if_neg e1, if_neg e1, if_pos (by omega)]
  · exact (Below.heap_setCell w' ⟨p, 7, none⟩ v' k (fun e => h.pk e.symm)).trans hlk
  · rcases ho with o | o | o
    · rw [o] at e; cases e
    · exact h.nov b (o ▸ e) hm
    · rw [o] at e
      have := h.bd b hm
      have := h.kp.size
      cases e
      omega
/-- The same Net, as it is now, and other blocks that are to stay. -/
theorem Ne.re (h : Ne M B w p k q v c t) {N : Nat → Prop} (hb : ∀ b, N b → b < w.heap.size) (h1 : ¬ N p) (h2 : ¬ N k) (h3 : ∀ a, a < 6 → ¬ N (q a)) (h4 : ∀ b, v.ownBlock = some b → ¬ N b) : Ne N w w p k q v c t :=
  ⟨Kp.refl _ _, hb, h.blk, h.lk, h.six, h.nw, h1, h2, h3, h4⟩
/-- And back. -/
theorem Ne.back {N : Nat → Prop} {v' : Value} {c' : Nat → Nat → Nat} {t' : Tn} (h : Ne M B w p k q v c t) (h' : Ne N w w' p k q v' c' t') (hMN : ∀ b, M b → N b) : Ne M B w' p k q v' c' t' :=
  ⟨h.kp.trans (h'.kp.mono fun b _ hm => hMN b hm), h.bd, h'.blk, h'.lk, h'.six, h'.nw, h.nop, h.nok, h.noq, fun b e hm => h'.nov b e (hMN b hm)⟩
/-- All stays where no block of the Net's is written. -/
theorem Ne.keep {N : Nat → Prop} (h : Ne M B w p k q v c t) (hk : Kp N w w') (hMN : ∀ b, M b → N b) (h1 : N p) (h2 : N k) (h3 : ∀ a, a < 6 → N (q a)) (h4 : ∀ b, v.ownBlock = some b → N b) : Ne M B w' p k q v c t :=
  ⟨h.kp.trans (hk.mono fun b _ hm => hMN b hm), h.bd, (hk.block p h.blk.lt h1).trans h.blk, (hk.block k h.lk.lt h2).trans h.lk, h.six.keep (fun a ha => hk.block (q a) (h.six.at_ a ha).lt (h3 a ha)), h.nw.keep (fun b e => hk.block b (h.nw.own_lt e) (h4 b e)), h.nop, h.nok, h.noq, h.nov⟩
end

end Go.Proofs.YtfcknkanbcndjagGreatDoor
