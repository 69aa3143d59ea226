/- FOR THE LAWS OF A NODE: steps in memory, and the contracts as the laws use them. -/
import Derived.Test.YtohbkhmpdegapadB2
import Derived.Test.YtohbkhmpdegapadB3
import Derived.Test.YtohbkhmpdegapadN6
namespace Go.Proofs.Ytohbkhmpdegapad
open Go.RowKit

/-- A slice that reads as steps. -/
def StpAt (w : World) (ao : Option Addr) (l : List Stp) : Prop := l = [] ∨ ∃ b o, ao = some ⟨b, o, none⟩ ∧ b < w.heap.size ∧ ∀ i (h : i < l.length),
    w.cell? ⟨b, o + i * 7, none⟩ = some (iv l[i].k) ∧ w.cell? ⟨b, o + i * 7 + 1, none⟩ = some (iv l[i].c) ∧ w.cell? ⟨b, o + i * 7 + 2, none⟩ = some (iv l[i].f) ∧ w.cell? ⟨b, o + i * 7 + 3, none⟩ = some (iv l[i].o) ∧ w.cell? ⟨b, o + i * 7 + 4, none⟩ = some (iv l[i].z) ∧ w.cell? ⟨b, o + i * 7 + 5, none⟩ = some (iv l[i].s) ∧ w.cell? ⟨b, o + i * 7 + 6, none⟩ = some (iv l[i].d)
theorem StpAt.gr {w w' : World} {ao : Option Addr} {l : List Stp} (h : StpAt w ao l) (k : Gr w w') : StpAt w' ao l := by
  rcases h with h | ⟨b, o, ha, hb, hc⟩
  · exact .inl h
  · refine .inr ⟨b, o, ha, Nat.lt_of_lt_of_le hb (Below.size k), fun i hi => ?_⟩
    have e : ∀ q, w'.cell? ⟨b, q, none⟩ = w.cell? ⟨b, q, none⟩ := fun q => Below.cell k (p := ⟨b, q, none⟩) hb
    rw [e, e, e, e, e, e, e]
    exact hc i hi
theorem Wr2.arr {p q t n r : Nat} {a b : World} {g : Nat → Int} (h : Wr2 p q a b) (k : ZArr a t n r g) (h1 : r ≠ p) (h2 : r ≠ q) : ZArr b t n r g := (h.block r k.lt h1 h2).trans k
theorem best_sel {m : Md} (h : MdOk m) {k : Nat} (hk : k < 6) : bestOf (sel m) (k : Int) = m.bests k := by
  unfold bestOf
  rw [if_pos ⟨by omega, by omega⟩]
  by_cases e : (k : Int) = ((sel m).me : Int)
  · rw [if_pos e]
    have e' : k = m.me := by have : (k : Int) = (m.me : Int) := e; omega
    obtain ⟨s, _, hw, hb⟩ := h.self
    show ((m.ways m.me).1, (m.ways m.me).2.1) = m.bests k
    rw [e', hw, hb]
  · rw [if_neg e, Int.toNat_natCast]
    exact sel_best m (fun q => e (by rw [q]; rfl))
/-- The program's Way and Best of a node, in a world that has grown. -/
theorem nwayG {B w : World} {p : Nat} {m : Md} (H : DAt B p (sel m)) (g : Gr B w) {k : Nat} (hk : k < 6) :
    Calls Try.prog 23 #[pv p, iv k] w fun e w' => e = .returned (.agg #[iv (m.ways k).1, iv (m.ways k).2.1, iv (m.ways k).2.2]) ∧ ∃ d : Ext w, w' = d.out := by
  have := nway_any (H.gr g) (k : Int)
  rw [wayOf_nat _ hk] at this
  exact this
theorem nwayE {B : World} (x : Ext B) {p : Nat} {m : Md} (H : DAt B p (sel m)) {k : Nat} (hk : k < 6) :
    Calls Try.prog 23 #[pv p, iv k] x.out fun e w' => e = .returned (.agg #[iv (m.ways k).1, iv (m.ways k).2.1, iv (m.ways k).2.2]) ∧ ∃ d : Ext B, w' = d.out :=
  Calls.ext_of (nwayG H x.gr hk)
theorem nbestG {B w : World} {p : Nat} {m : Md} (H : DAt B p (sel m)) (h : MdOk m) (g : Gr B w) {k : Nat} (hk : k < 6) :
    Calls Try.prog 25 #[pv p, iv k] w fun e w' => e = .returned (.tuple #[iv (m.bests k).1, iv (m.bests k).2]) ∧ ∃ d : Ext w, w' = d.out := by
  have := nbest_any (H.gr g) (k : Int)
  rw [best_sel h hk] at this
  exact this
theorem age_new (me : Nat) : age (newM me) = 0 := by
  show (updW (fun _ => ((0, 200, -1) : Int × Int × Int)) me (0, 0, (me : Int)) me).1 = 0
  rw [updW_same]

/-- The ways of the first k nodes, as numbers in a row. -/
def wasF (m : Md) (k : Nat) : Nat → Int := fun i => if i < k * 3 then (if i % 3 = 0 then (m.ways (i / 3)).1 else if i % 3 = 1 then (m.ways (i / 3)).2.1 else (m.ways (i / 3)).2.2) else 0
theorem wasF_at (m : Md) {n k : Nat} (h : k < n) : wasF m n (k * 3) = (m.ways k).1 ∧ wasF m n (k * 3 + 1) = (m.ways k).2.1 ∧ wasF m n (k * 3 + 2) = (m.ways k).2.2 := by
  unfold wasF
  refine ⟨?_, ?_, ?_⟩
  · rw [if_pos (by omega), if_pos (by omega), show k * 3 / 3 = k by omega]
  · rw [if_pos (by omega), if_neg (by omega), if_pos (by omega), show (k * 3 + 1) / 3 = k by omega]
  · rw [if_pos (by omega), if_neg (by omega), if_neg (by omega), show (k * 3 + 2) / 3 = k by omega]
theorem was_put {w : World} {t p : Nat} {m : Md} {k : Nat} (h : ZArr w t 18 p (wasF m k)) (_ : k < 6) :
    ZArr (((w.setCell ⟨p, k * 3, none⟩ (iv (m.ways k).1)).setCell ⟨p, k * 3 + 1, none⟩ (iv (m.ways k).2.1)).setCell ⟨p, k * 3 + 2, none⟩ (iv (m.ways k).2.2)) t 18 p (wasF m (k + 1)) := by
  refine ZArr.set (ZArr.set (ZArr.set h (g' := fun i => if i = k * 3 then (m.ways k).1 else wasF m k i) (fun _ _ => rfl)) (g' := fun i => if i = k * 3 + 1 then (m.ways k).2.1 else if i = k * 3 then (m.ways k).1 else wasF m k i) (fun _ _ => rfl)) fun i hi => ?_
  obtain ⟨a0, a1, a2⟩ := wasF_at m (n := k + 1) (k := k) (by omega)
  by_cases e2 : i = k * 3 + 2
  · rw [if_pos e2, e2, a2]
  · rw [if_neg e2]
    by_cases e1 : i = k * 3 + 1
    · rw [if_pos e1, e1, a1]
    · rw [if_neg e1]
      by_cases e0 : i = k * 3
      · rw [if_pos e0, e0, a0]
      · rw [if_neg e0]
        unfold wasF
        by_cases e : i < k * 3
        · rw [if_pos e, if_pos (by omega)]
        · rw [if_neg e, if_neg (by omega)]
theorem was_cells {w : World} {t p : Nat} {m : Md} (h : ZArr w t 18 p (wasF m 6)) {k : Nat} (hk : k < 6) :
    w.cell? ⟨p, k * 3, none⟩ = some (iv (m.ways k).1) ∧ w.cell? ⟨p, k * 3 + 1, none⟩ = some (iv (m.ways k).2.1) ∧ w.cell? ⟨p, k * 3 + 2, none⟩ = some (iv (m.ways k).2.2) := by
  obtain ⟨a0, a1, a2⟩ := wasF_at m hk
  have h0 := h.cell (j := k * 3) (by omega)
  have h1 := h.cell (j := k * 3 + 1) (by omega)
  have h2 := h.cell (j := k * 3 + 2) (by omega)
  rw [a0] at h0
  rw [a1] at h1
  rw [a2] at h2
  exact ⟨h0, h1, h2⟩

end Go.Proofs.Ytohbkhmpdegapad
