/- CONTRACTS OF package trie: Leaf, alike. -/
import Derived.Test.YtklkminlkfnidacDoorTMem
namespace Go.Proofs.YtklkminlkfnidacDoor
open Go.RowKit
attribute [local go_sem] Ext.all Ext.cell Ext.frozen Ext.lt Ext.lt1 Ext.lt2 Ext.ne Ext.ne'

theorem leaf_any {w : World} {T : TT} {q : Nat} (h : Tr w T q) :
    Calls Tryd.prog 37 #[pv q] w fun e w' => e = .returned (.bool T.isLeaf) ∧ ∃ d : Ext w, w' = d.out := by
  cases T with
  | leaf l b hp =>
    obtain ⟨c3, c4⟩ := h.leafc
    clear h
    go_enter Tryd.func37, Tryd.ntmps37
    go_wp2
    go_ret
    exact ⟨rfl, ext_mk (Gr.refl _)⟩
  | node l b lo hi =>
    obtain ⟨x, y, c3, c4, _, _⟩ := h.nodec
    clear h
    go_enter Tryd.func37, Tryd.ntmps37
    go_wp2
    go_ret
    exact ⟨rfl, ext_mk (Gr.refl _)⟩
theorem leaf_is {w : World} {T : TT} {q : Nat} {v : Bool} (h : Tr w T q) (e : T.isLeaf = v) (d : Ext w) :
    Calls Tryd.prog 37 #[pv q] d.out fun e w' => e = .returned (.bool v) ∧ ∃ d' : Ext w, w' = d'.out := by
  subst e
  exact Calls.ext_of (leaf_any (h.gr d.gr))

theorem leaf_as {w : World} {T : TT} {q : Nat} {v : Bool} (h : Tr w T q) (e : T.isLeaf = v) :
    Calls Tryd.prog 37 #[pv q] w fun e w' => e = .returned (.bool v) ∧ ∃ d : Ext w, w' = d.out := by
  subst e
  exact leaf_any h

/-- Cells of numbers. -/
def Nums (w : World) (g o n : Nat) (f : Nat → Int) : Prop := g < w.heap.size ∧ ∀ j : Nat, j < n → w.cell? ⟨g, o + j, none⟩ = some (iv (f (o + j)))
theorem Nums.gr {w w' : World} {g o n : Nat} {f : Nat → Int} (h : Nums w g o n f) (k : Gr w w') : Nums w' g o n f :=
  ⟨Nat.lt_of_lt_of_le h.1 (Below.size k), fun j hj => (Below.cell k (p := ⟨g, o + j, none⟩) h.1).trans (h.2 j hj)⟩
theorem Nums.low {w : World} {g o n m : Nat} {f : Nat → Int} (h : Nums w g o n f) (hm : m ≤ n) : Nums w g o m f := ⟨h.1, fun j hj => h.2 j (by omega)⟩
theorem Nums.high {w : World} {g o n m : Nat} {f : Nat → Int} (h : Nums w g o n f) (hm : m + m ≤ n) : Nums w g (o + m) m f :=
  ⟨h.1, fun j hj => by rw [Nat.add_assoc]; exact h.2 (m + j) (by omega)⟩

set_option maxRecDepth 20000 in
theorem alike_any (w : World) (g o n c : Nat) (f : Nat → Int) (H : Nums w g o n f) (h0 : 0 < n) (hm : n ≤ 256) :
    Calls Tryd.prog 56 #[.slice (some ⟨g, o, none⟩) n c] w fun e w' => e = .returned (.bool (decide (Alk f o n))) ∧ ∃ d : Ext w, w' = d.out := by
  obtain ⟨hg, HC⟩ := H
  have c0 := HC 0 h0
  rw [Nat.add_zero] at c0
  have HCh := hide HC
  clear HC
  go_enter Tryd.func56, Tryd.ntmps56
  go_wp2
  go_loopw [4, 7] (fun _ i wr => ∃ k : Nat, k ≤ n ∧ i = .int .i64 k ∧ Hid (∀ j : Nat, j < k → f (o + j) = f o) ∧ Gr w wr) (fun _ i _ => n - (intOf i).toNat)
  case atStart => exact ⟨0, by omega, rfl, (fun j hj => by omega), Gr.refl _⟩
  case round =>
    obtain ⟨k, hk, rfl, HE, gg⟩ := hrel
    obtain ⟨d, rfl⟩ := ext_mk gg
    by_cases hlt : k < n
    · have c1 := HCh.out k hlt
      by_cases he : f (o + k) = f o
      · have hb : (f (o + k) != f o) = false := by simpa using he
        have HX : Hid (∀ j : Nat, j < k + 1 → f (o + j) = f o) := fun j hj => by
          rcases Nat.lt_or_eq_of_le (Nat.le_of_lt_succ hj) with h | h
          · exact HE.out j h
          · rw [h]; exact he
        clear he
        go_wp2
        go_roundw
        case rel => exact ⟨k + 1, by omega, by go_num, HX, d.gr⟩
        case measure => simp [intOf]; omega
      · have hb : (f (o + k) != f o) = true := by simpa using he
        have HX : Hid (decide (Alk f o n) = false) := decide_eq_false fun q => he (q k hlt)
        clear he
        go_wp2
        go_ret
        exact ⟨ret_bool HX.out.symm, _, rfl⟩
    · have HX : Hid (decide (Alk f o n) = true) := decide_eq_true fun j hj => HE.out j (by omega)
      clear HE
      go_wp2
      go_ret
      exact ⟨ret_bool HX.out.symm, _, rfl⟩

end Go.Proofs.YtklkminlkfnidacDoor
