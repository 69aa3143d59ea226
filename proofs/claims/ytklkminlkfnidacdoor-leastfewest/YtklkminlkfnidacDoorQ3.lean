/- CONTRACTS OF package least: the comparison that is handed to sort.Slice; of pdqsort_func at twelve or fewer; of sort.Slice. -/
import Derived.Test.YtklkminlkfnidacDoorQ2
namespace Go.Proofs.YtklkminlkfnidacDoor
open Go.RowKit Go.Sort Go.Lib
attribute [local go_sem] Ext.all Ext.cell Ext.frozen Ext.lt Ext.lt1 Ext.lt2 Ext.ne Ext.ne'

theorem holds_at {X : World} {g : Nat} {d : Array Pf} (h : HoldsK encP 2 X g 0 d) {i : Nat} (hi : i < d.size) :
    X.cell? ⟨g, i * 2, none⟩ = some (iv d[i]!.1) ∧ X.cell? ⟨g, i * 2 + 1, none⟩ = some (iv d[i]!.2) := by
  have h0 := (h.cell hi (c := 0) (by decide)).1
  have h1 := (h.cell hi (c := 1) (by decide)).1
  rw [show 0 + i * 2 + 0 = i * 2 by omega] at h0
  rw [show 0 + i * 2 + 1 = i * 2 + 1 by omega] at h1
  exact ⟨h0, h1⟩
theorem les_any {X : World} {g bx n c : Nat} {d : Array Pf} (hH : HoldsK encP 2 X g 0 d) (hs : d.size = n) (hg : g < X.heap.size) (hc : X.cell? ⟨bx, 0, none⟩ = some (.slice (some ⟨g, 0, none⟩) n c)) (hb : bx < X.heap.size) {i j : Nat} (hi : i < n) (hj : j < n) :
    Calls Tryd.prog 64 #[.int .i64 i, .int .i64 j, pv bx] X fun e w' => e = .returned (.bool (ltP d[i]! d[j]!)) ∧ Gr X w' := by
  obtain ⟨c0, c1⟩ := holds_at hH (i := i) (by omega)
  obtain ⟨e0, e1⟩ := holds_at hH (i := j) (by omega)
  have HL := hide (fun (m : Ext X) => less_any d[i]!.1 d[i]!.2 d[j]!.1 d[j]!.2 m.out)
  have HE : Hid (ltP d[i]! d[j]! = lessB d[i]!.1 d[i]!.2 d[j]!.1 d[j]!.2) := rfl
  rw [HE.out]
  clear HE hH
  generalize lessB d[i]!.1 d[i]!.2 d[j]!.1 d[j]!.2 = v at *
  generalize d[i]!.1 = x1 at *
  generalize d[i]!.2 = x2 at *
  generalize d[j]!.1 = y1 at *
  generalize d[j]!.2 = y2 at *
  go_enter Tryd.func64, Tryd.ntmps64
  go_wp2
  refine wp_region_ext (by kernel_rfl) (by kernel_rfl) ?_
  repeat (go_big_quiet_step (first | (go_at_call 58; exact Calls.ext_of (HL.out _)) | fail))
  refine wpQuiet_nil ?_
  rintro _ ⟨d1, rfl⟩
  go_wp2
  go_ret
  exact ⟨rfl, d1.gr⟩

/-- pdqsort_func sorts n prefixes. -/
def PdqOK (n : Nat) : Prop := ∀ (B W : World) (g lim : Nat) (lb sb : Array Value) (d : Array Pf), Cx B g n lb sb → SG B g d W → d.size = n → lim ≤ 1000 →
  Calls Tryd.prog 76 #[datV lb sb, .int .i64 0, .int .i64 n, .int .i64 lim] W fun e w' => e = .returned (.tuple #[]) ∧ ∃ d', PermIn 0 n d d' ∧ SortedIn ltP 0 n d' ∧ SG B g d' w'

theorem pdq_small {n : Nat} (h12 : n ≤ 12) : PdqOK n := by
  intro B W g lim lb sb d hC hS hs hl
  obtain ⟨A, hA, hD, hI, hOut⟩ := hC.door hS hs
  have hi := hide (insertion_any hD.cx hI.sg hs (by omega) (Nat.zero_le n) (Nat.le_refl n))
  have c0 := hI.c0
  have c1 := hI.c1
  have HA := hide hA
  have HF : Hid (PermIn 0 n d (Sort.insertionSort ltP d 0 n) ∧ SortedIn ltP 0 n (Sort.insertionSort ltP d 0 n)) := by
    rw [← hs]; exact insertionSort_holds (lt := ltP) ltP_swo d 0 d.size (Nat.zero_le _) (Nat.le_refl _)
  clear hA hC hS hD hI
  go_enter Tryd.func76, Tryd.ntmps76
  go_wp2
  rw [← HA.out]
  refine wp_loop_rounds 1 ?_
  rw [rounds_succ]
  go_wp2_with (go_at_call 91; refine hi.out.mono ?_; rintro e w' ⟨rfl, hw⟩)
  (try simp only [Exit.inBlock, Exit.then])
  refine bodyPost_ret (results_none rfl _ _ _) rfl ?_
  exact ⟨rfl, _, HF.out.1, HF.out.2, hOut _ _ hw⟩

end Go.Proofs.YtklkminlkfnidacDoor
