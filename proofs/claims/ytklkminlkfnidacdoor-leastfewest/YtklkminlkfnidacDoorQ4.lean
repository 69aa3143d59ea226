/- CONTRACT OF sort.Slice at prefixes. -/
import Derived.Test.YtklkminlkfnidacDoorQ3
namespace Go.Proofs.YtklkminlkfnidacDoor
open Go.RowKit Go.Sort Go.Lib
attribute [local go_sem] Ext.all Ext.cell Ext.frozen Ext.lt Ext.lt1 Ext.lt2 Ext.ne Ext.ne'

theorem insertion_tiny (u v : Value) (n : Nat) (hn : n ≤ 1) (W : World) :
    Calls Tryd.prog 91 #[.agg #[u, v], .int .i64 0, .int .i64 n] W fun e w' => e = .returned (.tuple #[]) ∧ Gr W w' := by
  go_enter Tryd.func91, Tryd.ntmps91
  go_wp2
  refine wp_loop_rounds 1 ?_
  rw [rounds_succ]
  go_wp2
  go_end0
  exact ⟨rfl, (Gr.refl W).alloc _⟩
theorem pdq_tiny (u v : Value) (n lim : Nat) (hn : n ≤ 1) (W : World) :
    Calls Tryd.prog 76 #[.agg #[u, v], .int .i64 0, .int .i64 n, .int .i64 lim] W fun e w' => e = .returned (.tuple #[]) ∧ Gr W w' := by
  have H := hide (fun w => insertion_tiny u v n hn w)
  go_enter Tryd.func76, Tryd.ntmps76
  go_wp2
  refine wp_loop_rounds 1 ?_
  rw [rounds_succ]
  go_wp2_with (go_at_call 91; refine (H.out _).mono ?_; rintro e w' ⟨rfl, hw⟩)
  (try simp only [Exit.inBlock, Exit.then])
  refine bodyPost_ret (results_none rfl _ _ _) rfl ?_
  exact ⟨rfl, ((Gr.refl W).alloc _).trans hw⟩
theorem pfx_agg (w : World) : (isAgg 43).run Tryd.prog w = .ok true w := Tryd.isAgg43 w
theorem kind_pfx (w : World) : (Extern.Rtype.kind 43).run Tryd.prog w = .ok 25 w := by kernel_rfl
theorem lim_le {n : Nat} (hn : n ≤ 1000) : Lib.bitLen n ≤ 1000 := Nat.le_trans (Lib.bitLen_le n 62 (by omega) (by omega)) (by decide)

/-- sort.Slice sorts prefixes. -/
theorem sort_any {X : World} {g bx n c : Nat} {d : Array Pf} (hH : HoldsK encP 2 X g 0 d) (hs : d.size = n) (hg : g < X.heap.size) (hc : X.cell? ⟨bx, 0, none⟩ = some (.slice (some ⟨g, 0, none⟩) n c)) (hb : bx < X.heap.size) (hne : bx ≠ g) (h2 : 2 ≤ n) (hn : n ≤ 1000) (hP : PdqOK n) :
    Calls Tryd.prog 63 #[.iface 81 (.slice (some ⟨g, 0, none⟩) n c), lesV #[pv bx]] X fun e w' => e = .returned (.tuple #[]) ∧ ∃ d', PermIn 0 n d d' ∧ SortedIn ltP 0 n d' ∧ SG X g d' w' := by
  obtain ⟨i, ie, hi, hd, hie, k1, k2, k3⟩ := prefs_info
  have hk : swapperK n ie 25 = 9 := by
    unfold swapperK
    rw [if_neg (by simp; omega), if_neg (by simp; omega), k2, k3]; rfl
  have hf := fun w => run_swapper_slice (P := Tryd.prog) 81 43 i ie hi hd hie 25 kind_pfx (some ⟨g, 0, none⟩) n c 88 (by rw [hk]; kernel_rfl) w
  rw [hk, if_neg (by decide)] at hf
  refine slice_of (some ⟨g, 0, none⟩) n c hn 88 _ #[pv bx] X _ hf ?_
  intro W gW
  have hX : SG X g d X := SG.start hH hg
  refine hP X W g (Lib.bitLen n) #[pv bx] _ d ⟨?_, ?_⟩ (hX.gr gW) hs (lim_le hn)
  · intro d' W' hs' hS' i j hi hj
    refine les_any hS'.holds hs' hS'.gLt (c := c) ?_ (Nat.lt_of_lt_of_le hb hS'.kp.size) hi hj
    rw [hS'.other hb hne]; exact hc
  · exact swapSwapsK_of_literal false 88 (fun args W => run_callFunc_extern Tryd.func88 (by kernel_rfl) (by kernel_rfl) (by kernel_rfl) (e := Extern.ReflectliteSwapper.swap false) (by kernel_rfl) args W)
      43 ie hie encP 2 (fun _ => rfl) k1 pfx_agg (fun x v hv => by simp at hv; rcases hv with rfl | rfl <;> rfl) g 0 n c
/-- Of none or one. -/
theorem sort_tiny {X : World} {p : Option Addr} {n c : Nat} (lb : Array Value) (hn : n ≤ 1) :
    Calls Tryd.prog 63 #[.iface 81 (.slice p n c), lesV lb] X fun e w' => e = .returned (.tuple #[]) ∧ Gr X w' := by
  obtain ⟨i, ie, hi, hd, hie, k1, k2, k3⟩ := prefs_info
  rcases (show n = 0 ∨ n = 1 by omega) with rfl | rfl
  · have hf := fun w => run_swapper_slice (P := Tryd.prog) 81 43 i ie hi hd hie 25 kind_pfx p 0 c 80 (by kernel_rfl) w
    refine slice_of p 0 c (by omega) 80 _ lb X _ hf ?_
    intro W gW
    refine (pdq_tiny _ _ 0 _ (by omega) W).mono ?_
    rintro e w' ⟨rfl, h⟩
    exact ⟨rfl, gW.trans h⟩
  · have hf := fun w => run_swapper_slice (P := Tryd.prog) 81 43 i ie hi hd hie 25 kind_pfx p 1 c 81 (by kernel_rfl) w
    refine slice_of p 1 c (by omega) 81 _ lb X _ hf ?_
    intro W gW
    refine (pdq_tiny _ _ 1 _ (by omega) W).mono ?_
    rintro e w' ⟨rfl, h⟩
    exact ⟨rfl, gW.trans h⟩

end Go.Proofs.YtklkminlkfnidacDoor
