/- THE REFERENCE'S Town: Do, the kinds hear, lose, double. -/
import Derived.Test.YtcgflhjgllpohafGreatDoorTw16
namespace Go.Proofs.YtcgflhjgllpohafGreatDoor
open Go.RowKit
attribute [local go_sem] Ext.all Ext.cell Ext.frozen Ext.lt Ext.lt1 Ext.lt2 Ext.ne Ext.ne'
section
variable {M : Nat → Prop} {B w : World} {p : Nat} {q : Nat → Nat} {v o : Value} {t : Tn}
set_option maxRecDepth 20000 in
set_option maxHeartbeats 8000000 in
theorem wdo_none (H : Tw M B w p q v o t) {k a b n : Int} (hk : k = 4 ∨ k = 5 ∨ k = 6) (hn : ¬ (0 ≤ n ∧ n < (t.news.length : Int))) (x y : Value) :
    Calls Tryz.prog 34 #[pv p, .agg #[iv k, iv a, iv b, iv n, x, y]] w fun e w' => e = .returned (iv 6) ∧ Gr w w' := by
  have T0 := hide (H.ext ((Gr.refl w).alloc (.cells #[iv k, iv a, iv b, iv n, x, y] 54)))
  have S0 := hide (sp_new w k a b n x y)
  have k1 : (k == 1) = false := by simp; omega
  have k2 : (k == 2) = false := by simp; omega
  have k3 : (k == 3) = false := by simp; omega
  have hk4 : ((k == 4) = true) ∨ ((k == 4) = false ∧ (k == 5) = true) ∨ ((k == 4) = false ∧ (k == 5) = false ∧ (k == 6) = true) := by
    rcases hk with rfl | rfl | rfl
    · exact .inl rfl
    · exact .inr (.inl ⟨rfl, rfl⟩)
    · exact .inr (.inr ⟨rfl, rfl, rfl⟩)
  obtain ⟨ao, cv, hv, _, _, _⟩ := H.nw.shape
  rw [newsL_len] at hv
  subst hv
  have hcase : (decide (n < 0) = true) ∨ (decide (n < 0) = false ∧ decide ((t.news.length : Int) ≤ n) = true) := by
    by_cases e : n < 0
    · exact .inl (decide_eq_true e)
    · exact .inr ⟨decide_eq_false e, decide_eq_true (by omega)⟩
  clear H hk hn
  rcases hk4 with k4 | ⟨k4, k5⟩ | ⟨k4, k5, k6⟩
  all_goals
    go_enter Tryz.func34, Tryz.ntmps34
    go_upto_region 26 with (fail)
    refine wp_gen (fun V => Hid (Tw M B V p q (.slice ao t.news.length cv) o t) ∧ Hid (VArr V 54 6 w.heap.size (spF k a b n x y)) ∧ Hid (Gr w V)) ⟨T0.out, S0.out, (Gr.refl w).alloc _⟩ ?_
    clear T0 S0
    generalize hX0 : w.heap.size = X at *
    clear hX0
    rintro V ⟨T0, S0, gV⟩
    obtain ⟨s1, s2, s3⟩ := sp_cells S0.out
    have hp := T0.out.blk.lt
    have hX := S0.out.lt
    have c2 := T0.out.news
    rcases hcase with h1 | ⟨h1, h2⟩
    all_goals
      refine wp_region_ext (by kernel_rfl) (by kernel_rfl) ?_
      repeat (go_big_quiet_step (fail))
      refine wpQuiet_nil ?_
      rintro _ ⟨d5, rfl⟩
      go_wp2_with fail
      go_ret
      exact ⟨rfl, gV.out.trans d5.gr⟩
end

end Go.Proofs.YtcgflhjgllpohafGreatDoor
