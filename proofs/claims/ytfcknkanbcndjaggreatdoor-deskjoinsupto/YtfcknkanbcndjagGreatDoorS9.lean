/- CONTRACT OF handpostref.SetOf. -/
import Derived.Test.YtfcknkanbcndjagGreatDoorS8
namespace Go.Proofs.YtfcknkanbcndjagGreatDoor
open Go.RowKit
attribute [local go_sem] Ext.all Ext.cell Ext.frozen Ext.lt Ext.lt1 Ext.lt2 Ext.ne Ext.ne'
/-- 'append(out, r)', out a row of routes of the call's own. -/
theorem wpList_app_route {W : World} {ops : Array Oper} {rest : List Oper} {o : Oper} {a : Act} {Q : Exit → Act → World → Prop} (r : Rt) (d0 : Ext W) (hgd : o.guard = none) (s x : Operand)
    (ho : o.op = .call { callee := .builtin .append, args := #[s, x], argTypes := #[108, 108] }) (v : Value) (xs : List Rt) (hs : a.eval s = v) (hx : a.eval x = .slice (some ⟨d0.out.heap.size, 0, none⟩) 1 1)
    (hown : d0.out.ownsRow W.heap.size 133 3 v xs.length (cels xs)) (hm : xs.length ≤ 1000)
    (h : ∀ v' (d : Ext W), d.out.ownsRow W.heap.size 133 3 v' (xs ++ [r]).length (cels (xs ++ [r])) → wpList Tryz.prog ops Q rest (a.put o.dst v') d.out) :
    wpList Tryz.prog ops Q (o :: rest) a (d0.out.alloc (.cells #[iv r.1, iv r.2.1, iv r.2.2] 133)) := by
  obtain ⟨i0, hi, hz0, hz1, hz2⟩ := info_parts Tryz.info133
  have hs0 : W.heap.size ≤ d0.out.heap.size := Below.size d0.gr
  refine wpList_append_own _ hgd s x 108 ho W.heap.size 133 i0 _ 3 24 Tryz.underlying108 hi hz0 hz1 hz2 (by rfl) (by decide) v xs.length (cels xs) hs (hown.alloc _) ⟨d0.out.heap.size, 0, none⟩ 1 1 (cels [r]) hx (by rw [cels_length]; rfl) (one_cells (heap_alloc_new d0.out _)) (cels_one _) (by unfold maxLen; omega) (by omega) (by simp; omega) ?_
  intro v' w' h1 h2 _
  have gr : Gr W w' := (d0.gr.alloc _).grown h2 (fun k hk => (hown.lt k hk).1)
  obtain ⟨d, rfl⟩ := ext_mk gr
  refine h v' d ?_
  rw [cels_append]
  simpa using h1

theorem foldR_take {rs : List Rt} {k : Nat} (hk : k < rs.length) (l b h : Int) : foldR (rs.take (k + 1)) l b h = stepR l b h (foldR (rs.take k) l b h) rs[k] := by
  rw [List.take_succ_eq_append_getElem hk, foldR_snoc]

theorem Tab.get_fnd {rs : List Rt} (h : Tab rs) {l b : Int} (ho : okB l b = true) : (fnd rs l b = false ∧ getL rs l b = -2) ∨ (fnd rs l b = true ∧ getL rs l b ≠ -2) := by
  obtain ⟨A, B, _, _, _, hx⟩ := h.part ho
  rcases hx with ⟨_, hf, hg⟩ | ⟨h0, hh, _, hf, hg⟩
  · exact .inl ⟨hf, hg⟩
  · refine .inr ⟨hf, ?_⟩
    rw [hg]; intro e; subst e; simp [hopB] at hh

end Go.Proofs.YtfcknkanbcndjagGreatDoor
