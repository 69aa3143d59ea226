/- CONTRACTS: slices.Delete and slices.Insert at a row of routes: one route is taken out; one is put in. -/
import Derived.Test.YtklkminlkfnidacDoorS3
namespace Go.Proofs.YtklkminlkfnidacDoor
open Go.RowKit
attribute [local go_sem] Ext.all Ext.cell Ext.frozen Ext.lt Ext.lt1 Ext.lt2 Ext.ne Ext.ne'

/-- A row whose first cells are these routes. -/
structure RowIs (w : World) (g n cap : Nat) (cur : Array Value) (rs : List Rt) : Prop where
  block : w.heap[g]? = some (.cells cur 45 (0, 0))
  len : rs.length = n
  le : n ≤ cap
  max : cap ≤ maxLen
  size : cur.size = cap * 3
  take : cur.toList.take (n * 3) = cels rs

theorem RowIs.cell {w : World} {g n cap : Nat} {cur : Array Value} {rs : List Rt} (h : RowIs w g n cap cur rs) (j : Nat) (u : Value) (hj : (cels rs)[j]? = some u) : w.cell? ⟨g, j, none⟩ = some u := by
  have hl : j < n * 3 := by
    have := (List.getElem?_eq_some_iff.1 hj).1
    rwa [cels_length, h.len] at this
  rw [← h.take, List.getElem?_take_of_lt hl] at hj
  simp [World.cell?, h.block]
  simpa using hj

theorem take_parts {α : Type} (a b c : List α) (k : Nat) (h : a.length + b.length = k) : (a ++ b ++ c).take k = a ++ b := by
  rw [← h, ← List.length_append]; exact List.take_left

theorem zeros3 : (Builtin.zeroCells (Value.agg #[iv 0, iv 0, iv 0]).cells 1).toList = [iv 0, iv 0, iv 0] := by kernel_rfl
theorem zero_run (w : World) : (zeroValue 45).run Tryd.prog w = .ok (.agg #[iv 0, iv 0, iv 0]) w := by
  obtain ⟨i0, hi, hz0, hz1, hz2⟩ := info_parts Tryd.info45
  simp [zeroValue, typeInfo, hi, hz0]

set_option maxRecDepth 20000 in
theorem delete_any (w : World) (g n cap i j : Nat) (cur : Array Value) (rs : List Rt) (h : RowIs w g n cap cur rs) (hj1 : j = i + 1) (hj2 : j ≤ n) (hm : n ≤ 1000) :
    Calls Tryd.prog 42 #[.slice (some ⟨g, 0, none⟩) n cap, .int .i64 i, .int .i64 j] w fun e w' => e = .returned (.slice (some ⟨g, 0, none⟩) (n - 1) cap) ∧ ∃ cur', w' = w.drew.setRow g cur' ∧ RowIs w' g (n - 1) cap cur' (rs.take i ++ rs.drop j) := by
  obtain ⟨i0, hi0, hz0, hz1, hz2⟩ := info_parts Tryd.info45
  have hmax : cap ≤ 9223372036854775807 := h.max
  have hcap := h.le
  have hlt : i < j := by omega
  have HJ : Hid (j = i + 1) := hj1
  clear hj1
  have hic : i ≤ cap := by omega
  have hjc : j ≤ cap := by omega
  have hne : ¬ (i = j) := by omega
  have hkn : i + (n - j) = n - 1 := by have := HJ.out; omega
  -- behind the append
  obtain ⟨cur1, hcur1⟩ : ∃ cur1 : Array Value, cur1 = (cur.toList.take (i * 3) ++ cels (rs.drop j) ++ cur.toList.drop (i * 3 + (cels (rs.drop j)).length)).toArray := ⟨_, rfl⟩
  have hdl : (cels (rs.drop j)).length = (n - j) * 3 := by rw [cels_length, List.length_drop, h.len]
  have hsz := h.size
  have hsz1 : cur1.size = cap * 3 := by
    rw [hcur1]; simp only [List.size_toArray, List.length_append, List.length_take, List.length_drop, Array.length_toList, hdl]; omega
  obtain ⟨A, hA, hsrc⟩ : ∃ A : Addr, (if cap = j then some (⟨g, 0, none⟩ : Addr) else some ⟨g, j * 3, none⟩) = some A ∧ Hid (∀ t u, (cels (rs.drop j))[t]? = some u → w.drew.cell? (A.add t) = some u) := by
    by_cases hc : cap = j
    · refine ⟨⟨g, 0, none⟩, by simp [hc], fun t u hu => ?_⟩
      have : cels (rs.drop j) = [] := List.eq_nil_of_length_eq_zero (by rw [hdl]; omega)
      rw [this] at hu; simp at hu
    · refine ⟨⟨g, j * 3, none⟩, by simp [hc], fun t u hu => ?_⟩
      rw [Addr.add_lit]
      show w.cell? _ = _
      refine h.cell _ _ ?_
      rw [← cels_drop, List.getElem?_drop] at hu
      exact hu
  have hrun : Hid (∀ ty, (Builtin.append_ #[22, 22] ty #[.slice (some ⟨g, 0, none⟩) i cap, .slice (some A) (n - j) (cap - j)]).run Tryd.prog w.drew = .ok (.slice (some ⟨g, 0, none⟩) (i + (n - j)) cap) (w.drew.setRow g cur1)) := fun ty => by
    have := run_append_room (P := Tryd.prog) w.drew 22 ty 45 i0 Tryd.underlying22 hi0 g i cap cur h.block A (n - j) (cap - j) (cels (rs.drop j)) (by rw [hz1, hdl]) hsrc.out (cels_one _) (by omega) (by rw [hz1, hdl]; omega)
    rw [hz1, ← hcur1] at this
    exact this
  obtain ⟨W1, hW1⟩ : ∃ W1, W1 = w.drew.setRow g cur1 := ⟨_, rfl⟩
  have hb1 : W1.heap[g]? = some (.cells cur1 45 (0, 0)) := by rw [hW1]; exact setRow_heap _ g cur cur1 _ _ h.block
  obtain ⟨cur2, hcur2⟩ : ∃ cur2 : Array Value, cur2 = (cur1.toList.take ((n - 1) * 3) ++ [iv 0, iv 0, iv 0] ++ cur1.toList.drop ((n - 1) * 3 + 3)).toArray := ⟨_, rfl⟩
  have hcl : ∀ ty c, (Builtin.clear_ #[22] ty #[.slice (some ⟨g, (n - 1) * 3, none⟩) 1 c]).run Tryd.prog W1 = .ok (.tuple #[]) (W1.setRow g cur2) := fun ty c => by
    have := run_clear_row3 (P := Tryd.prog) W1 22 45 ty _ Tryd.underlying22 zero_run _ zeros3 (by intro v hv; simp at hv; rw [hv]; rfl) g ((n - 1) * 3) c cur1 _ hb1 (by simp; omega)
    simp only [List.length_cons, List.length_nil] at this
    rw [this, hcur2]
  have hend : RowIs (w.drew.setRow g cur2) g (n - 1) cap cur2 (rs.take i ++ rs.drop j) := by
    have hl : (rs.take i).length = i := by rw [List.length_take, h.len]; omega
    refine ⟨setRow_heap _ g cur cur2 _ _ h.block, by rw [List.length_append, List.length_drop, h.len, hl]; omega, by omega, h.max, ?_, ?_⟩
    · rw [hcur2]; simp only [List.size_toArray, List.length_append, List.length_take, List.length_drop, Array.length_toList, List.length_cons, List.length_nil]; omega
    · have e1 : cur.toList.take (i * 3) = cels (rs.take i) := by
        rw [← cels_take, ← h.take, List.take_take]; congr 1; omega
      have e2 : cur1.toList.take ((n - 1) * 3) = cels (rs.take i ++ rs.drop j) := by
        rw [hcur1, e1, cels_append]
        exact take_parts _ _ _ _ (by rw [cels_length, cels_length, hl, List.length_drop, h.len]; omega)
      rw [hcur2, e2]
      show ((cels (rs.take i ++ rs.drop j) ++ [iv 0, iv 0, iv 0] ++ cur1.toList.drop _).take ((n - 1) * 3)) = _
      rw [List.append_assoc]
      have : (cels (rs.take i ++ rs.drop j)).length = (n - 1) * 3 := by rw [cels_length, List.length_append, hl, List.length_drop, h.len]; omega
      rw [← this]; exact List.take_left
  have HE : Hid _ := hend
  have HW : Hid (W1 = w.drew.setRow g cur1) := hW1
  have h1n : ¬ (cap = n - 1) := by have := HJ.out; omega
  have hnn : n - (n - 1) = 1 := by have := HJ.out; omega
  clear hend hW1 hcur2 hcur1 hb1 h hdl
  have hpn : n - 1 ≤ n := by omega
  have hpc : n - 1 ≤ cap := by omega
  generalize n - 1 = p at *
  go_enter Tryd.func42, Tryd.ntmps42
  go_wp2_with fail
  go_region_law (refine step_append_eq rfl _ _ 22 22 rfl _ _ (by simp [Act.eval, Act.put]) (by simp [Act.eval, Act.put]) (hrun.out _) ?_; rw [← HW.out, hkn])
  go_wp2
  go_ret
  refine ⟨rfl, cur2, ?_, ?_⟩
  · rw [HW.out, setRow_setRow]
  · rw [HW.out, setRow_setRow]; exact HE.out

end Go.Proofs.YtklkminlkfnidacDoor
