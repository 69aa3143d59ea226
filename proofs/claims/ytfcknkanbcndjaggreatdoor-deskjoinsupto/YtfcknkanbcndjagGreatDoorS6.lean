/- CONTRACT: slices.Insert at a row of routes: within the row, with room and without. -/
import Derived.Test.YtfcknkanbcndjagGreatDoorS5
namespace Go.Proofs.YtfcknkanbcndjagGreatDoor
open Go.RowKit
attribute [local go_sem] Ext.all Ext.cell Ext.frozen Ext.lt Ext.lt1 Ext.lt2 Ext.ne Ext.ne'
theorem size_run (w : World) : (Go.sizeOf 133).run Tryz.prog w = .ok 3 w := by
  obtain ⟨i0, hi, hz0, hz1, hz2⟩ := info_parts Tryz.info133
  simp [sizeOf, typeInfo, hi, hz1]

theorem one_cells {w : World} {vb : Nat} {x : Rt} (hv : w.heap[vb]? = some (.cells #[iv x.1, iv x.2.1, iv x.2.2] 133 (0, 0))) : ∀ j u, (cels [x])[j]? = some u → w.cell? ((⟨vb, 0, none⟩ : Addr).add j) = some u := by
  intro j u hj
  rw [Addr.add_lit, Nat.zero_add]
  simp only [World.cell?, hv]
  have : j = 0 ∨ j = 1 ∨ j = 2 := by
    have := (List.getElem?_eq_some_iff.1 hj).1
    simp [cels_length] at this; omega
  rcases this with rfl | rfl | rfl <;> simpa [cels_cons] using hj

/-- Put in, in an array of cells. -/
theorem put_in {cur : Array Value} {n cap i : Nat} {rs : List Rt} {x : Rt} (hl : rs.length = n) (hi : i ≤ n) (hroom : n + 1 ≤ cap) (hs : cur.size = cap * 3) (ht : cur.toList.take (i * 3) = cels (rs.take i)) (hmid : (cur.toList.drop ((i + 1) * 3)).take ((n - i) * 3) = cels (rs.drop i)) :
    (cur.toList.take (i * 3) ++ cels [x] ++ cur.toList.drop (i * 3 + (cels [x]).length)).toArray.size = cap * 3 ∧ (cur.toList.take (i * 3) ++ cels [x] ++ cur.toList.drop (i * 3 + (cels [x]).length)).toArray.toList.take ((n + 1) * 3) = cels (rs.take i ++ x :: rs.drop i) := by
  have h3 : (cels [x]).length = 3 := by rw [cels_length]; rfl
  have hli : (rs.take i).length = i := by rw [List.length_take, hl]; omega
  refine ⟨?_, ?_⟩
  · simp only [List.size_toArray, List.length_append, List.length_take, List.length_drop, Array.length_toList, h3]; omega
  · rw [h3, show i * 3 + 3 = (i + 1) * 3 by omega]
    show (cur.toList.take (i * 3) ++ cels [x] ++ cur.toList.drop ((i + 1) * 3)).take ((n + 1) * 3) = _
    rw [List.take_append, ht]
    have e1 : (cels (rs.take i) ++ cels [x]).length = (i + 1) * 3 := by rw [List.length_append, cels_length, h3, hli]; omega
    rw [List.take_of_length_le (by rw [e1]; omega), e1, show (n + 1) * 3 - (i + 1) * 3 = (n - i) * 3 by omega, hmid, ← cels_append, ← cels_append]
    simp

set_option maxRecDepth 20000 in
set_option maxHeartbeats 1000000 in
theorem insert_shift (w : World) (g n cap i vb : Nat) (cur : Array Value) (rs : List Rt) (x : Rt) (h : RowIs w g n cap cur rs) (hi : i < n) (hroom : n + 1 ≤ cap) (hm : n ≤ 1000) (hne : vb ≠ g) (hv : w.heap[vb]? = some (.cells #[iv x.1, iv x.2.1, iv x.2.2] 133 (0, 0))) :
    Calls Tryz.prog 119 #[.slice (some ⟨g, 0, none⟩) n cap, .int .i64 i, .slice (some ⟨vb, 0, none⟩) 1 1] w fun e w' => e = .returned (.slice (some ⟨g, 0, none⟩) (n + 1) cap) ∧ ∃ cur', w' = w.drew.setRow g cur' ∧ RowIs w' g (n + 1) cap cur' (rs.take i ++ x :: rs.drop i) := by
  have hmax : cap ≤ 9223372036854775807 := h.max
  have hov : ∀ lb cb, (callFunc 155 #[.slice (some ⟨vb, 0, none⟩) 1 1, .slice (some ⟨g, (i + 1) * 3, none⟩) lb cb]).run Tryz.prog w = .ok (.value (.bool false)) w := fun lb cb => by
    rw [run_callFunc_extern Tryz.func155 (by kernel_rfl) (by kernel_rfl) (by kernel_rfl) (e := Extern.SlicesOverlaps.overlaps #[108, 108] #[4]) (by kernel_rfl),
      Lib.run_overlaps_apart w 108 4 133 Tryz.underlying108 3 size_run ⟨vb, 0, none⟩ ⟨g, (i + 1) * 3, none⟩ 1 1 lb cb hne 133 133 3 cur.size (by simp [World.shape?, hv]) (by simp [World.shape?, h.block]) (by have := h.size; omega) (by simp [World.frozen?, hv]) (by simp [World.frozen?, hv])]
    rfl
  have hdl : (cels (rs.drop i)).length = (n - i) * 3 := by rw [cels_length, List.length_drop, h.len]
  have hsz := h.size
  obtain ⟨cur1, hcur1⟩ : ∃ cur1 : Array Value, cur1 = (cur.toList.take ((i + 1) * 3) ++ cels (rs.drop i) ++ cur.toList.drop ((i + 1) * 3 + (cels (rs.drop i)).length)).toArray := ⟨_, rfl⟩
  have hcp1 : Hid (∀ ty dc sc, (Builtin.copy_ #[108, 108] ty #[.slice (some ⟨g, (i + 1) * 3, none⟩) (n - i) dc, .slice (some ⟨g, i * 3, none⟩) (n + 1 - i) sc]).run Tryz.prog w.drew = .ok (goInt (Nat.min (n + 1 - i) (n - i))) (w.drew.setRow g cur1)) := fun ty dc sc => by
    rw [hcur1]
    refine run_copy_row3 w.drew 108 108 ty 133 g ((i + 1) * 3) (n - i) dc ⟨g, i * 3, none⟩ (n + 1 - i) sc cur 133 (cels (rs.drop i)) Tryz.underlying108 Tryz.size133 h.block ?_ ?_ ?_ (cels_one _)
    · rw [hdl]; simp only [Nat.min_def]; split <;> omega
    · intro j u hj
      rw [Addr.add_lit]
      show w.cell? _ = _
      refine h.cell _ _ ?_
      rw [← cels_drop, List.getElem?_drop] at hj
      exact hj
    · rw [hdl]; omega
  obtain ⟨W1, hW1⟩ : ∃ W1, W1 = w.drew.setRow g cur1 := ⟨_, rfl⟩
  have hb1 : W1.heap[g]? = some (.cells cur1 133 (0, 0)) := by rw [hW1]; exact setRow_heap _ g cur cur1 _ _ h.block
  have hv1 : W1.heap[vb]? = some (.cells #[iv x.1, iv x.2.1, iv x.2.2] 133 (0, 0)) := by rw [hW1, setRow_other _ g vb _ hne]; exact hv
  have hs1 : cur1.size = cap * 3 := by
    rw [hcur1]; simp only [List.size_toArray, List.length_append, List.length_take, List.length_drop, Array.length_toList, hdl]; omega
  obtain ⟨cur2, hcur2⟩ : ∃ cur2 : Array Value, cur2 = (cur1.toList.take (i * 3) ++ cels [x] ++ cur1.toList.drop (i * 3 + (cels [x]).length)).toArray := ⟨_, rfl⟩
  have hcp2 : Hid (∀ ty dc, (Builtin.copy_ #[108, 108] ty #[.slice (some ⟨g, i * 3, none⟩) (n + 1 - i) dc, .slice (some ⟨vb, 0, none⟩) 1 1]).run Tryz.prog W1 = .ok (goInt (Nat.min 1 (n + 1 - i))) (W1.setRow g cur2)) := fun ty dc => by
    rw [hcur2]
    refine run_copy_row3 W1 108 108 ty 133 g (i * 3) (n + 1 - i) dc ⟨vb, 0, none⟩ 1 1 cur1 133 (cels [x]) Tryz.underlying108 Tryz.size133 hb1 ?_ (one_cells hv1) ?_ (cels_one _)
    · rw [cels_length]; simp only [Nat.min_def, List.length_cons, List.length_nil]; split <;> omega
    · rw [cels_length, hs1]; simp; omega
  have hend : RowIs (w.drew.setRow g cur2) g (n + 1) cap cur2 (rs.take i ++ x :: rs.drop i) := by
    have e1 : cur1.toList.take (i * 3) = cels (rs.take i) := by
      rw [hcur1]
      show (cur.toList.take ((i + 1) * 3) ++ cels (rs.drop i) ++ _).take (i * 3) = _
      rw [List.append_assoc, List.take_append_of_le_length (by simp only [List.length_take, Array.length_toList]; omega), List.take_take, ← cels_take, ← h.take, List.take_take]
      congr 1; omega
    have e2 : (cur1.toList.drop ((i + 1) * 3)).take ((n - i) * 3) = cels (rs.drop i) := by
      rw [hcur1]
      show ((cur.toList.take ((i + 1) * 3) ++ cels (rs.drop i) ++ _).drop ((i + 1) * 3)).take _ = _
      have hl : (cur.toList.take ((i + 1) * 3)).length = (i + 1) * 3 := by simp only [List.length_take, Array.length_toList]; omega
      rw [List.append_assoc]
      conv => lhs; arg 2; arg 1; rw [← hl]
      rw [List.drop_left, ← hdl]
      exact List.take_left
    obtain ⟨p1, p2⟩ := put_in (x := x) h.len (by omega) hroom hs1 e1 e2
    rw [← hcur2] at p1 p2
    refine ⟨setRow_heap _ g cur cur2 _ _ h.block, ?_, hroom, h.max, p1, p2⟩
    have := h.len
    simp; omega
  have HE : Hid _ := hend
  have HW : Hid (W1 = w.drew.setRow g cur1) := hW1
  have hcn : n ≤ cap := by omega
  have hic : ¬ (cap = i) := by omega
  have hic1 : ¬ (cap = i + 1) := by omega
  have hin : i ≤ n := by omega
  have hii : ¬ ((i : Int) = (n : Int)) := by omega
  have htn : ((i : Int) + 1).toNat = i + 1 := by omega
  have htn2 : ((n : Int) + 1).toNat = n + 1 := by omega
  have hw1 : IntKind.i64.wrap ((i : Int) + 1) = (i : Int) + 1 := by rw [IntKind.wrap_i64]; omega
  have hbz : (0 : Int) ≤ (i : Int) + 1 := by omega
  have hb3 : (i : Int) + 1 ≤ (n : Int) + 1 := by omega
  have hb4 : (i : Int) ≤ (n : Int) + 1 := by omega
  clear hend hW1 hcur2 hcur1 hb1 hv1 hv h hdl hs1 hsz
  go_enter Tryz.func119, Tryz.ntmps119
  go_wp2_with (simp only [hov])
  go_region_law (refine step_copy_eq rfl (.tmp 73) (.tmp 76) 108 108 rfl (.slice (some ⟨g, (i + 1) * 3, none⟩) (n - i) (cap - (i + 1))) (.slice (some ⟨g, i * 3, none⟩) (n + 1 - i) (cap - i)) (by simp [Act.eval, Act.put]) (by simp [Act.eval, Act.put]) (hcp1.out _ _ _) ?_; rw [← HW.out])
  have hc2 := hcp2.out 3 (cap - i)
  go_wp2
  go_ret
  refine ⟨rfl, cur2, ?_, ?_⟩
  · rw [HW.out, setRow_setRow]
  · rw [HW.out, setRow_setRow]; exact HE.out

set_option maxRecDepth 20000 in
set_option maxHeartbeats 1000000 in
theorem insert_grow (w : World) (g n cap i vb : Nat) (cur : Array Value) (rs : List Rt) (x : Rt) (h : RowIs w g n cap cur rs) (hi : i < n) (hroom : cap < n + 1) (hm : n ≤ 1000) (hv : w.heap[vb]? = some (.cells #[iv x.1, iv x.2.1, iv x.2.2] 133 (0, 0))) :
    Calls Tryz.prog 119 #[.slice (some ⟨g, 0, none⟩) n cap, .int .i64 i, .slice (some ⟨vb, 0, none⟩) 1 1] w fun e w' => ∃ c cur', e = .returned (.slice (some ⟨w.heap.size, 0, none⟩) (n + 1) c) ∧ w.grownBy w' none ∧ RowIs w' w.heap.size (n + 1) c cur' (rs.take i ++ x :: rs.drop i) := by
  obtain ⟨i0, hi0, hz0, hz1, hz2⟩ := info_parts Tryz.info133
  have hcn : n ≤ cap := h.le
  obtain ⟨G, hG⟩ : ∃ G, G = grownCap w (n + 1) cap 133 := ⟨_, rfl⟩
  have hGn : n + 1 ≤ G := by rw [hG]; exact grownCap_ge w _ _ _
  have hGm : G ≤ maxLen := by rw [hG]; exact grownCap_le_maxLen w _ _ _ (by unfold maxLen; omega)
  have hG63 : G ≤ 9223372036854775807 := hGm
  have hli : (rs.take i).length = i := by rw [List.length_take, h.len]; omega
  have hdl : (cels (rs.drop i)).length = (n - i) * 3 := by rw [cels_length, List.length_drop, h.len]
  have h3 : (cels [x]).length = 3 := by rw [cels_length]; rfl
  have hgw : g < w.heap.size := lt_of_block h.block
  have hvw : vb < w.heap.size := lt_of_block hv
  obtain ⟨ROW, hROW⟩ : ∃ ROW : Array Value, ROW = (cels (rs.take i)).toArray ++ Builtin.zeroCells (Value.agg #[iv 0, iv 0, iv 0]).cells (n + 1 - i) ++ Builtin.zeroCells (Value.agg #[iv 0, iv 0, iv 0]).cells (G - (n + 1)) := ⟨_, rfl⟩
  have hRs : ROW.size = G * 3 := by
    rw [hROW]
    simp only [Array.size_append, List.size_toArray, size_zeroCells, cels_length, hli]
    show i * 3 + (n + 1 - i) * 3 + (G - (n + 1)) * 3 = G * 3
    omega
  have hRt : ROW.toList.take (i * 3) = cels (rs.take i) := by
    rw [hROW]
    simp only [Array.toList_append, List.append_assoc]
    have : (cels (rs.take i)).length = i * 3 := by rw [cels_length, hli]
    rw [← this]
    exact List.take_left
  obtain ⟨W1, hW1⟩ : ∃ W1, W1 = w.drew.alloc (.cells ROW 133) := ⟨_, rfl⟩
  have hold : (Builtin.firstCells i0.size i (.slice (some ⟨g, 0, none⟩) i cap)).run Tryz.prog w.drew = .ok (cels (rs.take i)).toArray w.drew := by
    rw [hz1]
    refine run_firstCells_some w.drew 3 i ⟨g, 0, none⟩ i cap (cels (rs.take i)) (by rw [cels_length, hli]) (fun j v hj => ?_)
    rw [Addr.add_lit, Nat.zero_add]
    show w.cell? _ = _
    refine h.cell j v ?_
    rw [← cels_take] at hj
    rw [List.getElem?_take] at hj
    split at hj
    · exact hj
    · cases hj
  have hik : i + (n + 1 - i) = n + 1 := by omega
  have hkk : (n : Int) + 1 - (i : Int) = ((n + 1 - i : Nat) : Int) := by omega
  have hrz : Hid (∀ ty, (Builtin.append_ #[108, 3] ty #[.slice (some ⟨g, 0, none⟩) i cap, .int .i64 ((n : Int) + 1 - (i : Int))]).run Tryz.prog w = .ok (.slice (some ⟨w.heap.size, 0, none⟩) (n + 1) G) W1) := fun ty => by
    have hh := Lib.run_append_grow_zeros w 108 3 ty 133 i0 _ .i64 .i64 Tryz.underlying108 Tryz.underlying3 hi0 hz0 (some ⟨g, 0, none⟩) i cap (cels (rs.take i)) hold (n + 1 - i) (by omega) (by omega) (by omega) (by omega) (by rw [hz2]; omega) (by rw [hz2, hik]; exact growslice_fits hroom (by omega))
    rw [hik, ← hG, ← hROW, ← hW1] at hh
    rw [hkk]
    exact hh
  have hb1 : W1.heap[w.heap.size]? = some (.cells ROW 133 (0, 0)) := by rw [hW1]; exact heap_alloc_new w.drew _
  have ho1 : ∀ k, k < w.heap.size → W1.heap[k]? = w.heap[k]? := fun k hk => by rw [hW1]; exact (World.grownBy_alloc w.drew _ none).block k hk (by simp)
  obtain ⟨c2, hc2⟩ : ∃ c2 : Array Value, c2 = (ROW.toList.take (i * 3) ++ cels [x] ++ ROW.toList.drop (i * 3 + (cels [x]).length)).toArray := ⟨_, rfl⟩
  obtain ⟨W2, hW2⟩ : ∃ W2, W2 = W1.setRow w.heap.size c2 := ⟨_, rfl⟩
  have hcpA : Hid (∀ ty dc, (Builtin.copy_ #[108, 108] ty #[.slice (some ⟨w.heap.size, i * 3, none⟩) (n + 1 - i) dc, .slice (some ⟨vb, 0, none⟩) 1 1]).run Tryz.prog W1 = .ok (goInt (Nat.min 1 (n + 1 - i))) W2) := fun ty dc => by
    rw [hW2, hc2]
    refine run_copy_row3 W1 108 108 ty 133 w.heap.size (i * 3) (n + 1 - i) dc ⟨vb, 0, none⟩ 1 1 ROW 133 (cels [x]) Tryz.underlying108 Tryz.size133 hb1 ?_ (one_cells (by rw [ho1 vb hvw]; exact hv)) ?_ (cels_one _)
    · rw [cels_length]; simp only [Nat.min_def, List.length_cons, List.length_nil]; split <;> omega
    · rw [h3, hRs]; omega
  have hb2 : W2.heap[w.heap.size]? = some (.cells c2 133 (0, 0)) := by rw [hW2]; exact setRow_heap _ _ ROW c2 _ _ hb1
  have ho2 : ∀ k, k < w.heap.size → W2.heap[k]? = w.heap[k]? := fun k hk => by rw [hW2, setRow_other _ _ k _ (by omega)]; exact ho1 k hk
  have hs2 : c2.size = G * 3 := by
    rw [hc2]; simp only [List.size_toArray, List.length_append, List.length_take, List.length_drop, Array.length_toList, h3]; omega
  obtain ⟨c3, hc3⟩ : ∃ c3 : Array Value, c3 = (c2.toList.take ((i + 1) * 3) ++ cels (rs.drop i) ++ c2.toList.drop ((i + 1) * 3 + (cels (rs.drop i)).length)).toArray := ⟨_, rfl⟩
  obtain ⟨W3, hW3⟩ : ∃ W3, W3 = W2.drew.setRow w.heap.size c3 := ⟨_, rfl⟩
  have hcpB : Hid (∀ ty dc sc, (Builtin.copy_ #[108, 108] ty #[.slice (some ⟨w.heap.size, (i + 1) * 3, none⟩) (n - i) dc, .slice (some ⟨g, i * 3, none⟩) (n - i) sc]).run Tryz.prog W2.drew = .ok (goInt (Nat.min (n - i) (n - i))) W3) := fun ty dc sc => by
    rw [hW3, hc3]
    refine run_copy_row3 W2.drew 108 108 ty 133 w.heap.size ((i + 1) * 3) (n - i) dc ⟨g, i * 3, none⟩ (n - i) sc c2 133 (cels (rs.drop i)) Tryz.underlying108 Tryz.size133 hb2 ?_ ?_ ?_ (cels_one _)
    · rw [hdl]; simp only [Nat.min_def]; split <;> omega
    · intro j u hj
      rw [Addr.add_lit]
      show W2.cell? _ = _
      rw [World.cell?_of_block (a := ⟨g, i * 3 + j, none⟩) (ho2 g hgw)]
      refine h.cell _ _ ?_
      rw [← cels_drop, List.getElem?_drop] at hj
      exact hj
    · rw [hdl, hs2]; omega
  have hb3 : W3.heap[w.heap.size]? = some (.cells c3 133 (0, 0)) := by rw [hW3]; exact setRow_heap W2.drew _ c2 c3 _ _ hb2
  have ho3 : ∀ k, k < w.heap.size → W3.heap[k]? = w.heap[k]? := fun k hk => by rw [hW3, setRow_other _ _ k _ (by omega)]; exact ho2 k hk
  have HE : Hid (w.grownBy W3 none ∧ RowIs W3 w.heap.size (n + 1) G c3 (rs.take i ++ x :: rs.drop i)) := by
    refine ⟨⟨?_, ?_, ?_, ?_, fun k hk _ => ho3 k hk⟩, hb3, ?_, hGn, hGm, ?_, ?_⟩
    · rw [hW3, hW2, hW1]; rfl
    · rw [hW3, hW2, hW1]; rfl
    · rw [hW3, hW2, hW1]; rfl
    · rw [hW3, hW2, hW1]; simp
    · have := h.len; simp; omega
    · rw [hc3]; simp only [List.size_toArray, List.length_append, List.length_take, List.length_drop, Array.length_toList, hdl]; omega
    · have e1 : c2.toList.take ((i + 1) * 3) = cels (rs.take i) ++ cels [x] := by
        rw [hc2, hRt]
        exact take_parts _ _ _ _ (by rw [cels_length, hli, h3]; omega)
      rw [hc3, e1]
      have := take_parts (cels (rs.take i) ++ cels [x]) (cels (rs.drop i)) (c2.toList.drop ((i + 1) * 3 + (cels (rs.drop i)).length)) ((n + 1) * 3) (by rw [List.length_append, cels_length, hli, h3, hdl]; omega)
      show (cels (rs.take i) ++ cels [x] ++ cels (rs.drop i) ++ _).take _ = _
      rw [this, ← cels_append, ← cels_append]
      simp
  have hic : ¬ (cap = i) := by omega
  have hGi : ¬ (G = i) := by omega
  have hGi1 : ¬ (G = i + 1) := by omega
  have hii : ¬ ((i : Int) = (n : Int)) := by omega
  have htn : ((i : Int) + 1).toNat = i + 1 := by omega
  have hw1 : IntKind.i64.wrap ((i : Int) + 1) = (i : Int) + 1 := by rw [IntKind.wrap_i64]; omega
  have hbz : (0 : Int) ≤ (i : Int) + 1 := by omega
  have hbb : (i : Int) + 1 ≤ (n : Int) + 1 := by omega
  have hb4 : (i : Int) ≤ (n : Int) := by omega
  have hin : i ≤ n := by omega
  have hcm : cap ≤ 9223372036854775807 := h.max
  have hcc : (cap : Int) < (n : Int) + 1 := by omega
  clear hG hROW hRs hRt hW1 hold hik hkk hb1 ho1 hc2 hW2 hb2 ho2 hs2 hc3 hW3 hb3 ho3 hdl h3 hli h hv
  have hA := hcpA.out 3 (G - i)
  go_enter Tryz.func119, Tryz.ntmps119
  go_wp2_with (at_builtin; refine Lib.wpList_append_run _ rfl _ _ _ _ rfl _ _ rfl rfl _ _ (hrz.out _) ?_)
  go_region_law (refine step_copy_eq rfl (.tmp 50) (.tmp 53) 108 108 rfl (.slice (some ⟨w.heap.size, (i + 1) * 3, none⟩) (n - i) (G - (i + 1))) (.slice (some ⟨g, i * 3, none⟩) (n - i) (cap - i)) (by simp [Act.eval, Act.put]) (by simp [Act.eval, Act.put]) (hcpB.out _ _ _) ?_)
  go_wp2
  go_ret
  exact ⟨G, c3, rfl, HE.out⟩

end Go.Proofs.YtfcknkanbcndjagGreatDoor
