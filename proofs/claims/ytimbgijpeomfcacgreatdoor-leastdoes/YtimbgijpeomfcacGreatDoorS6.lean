import Derived.Test.YtimbgijpeomfcacGreatDoorS3
/- CONTRACTS: slices.Delete and slices.Insert at a row of routes: one route is taken out; one is put in. -/
namespace Go.Proofs.YtimbgijpeomfcacGreatDoor
open Go.RowKit
attribute [local go_sem] Ext.all Ext.cell Ext.frozen Ext.lt Ext.lt1 Ext.lt2 Ext.ne Ext.ne'

/-- A row whose first cells are these routes. -/
structure RowIs (w : World) (g n cap : Nat) (cur : Array Value) (rs : List Rt) : Prop where
  block : w.heap[g]? = some (.cells cur 49 (0, 0))
  len : rs.length = n
  le : n ≤ cap
  max : cap ≤ maxLen
  size : cur.size = cap * 3
  take : cur.toList.take (n * 3) = cels rs

theorem RowIs.cell {w : World} {g n cap : Nat} {cur : Array Value} {rs : List Rt} (h : RowIs w g n cap cur rs) (j : Nat) (u : Value) (hj : (cels rs)[j]? = some u) : w.cell? ⟨g, j, none⟩ = some u := by
  have hl : j < n * 3 := by
    have := (List.getElem?_eq_some_iff.1 hj).1
    rwa [cels_length, h.len] at this
  rw [← h.take, List.getElem?_take_of_lt hl] at hj
  simp [World.cell?, h.block]
  simpa using hj

theorem take_parts {α : Type} (a b c : List α) (k : Nat) (h : a.length + b.length = k) : (a ++ b ++ c).take k = a ++ b := by
  rw [← h, ← List.length_append]; exact List.take_left

theorem zeros3 : (Builtin.zeroCells (Value.agg #[iv 0, iv 0, iv 0]).cells 1).toList = [iv 0, iv 0, iv 0] := by kernel_rfl
theorem zero_run (w : World) : (zeroValue 49).run Tryz.prog w = .ok (.agg #[iv 0, iv 0, iv 0]) w := by
  obtain ⟨i0, hi, hz0, hz1, hz2⟩ := info_parts Tryz.info49
  simp [zeroValue, typeInfo, hi, hz0]

set_option maxRecDepth 20000 in
theorem delete_any (w : World) (g n cap i j : Nat) (cur : Array Value) (rs : List Rt) (h : RowIs w g n cap cur rs) (hj1 : j = i + 1) (hj2 : j ≤ n) (hm : n ≤ 1000) :
    Calls Tryz.prog 38 #[.slice (some ⟨g, 0, none⟩) n cap, .int .i64 i, .int .i64 j] w fun e w' => e = .returned (.slice (some ⟨g, 0, none⟩) (n - 1) cap) ∧ ∃ cur', w' = w.drew.setRow g cur' ∧ RowIs w' g (n - 1) cap cur' (rs.take i ++ rs.drop j) := by
  obtain ⟨i0, hi0, hz0, hz1, hz2⟩ := info_parts Tryz.info49
  have hmax : cap ≤ 9223372036854775807 := h.max
  have hcap := h.le
  have hlt : i < j := by omega
  have HJ : Hid (j = i + 1) := hj1
  clear hj1
  have hic : i ≤ cap := by omega
  have hjc : j ≤ cap := by omega
  have hne : ¬ (i = j) := by omega
  have hkn : i + (n - j) = n - 1 := by have := HJ.out; omega
  -- behind the append
  obtain ⟨cur1, hcur1⟩ : ∃ cur1 : Array Value, cur1 = (cur.toList.take (i * 3) ++ cels (rs.drop j) ++ cur.toList.drop (i * 3 + (cels (rs.drop j)).length)).toArray := ⟨_, rfl⟩
  have hdl : (cels (rs.drop j)).length = (n - j) * 3 := by rw [cels_length, List.length_drop, h.len]
  have hsz := h.size
  have hsz1 : cur1.size = cap * 3 := by
    rw [hcur1]; simp only [List.size_toArray, List.length_append, List.length_take, List.length_drop, Array.length_toList, hdl]; omega
  obtain ⟨A, hA, hsrc⟩ : ∃ A : Addr, (if cap = j then some (⟨g, 0, none⟩ : Addr) else some ⟨g, j * 3, none⟩) = some A ∧ Hid (∀ t u, (cels (rs.drop j))[t]? = some u → w.drew.cell? (A.add t) = some u) := by
    by_cases hc : cap = j
    · refine ⟨⟨g, 0, none⟩, by simp [hc], fun t u hu => ?_⟩
      have : cels (rs.drop j) = [] := List.eq_nil_of_length_eq_zero (by rw [hdl]; omega)
      rw [this] at hu; simp at hu
    · refine ⟨⟨g, j * 3, none⟩, by simp [hc], fun t u hu => ?_⟩
      rw [Addr.add_lit]
      show w.cell? _ = _
      refine h.cell _ _ ?_
      rw [← cels_drop, List.getElem?_drop] at hu
      exact hu
  have hrun : Hid (∀ ty, (Builtin.append_ #[22, 22] ty #[.slice (some ⟨g, 0, none⟩) i cap, .slice (some A) (n - j) (cap - j)]).run Tryz.prog w.drew = .ok (.slice (some ⟨g, 0, none⟩) (i + (n - j)) cap) (w.drew.setRow g cur1)) := fun ty => by
    have := run_append_room (P := Tryz.prog) w.drew 22 ty 49 i0 Tryz.underlying22 hi0 g i cap cur h.block A (n - j) (cap - j) (cels (rs.drop j)) (by rw [hz1, hdl]) hsrc.out (cels_one _) (by omega) (by rw [hz1, hdl]; omega)
    rw [hz1, ← hcur1] at this
    exact this
  obtain ⟨W1, hW1⟩ : ∃ W1, W1 = w.drew.setRow g cur1 := ⟨_, rfl⟩
  have hb1 : W1.heap[g]? = some (.cells cur1 49 (0, 0)) := by rw [hW1]; exact setRow_heap _ g cur cur1 _ _ h.block
  obtain ⟨cur2, hcur2⟩ : ∃ cur2 : Array Value, cur2 = (cur1.toList.take ((n - 1) * 3) ++ [iv 0, iv 0, iv 0] ++ cur1.toList.drop ((n - 1) * 3 + 3)).toArray := ⟨_, rfl⟩
  have hcl : ∀ ty c, (Builtin.clear_ #[22] ty #[.slice (some ⟨g, (n - 1) * 3, none⟩) 1 c]).run Tryz.prog W1 = .ok (.tuple #[]) (W1.setRow g cur2) := fun ty c => by
    have := run_clear_row3 (P := Tryz.prog) W1 22 49 ty _ Tryz.underlying22 zero_run _ zeros3 (by intro v hv; simp at hv; rw [hv]; rfl) g ((n - 1) * 3) c cur1 _ hb1 (by simp; omega)
    simp only [List.length_cons, List.length_nil] at this
    rw [this, hcur2]
  have hend : RowIs (w.drew.setRow g cur2) g (n - 1) cap cur2 (rs.take i ++ rs.drop j) := by
    have hl : (rs.take i).length = i := by rw [List.length_take, h.len]; omega
    refine ⟨setRow_heap _ g cur cur2 _ _ h.block, by rw [List.length_append, List.length_drop, h.len, hl]; omega, by omega, h.max, ?_, ?_⟩
    · rw [hcur2]; simp only [List.size_toArray, List.length_append, List.length_take, List.length_drop, Array.length_toList, List.length_cons, List.length_nil]; omega
    · have e1 : cur.toList.take (i * 3) = cels (rs.take i) := by
        rw [← cels_take, ← h.take, List.take_take]; congr 1; omega
      have e2 : cur1.toList.take ((n - 1) * 3) = cels (rs.take i ++ rs.drop j) := by
        rw [hcur1, e1, cels_append]
        exact take_parts _ _ _ _ (by rw [cels_length, cels_length, hl, List.length_drop, h.len]; omega)
      rw [hcur2, e2]
      show ((cels (rs.take i ++ rs.drop j) ++ [iv 0, iv 0, iv 0] ++ cur1.toList.drop _).take ((n - 1) * 3)) = _
      rw [List.append_assoc]
      have : (cels (rs.take i ++ rs.drop j)).length = (n - 1) * 3 := by rw [cels_length, List.length_append, hl, List.length_drop, h.len]; omega
      rw [← this]; exact List.take_left
  have HE : Hid _ := hend
  have HW : Hid (W1 = w.drew.setRow g cur1) := hW1
  have h1n : ¬ (cap = n - 1) := by have := HJ.out; omega
  have hnn : n - (n - 1) = 1 := by have := HJ.out; omega
  clear hend hW1 hcur2 hcur1 hb1 h hdl
  have hpn : n - 1 ≤ n := by omega
  have hpc : n - 1 ≤ cap := by omega
  generalize n - 1 = p at *
  go_enter Tryz.func38, Tryz.ntmps38
  go_wp2_with fail
  go_region_law (refine step_append_eq rfl _ _ 22 22 rfl _ _ (by simp [Act.eval, Act.put]) (by simp [Act.eval, Act.put]) (hrun.out _) ?_; rw [← HW.out, hkn])
  go_wp2
  go_ret
  refine ⟨rfl, cur2, ?_, ?_⟩
  · rw [HW.out, setRow_setRow]
  · rw [HW.out, setRow_setRow]; exact HE.out

end Go.Proofs.YtimbgijpeomfcacGreatDoor

/- CONTRACT: slices.Insert at a row of routes that the program owns: one route is put in. -/
namespace Go.Proofs.YtimbgijpeomfcacGreatDoor
open Go.RowKit
attribute [local go_sem] Ext.all Ext.cell Ext.frozen Ext.lt Ext.lt1 Ext.lt2 Ext.ne Ext.ne'

theorem RowIs.own {w : World} {g n cap : Nat} {cur : Array Value} {rs : List Rt} (h : RowIs w g n cap cur rs) : w.ownsRow 0 49 3 (.slice (some ⟨g, 0, none⟩) n cap) n (cels rs) :=
  ⟨by rw [cels_length, h.len], .inr ⟨g, cap, cur, rfl, Nat.zero_le _, h.block, h.le, h.max, h.size, h.take⟩⟩
theorem own_base {w : World} {base e size n : Nat} {v : Value} {xs : List Value} (h : w.ownsRow base e size v n xs) : w.ownsRow 0 e size v n xs := by
  refine ⟨h.1, ?_⟩
  rcases h.2 with hn | ⟨g, cap, cur, rfl, hb, rest⟩
  · exact .inl hn
  · exact .inr ⟨g, cap, cur, rfl, Nat.zero_le _, rest⟩
theorem own_rowIs {w : World} {v : Value} {n : Nat} {rs : List Rt} (h : w.ownsRow 0 49 3 v n (cels rs)) : (v = .slice none 0 0 ∧ n = 0 ∧ rs = []) ∨ ∃ g cap cur, v = .slice (some ⟨g, 0, none⟩) n cap ∧ RowIs w g n cap cur rs := by
  have hl : rs.length = n := by have := h.1; rw [cels_length] at this; omega
  rcases h.2 with ⟨rfl, rfl⟩ | ⟨g, cap, cur, rfl, hb, hg, hn, hc, hs, ht⟩
  · exact .inl ⟨rfl, rfl, List.eq_nil_of_length_eq_zero hl⟩
  · exact .inr ⟨g, cap, cur, rfl, hg, hl, hn, hc, hs, ht⟩

/-- What is left behind: the row in its place, or in a new one. -/
def Moved (w w' : World) (v v' : Value) : Prop := w.grownBy w' v.ownBlock ∧ (v'.ownBlock = v.ownBlock ∨ ∀ k, v'.ownBlock = some k → w.heap.size ≤ k)

theorem moved_setRow {w : World} {g n m cap cap' : Nat} (cur : Array Value) : Moved w (w.drew.setRow g cur) (.slice (some ⟨g, 0, none⟩) n cap) (.slice (some ⟨g, 0, none⟩) m cap') :=
  ⟨⟨rfl, rfl, rfl, by simp, fun k _ hk => setRow_other w.drew g k _ (fun e => hk (by simp [Value.ownBlock, e]))⟩, .inl rfl⟩

/-- 'append(s, r)' at a row that is owned. -/
theorem app_one (w : World) (v : Value) (n vb : Nat) (rs : List Rt) (x : Rt) (ty : TypeId) (h : w.ownsRow 0 49 3 v n (cels rs)) (hv : w.heap[vb]? = some (.cells #[iv x.1, iv x.2.1, iv x.2.2] 49 (0, 0))) (hm : n ≤ 1000) :
    ∃ v' w', (Builtin.append_ #[22, 22] ty #[v, .slice (some ⟨vb, 0, none⟩) 1 1]).run Tryz.prog w = .ok v' w' ∧ w'.ownsRow 0 49 3 v' (n + 1) (cels (rs ++ [x])) ∧ Moved w w' v v' ∧ ∃ ao c, v' = .slice ao (n + 1) c := by
  obtain ⟨i0, hi, hz0, hz1, hz2⟩ := info_parts Tryz.info49
  have hnews : ∀ j u, (cels [x])[j]? = some u → w.cell? ((⟨vb, 0, none⟩ : Addr).add j) = some u := by
    intro j u hj
    rw [Addr.add_lit, Nat.zero_add]
    simp only [World.cell?, hv]
    have : j = 0 ∨ j = 1 ∨ j = 2 := by
      have := (List.getElem?_eq_some_iff.1 hj).1
      simp [cels_length] at this; omega
    rcases this with rfl | rfl | rfl <;> simpa [cels_cons] using hj
  rcases own_rowIs h with ⟨rfl, rfl, rfl⟩ | ⟨g, cap, cur, rfl, hR⟩
  · obtain ⟨v', w', h1, h2, h3, _⟩ := run_append_own (P := Tryz.prog) w w.heap.size 22 ty 49 i0 _ 3 24 Tryz.underlying22 hi hz0 hz1 hz2 (by rfl) (by decide) (.slice none 0 0) 0 [] (World.ownsRow_nil _ _ _ _)
      ⟨vb, 0, none⟩ 1 1 (cels [x]) (by rw [cels_length]; rfl) hnews (cels_one _) (by unfold maxLen; omega) (by omega) (Nat.le_refl _)
    obtain ⟨ao, c, hs, _⟩ := own_shape h2
    exact ⟨v', w', h1, by have := own_base h2; simpa using this, ⟨h3, .inr fun k hk => (h2.lt k hk).1⟩, ao, c, hs⟩
  · by_cases hroom : n + 1 ≤ cap
    · have hr := run_append_room (P := Tryz.prog) w 22 ty 49 i0 Tryz.underlying22 hi g n cap cur hR.block ⟨vb, 0, none⟩ 1 1 (cels [x]) (by rw [cels_length, hz1]; rfl) hnews (cels_one _) hroom (by rw [hz1, cels_length, hR.size]; simp; omega)
      rw [hz1] at hr
      refine ⟨_, _, hr, ?_, ⟨⟨rfl, rfl, rfl, by simp, fun k _ hk => setRow_other w g k _ (fun e => hk (by simp [Value.ownBlock, e]))⟩, .inl rfl⟩, _, _, rfl⟩
      have : RowIs (w.setRow g (cur.toList.take (n * 3) ++ cels [x] ++ cur.toList.drop (n * 3 + (cels [x]).length)).toArray) g (n + 1) cap (cur.toList.take (n * 3) ++ cels [x] ++ cur.toList.drop (n * 3 + (cels [x]).length)).toArray (rs ++ [x]) := by
        refine ⟨setRow_heap _ g cur _ _ _ hR.block, by simp [hR.len], hroom, hR.max, ?_, ?_⟩
        · have := hR.size
          simp only [List.size_toArray, List.length_append, List.length_take, List.length_drop, Array.length_toList, cels_length, List.length_cons, List.length_nil]; omega
        · rw [hR.take, cels_append]
          exact take_parts _ _ _ _ (by rw [cels_length, cels_length, hR.len]; simp; omega)
      exact this.own
    · have hr := run_append_grow (P := Tryz.prog) w 22 ty 49 i0 _ Tryz.underlying22 hi hz0 ⟨g, 0, none⟩ n cap (cels rs) (by rw [cels_length, hR.len, hz1]) (fun j u hj => by rw [Addr.add_lit, Nat.zero_add]; exact hR.cell j u hj)
        ⟨vb, 0, none⟩ 1 1 (cels [x]) (by rw [cels_length, hz1]; rfl) hnews (by omega) (by omega) (by rw [hz2]; exact growslice_fits (by omega) (by omega))
      have hge := grownCap_ge w (n + 1) cap 49
      have hcm : grownCap w (n + 1) cap 49 ≤ maxLen := grownCap_le_maxLen w (n + 1) cap 49 (by unfold maxLen; omega)
      refine ⟨_, _, hr, ?_, ⟨⟨rfl, rfl, rfl, by simp, fun k hk hr => (World.grownBy_alloc w.drew _ _).block k hk hr⟩, .inr fun k hk => by simp [Value.ownBlock] at hk; omega⟩, _, _, rfl⟩
      refine ⟨by rw [cels_length]; simp [hR.len], .inr ⟨w.heap.size, _, _, rfl, Nat.zero_le _, heap_alloc_new w.drew _, hge, hcm, ?_, ?_⟩⟩
      · simp only [Array.size_append, List.size_toArray, size_zeroCells, cels_length, hR.len]
        show n * 3 + 1 * 3 + (grownCap w (n + 1) cap 49 - (n + 1)) * 3 = grownCap w (n + 1) cap 49 * 3
        omega
      · rw [cels_append]
        simp only [Array.toList_append]
        exact take_parts _ _ _ _ (by simp only [cels_length, hR.len]; simp; omega)

set_option maxRecDepth 20000 in
/-- At the end. -/
theorem insert_end (w : World) (v : Value) (n vb : Nat) (rs : List Rt) (x : Rt) (h : w.ownsRow 0 49 3 v n (cels rs)) (hv : w.heap[vb]? = some (.cells #[iv x.1, iv x.2.1, iv x.2.2] 49 (0, 0))) (hm : n ≤ 1000) :
    Calls Tryz.prog 39 #[v, .int .i64 n, .slice (some ⟨vb, 0, none⟩) 1 1] w fun e w' => ∃ ao c, e = .returned (.slice ao (n + 1) c) ∧ w'.ownsRow 0 49 3 (.slice ao (n + 1) c) (n + 1) (cels (rs ++ [x])) ∧ Moved w w' v (.slice ao (n + 1) c) := by
  obtain ⟨v', w', hr, h1, h2, ao, c, rfl⟩ := app_one w v n vb rs x 22 h hv hm
  have HR : Hid _ := hr
  have H1 : Hid _ := h1
  clear hr h1 hv
  rcases own_rowIs h with ⟨rfl, rfl, rfl⟩ | ⟨g, cap, cur, rfl, hR⟩
  · clear h
    go_enter Tryz.func39, Tryz.ntmps39
    go_wp2_with (at_builtin; refine Lib.wpList_append_run _ rfl _ _ _ _ rfl _ _ rfl rfl _ _ HR.out ?_)
    go_ret
    exact ⟨_, _, rfl, H1.out, h2⟩
  · have hmax : cap ≤ 9223372036854775807 := hR.max
    have hcap := hR.le
    clear h hR
    go_enter Tryz.func39, Tryz.ntmps39
    go_wp2_with (at_builtin; refine Lib.wpList_append_run _ rfl _ _ _ _ rfl _ _ rfl rfl _ _ HR.out ?_)
    all_goals (go_ret; exact ⟨_, _, rfl, H1.out, h2⟩)

end Go.Proofs.YtimbgijpeomfcacGreatDoor

/- CONTRACT: slices.Insert at a row of routes: within the row, with room and without. -/
namespace Go.Proofs.YtimbgijpeomfcacGreatDoor
open Go.RowKit
attribute [local go_sem] Ext.all Ext.cell Ext.frozen Ext.lt Ext.lt1 Ext.lt2 Ext.ne Ext.ne'

theorem size_run (w : World) : (Go.sizeOf 49).run Tryz.prog w = .ok 3 w := by
  obtain ⟨i0, hi, hz0, hz1, hz2⟩ := info_parts Tryz.info49
  simp [sizeOf, typeInfo, hi, hz1]

theorem one_cells {w : World} {vb : Nat} {x : Rt} (hv : w.heap[vb]? = some (.cells #[iv x.1, iv x.2.1, iv x.2.2] 49 (0, 0))) : ∀ j u, (cels [x])[j]? = some u → w.cell? ((⟨vb, 0, none⟩ : Addr).add j) = some u := by
  intro j u hj
  rw [Addr.add_lit, Nat.zero_add]
  simp only [World.cell?, hv]
  have : j = 0 ∨ j = 1 ∨ j = 2 := by
    have := (List.getElem?_eq_some_iff.1 hj).1
    simp [cels_length] at this; omega
  rcases this with rfl | rfl | rfl <;> simpa [cels_cons] using hj

/-- Put in, in an array of cells. -/
theorem put_in {cur : Array Value} {n cap i : Nat} {rs : List Rt} {x : Rt} (hl : rs.length = n) (hi : i ≤ n) (hroom : n + 1 ≤ cap) (hs : cur.size = cap * 3) (ht : cur.toList.take (i * 3) = cels (rs.take i)) (hmid : (cur.toList.drop ((i + 1) * 3)).take ((n - i) * 3) = cels (rs.drop i)) :
    (cur.toList.take (i * 3) ++ cels [x] ++ cur.toList.drop (i * 3 + (cels [x]).length)).toArray.size = cap * 3 ∧ (cur.toList.take (i * 3) ++ cels [x] ++ cur.toList.drop (i * 3 + (cels [x]).length)).toArray.toList.take ((n + 1) * 3) = cels (rs.take i ++ x :: rs.drop i) := by
  have h3 : (cels [x]).length = 3 := by rw [cels_length]; rfl
  have hli : (rs.take i).length = i := by rw [List.length_take, hl]; omega
  refine ⟨?_, ?_⟩
  · simp only [List.size_toArray, List.length_append, List.length_take, List.length_drop, Array.length_toList, h3]; omega
  · rw [h3, show i * 3 + 3 = (i + 1) * 3 by omega]
    show (cur.toList.take (i * 3) ++ cels [x] ++ cur.toList.drop ((i + 1) * 3)).take ((n + 1) * 3) = _
    rw [List.take_append, ht]
    have e1 : (cels (rs.take i) ++ cels [x]).length = (i + 1) * 3 := by rw [List.length_append, cels_length, h3, hli]; omega
    rw [List.take_of_length_le (by rw [e1]; omega), e1, show (n + 1) * 3 - (i + 1) * 3 = (n - i) * 3 by omega, hmid, ← cels_append, ← cels_append]
    simp

set_option maxRecDepth 20000 in
set_option maxHeartbeats 1000000 in
theorem insert_shift (w : World) (g n cap i vb : Nat) (cur : Array Value) (rs : List Rt) (x : Rt) (h : RowIs w g n cap cur rs) (hi : i < n) (hroom : n + 1 ≤ cap) (hm : n ≤ 1000) (hne : vb ≠ g) (hv : w.heap[vb]? = some (.cells #[iv x.1, iv x.2.1, iv x.2.2] 49 (0, 0))) :
    Calls Tryz.prog 39 #[.slice (some ⟨g, 0, none⟩) n cap, .int .i64 i, .slice (some ⟨vb, 0, none⟩) 1 1] w fun e w' => e = .returned (.slice (some ⟨g, 0, none⟩) (n + 1) cap) ∧ ∃ cur', w' = w.drew.setRow g cur' ∧ RowIs w' g (n + 1) cap cur' (rs.take i ++ x :: rs.drop i) := by
  have hmax : cap ≤ 9223372036854775807 := h.max
  have hov : ∀ lb cb, (callFunc 58 #[.slice (some ⟨vb, 0, none⟩) 1 1, .slice (some ⟨g, (i + 1) * 3, none⟩) lb cb]).run Tryz.prog w = .ok (.value (.bool false)) w := fun lb cb => by
    rw [run_callFunc_extern Tryz.func58 (by kernel_rfl) (by kernel_rfl) (by kernel_rfl) (e := Extern.SlicesOverlaps.overlaps #[22, 22] #[4]) (by kernel_rfl),
      Lib.run_overlaps_apart w 22 4 49 Tryz.underlying22 3 size_run ⟨vb, 0, none⟩ ⟨g, (i + 1) * 3, none⟩ 1 1 lb cb hne 49 49 3 cur.size (by simp [World.shape?, hv]) (by simp [World.shape?, h.block]) (by have := h.size; omega) (by simp [World.frozen?, hv]) (by simp [World.frozen?, hv])]
    rfl
  have hdl : (cels (rs.drop i)).length = (n - i) * 3 := by rw [cels_length, List.length_drop, h.len]
  have hsz := h.size
  obtain ⟨cur1, hcur1⟩ : ∃ cur1 : Array Value, cur1 = (cur.toList.take ((i + 1) * 3) ++ cels (rs.drop i) ++ cur.toList.drop ((i + 1) * 3 + (cels (rs.drop i)).length)).toArray := ⟨_, rfl⟩
  have hcp1 : Hid (∀ ty dc sc, (Builtin.copy_ #[22, 22] ty #[.slice (some ⟨g, (i + 1) * 3, none⟩) (n - i) dc, .slice (some ⟨g, i * 3, none⟩) (n + 1 - i) sc]).run Tryz.prog w.drew = .ok (goInt (Nat.min (n + 1 - i) (n - i))) (w.drew.setRow g cur1)) := fun ty dc sc => by
    rw [hcur1]
    refine run_copy_row3 w.drew 22 22 ty 49 g ((i + 1) * 3) (n - i) dc ⟨g, i * 3, none⟩ (n + 1 - i) sc cur 49 (cels (rs.drop i)) Tryz.underlying22 Tryz.size49 h.block ?_ ?_ ?_ (cels_one _)
    · rw [hdl]; simp only [Nat.min_def]; split <;> omega
    · intro j u hj
      rw [Addr.add_lit]
      show w.cell? _ = _
      refine h.cell _ _ ?_
      rw [← cels_drop, List.getElem?_drop] at hj
      exact hj
    · rw [hdl]; omega
  obtain ⟨W1, hW1⟩ : ∃ W1, W1 = w.drew.setRow g cur1 := ⟨_, rfl⟩
  have hb1 : W1.heap[g]? = some (.cells cur1 49 (0, 0)) := by rw [hW1]; exact setRow_heap _ g cur cur1 _ _ h.block
  have hv1 : W1.heap[vb]? = some (.cells #[iv x.1, iv x.2.1, iv x.2.2] 49 (0, 0)) := by rw [hW1, setRow_other _ g vb _ hne]; exact hv
  have hs1 : cur1.size = cap * 3 := by
    rw [hcur1]; simp only [List.size_toArray, List.length_append, List.length_take, List.length_drop, Array.length_toList, hdl]; omega
  obtain ⟨cur2, hcur2⟩ : ∃ cur2 : Array Value, cur2 = (cur1.toList.take (i * 3) ++ cels [x] ++ cur1.toList.drop (i * 3 + (cels [x]).length)).toArray := ⟨_, rfl⟩
  have hcp2 : Hid (∀ ty dc, (Builtin.copy_ #[22, 22] ty #[.slice (some ⟨g, i * 3, none⟩) (n + 1 - i) dc, .slice (some ⟨vb, 0, none⟩) 1 1]).run Tryz.prog W1 = .ok (goInt (Nat.min 1 (n + 1 - i))) (W1.setRow g cur2)) := fun ty dc => by
    rw [hcur2]
    refine run_copy_row3 W1 22 22 ty 49 g (i * 3) (n + 1 - i) dc ⟨vb, 0, none⟩ 1 1 cur1 49 (cels [x]) Tryz.underlying22 Tryz.size49 hb1 ?_ (one_cells hv1) ?_ (cels_one _)
    · rw [cels_length]; simp only [Nat.min_def, List.length_cons, List.length_nil]; split <;> omega
    · rw [cels_length, hs1]; simp; omega
  have hend : RowIs (w.drew.setRow g cur2) g (n + 1) cap cur2 (rs.take i ++ x :: rs.drop i) := by
    have e1 : cur1.toList.take (i * 3) = cels (rs.take i) := by
      rw [hcur1]
      show (cur.toList.take ((i + 1) * 3) ++ cels (rs.drop i) ++ _).take (i * 3) = _
      rw [List.append_assoc, List.take_append_of_le_length (by simp only [List.length_take, Array.length_toList]; omega), List.take_take, ← cels_take, ← h.take, List.take_take]
      congr 1; omega
    have e2 : (cur1.toList.drop ((i + 1) * 3)).take ((n - i) * 3) = cels (rs.drop i) := by
      rw [hcur1]
      show ((cur.toList.take ((i + 1) * 3) ++ cels (rs.drop i) ++ _).drop ((i + 1) * 3)).take _ = _
      have hl : (cur.toList.take ((i + 1) * 3)).length = (i + 1) * 3 := by simp only [List.length_take, Array.length_toList]; omega
      rw [List.append_assoc]
      conv => lhs; arg 2; arg 1; rw [← hl]
      rw [List.drop_left, ← hdl]
      exact List.take_left
    obtain ⟨p1, p2⟩ := put_in (x := x) h.len (by omega) hroom hs1 e1 e2
    rw [← hcur2] at p1 p2
    refine ⟨setRow_heap _ g cur cur2 _ _ h.block, ?_, hroom, h.max, p1, p2⟩
    have := h.len
    simp; omega
  have HE : Hid _ := hend
  have HW : Hid (W1 = w.drew.setRow g cur1) := hW1
  have hcn : n ≤ cap := by omega
  have hic : ¬ (cap = i) := by omega
  have hic1 : ¬ (cap = i + 1) := by omega
  have hin : i ≤ n := by omega
  have hii : ¬ ((i : Int) = (n : Int)) := by omega
  have htn : ((i : Int) + 1).toNat = i + 1 := by omega
  have htn2 : ((n : Int) + 1).toNat = n + 1 := by omega
  have hw1 : IntKind.i64.wrap ((i : Int) + 1) = (i : Int) + 1 := by rw [IntKind.wrap_i64]; omega
  have hbz : (0 : Int) ≤ (i : Int) + 1 := by omega
  have hb3 : (i : Int) + 1 ≤ (n : Int) + 1 := by omega
  have hb4 : (i : Int) ≤ (n : Int) + 1 := by omega
  clear hend hW1 hcur2 hcur1 hb1 hv1 hv h hdl hs1 hsz
  go_enter Tryz.func39, Tryz.ntmps39
  go_wp2_with (simp only [hov])
  go_region_law (refine step_copy_eq rfl (.tmp 73) (.tmp 76) 22 22 rfl (.slice (some ⟨g, (i + 1) * 3, none⟩) (n - i) (cap - (i + 1))) (.slice (some ⟨g, i * 3, none⟩) (n + 1 - i) (cap - i)) (by simp [Act.eval, Act.put]) (by simp [Act.eval, Act.put]) (hcp1.out _ _ _) ?_; rw [← HW.out])
  have hc2 := hcp2.out 3 (cap - i)
  go_wp2
  go_ret
  refine ⟨rfl, cur2, ?_, ?_⟩
  · rw [HW.out, setRow_setRow]
  · rw [HW.out, setRow_setRow]; exact HE.out

set_option maxRecDepth 20000 in
set_option maxHeartbeats 1000000 in
theorem insert_grow (w : World) (g n cap i vb : Nat) (cur : Array Value) (rs : List Rt) (x : Rt) (h : RowIs w g n cap cur rs) (hi : i < n) (hroom : cap < n + 1) (hm : n ≤ 1000) (hv : w.heap[vb]? = some (.cells #[iv x.1, iv x.2.1, iv x.2.2] 49 (0, 0))) :
    Calls Tryz.prog 39 #[.slice (some ⟨g, 0, none⟩) n cap, .int .i64 i, .slice (some ⟨vb, 0, none⟩) 1 1] w fun e w' => ∃ c cur', e = .returned (.slice (some ⟨w.heap.size, 0, none⟩) (n + 1) c) ∧ w.grownBy w' none ∧ RowIs w' w.heap.size (n + 1) c cur' (rs.take i ++ x :: rs.drop i) := by
  obtain ⟨i0, hi0, hz0, hz1, hz2⟩ := info_parts Tryz.info49
  have hcn : n ≤ cap := h.le
  obtain ⟨G, hG⟩ : ∃ G, G = grownCap w (n + 1) cap 49 := ⟨_, rfl⟩
  have hGn : n + 1 ≤ G := by rw [hG]; exact grownCap_ge w _ _ _
  have hGm : G ≤ maxLen := by rw [hG]; exact grownCap_le_maxLen w _ _ _ (by unfold maxLen; omega)
  have hG63 : G ≤ 9223372036854775807 := hGm
  have hli : (rs.take i).length = i := by rw [List.length_take, h.len]; omega
  have hdl : (cels (rs.drop i)).length = (n - i) * 3 := by rw [cels_length, List.length_drop, h.len]
  have h3 : (cels [x]).length = 3 := by rw [cels_length]; rfl
  have hgw : g < w.heap.size := lt_of_block h.block
  have hvw : vb < w.heap.size := lt_of_block hv
  obtain ⟨ROW, hROW⟩ : ∃ ROW : Array Value, ROW = (cels (rs.take i)).toArray ++ Builtin.zeroCells (Value.agg #[iv 0, iv 0, iv 0]).cells (n + 1 - i) ++ Builtin.zeroCells (Value.agg #[iv 0, iv 0, iv 0]).cells (G - (n + 1)) := ⟨_, rfl⟩
  have hRs : ROW.size = G * 3 := by
    rw [hROW]
    simp only [Array.size_append, List.size_toArray, size_zeroCells, cels_length, hli]
    show i * 3 + (n + 1 - i) * 3 + (G - (n + 1)) * 3 = G * 3
    omega
  have hRt : ROW.toList.take (i * 3) = cels (rs.take i) := by
    rw [hROW]
    simp only [Array.toList_append, List.append_assoc]
    have : (cels (rs.take i)).length = i * 3 := by rw [cels_length, hli]
    rw [← this]
    exact List.take_left
  obtain ⟨W1, hW1⟩ : ∃ W1, W1 = w.drew.alloc (.cells ROW 49) := ⟨_, rfl⟩
  have hold : (Builtin.firstCells i0.size i (.slice (some ⟨g, 0, none⟩) i cap)).run Tryz.prog w.drew = .ok (cels (rs.take i)).toArray w.drew := by
    rw [hz1]
    refine run_firstCells_some w.drew 3 i ⟨g, 0, none⟩ i cap (cels (rs.take i)) (by rw [cels_length, hli]) (fun j v hj => ?_)
    rw [Addr.add_lit, Nat.zero_add]
    show w.cell? _ = _
    refine h.cell j v ?_
    rw [← cels_take] at hj
    rw [List.getElem?_take] at hj
    split at hj
    · exact hj
    · cases hj
  have hik : i + (n + 1 - i) = n + 1 := by omega
  have hkk : (n : Int) + 1 - (i : Int) = ((n + 1 - i : Nat) : Int) := by omega
  have hrz : Hid (∀ ty, (Builtin.append_ #[22, 3] ty #[.slice (some ⟨g, 0, none⟩) i cap, .int .i64 ((n : Int) + 1 - (i : Int))]).run Tryz.prog w = .ok (.slice (some ⟨w.heap.size, 0, none⟩) (n + 1) G) W1) := fun ty => by
    have hh := Lib.run_append_grow_zeros w 22 3 ty 49 i0 _ .i64 .i64 Tryz.underlying22 Tryz.underlying3 hi0 hz0 (some ⟨g, 0, none⟩) i cap (cels (rs.take i)) hold (n + 1 - i) (by omega) (by omega) (by omega) (by omega) (by rw [hz2]; omega) (by rw [hz2, hik]; exact growslice_fits hroom (by omega))
    rw [hik, ← hG, ← hROW, ← hW1] at hh
    rw [hkk]
    exact hh
  have hb1 : W1.heap[w.heap.size]? = some (.cells ROW 49 (0, 0)) := by rw [hW1]; exact heap_alloc_new w.drew _
  have ho1 : ∀ k, k < w.heap.size → W1.heap[k]? = w.heap[k]? := fun k hk => by rw [hW1]; exact (World.grownBy_alloc w.drew _ none).block k hk (by simp)
  obtain ⟨c2, hc2⟩ : ∃ c2 : Array Value, c2 = (ROW.toList.take (i * 3) ++ cels [x] ++ ROW.toList.drop (i * 3 + (cels [x]).length)).toArray := ⟨_, rfl⟩
  obtain ⟨W2, hW2⟩ : ∃ W2, W2 = W1.setRow w.heap.size c2 := ⟨_, rfl⟩
  have hcpA : Hid (∀ ty dc, (Builtin.copy_ #[22, 22] ty #[.slice (some ⟨w.heap.size, i * 3, none⟩) (n + 1 - i) dc, .slice (some ⟨vb, 0, none⟩) 1 1]).run Tryz.prog W1 = .ok (goInt (Nat.min 1 (n + 1 - i))) W2) := fun ty dc => by
    rw [hW2, hc2]
    refine run_copy_row3 W1 22 22 ty 49 w.heap.size (i * 3) (n + 1 - i) dc ⟨vb, 0, none⟩ 1 1 ROW 49 (cels [x]) Tryz.underlying22 Tryz.size49 hb1 ?_ (one_cells (by rw [ho1 vb hvw]; exact hv)) ?_ (cels_one _)
    · rw [cels_length]; simp only [Nat.min_def, List.length_cons, List.length_nil]; split <;> omega
    · rw [h3, hRs]; omega
  have hb2 : W2.heap[w.heap.size]? = some (.cells c2 49 (0, 0)) := by rw [hW2]; exact setRow_heap _ _ ROW c2 _ _ hb1
  have ho2 : ∀ k, k < w.heap.size → W2.heap[k]? = w.heap[k]? := fun k hk => by rw [hW2, setRow_other _ _ k _ (by omega)]; exact ho1 k hk
  have hs2 : c2.size = G * 3 := by
    rw [hc2]; simp only [List.size_toArray, List.length_append, List.length_take, List.length_drop, Array.length_toList, h3]; omega
  obtain ⟨c3, hc3⟩ : ∃ c3 : Array Value, c3 = (c2.toList.take ((i + 1) * 3) ++ cels (rs.drop i) ++ c2.toList.drop ((i + 1) * 3 + (cels (rs.drop i)).length)).toArray := ⟨_, rfl⟩
  obtain ⟨W3, hW3⟩ : ∃ W3, W3 = W2.drew.setRow w.heap.size c3 := ⟨_, rfl⟩
  have hcpB : Hid (∀ ty dc sc, (Builtin.copy_ #[22, 22] ty #[.slice (some ⟨w.heap.size, (i + 1) * 3, none⟩) (n - i) dc, .slice (some ⟨g, i * 3, none⟩) (n - i) sc]).run Tryz.prog W2.drew = .ok (goInt (Nat.min (n - i) (n - i))) W3) := fun ty dc sc => by
    rw [hW3, hc3]
    refine run_copy_row3 W2.drew 22 22 ty 49 w.heap.size ((i + 1) * 3) (n - i) dc ⟨g, i * 3, none⟩ (n - i) sc c2 49 (cels (rs.drop i)) Tryz.underlying22 Tryz.size49 hb2 ?_ ?_ ?_ (cels_one _)
    · rw [hdl]; simp only [Nat.min_def]; split <;> omega
    · intro j u hj
      rw [Addr.add_lit]
      show W2.cell? _ = _
      rw [World.cell?_of_block (a := ⟨g, i * 3 + j, none⟩) (ho2 g hgw)]
      refine h.cell _ _ ?_
      rw [← cels_drop, List.getElem?_drop] at hj
      exact hj
    · rw [hdl, hs2]; omega
  have hb3 : W3.heap[w.heap.size]? = some (.cells c3 49 (0, 0)) := by rw [hW3]; exact setRow_heap W2.drew _ c2 c3 _ _ hb2
  have ho3 : ∀ k, k < w.heap.size → W3.heap[k]? = w.heap[k]? := fun k hk => by rw [hW3, setRow_other _ _ k _ (by omega)]; exact ho2 k hk
  have HE : Hid (w.grownBy W3 none ∧ RowIs W3 w.heap.size (n + 1) G c3 (rs.take i ++ x :: rs.drop i)) := by
    refine ⟨⟨?_, ?_, ?_, ?_, fun k hk _ => ho3 k hk⟩, hb3, ?_, hGn, hGm, ?_, ?_⟩
    · rw [hW3, hW2, hW1]; rfl
    · rw [hW3, hW2, hW1]; rfl
    · rw [hW3, hW2, hW1]; rfl
    · rw [hW3, hW2, hW1]; simp
    · have := h.len; simp; omega
    · rw [hc3]; simp only [List.size_toArray, List.length_append, List.length_take, List.length_drop, Array.length_toList, hdl]; omega
    · have e1 : c2.toList.take ((i + 1) * 3) = cels (rs.take i) ++ cels [x] := by
        rw [hc2, hRt]
        exact take_parts _ _ _ _ (by rw [cels_length, hli, h3]; omega)
      rw [hc3, e1]
      have := take_parts (cels (rs.take i) ++ cels [x]) (cels (rs.drop i)) (c2.toList.drop ((i + 1) * 3 + (cels (rs.drop i)).length)) ((n + 1) * 3) (by rw [List.length_append, cels_length, hli, h3, hdl]; omega)
      show (cels (rs.take i) ++ cels [x] ++ cels (rs.drop i) ++ _).take _ = _
      rw [this, ← cels_append, ← cels_append]
      simp
  have hic : ¬ (cap = i) := by omega
  have hGi : ¬ (G = i) := by omega
  have hGi1 : ¬ (G = i + 1) := by omega
  have hii : ¬ ((i : Int) = (n : Int)) := by omega
  have htn : ((i : Int) + 1).toNat = i + 1 := by omega
  have hw1 : IntKind.i64.wrap ((i : Int) + 1) = (i : Int) + 1 := by rw [IntKind.wrap_i64]; omega
  have hbz : (0 : Int) ≤ (i : Int) + 1 := by omega
  have hbb : (i : Int) + 1 ≤ (n : Int) + 1 := by omega
  have hb4 : (i : Int) ≤ (n : Int) := by omega
  have hin : i ≤ n := by omega
  have hcm : cap ≤ 9223372036854775807 := h.max
  have hcc : (cap : Int) < (n : Int) + 1 := by omega
  clear hG hROW hRs hRt hW1 hold hik hkk hb1 ho1 hc2 hW2 hb2 ho2 hs2 hc3 hW3 hb3 ho3 hdl h3 hli h hv
  have hA := hcpA.out 3 (G - i)
  go_enter Tryz.func39, Tryz.ntmps39
  go_wp2_with (at_builtin; refine Lib.wpList_append_run _ rfl _ _ _ _ rfl _ _ rfl rfl _ _ (hrz.out _) ?_)
  go_region_law (refine step_copy_eq rfl (.tmp 50) (.tmp 53) 22 22 rfl (.slice (some ⟨w.heap.size, (i + 1) * 3, none⟩) (n - i) (G - (i + 1))) (.slice (some ⟨g, i * 3, none⟩) (n - i) (cap - i)) (by simp [Act.eval, Act.put]) (by simp [Act.eval, Act.put]) (hcpB.out _ _ _) ?_)
  go_wp2
  go_ret
  exact ⟨G, c3, rfl, HE.out⟩

end Go.Proofs.YtimbgijpeomfcacGreatDoor
