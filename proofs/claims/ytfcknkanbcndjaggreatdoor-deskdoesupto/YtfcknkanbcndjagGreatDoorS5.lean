import Derived.Test.YtfcknkanbcndjagGreatDoorRuns
/- CONTRACTS: (*Table).List, (*Table).All. -/
namespace Go.Proofs.YtfcknkanbcndjagGreatDoor
open Go.RowKit
attribute [local go_sem] Ext.all Ext.cell Ext.frozen Ext.lt Ext.lt1 Ext.lt2 Ext.ne Ext.ne'
theorem ownR_shape {w : World} {base e size n : Nat} {v : Value} {xs : List Value} (h : w.ownsRow base e size v n xs) : ∃ ao c, v = .slice ao n c ∧ ∀ a, ao = some a → base ≤ a.block := by
  rcases h.2 with ⟨rfl, rfl⟩ | ⟨g, cap, cur, rfl, hb, _⟩
  · exact ⟨none, 0, rfl, fun a h => by cases h⟩
  · exact ⟨_, _, rfl, fun a h => by cases h; exact hb⟩

/-- What is owned stays owned behind new blocks. -/
theorem ownR_gr {w w' : World} {base e size n : Nat} {v : Value} {xs : List Value} (h : w.ownsRow base e size v n xs) (g : Gr w w') : w'.ownsRow base e size v n xs := by
  refine ⟨h.1, ?_⟩
  rcases h.2 with hn | ⟨b, cap, cur, rfl, hb, hgg, rest⟩
  · exact .inl hn
  · exact .inr ⟨b, cap, cur, rfl, hb, by rw [g.block b (lt_of_block hgg)]; exact hgg, rest⟩

theorem list_any (w : World) (M : Nat → Prop) (tb : Nat) (ao : Option Addr) (n c : Nat) (rs : List Rt) (hc : w.cell? ⟨tb, 0, none⟩ = some (.slice ao n c)) (H : RowAt w M ao rs) (hn : rs.length = n) (hm : n ≤ 1000) :
    Calls Tryz.prog 60 #[.pointer (some ⟨tb, 0, none⟩)] w fun e w' => ∃ ao' c', e = .returned (.slice ao' n c') ∧ RowAt w' (fun k => w.heap.size ≤ k) ao' rs ∧ ∃ d : Ext w, w' = d.out := by
  obtain ⟨v', w2, hr, hown, hgr⟩ := run_append_new w M 108 ao n c rs H hn (by omega)
  obtain ⟨ao', c', rfl, hb⟩ := ownR_shape hown
  have hrow := (rowAt_own (M := fun k => w.heap.size ≤ k) hown hb).1
  have gr : Gr w w2 := (Gr.refl _).grown hgr (fun k h => by cases h)
  have HR : Hid _ := hr
  clear hr hown hgr hb
  obtain ⟨d, rfl⟩ := ext_mk gr
  go_enter Tryz.func60, Tryz.ntmps60
  go_wp2_with (first | (go_at_call 62; refine (held_any _ tb _ hc).mono ?_; rintro e w1 ⟨rfl, hw1⟩; subst hw1) | (at_builtin; refine Lib.wpList_append_run _ rfl _ _ _ _ rfl _ _ rfl rfl _ _ HR.out ?_))
  go_ret
  exact ⟨_, _, rfl, hrow, _, rfl⟩


/-- Of the first k addresses where they go; of the others 0. -/
def hopsL (rs : List Rt) (k : Nat) : List Value := (List.range 256).map fun j => if j < k then iv (lookL rs j) else iv 0
theorem hopsL_set (rs : List Rt) (k : Nat) (_hk : k < 256) : (hopsL rs k).set k (iv (lookL rs k)) = hopsL rs (k + 1) := by
  apply List.ext_getElem
  · simp [hopsL]
  · intro j h1 h2
    simp only [hopsL, List.getElem_set, List.getElem_map, List.getElem_range]
    by_cases e : k = j
    · subst e; simp
    · rw [if_neg e]
      by_cases h : j < k
      · rw [if_pos h, if_pos (by omega)]
      · rw [if_neg h, if_neg (by omega)]
theorem made_hops (rs : List Rt) : (madeCells #[Value.int .i64 0] 256).toList = hopsL rs 0 := by
  rw [toList_madeCells_one]
  simp [hopsL, List.map_const']
theorem hopsL_next (rs : List Rt) (k : Nat) (hk : k < 256) : (hopsL rs k)[k]? = some (iv 0) := by
  simp [hopsL, hk]
theorem hopsL_at (rs : List Rt) (j : Nat) (hj : j < 256) : (hopsL rs 256)[j]? = some (iv (lookL rs j)) := by
  simp [hopsL, hj]

set_option maxRecDepth 20000 in
theorem all_any (w : World) (M : Nat → Prop) (tb : Nat) (ao : Option Addr) (n c : Nat) (rs : List Rt) (hc : w.cell? ⟨tb, 0, none⟩ = some (.slice ao n c)) (htb : tb < w.heap.size) (H : RowAt w M ao rs) (hn : rs.length = n) (hm : n ≤ 1000) :
    Calls Tryz.prog 151 #[.pointer (some ⟨tb, 0, none⟩)] w fun e w' => ∃ g, e = .returned (.slice (some ⟨g, 0, none⟩) 256 256) ∧ w.heap.size ≤ g ∧ g < w'.heap.size ∧ (∀ j : Nat, j < 256 → w'.cell? ⟨g, j, none⟩ = some (iv (lookL rs j))) ∧ ∃ d : Ext w, w' = d.out := by
  obtain ⟨i0, hi, hz0, hz1, hz2⟩ := info_parts Tryz.info3
  go_enter Tryz.func151, Tryz.ntmps151
  go_wp2_with (at_make; refine wpList_make_full _ rfl _ _ 34 rfl w.heap.size 3 i0 (.int .i64 0) 1 Tryz.underlying34 hi hz0 hz1 _ _ _ _ 256 rfl rfl rfl rfl ?b2 ?b3 (Nat.le_refl _) ?_)
  case b2 => rw [hz2]; decide
  case b3 => unfold maxLen; decide
  intro w0 hown0 hgrow0
  have gr0 : Gr w w0 := (Gr.refl _).grown hgrow0 (fun k h => by cases h)
  clear hgrow0
  have hown1 : w0.ownsRow w.heap.size 3 1 (.slice (some ⟨w.heap.size, 0, none⟩) 256 256) 256 (hopsL rs 0) := by
    rw [made_hops rs] at hown0; exact hown0
  clear hown0
  obtain ⟨G, hG⟩ : ∃ G, G = w.heap.size := ⟨_, rfl⟩
  rw [← hG] at hown1 ⊢
  have HG : Hid (G = w.heap.size) := hG
  clear hG
  go_wp2
  go_loopw [4, 8] (fun _ i wr => ∃ k : Nat, k ≤ 256 ∧ i = .int .i64 k ∧ Hid (wr.ownsRow G 3 1 (.slice (some ⟨G, 0, none⟩) 256 256) 256 (hopsL rs k)) ∧ Gr w wr) (fun _ i _ => 256 - (intOf i).toNat)
  case atStart => exact ⟨0, by omega, rfl, hown1, gr0⟩
  case round =>
    clear hown1
    obtain ⟨k, hk, rfl, hown, g⟩ := hrel
    obtain ⟨d, rfl⟩ := ext_mk g
    by_cases hlt : k < 256
    · have HC : Hid (Calls Tryz.prog 34 #[.pointer (some ⟨tb, 0, none⟩), .int .i64 k] d.out fun e w' => e = .returned (.int .i64 (lookL rs k)) ∧ ∃ d' : Ext d.out, w' = d'.out) :=
        look_any d.out M tb ao n c rs k ((d.cell tb 0 htb).trans hc) (H.gr d.gr) hn hm
      clear hc H
      go_wp2_with (go_at_call 34; refine HC.out.mono ?_; rintro e _ ⟨rfl, d1, rfl⟩; have hown2 := hide (ownR_gr hown.out d1.gr); have hce := (hown2.out.cellAt k (by omega)).trans (hopsL_next rs k hlt); have hfz := hown2.out.frozenAt k)
      have hst := hown2.out.stored k (iv (lookL rs k))
      rw [hopsL_set rs k hlt] at hst
      go_roundw
      case rel => exact ⟨k + 1, by omega, by go_num, hst.1, (d.gr.ext d1).grown hst.2 (fun x hx => by cases hx; exact Nat.le_of_eq HG.out.symm)⟩
      case measure => simp [intOf]; omega
    · have : k = 256 := by omega
      subst this
      have hw := hown.out
      clear hc H
      go_wp2
      go_ret
      exact ⟨G, rfl, Nat.le_of_eq HG.out.symm, (hw.lt G rfl).2, fun j hj => (hw.cellAt j (by omega)).trans (hopsL_at rs j hj), d, rfl⟩

end Go.Proofs.YtfcknkanbcndjagGreatDoor

/- CONTRACTS: slices.Delete and slices.Insert at a row of routes: one route is taken out; one is put in. -/
namespace Go.Proofs.YtfcknkanbcndjagGreatDoor
open Go.RowKit
attribute [local go_sem] Ext.all Ext.cell Ext.frozen Ext.lt Ext.lt1 Ext.lt2 Ext.ne Ext.ne'
/-- A row whose first cells are these routes. -/
structure RowIs (w : World) (g n cap : Nat) (cur : Array Value) (rs : List Rt) : Prop where
  block : w.heap[g]? = some (.cells cur 133 (0, 0))
  len : rs.length = n
  le : n ≤ cap
  max : cap ≤ maxLen
  size : cur.size = cap * 3
  take : cur.toList.take (n * 3) = cels rs

theorem RowIs.cell {w : World} {g n cap : Nat} {cur : Array Value} {rs : List Rt} (h : RowIs w g n cap cur rs) (j : Nat) (u : Value) (hj : (cels rs)[j]? = some u) : w.cell? ⟨g, j, none⟩ = some u := by
  have hl : j < n * 3 := by
    have := (List.getElem?_eq_some_iff.1 hj).1
    rwa [cels_length, h.len] at this
  rw [← h.take, List.getElem?_take_of_lt hl] at hj
  simp [World.cell?, h.block]
  simpa using hj

theorem take_parts {α : Type} (a b c : List α) (k : Nat) (h : a.length + b.length = k) : (a ++ b ++ c).take k = a ++ b := by
  rw [← h, ← List.length_append]; exact List.take_left

theorem zeros3 : (Builtin.zeroCells (Value.agg #[iv 0, iv 0, iv 0]).cells 1).toList = [iv 0, iv 0, iv 0] := by kernel_rfl
theorem zero_run (w : World) : (zeroValue 133).run Tryz.prog w = .ok (.agg #[iv 0, iv 0, iv 0]) w := by
  obtain ⟨i0, hi, hz0, hz1, hz2⟩ := info_parts Tryz.info133
  simp [zeroValue, typeInfo, hi, hz0]

set_option maxRecDepth 20000 in
theorem delete_any (w : World) (g n cap i j : Nat) (cur : Array Value) (rs : List Rt) (h : RowIs w g n cap cur rs) (hj1 : j = i + 1) (hj2 : j ≤ n) (hm : n ≤ 1000) :
    Calls Tryz.prog 118 #[.slice (some ⟨g, 0, none⟩) n cap, .int .i64 i, .int .i64 j] w fun e w' => e = .returned (.slice (some ⟨g, 0, none⟩) (n - 1) cap) ∧ ∃ cur', w' = w.drew.setRow g cur' ∧ RowIs w' g (n - 1) cap cur' (rs.take i ++ rs.drop j) := by
  obtain ⟨i0, hi0, hz0, hz1, hz2⟩ := info_parts Tryz.info133
  have hmax : cap ≤ 9223372036854775807 := h.max
  have hcap := h.le
  have hlt : i < j := by omega
  have HJ : Hid (j = i + 1) := hj1
  clear hj1
  have hic : i ≤ cap := by omega
  have hjc : j ≤ cap := by omega
  have hne : ¬ (i = j) := by omega
  have hkn : i + (n - j) = n - 1 := by have := HJ.out; omega
  -- behind the append
  obtain ⟨cur1, hcur1⟩ : ∃ cur1 : Array Value, cur1 = (cur.toList.take (i * 3) ++ cels (rs.drop j) ++ cur.toList.drop (i * 3 + (cels (rs.drop j)).length)).toArray := ⟨_, rfl⟩
  have hdl : (cels (rs.drop j)).length = (n - j) * 3 := by rw [cels_length, List.length_drop, h.len]
  have hsz := h.size
  have hsz1 : cur1.size = cap * 3 := by
    rw [hcur1]; simp only [List.size_toArray, List.length_append, List.length_take, List.length_drop, Array.length_toList, hdl]; omega
  obtain ⟨A, hA, hsrc⟩ : ∃ A : Addr, (if cap = j then some (⟨g, 0, none⟩ : Addr) else some ⟨g, j * 3, none⟩) = some A ∧ Hid (∀ t u, (cels (rs.drop j))[t]? = some u → w.drew.cell? (A.add t) = some u) := by
    by_cases hc : cap = j
    · refine ⟨⟨g, 0, none⟩, by simp [hc], fun t u hu => ?_⟩
      have : cels (rs.drop j) = [] := List.eq_nil_of_length_eq_zero (by rw [hdl]; omega)
      rw [this] at hu; simp at hu
    · refine ⟨⟨g, j * 3, none⟩, by simp [hc], fun t u hu => ?_⟩
      rw [Addr.add_lit]
      show w.cell? _ = _
      refine h.cell _ _ ?_
      rw [← cels_drop, List.getElem?_drop] at hu
      exact hu
  have hrun : Hid (∀ ty, (Builtin.append_ #[108, 108] ty #[.slice (some ⟨g, 0, none⟩) i cap, .slice (some A) (n - j) (cap - j)]).run Tryz.prog w.drew = .ok (.slice (some ⟨g, 0, none⟩) (i + (n - j)) cap) (w.drew.setRow g cur1)) := fun ty => by
    have := run_append_room (P := Tryz.prog) w.drew 108 ty 133 i0 Tryz.underlying108 hi0 g i cap cur h.block A (n - j) (cap - j) (cels (rs.drop j)) (by rw [hz1, hdl]) hsrc.out (cels_one _) (by omega) (by rw [hz1, hdl]; omega)
    rw [hz1, ← hcur1] at this
    exact this
  obtain ⟨W1, hW1⟩ : ∃ W1, W1 = w.drew.setRow g cur1 := ⟨_, rfl⟩
  have hb1 : W1.heap[g]? = some (.cells cur1 133 (0, 0)) := by rw [hW1]; exact setRow_heap _ g cur cur1 _ _ h.block
  obtain ⟨cur2, hcur2⟩ : ∃ cur2 : Array Value, cur2 = (cur1.toList.take ((n - 1) * 3) ++ [iv 0, iv 0, iv 0] ++ cur1.toList.drop ((n - 1) * 3 + 3)).toArray := ⟨_, rfl⟩
  have hcl : ∀ ty c, (Builtin.clear_ #[108] ty #[.slice (some ⟨g, (n - 1) * 3, none⟩) 1 c]).run Tryz.prog W1 = .ok (.tuple #[]) (W1.setRow g cur2) := fun ty c => by
    have := run_clear_row3 (P := Tryz.prog) W1 108 133 ty _ Tryz.underlying108 zero_run _ zeros3 (by intro v hv; simp at hv; rw [hv]; rfl) g ((n - 1) * 3) c cur1 _ hb1 (by simp; omega)
    simp only [List.length_cons, List.length_nil] at this
    rw [this, hcur2]
  have hend : RowIs (w.drew.setRow g cur2) g (n - 1) cap cur2 (rs.take i ++ rs.drop j) := by
    have hl : (rs.take i).length = i := by rw [List.length_take, h.len]; omega
    refine ⟨setRow_heap _ g cur cur2 _ _ h.block, by rw [List.length_append, List.length_drop, h.len, hl]; omega, by omega, h.max, ?_, ?_⟩
    · rw [hcur2]; simp only [List.size_toArray, List.length_append, List.length_take, List.length_drop, Array.length_toList, List.length_cons, List.length_nil]; omega
    · have e1 : cur.toList.take (i * 3) = cels (rs.take i) := by
        rw [← cels_take, ← h.take, List.take_take]; congr 1; omega
      have e2 : cur1.toList.take ((n - 1) * 3) = cels (rs.take i ++ rs.drop j) := by
        rw [hcur1, e1, cels_append]
        exact take_parts _ _ _ _ (by rw [cels_length, cels_length, hl, List.length_drop, h.len]; omega)
      rw [hcur2, e2]
      show ((cels (rs.take i ++ rs.drop j) ++ [iv 0, iv 0, iv 0] ++ cur1.toList.drop _).take ((n - 1) * 3)) = _
      rw [List.append_assoc]
      have : (cels (rs.take i ++ rs.drop j)).length = (n - 1) * 3 := by rw [cels_length, List.length_append, hl, List.length_drop, h.len]; omega
      rw [← this]; exact List.take_left
  have HE : Hid _ := hend
  have HW : Hid (W1 = w.drew.setRow g cur1) := hW1
  have h1n : ¬ (cap = n - 1) := by have := HJ.out; omega
  have hnn : n - (n - 1) = 1 := by have := HJ.out; omega
  clear hend hW1 hcur2 hcur1 hb1 h hdl
  have hpn : n - 1 ≤ n := by omega
  have hpc : n - 1 ≤ cap := by omega
  generalize n - 1 = p at *
  go_enter Tryz.func118, Tryz.ntmps118
  go_wp2_with fail
  go_region_law (refine step_append_eqR rfl _ _ 108 108 rfl _ _ (by simp [Act.eval, Act.put]) (by simp [Act.eval, Act.put]) (hrun.out _) ?_; rw [← HW.out, hkn])
  go_wp2
  go_ret
  refine ⟨rfl, cur2, ?_, ?_⟩
  · rw [HW.out, setRow_setRow]
  · rw [HW.out, setRow_setRow]; exact HE.out

end Go.Proofs.YtfcknkanbcndjagGreatDoor

/- CONTRACT: slices.Insert at a row of routes that the program owns: one route is put in. -/
namespace Go.Proofs.YtfcknkanbcndjagGreatDoor
open Go.RowKit
attribute [local go_sem] Ext.all Ext.cell Ext.frozen Ext.lt Ext.lt1 Ext.lt2 Ext.ne Ext.ne'
theorem RowIs.own {w : World} {g n cap : Nat} {cur : Array Value} {rs : List Rt} (h : RowIs w g n cap cur rs) : w.ownsRow 0 133 3 (.slice (some ⟨g, 0, none⟩) n cap) n (cels rs) :=
  ⟨by rw [cels_length, h.len], .inr ⟨g, cap, cur, rfl, Nat.zero_le _, h.block, h.le, h.max, h.size, h.take⟩⟩
theorem ownR_base {w : World} {base e size n : Nat} {v : Value} {xs : List Value} (h : w.ownsRow base e size v n xs) : w.ownsRow 0 e size v n xs := by
  refine ⟨h.1, ?_⟩
  rcases h.2 with hn | ⟨g, cap, cur, rfl, hb, rest⟩
  · exact .inl hn
  · exact .inr ⟨g, cap, cur, rfl, Nat.zero_le _, rest⟩
theorem own_rowIs {w : World} {v : Value} {n : Nat} {rs : List Rt} (h : w.ownsRow 0 133 3 v n (cels rs)) : (v = .slice none 0 0 ∧ n = 0 ∧ rs = []) ∨ ∃ g cap cur, v = .slice (some ⟨g, 0, none⟩) n cap ∧ RowIs w g n cap cur rs := by
  have hl : rs.length = n := by have := h.1; rw [cels_length] at this; omega
  rcases h.2 with ⟨rfl, rfl⟩ | ⟨g, cap, cur, rfl, hb, hg, hn, hc, hs, ht⟩
  · exact .inl ⟨rfl, rfl, List.eq_nil_of_length_eq_zero hl⟩
  · exact .inr ⟨g, cap, cur, rfl, hg, hl, hn, hc, hs, ht⟩

/-- What is left behind: the row in its place, or in a new one. -/
def Moved (w w' : World) (v v' : Value) : Prop := w.grownBy w' v.ownBlock ∧ (v'.ownBlock = v.ownBlock ∨ ∀ k, v'.ownBlock = some k → w.heap.size ≤ k)

theorem moved_setRow {w : World} {g n m cap cap' : Nat} (cur : Array Value) : Moved w (w.drew.setRow g cur) (.slice (some ⟨g, 0, none⟩) n cap) (.slice (some ⟨g, 0, none⟩) m cap') :=
  ⟨⟨rfl, rfl, rfl, by simp, fun k _ hk => setRow_other w.drew g k _ (fun e => hk (by simp [Value.ownBlock, e]))⟩, .inl rfl⟩

/-- 'append(s, r)' at a row that is owned. -/
theorem app_one (w : World) (v : Value) (n vb : Nat) (rs : List Rt) (x : Rt) (ty : TypeId) (h : w.ownsRow 0 133 3 v n (cels rs)) (hv : w.heap[vb]? = some (.cells #[iv x.1, iv x.2.1, iv x.2.2] 133 (0, 0))) (hm : n ≤ 1000) :
    ∃ v' w', (Builtin.append_ #[108, 108] ty #[v, .slice (some ⟨vb, 0, none⟩) 1 1]).run Tryz.prog w = .ok v' w' ∧ w'.ownsRow 0 133 3 v' (n + 1) (cels (rs ++ [x])) ∧ Moved w w' v v' ∧ ∃ ao c, v' = .slice ao (n + 1) c := by
  obtain ⟨i0, hi, hz0, hz1, hz2⟩ := info_parts Tryz.info133
  have hnews : ∀ j u, (cels [x])[j]? = some u → w.cell? ((⟨vb, 0, none⟩ : Addr).add j) = some u := by
    intro j u hj
    rw [Addr.add_lit, Nat.zero_add]
    simp only [World.cell?, hv]
    have : j = 0 ∨ j = 1 ∨ j = 2 := by
      have := (List.getElem?_eq_some_iff.1 hj).1
      simp [cels_length] at this; omega
    rcases this with rfl | rfl | rfl <;> simpa [cels_cons] using hj
  rcases own_rowIs h with ⟨rfl, rfl, rfl⟩ | ⟨g, cap, cur, rfl, hR⟩
  · obtain ⟨v', w', h1, h2, h3, _⟩ := run_append_own (P := Tryz.prog) w w.heap.size 108 ty 133 i0 _ 3 24 Tryz.underlying108 hi hz0 hz1 hz2 (by rfl) (by decide) (.slice none 0 0) 0 [] (World.ownsRow_nil _ _ _ _)
      ⟨vb, 0, none⟩ 1 1 (cels [x]) (by rw [cels_length]; rfl) hnews (cels_one _) (by unfold maxLen; omega) (by omega) (Nat.le_refl _)
    obtain ⟨ao, c, hs, _⟩ := ownR_shape h2
    exact ⟨v', w', h1, by have := ownR_base h2; simpa using this, ⟨h3, .inr fun k hk => (h2.lt k hk).1⟩, ao, c, hs⟩
  · by_cases hroom : n + 1 ≤ cap
    · have hr := run_append_room (P := Tryz.prog) w 108 ty 133 i0 Tryz.underlying108 hi g n cap cur hR.block ⟨vb, 0, none⟩ 1 1 (cels [x]) (by rw [cels_length, hz1]; rfl) hnews (cels_one _) hroom (by rw [hz1, cels_length, hR.size]; simp; omega)
      rw [hz1] at hr
      refine ⟨_, _, hr, ?_, ⟨⟨rfl, rfl, rfl, by simp, fun k _ hk => setRow_other w g k _ (fun e => hk (by simp [Value.ownBlock, e]))⟩, .inl rfl⟩, _, _, rfl⟩
      have : RowIs (w.setRow g (cur.toList.take (n * 3) ++ cels [x] ++ cur.toList.drop (n * 3 + (cels [x]).length)).toArray) g (n + 1) cap (cur.toList.take (n * 3) ++ cels [x] ++ cur.toList.drop (n * 3 + (cels [x]).length)).toArray (rs ++ [x]) := by
        refine ⟨setRow_heap _ g cur _ _ _ hR.block, by simp [hR.len], hroom, hR.max, ?_, ?_⟩
        · have := hR.size
          simp only [List.size_toArray, List.length_append, List.length_take, List.length_drop, Array.length_toList, cels_length, List.length_cons, List.length_nil]; omega
        · rw [hR.take, cels_append]
          exact take_parts _ _ _ _ (by rw [cels_length, cels_length, hR.len]; simp; omega)
      exact this.own
    · have hr := run_append_grow (P := Tryz.prog) w 108 ty 133 i0 _ Tryz.underlying108 hi hz0 ⟨g, 0, none⟩ n cap (cels rs) (by rw [cels_length, hR.len, hz1]) (fun j u hj => by rw [Addr.add_lit, Nat.zero_add]; exact hR.cell j u hj)
        ⟨vb, 0, none⟩ 1 1 (cels [x]) (by rw [cels_length, hz1]; rfl) hnews (by omega) (by omega) (by rw [hz2]; exact growslice_fits (by omega) (by omega))
      have hge := grownCap_ge w (n + 1) cap 133
      have hcm : grownCap w (n + 1) cap 133 ≤ maxLen := grownCap_le_maxLen w (n + 1) cap 133 (by unfold maxLen; omega)
      refine ⟨_, _, hr, ?_, ⟨⟨rfl, rfl, rfl, by simp, fun k hk hr => (World.grownBy_alloc w.drew _ _).block k hk hr⟩, .inr fun k hk => by simp [Value.ownBlock] at hk; omega⟩, _, _, rfl⟩
      refine ⟨by rw [cels_length]; simp [hR.len], .inr ⟨w.heap.size, _, _, rfl, Nat.zero_le _, heap_alloc_new w.drew _, hge, hcm, ?_, ?_⟩⟩
      · simp only [Array.size_append, List.size_toArray, size_zeroCells, cels_length, hR.len]
        show n * 3 + 1 * 3 + (grownCap w (n + 1) cap 133 - (n + 1)) * 3 = grownCap w (n + 1) cap 133 * 3
        omega
      · rw [cels_append]
        simp only [Array.toList_append]
        exact take_parts _ _ _ _ (by simp only [cels_length, hR.len]; simp; omega)

set_option maxRecDepth 20000 in
/-- At the end. -/
theorem insert_end (w : World) (v : Value) (n vb : Nat) (rs : List Rt) (x : Rt) (h : w.ownsRow 0 133 3 v n (cels rs)) (hv : w.heap[vb]? = some (.cells #[iv x.1, iv x.2.1, iv x.2.2] 133 (0, 0))) (hm : n ≤ 1000) :
    Calls Tryz.prog 119 #[v, .int .i64 n, .slice (some ⟨vb, 0, none⟩) 1 1] w fun e w' => ∃ ao c, e = .returned (.slice ao (n + 1) c) ∧ w'.ownsRow 0 133 3 (.slice ao (n + 1) c) (n + 1) (cels (rs ++ [x])) ∧ Moved w w' v (.slice ao (n + 1) c) := by
  obtain ⟨v', w', hr, h1, h2, ao, c, rfl⟩ := app_one w v n vb rs x 108 h hv hm
  have HR : Hid _ := hr
  have H1 : Hid _ := h1
  clear hr h1 hv
  rcases own_rowIs h with ⟨rfl, rfl, rfl⟩ | ⟨g, cap, cur, rfl, hR⟩
  · clear h
    go_enter Tryz.func119, Tryz.ntmps119
    go_wp2_with (at_builtin; refine Lib.wpList_append_run _ rfl _ _ _ _ rfl _ _ rfl rfl _ _ HR.out ?_)
    go_ret
    exact ⟨_, _, rfl, H1.out, h2⟩
  · have hmax : cap ≤ 9223372036854775807 := hR.max
    have hcap := hR.le
    clear h hR
    go_enter Tryz.func119, Tryz.ntmps119
    go_wp2_with (at_builtin; refine Lib.wpList_append_run _ rfl _ _ _ _ rfl _ _ rfl rfl _ _ HR.out ?_)
    all_goals (go_ret; exact ⟨_, _, rfl, H1.out, h2⟩)

end Go.Proofs.YtfcknkanbcndjagGreatDoor
