/- CONTRACT: slices.Insert at a row of routes that the program owns: one route is put in. -/
import Derived.Test.YtklkminlkfnidacDoorS4
namespace Go.Proofs.YtklkminlkfnidacDoor
open Go.RowKit
attribute [local go_sem] Ext.all Ext.cell Ext.frozen Ext.lt Ext.lt1 Ext.lt2 Ext.ne Ext.ne'

theorem RowIs.own {w : World} {g n cap : Nat} {cur : Array Value} {rs : List Rt} (h : RowIs w g n cap cur rs) : w.ownsRow 0 45 3 (.slice (some ⟨g, 0, none⟩) n cap) n (cels rs) :=
  ⟨by rw [cels_length, h.len], .inr ⟨g, cap, cur, rfl, Nat.zero_le _, h.block, h.le, h.max, h.size, h.take⟩⟩
theorem own_base {w : World} {base e size n : Nat} {v : Value} {xs : List Value} (h : w.ownsRow base e size v n xs) : w.ownsRow 0 e size v n xs := by
  refine ⟨h.1, ?_⟩
  rcases h.2 with hn | ⟨g, cap, cur, rfl, hb, rest⟩
  · exact .inl hn
  · exact .inr ⟨g, cap, cur, rfl, Nat.zero_le _, rest⟩
theorem own_rowIs {w : World} {v : Value} {n : Nat} {rs : List Rt} (h : w.ownsRow 0 45 3 v n (cels rs)) : (v = .slice none 0 0 ∧ n = 0 ∧ rs = []) ∨ ∃ g cap cur, v = .slice (some ⟨g, 0, none⟩) n cap ∧ RowIs w g n cap cur rs := by
  have hl : rs.length = n := by have := h.1; rw [cels_length] at this; omega
  rcases h.2 with ⟨rfl, rfl⟩ | ⟨g, cap, cur, rfl, hb, hg, hn, hc, hs, ht⟩
  · exact .inl ⟨rfl, rfl, List.eq_nil_of_length_eq_zero hl⟩
  · exact .inr ⟨g, cap, cur, rfl, hg, hl, hn, hc, hs, ht⟩

/-- What is left behind: the row in its place, or in a new one. -/
def Moved (w w' : World) (v v' : Value) : Prop := w.grownBy w' v.ownBlock ∧ (v'.ownBlock = v.ownBlock ∨ ∀ k, v'.ownBlock = some k → w.heap.size ≤ k)

theorem moved_setRow {w : World} {g n m cap cap' : Nat} (cur : Array Value) : Moved w (w.drew.setRow g cur) (.slice (some ⟨g, 0, none⟩) n cap) (.slice (some ⟨g, 0, none⟩) m cap') :=
  ⟨⟨rfl, rfl, rfl, by simp, fun k _ hk => setRow_other w.drew g k _ (fun e => hk (by simp [Value.ownBlock, e]))⟩, .inl rfl⟩

/-- 'append(s, r)' at a row that is owned. -/
theorem app_one (w : World) (v : Value) (n vb : Nat) (rs : List Rt) (x : Rt) (ty : TypeId) (h : w.ownsRow 0 45 3 v n (cels rs)) (hv : w.heap[vb]? = some (.cells #[iv x.1, iv x.2.1, iv x.2.2] 45 (0, 0))) (hm : n ≤ 1000) :
    ∃ v' w', (Builtin.append_ #[22, 22] ty #[v, .slice (some ⟨vb, 0, none⟩) 1 1]).run Tryd.prog w = .ok v' w' ∧ w'.ownsRow 0 45 3 v' (n + 1) (cels (rs ++ [x])) ∧ Moved w w' v v' ∧ ∃ ao c, v' = .slice ao (n + 1) c := by
  obtain ⟨i0, hi, hz0, hz1, hz2⟩ := info_parts Tryd.info45
  have hnews : ∀ j u, (cels [x])[j]? = some u → w.cell? ((⟨vb, 0, none⟩ : Addr).add j) = some u := by
    intro j u hj
    rw [Addr.add_lit, Nat.zero_add]
    simp only [World.cell?, hv]
    have : j = 0 ∨ j = 1 ∨ j = 2 := by
      have := (List.getElem?_eq_some_iff.1 hj).1
      simp [cels_length] at this; omega
    rcases this with rfl | rfl | rfl <;> simpa [cels_cons] using hj
  rcases own_rowIs h with ⟨rfl, rfl, rfl⟩ | ⟨g, cap, cur, rfl, hR⟩
  · obtain ⟨v', w', h1, h2, h3, _⟩ := run_append_own (P := Tryd.prog) w w.heap.size 22 ty 45 i0 _ 3 24 Tryd.underlying22 hi hz0 hz1 hz2 (by rfl) (by decide) (.slice none 0 0) 0 [] (World.ownsRow_nil _ _ _ _)
      ⟨vb, 0, none⟩ 1 1 (cels [x]) (by rw [cels_length]; rfl) hnews (cels_one _) (by unfold maxLen; omega) (by omega) (Nat.le_refl _)
    obtain ⟨ao, c, hs, _⟩ := own_shape h2
    exact ⟨v', w', h1, by have := own_base h2; simpa using this, ⟨h3, .inr fun k hk => (h2.lt k hk).1⟩, ao, c, hs⟩
  · by_cases hroom : n + 1 ≤ cap
    · have hr := run_append_room (P := Tryd.prog) w 22 ty 45 i0 Tryd.underlying22 hi g n cap cur hR.block ⟨vb, 0, none⟩ 1 1 (cels [x]) (by rw [cels_length, hz1]; rfl) hnews (cels_one _) hroom (by rw [hz1, cels_length, hR.size]; simp; omega)
      rw [hz1] at hr
      refine ⟨_, _, hr, ?_, ⟨⟨rfl, rfl, rfl, by simp, fun k _ hk => setRow_other w g k _ (fun e => hk (by simp [Value.ownBlock, e]))⟩, .inl rfl⟩, _, _, rfl⟩
      have : RowIs (w.setRow g (cur.toList.take (n * 3) ++ cels [x] ++ cur.toList.drop (n * 3 + (cels [x]).length)).toArray) g (n + 1) cap (cur.toList.take (n * 3) ++ cels [x] ++ cur.toList.drop (n * 3 + (cels [x]).length)).toArray (rs ++ [x]) := by
        refine ⟨setRow_heap _ g cur _ _ _ hR.block, by simp [hR.len], hroom, hR.max, ?_, ?_⟩
        · have := hR.size
          simp only [List.size_toArray, List.length_append, List.length_take, List.length_drop, Array.length_toList, cels_length, List.length_cons, List.length_nil]; omega
        · rw [hR.take, cels_append]
          exact take_parts _ _ _ _ (by rw [cels_length, cels_length, hR.len]; simp; omega)
      exact this.own
    · have hr := run_append_grow (P := Tryd.prog) w 22 ty 45 i0 _ Tryd.underlying22 hi hz0 ⟨g, 0, none⟩ n cap (cels rs) (by rw [cels_length, hR.len, hz1]) (fun j u hj => by rw [Addr.add_lit, Nat.zero_add]; exact hR.cell j u hj)
        ⟨vb, 0, none⟩ 1 1 (cels [x]) (by rw [cels_length, hz1]; rfl) hnews (by omega) (by omega) (by rw [hz2]; exact growslice_fits (by omega) (by omega))
      have hge := grownCap_ge w (n + 1) cap 45
      have hcm : grownCap w (n + 1) cap 45 ≤ maxLen := grownCap_le_maxLen w (n + 1) cap 45 (by unfold maxLen; omega)
      refine ⟨_, _, hr, ?_, ⟨⟨rfl, rfl, rfl, by simp, fun k hk hr => (World.grownBy_alloc w.drew _ _).block k hk hr⟩, .inr fun k hk => by simp [Value.ownBlock] at hk; omega⟩, _, _, rfl⟩
      refine ⟨by rw [cels_length]; simp [hR.len], .inr ⟨w.heap.size, _, _, rfl, Nat.zero_le _, heap_alloc_new w.drew _, hge, hcm, ?_, ?_⟩⟩
      · simp only [Array.size_append, List.size_toArray, size_zeroCells, cels_length, hR.len]
        show n * 3 + 1 * 3 + (grownCap w (n + 1) cap 45 - (n + 1)) * 3 = grownCap w (n + 1) cap 45 * 3
        omega
      · rw [cels_append]
        simp only [Array.toList_append]
        exact take_parts _ _ _ _ (by simp only [cels_length, hR.len]; simp; omega)

set_option maxRecDepth 20000 in
/-- At the end. -/
theorem insert_end (w : World) (v : Value) (n vb : Nat) (rs : List Rt) (x : Rt) (h : w.ownsRow 0 45 3 v n (cels rs)) (hv : w.heap[vb]? = some (.cells #[iv x.1, iv x.2.1, iv x.2.2] 45 (0, 0))) (hm : n ≤ 1000) :
    Calls Tryd.prog 43 #[v, .int .i64 n, .slice (some ⟨vb, 0, none⟩) 1 1] w fun e w' => ∃ ao c, e = .returned (.slice ao (n + 1) c) ∧ w'.ownsRow 0 45 3 (.slice ao (n + 1) c) (n + 1) (cels (rs ++ [x])) ∧ Moved w w' v (.slice ao (n + 1) c) := by
  obtain ⟨v', w', hr, h1, h2, ao, c, rfl⟩ := app_one w v n vb rs x 22 h hv hm
  have HR : Hid _ := hr
  have H1 : Hid _ := h1
  clear hr h1 hv
  rcases own_rowIs h with ⟨rfl, rfl, rfl⟩ | ⟨g, cap, cur, rfl, hR⟩
  · clear h
    go_enter Tryd.func43, Tryd.ntmps43
    go_wp2_with (at_builtin; refine Lib.wpList_append_run _ rfl _ _ _ _ rfl _ _ rfl rfl _ _ HR.out ?_)
    go_ret
    exact ⟨_, _, rfl, H1.out, h2⟩
  · have hmax : cap ≤ 9223372036854775807 := hR.max
    have hcap := hR.le
    clear h hR
    go_enter Tryd.func43, Tryd.ntmps43
    go_wp2_with (at_builtin; refine Lib.wpList_append_run _ rfl _ _ _ _ rfl _ _ rfl rfl _ _ HR.out ?_)
    all_goals (go_ret; exact ⟨_, _, rfl, H1.out, h2⟩)

end Go.Proofs.YtklkminlkfnidacDoor
