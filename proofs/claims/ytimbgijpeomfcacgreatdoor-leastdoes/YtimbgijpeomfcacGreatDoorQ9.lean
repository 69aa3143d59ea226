import Derived.Test.YtimbgijpeomfcacGreatDoorQ6
import Derived.Test.YtimbgijpeomfcacGreatDoorOwnL
/- LISTS OF PREFIXES OF A CALL's OWN; List as such a list of routes; append of any row. -/
namespace Go.Proofs.YtimbgijpeomfcacGreatDoor
open Go.RowKit Go.Sort Go.Lib
attribute [local go_sem] Ext.all Ext.cell Ext.frozen Ext.lt Ext.lt1 Ext.lt2 Ext.ne Ext.ne'

theorem list_own (w : World) (M : Nat → Prop) (tb : Nat) (ao : Option Addr) (n c : Nat) (rs : List Rt) (hc : w.cell? ⟨tb, 0, none⟩ = some (.slice ao n c)) (H : RowAt w M ao rs) (hn : rs.length = n) (hm : n ≤ 1000) :
    Calls Tryz.prog 10 #[.pointer (some ⟨tb, 0, none⟩)] w fun e w' => ∃ v, e = .returned v ∧ Own w w' v rs ∧ Gr w w' := by
  obtain ⟨v', w2, hr, hown, hgr⟩ := run_append_new w M 22 ao n c rs H hn (by omega)
  obtain ⟨ao', c', rfl, hb⟩ := own_shape hown
  have gr : Gr w w2 := (Gr.refl _).grown hgr (fun k h => by cases h)
  have HR : Hid _ := hr
  have HO : Hid (Own w w2 (.slice ao' n c') rs) := by unfold Hid Own; rw [hn]; exact hown
  clear hr hown hgr hb
  obtain ⟨d, rfl⟩ := ext_mk gr
  go_enter Tryz.func10, Tryz.ntmps10
  go_wp2_with (first | (go_at_call 26; refine (held_any _ tb _ hc).mono ?_; rintro e w1 ⟨rfl, hw1⟩; subst hw1) | (at_builtin; refine Lib.wpList_append_run _ rfl _ _ _ _ rfl _ _ rfl rfl _ _ HR.out ?_))
  go_ret
  exact ⟨_, rfl, HO.out, gr⟩
/-- List of a table, in whatever world has grown. -/
theorem TabS.listOwn {B : World} {M : Nat → Prop} {tb : Nat} {v : Value} {rs : List Rt} (h : TabS B M tb v rs) (hm : rs.length ≤ 1000) (wX : World) (gX : Gr B wX) :
    Calls Tryz.prog 10 #[pv tb] wX fun e w' => ∃ v, e = .returned v ∧ Own wX w' v rs ∧ Gr wX w' := by
  have h' := h.gr gX
  obtain ⟨ao, c, rfl, hR⟩ := h'.shape
  exact list_own wX _ tb ao rs.length c rs h'.cell0 hR rfl hm

/-- 'append(l, x...)', x of whatever length. -/
theorem run_app3 {B w : World} {v : Value} {rs xs : List Rt} {M : Nat → Prop} {ao : Option Addr} {m c : Nat} (ty : TypeId) (hO : Own B w v rs) (g : Gr B w) (H : RowAt w M ao xs) (hl : xs.length = m) (hm : rs.length + m ≤ 2000) :
    ∃ v' w', (Builtin.append_ #[22, 22] ty #[v, .slice ao m c]).run Tryz.prog w = .ok v' w' ∧ Own B w' v' (rs ++ xs) ∧ Gr B w' ∧ w.grownBy w' v.ownBlock := by
  obtain ⟨i0, hi, hz0, hz1, hz2⟩ := info_parts Tryz.info49
  cases ao with
  | none =>
    have h0 : xs = [] := by
      rcases H with h | ⟨b, o, h, _⟩
      · exact h
      · cases h
    subst h0
    have : m = 0 := by simpa using hl.symm
    subst this
    obtain ⟨ao', c', rfl, hlc, _⟩ := hO.shape
    refine ⟨.slice ao' rs.length c', w, ?_, by rw [List.append_nil]; exact hO, g, World.grownBy.refl _ _⟩
    cases ao' <;> simp [Builtin.append_, run_underlying Tryz.underlying22, sizeOf, typeInfo, hi, Builtin.lenOf, Builtin.firstCells, hlc, storeCells]
  | some a =>
    have hc : ∀ j u, (cels xs)[j]? = some u → w.cell? (a.add j) = some u := by
      rcases H with h | ⟨b, o, h, _, _, hcs⟩
      · subst h; intro j u hj; simp [cels] at hj
      · cases h
        intro j u hj
        rw [Addr.add_lit]
        exact cels_cells hcs j u hj
    obtain ⟨v', w', h1, h2, h3, _⟩ := run_append_own (P := Tryz.prog) w B.heap.size 22 ty 49 i0 _ 3 24 Tryz.underlying22 hi hz0 hz1 hz2 (by rfl) (by decide) v rs.length (cels rs) hO
      a m c (cels xs) (by rw [cels_length, hl]) hc (cels_one xs) (by unfold maxLen; omega) (by omega) (Below.size g)
    refine ⟨v', w', h1, ?_, g.grown h3 (fun k hk => (hO.lt k hk).1), h3⟩
    unfold Own
    rw [cels_append, List.length_append, hl]
    exact h2

/-- Cells of prefixes. -/
def pels (ps : List Pf) : List Value := ps.flatMap encP
theorem pels_append (a b : List Pf) : pels (a ++ b) = pels a ++ pels b := by simp [pels]
theorem pels_length : ∀ ps : List Pf, (pels ps).length = ps.length * 2
  | [] => rfl
  | p :: ps => by
    show (encP p ++ pels ps).length = _
    rw [List.length_append, pels_length ps]; simp; omega
theorem pels_get : ∀ (ps : List Pf) (j : Nat), j < ps.length * 2 → (pels ps)[j]? = some (encP ps[j / 2]!)[j % 2]!
  | [], j, h => by simp at h
  | p :: ps, 0, _ => by simp [pels]
  | p :: ps, 1, _ => by simp [pels]
  | p :: ps, j + 2, h => by
    have ih := pels_get ps j (by simp at h; omega)
    show (iv p.1 :: iv p.2 :: pels ps)[j + 2]? = _
    rw [show (j + 2) / 2 = j / 2 + 1 by omega, show (j + 2) % 2 = j % 2 by omega]
    simpa using ih
theorem pels_one : ∀ (ps : List Pf), ∀ u ∈ pels ps, u.oneCell' = true
  | [], u, h => by cases h
  | p :: ps, u, h => by
    have : u = iv p.1 ∨ u = iv p.2 ∨ u ∈ pels ps := by simpa [pels] using h
    rcases this with rfl | rfl | h
    · rfl
    · rfl
    · exact pels_one ps u h
/-- A list of prefixes in memory that is younger than B. -/
def OwnP (B w : World) (v : Value) (ps : List Pf) : Prop := w.ownsRow B.heap.size 30 2 v ps.length (pels ps)
theorem OwnP.gr {B w w' : World} {v : Value} {ps : List Pf} (h : OwnP B w v ps) (g : Gr w w') : OwnP B w' v ps := own_gr h g
/-- Where it stands. -/
theorem OwnP.holds {B w : World} {v : Value} {ps : List Pf} (h : OwnP B w v ps) (h0 : ps ≠ []) : ∃ g c, v = .slice (some ⟨g, 0, none⟩) ps.length c ∧ ps.length ≤ c ∧ c ≤ maxLen ∧ B.heap.size ≤ g ∧ g < w.heap.size ∧ HoldsK encP 2 w g 0 ps.toArray := by
  rcases h.2 with ⟨_, h2⟩ | ⟨g, cap, cur, h1, hb, hg, hn, hc, hs, ht⟩
  · exact absurd (List.eq_nil_of_length_eq_zero h2) h0
  · refine ⟨g, cap, h1, hn, hc, hb, (Array.getElem?_eq_some_iff.1 hg).1, fun j hj => ?_⟩
    have hj' : j < ps.length * 2 := by simpa using hj
    refine ⟨?_, by simp [World.frozen?, hg]⟩
    rw [get_flatK _ _ _ j (by simpa using hj), Nat.zero_add]
    have e : w.cell? ⟨g, j, none⟩ = (pels ps)[j]? := by
      rw [← ht, List.getElem?_take_of_lt hj']
      simp [World.cell?, hg]
    rw [e, pels_get ps j hj']
    simp
/-- 'append(l, p)'. -/
theorem run_appP {B w : World} {v : Value} {ps : List Pf} {b : Nat} (p : Pf) (ty : TypeId) (hO : OwnP B w v ps) (g : Gr B w) (hb : w.heap[b]? = some (.cells #[iv p.1, iv p.2] 30 (0, 0))) (hm : ps.length ≤ 1000) :
    ∃ v' w', (Builtin.append_ #[61, 61] ty #[v, .slice (some ⟨b, 0, none⟩) 1 1]).run Tryz.prog w = .ok v' w' ∧ OwnP B w' v' (ps ++ [p]) ∧ Gr B w' ∧ w.grownBy w' v.ownBlock := by
  obtain ⟨i0, hi, hz0, hz1, hz2⟩ := info_parts Tryz.infoP
  obtain ⟨v', w', h1, h2, h3, _⟩ := run_append_own (P := Tryz.prog) w B.heap.size 61 ty 30 i0 _ 2 16 Tryz.underlying61 hi hz0 hz1 hz2 (by rfl) (by decide) v ps.length (pels ps) hO
    ⟨b, 0, none⟩ 1 1 (pels [p]) (by rw [pels_length]; rfl) (fun j u hj => by
      have hj2 : j < 2 := by
        have := (List.getElem?_eq_some_iff.1 hj).1
        rw [pels_length] at this; simpa using this
      rw [Addr.add_lit]
      rcases (show j = 0 ∨ j = 1 by omega) with rfl | rfl
      · simp [pels] at hj; subst hj; simp [World.cell?, hb]
      · simp [pels] at hj; subst hj; simp [World.cell?, hb])
    (pels_one _) (by unfold maxLen; omega) (by omega) (Below.size g)
  refine ⟨v', w', h1, ?_, g.grown h3 (fun k hk => (hO.lt k hk).1), h3⟩
  unfold OwnP
  rw [pels_append, List.length_append]
  exact h2
/-- A variable that holds such a list. -/
def BoxP (A X : World) (bx : Nat) (ps : List Pf) : Prop := Gr A X ∧ A.heap.size ≤ bx ∧ ∃ v, X.heap[bx]? = some (.cells #[v] 61 (0, 0)) ∧ OwnP A X v ps
theorem BoxP.gr {A X Y : World} {bx : Nat} {ps : List Pf} (h : BoxP A X bx ps) (g : Gr X Y) : BoxP A Y bx ps := by
  obtain ⟨h1, h2, v, h3, h4⟩ := h
  exact ⟨h1.trans g, h2, v, (Below.block g bx (lt_of_block h3)).trans h3, h4.gr g⟩
theorem ownP_ne {A X : World} {bx : Nat} {ps : List Pf} {v u : Value} (h : OwnP A X v ps) (hb : X.heap[bx]? = some (.cells #[u] 61 (0, 0))) : v.ownBlock ≠ some bx := by
  intro e
  rcases h.2 with ⟨hn, _⟩ | ⟨g, cap, cur, hv, _, hgg, rest⟩
  · rw [hn] at e; cases e
  · rw [hv] at e
    simp only [Value.ownBlock, Option.some.injEq] at e
    rw [e, hb] at hgg
    simp at hgg

end Go.Proofs.YtimbgijpeomfcacGreatDoor

/- CONTRACT OF package least: prefixes. -/
namespace Go.Proofs.YtimbgijpeomfcacGreatDoor
open Go.RowKit Go.Sort Go.Lib
attribute [local go_sem] Ext.all Ext.cell Ext.frozen Ext.lt Ext.lt1 Ext.lt2 Ext.ne Ext.ne'

/-- A slice reads as these prefixes. -/
def PfAt (w : World) (ao : Option Addr) (ps : List Pf) : Prop := ps = [] ∨ ∃ b, ao = some ⟨b, 0, none⟩ ∧ b < w.heap.size ∧ ∀ i (h : i < ps.length), w.cell? ⟨b, i * 2, none⟩ = some (iv ps[i].1) ∧ w.cell? ⟨b, i * 2 + 1, none⟩ = some (iv ps[i].2)
theorem PfAt.gr {w w' : World} {ao : Option Addr} {ps : List Pf} (h : PfAt w ao ps) (g : Gr w w') : PfAt w' ao ps := by
  rcases h with h | ⟨b, h1, h2, h3⟩
  · exact .inl h
  · refine .inr ⟨b, h1, Nat.lt_of_lt_of_le h2 (Below.size g), fun i hi => ?_⟩
    rw [show w'.cell? ⟨b, i * 2, none⟩ = w.cell? ⟨b, i * 2, none⟩ from Below.cell g (p := ⟨b, i * 2, none⟩) h2, show w'.cell? ⟨b, i * 2 + 1, none⟩ = w.cell? ⟨b, i * 2 + 1, none⟩ from Below.cell g (p := ⟨b, i * 2 + 1, none⟩) h2]
    exact h3 i hi

/-- A variable that holds a list of prefixes younger than A; all else of A is as it was. -/
structure BQ (A X : World) (bx : Nat) (ps : List Pf) : Prop where
  kp : Kp (fun k => k ≠ bx) A X
  lt : bx < A.heap.size
  box : ∃ v, X.heap[bx]? = some (.cells #[v] 61 (0, 0)) ∧ OwnP A X v ps
theorem BQ.gr {A X Y : World} {bx : Nat} {ps : List Pf} (h : BQ A X bx ps) (g : Gr X Y) : BQ A Y bx ps := by
  obtain ⟨v, h3, h4⟩ := h.box
  exact ⟨h.kp.trans (g.kp _), h.lt, v, (Below.block g bx (lt_of_block h3)).trans h3, h4.gr g⟩
/-- One prefix more. -/
theorem BQ.step {A X Y : World} {bx b : Nat} {ps : List Pf} (h : BQ A X bx ps) (g : Gr X Y) (p : Pf) (hb : Y.heap[b]? = some (.cells #[iv p.1, iv p.2] 30 (0, 0))) (hm : ps.length ≤ 1000) (ty : TypeId) :
    ∃ v ao c w', X.cell? ⟨bx, 0, none⟩ = some v ∧ Y.cell? ⟨bx, 0, none⟩ = some v ∧ (Builtin.append_ #[61, 61] ty #[v, .slice (some ⟨b, 0, none⟩) 1 1]).run Tryz.prog Y = .ok (.slice ao (ps.length + 1) c) w' ∧
      w'.cell? ⟨bx, 0, none⟩ = some v ∧ w'.frozen? ⟨bx, 0, none⟩ = false ∧ BQ A (w'.setCell ⟨bx, 0, none⟩ (.slice ao (ps.length + 1) c)) bx (ps ++ [p]) := by
  obtain ⟨v, h3, h4⟩ := h.box
  have hY := h.gr g
  have h3Y : Y.heap[bx]? = some (.cells #[v] 61 (0, 0)) := (Below.block g bx (lt_of_block h3)).trans h3
  have h4Y : OwnP A Y v ps := h4.gr g
  obtain ⟨i0, hi, hz0, hz1, hz2⟩ := info_parts Tryz.infoP
  obtain ⟨v', w', h1, h2, hgb, _⟩ := run_append_own (P := Tryz.prog) Y A.heap.size 61 ty 30 i0 _ 2 16 Tryz.underlying61 hi hz0 hz1 hz2 (by rfl) (by decide) v ps.length (pels ps) h4Y
    ⟨b, 0, none⟩ 1 1 (pels [p]) (by rw [pels_length]; rfl) (fun j u hj => by
      have hj2 : j < 2 := by
        have := (List.getElem?_eq_some_iff.1 hj).1
        rw [pels_length] at this; simpa using this
      rw [Addr.add_lit]
      rcases (show j = 0 ∨ j = 1 by omega) with rfl | rfl
      · simp [pels] at hj; subst hj; simp [World.cell?, hb]
      · simp [pels] at hj; subst hj; simp [World.cell?, hb])
    (pels_one _) (by unfold maxLen; omega) (by omega) hY.kp.size
  have hO : OwnP A w' v' (ps ++ [p]) := by
    unfold OwnP
    rw [pels_append, List.length_append]
    exact h2
  obtain ⟨ao, c, rfl, _⟩ := own_shape h2
  have hcw : w'.heap[bx]? = some (.cells #[v] 61 (0, 0)) := by
    rw [hgb.block bx (lt_of_block h3Y) (fun e => ownP_ne h4Y h3Y e.symm)]; exact h3Y
  refine ⟨v, ao, c, w', cell_of_one h3, cell_of_one h3Y, h1, cell_of_one hcw, free_of_one hcw, ⟨?_, h.lt, _, one_setCell hcw, ownsRow_setCell_other hO (ownP_ne hO hcw) _⟩⟩
  refine ⟨?_, ?_, ?_, ?_, fun k hk hne => ?_⟩
  · show w'.os = _; rw [hgb.os]; exact hY.kp.os
  · show w'.tape = _; rw [hgb.tape]; exact hY.kp.tape
  · show w'.output = _; rw [hgb.output]; exact hY.kp.output
  · have := hgb.size; have := hY.kp.size; simp; omega
  · rw [heap_setCell_other w' ⟨bx, 0, none⟩ k _ hne, hgb.block k (Nat.lt_of_lt_of_le hk hY.kp.size) (fun e => ?_)]
    · exact hY.kp.block k hk hne
    · have := (h4Y.lt k e.symm).1
      omega

theorem compact_tiny (ao : Option Addr) (n c : Nat) (hn : n ≤ 1) (W : World) :
    Calls Tryz.prog 54 #[.slice ao n c] W fun e w' => e = .returned (.slice ao n c) ∧ w' = W := by
  have h : ((n : Int) < 2) := by omega
  go_enter Tryz.func54, Tryz.ntmps54
  go_wp2
  go_ret
  exact ⟨rfl, rfl⟩
/-- What is sorted. -/
theorem perm_srt {n : Nat} {d d' : Array Pf} (hs : d.size = n) (hp : PermIn 0 n d d') (hso : SortedIn ltP 0 n d') : d'.toList.Perm d.toList ∧ SrtP d'.toList ∧ d'.size = n := by
  obtain ⟨h1, _, h3⟩ := hp
  have e1 : d'.extract 0 n = d' := by rw [← hs, ← h1]; simp
  have e2 : d.extract 0 n = d := by rw [← hs]; simp
  rw [e1, e2] at h3
  refine ⟨h3, ?_, by omega⟩
  unfold SrtP
  rw [List.pairwise_iff_getElem]
  intro i j hi hj hij
  have := hso i j (Nat.zero_le _) hij (by simp at hj; omega)
  rw [getElem!_pos d' i (by simpa using hi), getElem!_pos d' j (by simpa using hj)] at this
  simpa using this
theorem keyL_append (a b : List Rt) : keyL (a ++ b) = keyL a ++ keyL b := by simp [keyL]

end Go.Proofs.YtimbgijpeomfcacGreatDoor

/- CONTRACT OF package least: prefixes, the walk. -/
namespace Go.Proofs.YtimbgijpeomfcacGreatDoor
open Go.RowKit Go.Sort Go.Lib
attribute [local go_sem] Ext.all Ext.cell Ext.frozen Ext.lt Ext.lt1 Ext.lt2 Ext.ne Ext.ne'

theorem gr_but {a b c : World} {bx : Nat} (g : Gr a b) (k : Kp (fun k => k ≠ bx) b c) (h : a.heap.size ≤ bx) : Gr a c :=
  ⟨k.os.trans (Below.os g), k.tape.trans (Below.tape g), k.output.trans (Below.output g), Nat.le_trans (Below.size g) k.size, fun i hi => (k.block i (Nat.lt_of_lt_of_le hi (Below.size g)) (by omega)).trans (Below.block g i hi)⟩
theorem cmpGo_le : ∀ (L : List Pf) (q : Pf), (cmpGo q L).length ≤ L.length
  | [], _ => by simp [cmpGo]
  | p :: L, q => by
    rw [cmpGo]
    split
    · have := cmpGo_le L q; simp; omega
    · have := cmpGo_le L p; simp; omega
theorem cmpL_le (L : List Pf) : (cmpL L).length ≤ L.length := by
  cases L with
  | nil => simp [cmpL]
  | cons p L => have := cmpGo_le L p; simp [cmpL]; omega
theorem pfAt_holds {X : World} {g : Nat} {ps : List Pf} (h : HoldsK encP 2 X g 0 ps.toArray) (hg : g < X.heap.size) : PfAt X (some ⟨g, 0, none⟩) ps := by
  refine .inr ⟨g, rfl, hg, fun i hi => ?_⟩
  have := holds_at h (i := i) (by simpa using hi)
  rw [getElem!_pos ps.toArray i (by simpa using hi)] at this
  simpa using this

/-- The end: sorted, each once. -/
def PfEnd (rs ss : List Rt) (w : World) (e : Ending) (w' : World) : Prop := ∃ ao m c ps L, e = .returned (.slice ao m c) ∧ ps.length = m ∧ PfAt w' ao ps ∧ L.Perm (keyL rs ++ keyL ss) ∧ SrtP L ∧ ps = cmpL L ∧ Gr w w'

set_option maxHeartbeats 2000000 in
set_option maxRecDepth 50000 in
theorem prefixes_any {B : World} {Ma Mb : Nat → Prop} {ta tb : Nat} {va vb : Value} {rs ss : List Rt} (hA : TabS B Ma ta va rs) (hB : TabS B Mb tb vb ss) (hr : rs.length ≤ 400) (hs : ss.length ≤ 400) (hP : 2 ≤ rs.length + ss.length → PdqOK (rs.length + ss.length)) (wX : World) (gX : Gr B wX) :
    Calls Tryz.prog 28 #[pv ta, pv tb] wX fun e w' => PfEnd rs ss wX e w' := by
  have HA := hide (fun w g => hA.listOwn (by omega) w g)
  have HB := hide (fun w g => hB.listOwn (by omega) w g)
  obtain ⟨W0, hW0⟩ : ∃ W0, W0 = wX.alloc (.cells #[.slice none 0 0] 61) := ⟨_, rfl⟩
  have g0 : Gr wX W0 := by rw [hW0]; exact (Gr.refl _).alloc _
  have hbx : W0.heap[wX.heap.size]? = some (.cells #[.slice none 0 0] 61 (0, 0)) := by rw [hW0]; exact heap_alloc_new wX _
  have HBX := hide hbx
  have HW0 := hide hW0
  have HP := hide hP
  clear hbx hW0 hA hB hP
  generalize hN : rs.length + ss.length = N at *
  go_enter Tryz.func28, Tryz.ntmps28
  go_wp2_with (first
    | (go_at_call 10; rw [← HW0.out]; refine (HA.out W0 (gX.trans g0)).mono ?_; rintro e w1 ⟨v1, rfl, o1, g1⟩; have O1 := hide o1; clear o1)
    | (go_at_call 10; refine (HB.out w1 (gX.trans (g0.trans g1))).mono ?_; rintro e w2 ⟨v2, rfl, o2, g2⟩; obtain ⟨ao2, c2, hv2, _, hR2⟩ := o2.shape; subst hv2; obtain ⟨v3, w3, hr3, hO3, g3, _⟩ := run_app3 (c := c2) 22 (O1.out.gr g2) (g1.trans g2) hR2 rfl (by omega); obtain ⟨ao3, c3, hv3, _, hR3⟩ := hO3.shape; subst hv3; have HR3 := hide hr3; have HO3 := hide hO3; have HRow := hide hR3; clear hr3 hO3 hR3 hR2 o2)
    | (at_builtin; refine Lib.wpList_append_run _ rfl _ _ _ _ rfl _ _ rfl rfl _ _ HR3.out ?_)
    | fail)
  have hlen : (rs ++ ss).length = N := by rw [List.length_append]; exact hN
  have hbl : wX.heap.size < W0.heap.size := lt_of_block HBX.out
  have hlt3 : wX.heap.size < w3.heap.size := Nat.lt_of_lt_of_le hbl (Below.size g3)
  have hQ0 : Hid (BQ w3 w3 wX.heap.size (keyL ((rs ++ ss).take 0))) := ⟨Kp.refl _ _, hlt3, _, (Below.block g3 _ hbl).trans HBX.out, World.ownsRow_nil _ _ _ _⟩
  have HRow' : Hid (∀ wr, Kp (fun k => k ≠ wX.heap.size) w3 wr → RowAt wr (fun k => W0.heap.size ≤ k) ao3 (rs ++ ss)) := fun wr hk => HRow.out.kept (hk.mono fun k _ h => by omega)
  have HK : Hid (∀ k (h : k < (rs ++ ss).length), keyL ((rs ++ ss).take (k + 1)) = keyL ((rs ++ ss).take k) ++ [((rs ++ ss)[k].1, (rs ++ ss)[k].2.1)]) := fun k h => by
    rw [List.take_succ_eq_append_getElem h, keyL_append]; rfl
  have HKA : Hid (keyL ((rs ++ ss).take N) = keyL rs ++ keyL ss) := by unfold Hid; rw [← hlen, List.take_length, keyL_append]
  have HKL : Hid (∀ k, k ≤ N → (keyL ((rs ++ ss).take k)).length = k) := fun k hk => by unfold keyL; rw [List.length_map, List.length_take]; omega
  have gW3 := g0.trans g3
  clear HRow HO3 HR3 O1 HBX HW0 HA HB
  generalize rs ++ ss = al at *
  generalize hkl0 : keyL rs ++ keyL ss = kl at *
  have HKK := hide hkl0
  clear hkl0
  go_loopw [14] (fun v14 wr => ∃ k : Nat, k ≤ N ∧ v14 = .int .i64 k ∧ Hid (BQ w3 wr wX.heap.size (keyL (al.take k)))) (fun v14 _ => N - (intOf v14).toNat)
  case atStart => exact ⟨0, by omega, rfl, hQ0⟩
  case round =>
    obtain ⟨k, hk, rfl, hQ⟩ := hrel
    by_cases hlt : k < N
    · rcases HRow'.out wr hQ.out.kp with h | ⟨b, o, rfl, hb, hM, hcs⟩
      · rw [h] at hlen; simp at hlen; omega
      · obtain ⟨c0, c1, c2⟩ := hcs k (by omega)
        have HK1 := hide (HK.out k (by omega))
        have hkl := HKL.out k (by omega)
        obtain ⟨Y, hY⟩ : ∃ Y, Y = (wr.alloc (.cells #[iv al[k].1, iv al[k].2.1, iv al[k].2.2] 49)).alloc (.cells #[iv al[k].1, iv al[k].2.1] 30) := ⟨_, rfl⟩
        have gY : Gr wr Y := by rw [hY]; exact ((Gr.refl _).alloc _).alloc _
        have hbY : Y.heap[wr.heap.size + 1]? = some (.cells #[iv al[k].1, iv al[k].2.1] 30 (0, 0)) := by
          rw [hY]
          have := heap_alloc_new (wr.alloc (.cells #[iv al[k].1, iv al[k].2.1, iv al[k].2.2] 49)) (.cells #[iv al[k].1, iv al[k].2.1] 30)
          simpa using this
        obtain ⟨v, ao, c, w', x0, y0, hrun, x1, x2, hQ'⟩ := hQ.out.step gY (al[k].1, al[k].2.1) hbY (by rw [hkl]; omega) 61
        rw [← HK1.out] at hQ'
        rw [hkl] at hrun hQ'
        have HQ' := hide hQ'
        have HR := hide hrun
        have HY := hide hY
        have hxl : wX.heap.size < wr.heap.size := Nat.lt_of_lt_of_le hlt3 hQ.out.kp.size
        clear hcs hrun hQ' hY hbY y0 HK1
        generalize al[k].1 = rl at *
        generalize al[k].2.1 = rb at *
        generalize al[k].2.2 = rh at *
        go_wp2_with (at_builtin; refine Lib.wpList_append_run _ rfl _ _ _ _ rfl _ _ rfl rfl _ _ (by rw [← HY.out]; exact HR.out) ?_)
        go_roundw
        case rel => exact ⟨k + 1, by omega, by go_num, HQ'⟩
        case measure => simp [intOf]; omega
    · have hkN : k = N := by omega
      subst hkN
      have hQ1 := hQ.out
      rw [HKA.out] at hQ1
      have hl := HKL.out k (Nat.le_refl _)
      rw [HKA.out] at hl
      obtain ⟨v, hbx, hO⟩ := hQ1.box
      have gWr : Gr wX wr := gr_but gW3 hQ1.kp (Nat.le_refl _)
      have hxl : wX.heap.size < wr.heap.size := Nat.lt_of_lt_of_le hlt3 hQ1.kp.size
      have hs3 : w3.heap.size ≤ wr.heap.size := hQ1.kp.size
      have x0 : wr.cell? ⟨wX.heap.size, 0, none⟩ = some v := cell_of_one hbx
      have HO := hide hO
      have hne := ownP_ne hO hbx
      clear hQ hQ1 hQ0 HK HKL HKA HRow' hbx hO
      by_cases h1 : k ≤ 1
      · obtain ⟨ao, c, hv, _⟩ := own_shape HO.out
        rw [hl] at hv
        subst hv
        have HS := hide (sort_tiny (X := wr) (p := ao) (c := c) #[pv wX.heap.size] h1)
        have HC := hide (fun W => compact_tiny ao k c h1 W)
        go_wp2_with (first
          | (go_at_call 51; refine HS.out.mono ?_; rintro e w4 ⟨rfl, g4⟩; have y0 := (Below.cell g4 (p := ⟨wX.heap.size, 0, none⟩) hxl).trans x0)
          | (go_at_call 54; refine (HC.out _).mono ?_; rintro e _ ⟨rfl, rfl⟩)
          | fail)
        go_ret
        refine ⟨ao, k, c, kl, kl, rfl, hl, ?_, by rw [HKK.out], ?_, ?_, gWr.trans g4⟩
        · by_cases h0 : kl = []
          · exact .inl h0
          · obtain ⟨g, c', hv, _, _, _, hg, hH⟩ := (HO.out.gr g4).holds h0
            cases hv
            exact pfAt_holds hH hg
        · rcases kl with _ | ⟨p, _ | ⟨q, t⟩⟩
          · exact List.Pairwise.nil
          · exact List.pairwise_singleton _ _
          · simp at hl; omega
        · rcases kl with _ | ⟨p, _ | ⟨q, t⟩⟩
          · rfl
          · rfl
          · simp at hl; omega
      · have h0 : kl ≠ [] := by intro e; rw [e] at hl; simp at hl; omega
        obtain ⟨g, c, hv, hlc, hcm, hg3, hg, hH⟩ := HO.out.holds h0
        rw [hl] at hv hlc
        subst hv
        have hgne : wX.heap.size ≠ g := fun e => hne (by rw [← e]; rfl)
        have hcm' : c ≤ 9223372036854775807 := hcm
        have HS := hide (sort_any (c := c) hH (by simpa using hl) hg x0 hxl hgne (by omega) (by omega) (HP.out (by omega)))
        have HD : Hid (kl.toArray.toList = kl) := by unfold Hid; simp
        have hsz : kl.toArray.size = k := by simpa using hl
        generalize kl.toArray = d at *
        have HC := hide (fun (d' : Array Pf) W (hS : SG wr g d' W) (h : d'.size = k) => compact_any hS h (by omega) hlc hcm' (by omega))
        clear hH
        go_wp2_with (first
          | (go_at_call 51; refine HS.out.mono ?_; rintro e w4 ⟨rfl, d', hp, hso, hS4⟩; obtain ⟨hq1, hq2, hq3⟩ := perm_srt hsz hp hso; have y0 := (hS4.other hxl hgne 0).trans x0)
          | (go_at_call 54; refine (HC.out d' w4 hS4 hq3).mono ?_; rintro e w5 ⟨rfl, e', he1, he2, hS5⟩)
          | fail)
        go_ret
        rw [HD.out] at hq1
        have hls : (cmpL d'.toList).length ≤ k := by
          have := cmpL_le d'.toList
          simp at this; omega
        refine ⟨some ⟨g, 0, none⟩, _, c, cmpL d'.toList, d'.toList, rfl, rfl, ?_, by rw [HKK.out]; exact hq1, hq2, rfl, gr_but gWr hS5.kp (by omega)⟩
        refine .inr ⟨g, rfl, hS5.gLt, fun i hi => ?_⟩
        have := holds_at hS5.holds (i := i) (by omega)
        rw [he2 i hi, getElem!_pos _ i hi] at this
        exact this

end Go.Proofs.YtimbgijpeomfcacGreatDoor
