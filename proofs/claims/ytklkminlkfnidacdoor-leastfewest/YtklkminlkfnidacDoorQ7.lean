/- LISTS OF PREFIXES OF A CALL's OWN; List as such a list of routes; append of any row. -/
import Derived.Test.YtklkminlkfnidacDoorQ6
import Derived.Test.YtklkminlkfnidacDoorOwnL
namespace Go.Proofs.YtklkminlkfnidacDoor
open Go.RowKit Go.Sort Go.Lib
attribute [local go_sem] Ext.all Ext.cell Ext.frozen Ext.lt Ext.lt1 Ext.lt2 Ext.ne Ext.ne'

theorem list_own (w : World) (M : Nat → Prop) (tb : Nat) (ao : Option Addr) (n c : Nat) (rs : List Rt) (hc : w.cell? ⟨tb, 0, none⟩ = some (.slice ao n c)) (H : RowAt w M ao rs) (hn : rs.length = n) (hm : n ≤ 1000) :
    Calls Tryd.prog 14 #[.pointer (some ⟨tb, 0, none⟩)] w fun e w' => ∃ v, e = .returned v ∧ Own w w' v rs ∧ Gr w w' := by
  obtain ⟨v', w2, hr, hown, hgr⟩ := run_append_new w M 22 ao n c rs H hn (by omega)
  obtain ⟨ao', c', rfl, hb⟩ := own_shape hown
  have gr : Gr w w2 := (Gr.refl _).grown hgr (fun k h => by cases h)
  have HR : Hid _ := hr
  have HO : Hid (Own w w2 (.slice ao' n c') rs) := by unfold Hid Own; rw [hn]; exact hown
  clear hr hown hgr hb
  obtain ⟨d, rfl⟩ := ext_mk gr
  go_enter Tryd.func14, Tryd.ntmps14
  go_wp2_with (first | (go_at_call 32; refine (held_any _ tb _ hc).mono ?_; rintro e w1 ⟨rfl, hw1⟩; subst hw1) | (at_builtin; refine Lib.wpList_append_run _ rfl _ _ _ _ rfl _ _ rfl rfl _ _ HR.out ?_))
  go_ret
  exact ⟨_, rfl, HO.out, gr⟩
/-- List of a table, in whatever world has grown. -/
theorem TabS.listOwn {B : World} {M : Nat → Prop} {tb : Nat} {v : Value} {rs : List Rt} (h : TabS B M tb v rs) (hm : rs.length ≤ 1000) (wX : World) (gX : Gr B wX) :
    Calls Tryd.prog 14 #[pv tb] wX fun e w' => ∃ v, e = .returned v ∧ Own wX w' v rs ∧ Gr wX w' := by
  have h' := h.gr gX
  obtain ⟨ao, c, rfl, hR⟩ := h'.shape
  exact list_own wX _ tb ao rs.length c rs h'.cell0 hR rfl hm

/-- 'append(l, x...)', x of whatever length. -/
theorem run_app3 {B w : World} {v : Value} {rs xs : List Rt} {M : Nat → Prop} {ao : Option Addr} {m c : Nat} (ty : TypeId) (hO : Own B w v rs) (g : Gr B w) (H : RowAt w M ao xs) (hl : xs.length = m) (hm : rs.length + m ≤ 2000) :
    ∃ v' w', (Builtin.append_ #[22, 22] ty #[v, .slice ao m c]).run Tryd.prog w = .ok v' w' ∧ Own B w' v' (rs ++ xs) ∧ Gr B w' ∧ w.grownBy w' v.ownBlock := by
  obtain ⟨i0, hi, hz0, hz1, hz2⟩ := info_parts Tryd.info45
  cases ao with
  | none =>
    have h0 : xs = [] := by
      rcases H with h | ⟨b, o, h, _⟩
      · exact h
      · cases h
    subst h0
    have : m = 0 := by simpa using hl.symm
    subst this
    obtain ⟨ao', c', rfl, hlc, _⟩ := hO.shape
    refine ⟨.slice ao' rs.length c', w, ?_, by rw [List.append_nil]; exact hO, g, World.grownBy.refl _ _⟩
    cases ao' <;> simp [Builtin.append_, run_underlying Tryd.underlying22, sizeOf, typeInfo, hi, Builtin.lenOf, Builtin.firstCells, hlc, storeCells]
  | some a =>
    have hc : ∀ j u, (cels xs)[j]? = some u → w.cell? (a.add j) = some u := by
      rcases H with h | ⟨b, o, h, _, _, hcs⟩
      · subst h; intro j u hj; simp [cels] at hj
      · cases h
        intro j u hj
        rw [Addr.add_lit]
        exact cels_cells hcs j u hj
    obtain ⟨v', w', h1, h2, h3, _⟩ := run_append_own (P := Tryd.prog) w B.heap.size 22 ty 45 i0 _ 3 24 Tryd.underlying22 hi hz0 hz1 hz2 (by rfl) (by decide) v rs.length (cels rs) hO
      a m c (cels xs) (by rw [cels_length, hl]) hc (cels_one xs) (by unfold maxLen; omega) (by omega) (Below.size g)
    refine ⟨v', w', h1, ?_, g.grown h3 (fun k hk => (hO.lt k hk).1), h3⟩
    unfold Own
    rw [cels_append, List.length_append, hl]
    exact h2

/-- Cells of prefixes. -/
def pels (ps : List Pf) : List Value := ps.flatMap encP
theorem pels_append (a b : List Pf) : pels (a ++ b) = pels a ++ pels b := by simp [pels]
theorem pels_length : ∀ ps : List Pf, (pels ps).length = ps.length * 2
  | [] => rfl
  | p :: ps => by
    show (encP p ++ pels ps).length = _
    rw [List.length_append, pels_length ps]; simp; omega
theorem pels_get : ∀ (ps : List Pf) (j : Nat), j < ps.length * 2 → (pels ps)[j]? = some (encP ps[j / 2]!)[j % 2]!
  | [], j, h => by simp at h
  | p :: ps, 0, _ => by simp [pels]
  | p :: ps, 1, _ => by simp [pels]
  | p :: ps, j + 2, h => by
    have ih := pels_get ps j (by simp at h; omega)
    show (iv p.1 :: iv p.2 :: pels ps)[j + 2]? = _
    rw [show (j + 2) / 2 = j / 2 + 1 by omega, show (j + 2) % 2 = j % 2 by omega]
    simpa using ih
theorem pels_one : ∀ (ps : List Pf), ∀ u ∈ pels ps, u.oneCell' = true
  | [], u, h => by cases h
  | p :: ps, u, h => by
    have : u = iv p.1 ∨ u = iv p.2 ∨ u ∈ pels ps := by simpa [pels] using h
    rcases this with rfl | rfl | h
    · rfl
    · rfl
    · exact pels_one ps u h
/-- A list of prefixes in memory that is younger than B. -/
def OwnP (B w : World) (v : Value) (ps : List Pf) : Prop := w.ownsRow B.heap.size 43 2 v ps.length (pels ps)
theorem OwnP.gr {B w w' : World} {v : Value} {ps : List Pf} (h : OwnP B w v ps) (g : Gr w w') : OwnP B w' v ps := own_gr h g
/-- Where it stands. -/
theorem OwnP.holds {B w : World} {v : Value} {ps : List Pf} (h : OwnP B w v ps) (h0 : ps ≠ []) : ∃ g c, v = .slice (some ⟨g, 0, none⟩) ps.length c ∧ ps.length ≤ c ∧ c ≤ maxLen ∧ B.heap.size ≤ g ∧ g < w.heap.size ∧ HoldsK encP 2 w g 0 ps.toArray := by
  rcases h.2 with ⟨_, h2⟩ | ⟨g, cap, cur, h1, hb, hg, hn, hc, hs, ht⟩
  · exact absurd (List.eq_nil_of_length_eq_zero h2) h0
  · refine ⟨g, cap, h1, hn, hc, hb, (Array.getElem?_eq_some_iff.1 hg).1, fun j hj => ?_⟩
    have hj' : j < ps.length * 2 := by simpa using hj
    refine ⟨?_, by simp [World.frozen?, hg]⟩
    rw [get_flatK _ _ _ j (by simpa using hj), Nat.zero_add]
    have e : w.cell? ⟨g, j, none⟩ = (pels ps)[j]? := by
      rw [← ht, List.getElem?_take_of_lt hj']
      simp [World.cell?, hg]
    rw [e, pels_get ps j hj']
    simp
/-- 'append(l, p)'. -/
theorem run_appP {B w : World} {v : Value} {ps : List Pf} {b : Nat} (p : Pf) (ty : TypeId) (hO : OwnP B w v ps) (g : Gr B w) (hb : w.heap[b]? = some (.cells #[iv p.1, iv p.2] 43 (0, 0))) (hm : ps.length ≤ 1000) :
    ∃ v' w', (Builtin.append_ #[81, 81] ty #[v, .slice (some ⟨b, 0, none⟩) 1 1]).run Tryd.prog w = .ok v' w' ∧ OwnP B w' v' (ps ++ [p]) ∧ Gr B w' ∧ w.grownBy w' v.ownBlock := by
  obtain ⟨i0, hi, hz0, hz1, hz2⟩ := info_parts Tryd.infoP
  obtain ⟨v', w', h1, h2, h3, _⟩ := run_append_own (P := Tryd.prog) w B.heap.size 81 ty 43 i0 _ 2 16 Tryd.underlying81 hi hz0 hz1 hz2 (by rfl) (by decide) v ps.length (pels ps) hO
    ⟨b, 0, none⟩ 1 1 (pels [p]) (by rw [pels_length]; rfl) (fun j u hj => by
      have hj2 : j < 2 := by
        have := (List.getElem?_eq_some_iff.1 hj).1
        rw [pels_length] at this; simpa using this
      rw [Addr.add_lit]
      rcases (show j = 0 ∨ j = 1 by omega) with rfl | rfl
      · simp [pels] at hj; subst hj; simp [World.cell?, hb]
      · simp [pels] at hj; subst hj; simp [World.cell?, hb])
    (pels_one _) (by unfold maxLen; omega) (by omega) (Below.size g)
  refine ⟨v', w', h1, ?_, g.grown h3 (fun k hk => (hO.lt k hk).1), h3⟩
  unfold OwnP
  rw [pels_append, List.length_append]
  exact h2
/-- A variable that holds such a list. -/
def BoxP (A X : World) (bx : Nat) (ps : List Pf) : Prop := Gr A X ∧ A.heap.size ≤ bx ∧ ∃ v, X.heap[bx]? = some (.cells #[v] 81 (0, 0)) ∧ OwnP A X v ps
theorem BoxP.gr {A X Y : World} {bx : Nat} {ps : List Pf} (h : BoxP A X bx ps) (g : Gr X Y) : BoxP A Y bx ps := by
  obtain ⟨h1, h2, v, h3, h4⟩ := h
  exact ⟨h1.trans g, h2, v, (Below.block g bx (lt_of_block h3)).trans h3, h4.gr g⟩
theorem ownP_ne {A X : World} {bx : Nat} {ps : List Pf} {v u : Value} (h : OwnP A X v ps) (hb : X.heap[bx]? = some (.cells #[u] 81 (0, 0))) : v.ownBlock ≠ some bx := by
  intro e
  rcases h.2 with ⟨hn, _⟩ | ⟨g, cap, cur, hv, _, hgg, rest⟩
  · rw [hn] at e; cases e
  · rw [hv] at e
    simp only [Value.ownBlock, Option.some.injEq] at e
    rw [e, hb] at hgg
    simp at hgg

end Go.Proofs.YtklkminlkfnidacDoor
