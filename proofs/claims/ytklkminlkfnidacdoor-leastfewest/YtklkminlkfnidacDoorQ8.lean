/- CONTRACT OF package least: prefixes. -/
import Derived.Test.YtklkminlkfnidacDoorQ7
namespace Go.Proofs.YtklkminlkfnidacDoor
open Go.RowKit Go.Sort Go.Lib
attribute [local go_sem] Ext.all Ext.cell Ext.frozen Ext.lt Ext.lt1 Ext.lt2 Ext.ne Ext.ne'

/-- A slice reads as these prefixes. -/
def PfAt (w : World) (ao : Option Addr) (ps : List Pf) : Prop := ps = [] ∨ ∃ b, ao = some ⟨b, 0, none⟩ ∧ b < w.heap.size ∧ ∀ i (h : i < ps.length), w.cell? ⟨b, i * 2, none⟩ = some (iv ps[i].1) ∧ w.cell? ⟨b, i * 2 + 1, none⟩ = some (iv ps[i].2)
theorem PfAt.gr {w w' : World} {ao : Option Addr} {ps : List Pf} (h : PfAt w ao ps) (g : Gr w w') : PfAt w' ao ps := by
  rcases h with h | ⟨b, h1, h2, h3⟩
  · exact .inl h
  · refine .inr ⟨b, h1, Nat.lt_of_lt_of_le h2 (Below.size g), fun i hi => ?_⟩
    rw [show w'.cell? ⟨b, i * 2, none⟩ = w.cell? ⟨b, i * 2, none⟩ from Below.cell g (p := ⟨b, i * 2, none⟩) h2, show w'.cell? ⟨b, i * 2 + 1, none⟩ = w.cell? ⟨b, i * 2 + 1, none⟩ from Below.cell g (p := ⟨b, i * 2 + 1, none⟩) h2]
    exact h3 i hi

/-- A variable that holds a list of prefixes younger than A; all else of A is as it was. -/
structure BQ (A X : World) (bx : Nat) (ps : List Pf) : Prop where
  kp : Kp (fun k => k ≠ bx) A X
  lt : bx < A.heap.size
  box : ∃ v, X.heap[bx]? = some (.cells #[v] 81 (0, 0)) ∧ OwnP A X v ps
theorem BQ.gr {A X Y : World} {bx : Nat} {ps : List Pf} (h : BQ A X bx ps) (g : Gr X Y) : BQ A Y bx ps := by
  obtain ⟨v, h3, h4⟩ := h.box
  exact ⟨h.kp.trans (g.kp _), h.lt, v, (Below.block g bx (lt_of_block h3)).trans h3, h4.gr g⟩
/-- One prefix more. -/
theorem BQ.step {A X Y : World} {bx b : Nat} {ps : List Pf} (h : BQ A X bx ps) (g : Gr X Y) (p : Pf) (hb : Y.heap[b]? = some (.cells #[iv p.1, iv p.2] 43 (0, 0))) (hm : ps.length ≤ 1000) (ty : TypeId) :
    ∃ v ao c w', X.cell? ⟨bx, 0, none⟩ = some v ∧ Y.cell? ⟨bx, 0, none⟩ = some v ∧ (Builtin.append_ #[81, 81] ty #[v, .slice (some ⟨b, 0, none⟩) 1 1]).run Tryd.prog Y = .ok (.slice ao (ps.length + 1) c) w' ∧
      w'.cell? ⟨bx, 0, none⟩ = some v ∧ w'.frozen? ⟨bx, 0, none⟩ = false ∧ BQ A (w'.setCell ⟨bx, 0, none⟩ (.slice ao (ps.length + 1) c)) bx (ps ++ [p]) := by
  obtain ⟨v, h3, h4⟩ := h.box
  have hY := h.gr g
  have h3Y : Y.heap[bx]? = some (.cells #[v] 81 (0, 0)) := (Below.block g bx (lt_of_block h3)).trans h3
  have h4Y : OwnP A Y v ps := h4.gr g
  obtain ⟨i0, hi, hz0, hz1, hz2⟩ := info_parts Tryd.infoP
  obtain ⟨v', w', h1, h2, hgb, _⟩ := run_append_own (P := Tryd.prog) Y A.heap.size 81 ty 43 i0 _ 2 16 Tryd.underlying81 hi hz0 hz1 hz2 (by rfl) (by decide) v ps.length (pels ps) h4Y
    ⟨b, 0, none⟩ 1 1 (pels [p]) (by rw [pels_length]; rfl) (fun j u hj => by
      have hj2 : j < 2 := by
        have := (List.getElem?_eq_some_iff.1 hj).1
        rw [pels_length] at this; simpa using this
      rw [Addr.add_lit]
      rcases (show j = 0 ∨ j = 1 by omega) with rfl | rfl
      · simp [pels] at hj; subst hj; simp [World.cell?, hb]
      · simp [pels] at hj; subst hj; simp [World.cell?, hb])
    (pels_one _) (by unfold maxLen; omega) (by omega) hY.kp.size
  have hO : OwnP A w' v' (ps ++ [p]) := by
    unfold OwnP
    rw [pels_append, List.length_append]
    exact h2
  obtain ⟨ao, c, rfl, _⟩ := own_shape h2
  have hcw : w'.heap[bx]? = some (.cells #[v] 81 (0, 0)) := by
    rw [hgb.block bx (lt_of_block h3Y) (fun e => ownP_ne h4Y h3Y e.symm)]; exact h3Y
  refine ⟨v, ao, c, w', cell_of_one h3, cell_of_one h3Y, h1, cell_of_one hcw, free_of_one hcw, ⟨?_, h.lt, _, one_setCell hcw, ownsRow_setCell_other hO (ownP_ne hO hcw) _⟩⟩
  refine ⟨?_, ?_, ?_, ?_, fun k hk hne => ?_⟩
  · show w'.os = _; rw [hgb.os]; exact hY.kp.os
  · show w'.tape = _; rw [hgb.tape]; exact hY.kp.tape
  · show w'.output = _; rw [hgb.output]; exact hY.kp.output
  · have := hgb.size; have := hY.kp.size; simp; omega
  · rw [heap_setCell_other w' ⟨bx, 0, none⟩ k _ hne, hgb.block k (Nat.lt_of_lt_of_le hk hY.kp.size) (fun e => ?_)]
    · exact hY.kp.block k hk hne
    · have := (h4Y.lt k e.symm).1
      omega

theorem compact_tiny (ao : Option Addr) (n c : Nat) (hn : n ≤ 1) (W : World) :
    Calls Tryd.prog 65 #[.slice ao n c] W fun e w' => e = .returned (.slice ao n c) ∧ w' = W := by
  have h : ((n : Int) < 2) := by omega
  go_enter Tryd.func65, Tryd.ntmps65
  go_wp2
  go_ret
  exact ⟨rfl, rfl⟩
/-- What is sorted. -/
theorem perm_srt {n : Nat} {d d' : Array Pf} (hs : d.size = n) (hp : PermIn 0 n d d') (hso : SortedIn ltP 0 n d') : d'.toList.Perm d.toList ∧ SrtP d'.toList ∧ d'.size = n := by
  obtain ⟨h1, _, h3⟩ := hp
  have e1 : d'.extract 0 n = d' := by rw [← hs, ← h1]; simp
  have e2 : d.extract 0 n = d := by rw [← hs]; simp
  rw [e1, e2] at h3
  refine ⟨h3, ?_, by omega⟩
  unfold SrtP
  rw [List.pairwise_iff_getElem]
  intro i j hi hj hij
  have := hso i j (Nat.zero_le _) hij (by simp at hj; omega)
  rw [getElem!_pos d' i (by simpa using hi), getElem!_pos d' j (by simpa using hj)] at this
  simpa using this
theorem keyL_append (a b : List Rt) : keyL (a ++ b) = keyL a ++ keyL b := by simp [keyL]

end Go.Proofs.YtklkminlkfnidacDoor
