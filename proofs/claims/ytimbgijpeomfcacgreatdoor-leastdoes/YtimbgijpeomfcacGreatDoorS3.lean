/- CONTRACTS: (*Table).List, (*Table).All. -/
import Derived.Test.YtimbgijpeomfcacGreatDoorS2
import Derived.Test.YtimbgijpeomfcacGreatDoorRuns
namespace Go.Proofs.YtimbgijpeomfcacGreatDoor
open Go.RowKit
attribute [local go_sem] Ext.all Ext.cell Ext.frozen Ext.lt Ext.lt1 Ext.lt2 Ext.ne Ext.ne'

theorem own_shape {w : World} {base e size n : Nat} {v : Value} {xs : List Value} (h : w.ownsRow base e size v n xs) : ∃ ao c, v = .slice ao n c ∧ ∀ a, ao = some a → base ≤ a.block := by
  rcases h.2 with ⟨rfl, rfl⟩ | ⟨g, cap, cur, rfl, hb, _⟩
  · exact ⟨none, 0, rfl, fun a h => by cases h⟩
  · exact ⟨_, _, rfl, fun a h => by cases h; exact hb⟩

/-- What is owned stays owned behind new blocks. -/
theorem own_gr {w w' : World} {base e size n : Nat} {v : Value} {xs : List Value} (h : w.ownsRow base e size v n xs) (g : Gr w w') : w'.ownsRow base e size v n xs := by
  refine ⟨h.1, ?_⟩
  rcases h.2 with hn | ⟨b, cap, cur, rfl, hb, hgg, rest⟩
  · exact .inl hn
  · exact .inr ⟨b, cap, cur, rfl, hb, by rw [g.block b (lt_of_block hgg)]; exact hgg, rest⟩

theorem list_any (w : World) (M : Nat → Prop) (tb : Nat) (ao : Option Addr) (n c : Nat) (rs : List Rt) (hc : w.cell? ⟨tb, 0, none⟩ = some (.slice ao n c)) (H : RowAt w M ao rs) (hn : rs.length = n) (hm : n ≤ 1000) :
    Calls Tryz.prog 10 #[.pointer (some ⟨tb, 0, none⟩)] w fun e w' => ∃ ao' c', e = .returned (.slice ao' n c') ∧ RowAt w' (fun k => w.heap.size ≤ k) ao' rs ∧ ∃ d : Ext w, w' = d.out := by
  obtain ⟨v', w2, hr, hown, hgr⟩ := run_append_new w M 22 ao n c rs H hn (by omega)
  obtain ⟨ao', c', rfl, hb⟩ := own_shape hown
  have hrow := (rowAt_own (M := fun k => w.heap.size ≤ k) hown hb).1
  have gr : Gr w w2 := (Gr.refl _).grown hgr (fun k h => by cases h)
  have HR : Hid _ := hr
  clear hr hown hgr hb
  obtain ⟨d, rfl⟩ := ext_mk gr
  go_enter Tryz.func10, Tryz.ntmps10
  go_wp2_with (first | (go_at_call 26; refine (held_any _ tb _ hc).mono ?_; rintro e w1 ⟨rfl, hw1⟩; subst hw1) | (at_builtin; refine Lib.wpList_append_run _ rfl _ _ _ _ rfl _ _ rfl rfl _ _ HR.out ?_))
  go_ret
  exact ⟨_, _, rfl, hrow, _, rfl⟩

theorem Tryz.info3 : (Tryz.prog.info? 3).map (fun i => (i.zero, i.size, i.bytes)) = some (some (.int .i64 0), 1, 8) := by kernel_rfl

/-- Of the first k addresses where they go; of the others 0. -/
def hopsL (rs : List Rt) (k : Nat) : List Value := (List.range 256).map fun j => if j < k then iv (lookL rs j) else iv 0
theorem hopsL_length (rs : List Rt) (k : Nat) : (hopsL rs k).length = 256 := by simp [hopsL]
theorem hopsL_set (rs : List Rt) (k : Nat) (_hk : k < 256) : (hopsL rs k).set k (iv (lookL rs k)) = hopsL rs (k + 1) := by
  apply List.ext_getElem
  · simp [hopsL]
  · intro j h1 h2
    simp only [hopsL, List.getElem_set, List.getElem_map, List.getElem_range]
    by_cases e : k = j
    · subst e; simp
    · rw [if_neg e]
      by_cases h : j < k
      · rw [if_pos h, if_pos (by omega)]
      · rw [if_neg h, if_neg (by omega)]
theorem made_hops (rs : List Rt) : (madeCells #[Value.int .i64 0] 256).toList = hopsL rs 0 := by
  rw [toList_madeCells_one]
  simp [hopsL, List.map_const']
theorem hopsL_next (rs : List Rt) (k : Nat) (hk : k < 256) : (hopsL rs k)[k]? = some (iv 0) := by
  simp [hopsL, hk]
theorem hopsL_at (rs : List Rt) (j : Nat) (hj : j < 256) : (hopsL rs 256)[j]? = some (iv (lookL rs j)) := by
  simp [hopsL, hj]

set_option maxRecDepth 20000 in
theorem all_any (w : World) (M : Nat → Prop) (tb : Nat) (ao : Option Addr) (n c : Nat) (rs : List Rt) (hc : w.cell? ⟨tb, 0, none⟩ = some (.slice ao n c)) (htb : tb < w.heap.size) (H : RowAt w M ao rs) (hn : rs.length = n) (hm : n ≤ 1000) :
    Calls Tryz.prog 41 #[.pointer (some ⟨tb, 0, none⟩)] w fun e w' => ∃ g, e = .returned (.slice (some ⟨g, 0, none⟩) 256 256) ∧ w.heap.size ≤ g ∧ g < w'.heap.size ∧ (∀ j : Nat, j < 256 → w'.cell? ⟨g, j, none⟩ = some (iv (lookL rs j))) ∧ ∃ d : Ext w, w' = d.out := by
  obtain ⟨i0, hi, hz0, hz1, hz2⟩ := info_parts Tryz.info3
  go_enter Tryz.func41, Tryz.ntmps41
  go_wp2_with (at_make; refine wpList_make_full _ rfl _ _ 31 rfl w.heap.size 3 i0 (.int .i64 0) 1 Tryz.underlying31 hi hz0 hz1 _ _ _ _ 256 rfl rfl rfl rfl ?b2 ?b3 (Nat.le_refl _) ?_)
  case b2 => rw [hz2]; decide
  case b3 => unfold maxLen; decide
  intro w0 hown0 hgrow0
  have gr0 : Gr w w0 := (Gr.refl _).grown hgrow0 (fun k h => by cases h)
  clear hgrow0
  have hown1 : w0.ownsRow w.heap.size 3 1 (.slice (some ⟨w.heap.size, 0, none⟩) 256 256) 256 (hopsL rs 0) := by
    rw [made_hops rs] at hown0; exact hown0
  clear hown0
  obtain ⟨G, hG⟩ : ∃ G, G = w.heap.size := ⟨_, rfl⟩
  rw [← hG] at hown1 ⊢
  have HG : Hid (G = w.heap.size) := hG
  clear hG
  go_wp2
  go_loopw [4, 8] (fun _ i wr => ∃ k : Nat, k ≤ 256 ∧ i = .int .i64 k ∧ Hid (wr.ownsRow G 3 1 (.slice (some ⟨G, 0, none⟩) 256 256) 256 (hopsL rs k)) ∧ Gr w wr) (fun _ i _ => 256 - (intOf i).toNat)
  case atStart => exact ⟨0, by omega, rfl, hown1, gr0⟩
  case round =>
    clear hown1
    obtain ⟨k, hk, rfl, hown, g⟩ := hrel
    obtain ⟨d, rfl⟩ := ext_mk g
    by_cases hlt : k < 256
    · have HC : Hid (Calls Tryz.prog 60 #[.pointer (some ⟨tb, 0, none⟩), .int .i64 k] d.out fun e w' => e = .returned (.int .i64 (lookL rs k)) ∧ ∃ d' : Ext d.out, w' = d'.out) :=
        look_any d.out M tb ao n c rs k ((d.cell tb 0 htb).trans hc) (H.gr d.gr) hn hm
      clear hc H
      go_wp2_with (go_at_call 60; refine HC.out.mono ?_; rintro e _ ⟨rfl, d1, rfl⟩; have hown2 := hide (own_gr hown.out d1.gr); have hce := (hown2.out.cellAt k (by omega)).trans (hopsL_next rs k hlt); have hfz := hown2.out.frozenAt k)
      have hst := hown2.out.stored k (iv (lookL rs k))
      rw [hopsL_set rs k hlt] at hst
      go_roundw
      case rel => exact ⟨k + 1, by omega, by go_num, hst.1, (d.gr.ext d1).grown hst.2 (fun x hx => by cases hx; exact Nat.le_of_eq HG.out.symm)⟩
      case measure => simp [intOf]; omega
    · have : k = 256 := by omega
      subst this
      have hw := hown.out
      clear hc H
      go_wp2
      go_ret
      exact ⟨G, rfl, Nat.le_of_eq HG.out.symm, (hw.lt G rfl).2, fun j hj => (hw.cellAt j (by omega)).trans (hopsL_at rs j hj), d, rfl⟩

end Go.Proofs.YtimbgijpeomfcacGreatDoor
