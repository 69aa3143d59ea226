/- CONTRACTS OF package table that only read: held, Look, Get, List, All, place. -/
import Derived.Test.YtklkminlkfnidacDoorMem
namespace Go.Proofs.YtklkminlkfnidacDoor
open Go.RowKit
attribute [local go_sem] Ext.all Ext.cell Ext.frozen Ext.lt Ext.lt1 Ext.lt2 Ext.ne Ext.ne'

theorem held_any (w : World) (tb : Nat) (v : Value) (hc : w.cell? ⟨tb, 0, none⟩ = some v) :
    Calls Tryd.prog 32 #[.pointer (some ⟨tb, 0, none⟩)] w fun e w' => e = .returned v ∧ w' = w := by
  go_enter Tryd.func32, Tryd.ntmps32
  go_wp2
  go_ret
  exact ⟨rfl, rfl⟩

theorem look_any (w : World) (M : Nat → Prop) (tb : Nat) (ao : Option Addr) (n c : Nat) (rs : List Rt) (a : Int) (hc : w.cell? ⟨tb, 0, none⟩ = some (.slice ao n c)) (H : RowAt w M ao rs) (hn : rs.length = n) (hm : n ≤ 1000) :
    Calls Tryd.prog 12 #[.pointer (some ⟨tb, 0, none⟩), .int .i64 a] w fun e w' => e = .returned (.int .i64 (lookL rs a)) ∧ ∃ d : Ext w, w' = d.out := by
  go_enter Tryd.func12, Tryd.ntmps12
  go_wp2_with (go_at_call 32; refine (held_any w tb _ hc).mono ?_; rintro e w1 ⟨rfl, hw1⟩; subst hw1)
  go_loopw [6] (fun i wr => ∃ (k : Nat) (j : Int), (k : Int) - 1 ≤ j ∧ j ≤ (k : Int) - 1 ∧ k ≤ n ∧ i = .int .i64 j ∧ Hid (lookL (rs.take k) a = lookL rs a) ∧ Gr w1 wr) (fun i _ => (intOf i + 1).toNat)
  case atStart => exact ⟨n, _, by omega, by omega, Nat.le_refl _, rfl, by unfold Hid; rw [List.take_of_length_le (by omega)], Gr.refl _⟩
  case round =>
    obtain ⟨k, j, hj1, hj2, hk, rfl, HL, g⟩ := hrel
    obtain ⟨d, rfl⟩ := ext_mk g
    clear hc
    by_cases h0 : k = 0
    · subst h0
      have hj : j = -1 := by omega
      subst hj
      have hr : -1 = lookL rs a := HL.out
      clear H
      go_wp2
      go_ret
      exact ⟨ret_int hr, _, rfl⟩
    · obtain ⟨m, rfl⟩ : ∃ m, k = m + 1 := ⟨k - 1, by omega⟩
      have hj : j = (m : Int) := by omega
      subst hj
      have hkr : m < rs.length := by omega
      rcases H with rfl | ⟨b, o, rfl, hb, hM, hcs⟩
      · simp at hn; omega
      obtain ⟨c1, c2, c3⟩ := hcs m hkr
      have HS : Hid (lookL (rs.take (m + 1)) a = if hasB rs[m].1 rs[m].2.1 a then rs[m].2.2 else lookL (rs.take m) a) := by unfold Hid; rw [List.take_succ_eq_append_getElem hkr, lookL_snoc]
      clear hcs
      generalize rs[m] = r at c1 c2 c3 HS
      obtain ⟨rl, rb, rh⟩ := r
      simp only at c1 c2 c3 HS
      cases hh : hasB rl rb a
      · have HR : Hid (lookL (rs.take m) a = lookL rs a) := by unfold Hid; have := HS.out; rw [hh] at this; simp at this; rw [← this]; exact HL.out
        have HH : Hid (hasB rl rb a = false) := hh
        clear hh HS HL
        go_wp2_with (go_at_call 33; with_reducible refine (Calls.ext_of (has_is HH.out _)).mono ?_; rintro e _ ⟨rfl, d1, rfl⟩)
        go_roundw
        case rel => exact ⟨m, _, by omega, by omega, by omega, rfl, HR, d1.gr⟩
        case measure => simp [intOf]
      · have HR : Hid (rh = lookL rs a) := by unfold Hid; have := HS.out; rw [hh] at this; simp at this; rw [← this]; exact HL.out
        have HH : Hid (hasB rl rb a = true) := hh
        clear hh HS HL
        go_wp2_with (go_at_call 33; with_reducible refine (Calls.ext_of (has_is HH.out _)).mono ?_; rintro e _ ⟨rfl, d1, rfl⟩)
        go_ret
        exact ⟨ret_int HR.out, _, rfl⟩

/-- Is the route at i not ahead of p? (The closure that place hands to the search.) -/
theorem place1_any (w : World) (M : Nat → Prop) (rb pb : Nat) (ao : Option Addr) (n c : Nat) (rs : List Rt) (l b : Int) (i : Nat) (hrb : w.cell? ⟨rb, 0, none⟩ = some (.slice ao n c)) (hp0 : w.cell? ⟨pb, 0, none⟩ = some (iv l)) (hp1 : w.cell? ⟨pb, 1, none⟩ = some (iv b))
    (hr : rb < w.heap.size) (hpb : pb < w.heap.size) (H : RowAt w M ao rs) (hn : rs.length = n) (hi : i < n) (v : Bool) (hv : Hid ((rs[i]?.map fun r => lessB r.1 r.2.1 l b) = some v)) :
    Calls Tryd.prog 60 #[.int .i64 i, .pointer (some ⟨rb, 0, none⟩), .pointer (some ⟨pb, 0, none⟩)] w fun e w' => e = .returned (.bool (!v)) ∧ ∃ d : Ext w, w' = d.out := by
  rcases H with rfl | ⟨rbk, o, rfl, hb, hM, hcs⟩
  · simp at hn; omega
  have hir : i < rs.length := by omega
  obtain ⟨c1, c2, c3⟩ := hcs i hir
  have HV : Hid (lessB rs[i].1 rs[i].2.1 l b = v) := by unfold Hid; have := hv.out; rw [List.getElem?_eq_getElem hir] at this; simpa using this
  clear hcs hv
  generalize rs[i] = r at c1 c2 c3 HV
  obtain ⟨rl, rbb, rh⟩ := r
  simp only at c1 c2 c3 HV
  go_enter Tryd.func60, Tryd.ntmps60
  go_wp2
  refine wp_region_ext (by kernel_rfl) (by kernel_rfl) ?_
  repeat (go_big_quiet_step ((go_at_call 58; with_reducible exact Calls.ext_of (less_is HV.out _))))
  refine wpQuiet_nil ?_
  rintro _ ⟨d1, rfl⟩
  go_wp2
  go_ret
  exact ⟨rfl, _, rfl⟩

end Go.Proofs.YtklkminlkfnidacDoor
