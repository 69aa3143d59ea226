/- CONTRACTS OF prefix.Child AND OF handpostref.Last, as at layer 1. -/
import Derived.Test.YtmlmcpopkcgflabL1
namespace Go.Proofs.Ytmlmcpopkcgflab
open Go.RowKit
attribute [local go_sem] Ext.all Ext.cell Ext.frozen Ext.lt Ext.lt1 Ext.lt2 Ext.ne Ext.ne'

theorem or_0 (b : Int) (h0 : 0 ≤ b) (h : b < 256) : bits .or .i64 (b * 2) 0 = b * 2 := by
  have : ∀ n : Fin 256, bits .or .i64 ((n.val : Int) * 2) 0 = (n.val : Int) * 2 := by decide +kernel
  have h1 := this ⟨b.toNat, by omega⟩
  simpa [Int.toNat_of_nonneg h0] using h1
theorem or_1 (b : Int) (h0 : 0 ≤ b) (h : b < 256) : bits .or .i64 (b * 2) 1 = b * 2 + 1 := by
  have : ∀ n : Fin 256, bits .or .i64 ((n.val : Int) * 2) 1 = (n.val : Int) * 2 + 1 := by decide +kernel
  have h1 := this ⟨b.toNat, by omega⟩
  simpa [Int.toNat_of_nonneg h0] using h1

theorem child_yes0 (l b : Int) (ho : okB l b = true) (h8 : l < 8) (w : World) :
    Calls Try.prog 59 #[pfx l b, .int .i64 0] w fun e w' => e = .returned (.tuple #[pfx (l + 1) (b * 2), .bool true]) ∧ ∃ d : Ext w, w' = d.out := by
  obtain ⟨h0, _, hb, hl, g1, g2⟩ := ok_pows ho
  obtain ⟨p1, p2⟩ := pw_bd l (by omega)
  have e8 : (l == 8) = false := by simp; omega
  go_enter Try.func59, Try.ntmps59
  go_wp2_with (go_at_call 41; refine (check_is ho _).mono ?_; rintro e _ ⟨rfl, d1, rfl⟩)
  refine bodyPost_ret (v := .tuple #[pfx (l + 1) (b * 2), .bool true]) (by simp [results, Try.results59, go_sem, or_0 b hb (by omega)]) rfl ⟨rfl, ext_mk ?_⟩
  exact (((((Gr.refl _).alloc _).alloc _).ext d1).setCell (by simp) _).setCell (by simp) _

theorem child_yes1 (l b : Int) (ho : okB l b = true) (h8 : l < 8) (w : World) :
    Calls Try.prog 59 #[pfx l b, .int .i64 1] w fun e w' => e = .returned (.tuple #[pfx (l + 1) (b * 2 + 1), .bool true]) ∧ ∃ d : Ext w, w' = d.out := by
  obtain ⟨h0, _, hb, hl, g1, g2⟩ := ok_pows ho
  obtain ⟨p1, p2⟩ := pw_bd l (by omega)
  have e8 : (l == 8) = false := by simp; omega
  go_enter Try.func59, Try.ntmps59
  go_wp2_with (go_at_call 41; refine (check_is ho _).mono ?_; rintro e _ ⟨rfl, d1, rfl⟩)
  refine bodyPost_ret (v := .tuple #[pfx (l + 1) (b * 2 + 1), .bool true]) (by simp [results, Try.results59, go_sem, or_1 b hb (by omega)]) rfl ⟨rfl, ext_mk ?_⟩
  exact (((((Gr.refl _).alloc _).alloc _).ext d1).setCell (by simp) _).setCell (by simp) _

theorem last_found {l b : Int} {k : Nat} (h : hasB l b k = true) (hn : ∀ j : Nat, k < j → j < 256 → hasB l b j = false) : (k : Int) = lastI l b := by
  have ok := (has_iff.1 h).1
  obtain ⟨f0, fl, l1, _⟩ := @span_has l b 0 ok
  have hk := (@span_has l b k ok).2.2.2.1 h
  by_cases e : k < lastI l b
  · have := hn (lastI l b).toNat (by omega) (by omega)
    have h2 := (@span_has l b ((lastI l b).toNat : Nat) ok).2.2.2.2 (by omega)
    rw [h2] at this; cases this
  · omega
theorem last_none {l b : Int} (hn : ∀ j : Nat, j < 256 → hasB l b j = false) : lastI l b = -1 := by
  cases ok : okB l b
  · simp [lastI, ok]
  · obtain ⟨f0, fl, l1, _⟩ := @span_has l b 0 ok
    have := hn (firstI l b).toNat (by omega)
    have h2 := (@span_has l b ((firstI l b).toNat : Nat) ok).2.2.2.2 (by omega)
    rw [h2] at this; cases this

set_option maxRecDepth 100000 in
theorem rlast_any (l b : Int) (w : World) :
    Calls Try.prog 30 #[pfx l b] w fun e w' => e = .returned (.int .i64 (lastI l b)) ∧ ∃ d : Ext w, w' = d.out := by
  go_enter Try.func30, Try.ntmps30
  go_wp2
  go_loopw [3] (fun i wr => ∃ (k : Nat) (z : Int), k ≤ 256 ∧ z ≤ (k : Int) - 1 ∧ (k : Int) - 1 ≤ z ∧ i = .int .i64 z ∧ Hid (∀ j : Nat, k ≤ j → j < 256 → hasB l b j = false) ∧ Gr (w.alloc (.cells #[.int .i64 l, .int .i64 b] 33)) wr) (fun i _ => (intOf i + 1).toNat)
  case atStart => exact ⟨256, 255, by omega, by omega, by omega, rfl, (fun j hj hj' => by omega), Gr.refl _⟩
  case round =>
    obtain ⟨k, z, hk, z1, z2, rfl, HN, hgr⟩ := hrel
    obtain ⟨dr, rfl⟩ := ext_mk hgr
    clear hgr
    cases k with
    | succ k =>
      have hz : z = ((k : Nat) : Int) := by omega
      have HZ := hide hz
      have hz0 : 0 ≤ z := by omega
      clear hz
      cases hh : hasB l b z
      · have HH := hide hh
        clear hh
        go_wp2_with (go_at_call 14; with_reducible refine (Calls.ext_of (rhas_is HH.out _)).mono ?_; rintro e _ ⟨rfl, d1, rfl⟩)
        go_roundw
        case rel => exact ⟨k, z - 1, by omega, by omega, by omega, rfl, (fun j hj hj' => by rcases Nat.lt_or_eq_of_le hj with h | h; exact HN.out j h hj'; rw [← h, ← HZ.out]; exact HH.out), d1.gr⟩
        case measure => simp [intOf]; omega
      · have HH := hide hh
        clear hh
        go_wp2_with (go_at_call 14; with_reducible refine (Calls.ext_of (rhas_is HH.out _)).mono ?_; rintro e _ ⟨rfl, d1, rfl⟩)
        go_ret
        exact ⟨ret_int (by rw [HZ.out]; exact last_found (by rw [← HZ.out]; exact HH.out) (fun j hj hj' => HN.out j hj hj')), ext_mk (((Gr.refl _).alloc _).ext d1)⟩
    | zero =>
      have hz0 : ¬ 0 ≤ z := by omega
      go_wp2
      go_ret
      exact ⟨ret_int (last_none (fun j hj => HN.out j (Nat.zero_le _) hj)).symm, ext_mk (((Gr.refl _).alloc _).ext dr)⟩

end Go.Proofs.Ytmlmcpopkcgflab
