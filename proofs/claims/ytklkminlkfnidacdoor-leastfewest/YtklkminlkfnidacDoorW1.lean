/- CONTRACTS OF package least: only, has, least, wishesOf; of math/bits.TrailingZeros at sets of seven hops. -/
import Derived.Test.YtklkminlkfnidacDoorT1
import Derived.Test.YtklkminlkfnidacDoorPlainAll
import Derived.Shelf.Spec.TrailingZeros
namespace Go.Proofs.YtklkminlkfnidacDoor
open Go.RowKit
attribute [local go_sem] Ext.all Ext.cell Ext.frozen Ext.lt Ext.lt1 Ext.lt2 Ext.ne Ext.ne'

abbrev uv (m : Nat) : Value := .int .u64 m
/-- The library's table is there. -/
abbrev Tab64 (w : World) : Prop := TabAt 1 Lib.deBruijn64tab w
theorem Tab64.gr {w w' : World} (h : Tab64 w) (g : Gr w w') : Tab64 w' := fun j hj => by
  have hc := h j hj
  have hl : 1 < w.heap.size := by
    rcases Nat.lt_or_ge 1 w.heap.size with h1 | h1
    · exact h1
    · rw [World.cell?, Array.getElem?_eq_none (by exact h1)] at hc; simp at hc
  rw [Below.cell g (p := ⟨1, j, none⟩) hl]; exact hc

theorem ret_uv {a b : Nat} (h : a = b) : Ending.returned (uv a) = .returned (uv b) := by rw [h]
theorem hops7 {h : Int} (hh : h ∈ hopsR) : h = -1 ∨ h = 0 ∨ h = 1 ∨ h = 2 ∨ h = 3 ∨ h = 4 ∨ h = 5 := by
  simpa [hopsR] using hh
theorem only_any {h : Int} (hh : h ∈ hopsR) (w : World) :
    Calls Tryd.prog 77 #[iv h] w fun e w' => e = .returned (uv (2 ^ hb h)) ∧ w' = w := by
  rcases hops7 hh with rfl | rfl | rfl | rfl | rfl | rfl | rfl <;>
  · go_enter Tryd.func77, Tryd.ntmps77
    go_wp2
    go_ret
    exact ⟨rfl, rfl⟩
theorem and_bit (m k : Nat) : (((m &&& 2 ^ k : Nat) : Int) != 0) = m.testBit k := by
  rw [Bool.eq_iff_iff]
  simp only [bne_iff_ne, ne_eq]
  constructor
  · intro h
    rcases hb : m.testBit k with _ | _
    · exfalso
      apply h
      have : m &&& 2 ^ k = 0 := by
        apply Nat.eq_of_testBit_eq
        intro i
        rw [Nat.testBit_and, Nat.testBit_two_pow, Nat.zero_testBit]
        by_cases e : k = i
        · subst e; simp [hb]
        · simp [e]
      rw [this]; rfl
    · rfl
  · intro h e
    have e' : m &&& 2 ^ k = 0 := by omega
    have := Nat.testBit_and m (2 ^ k) k
    rw [e', h, Nat.testBit_two_pow] at this
    simp at this
theorem whas_any {m : Nat} (hm : m < 128) {h : Int} {v : Bool} (hh : h ∈ hopsR) (hv : m.testBit (hb h) = v) (w : World) :
    Calls Tryd.prog 68 #[uv m, iv h] w fun e w' => e = .returned (.bool v) ∧ w' = w := by
  subst hv
  have h7 := hb_lt hh
  have hp : 2 ^ hb h ≤ 2 ^ 6 := Nat.pow_le_pow_right (by decide) (by omega)
  have key : bits BinOp.and IntKind.u64 (m : Int) ((2 ^ hb h : Nat) : Int) = ((m &&& 2 ^ hb h : Nat) : Int) := bits_and_u64_nat m _ (by omega) (by omega)
  have hx := and_bit m (hb h)
  have HO := hide (only_any hh)
  generalize m.testBit (hb h) = v at *
  generalize m &&& 2 ^ hb h = r at *
  generalize 2 ^ hb h = p at *
  go_enter Tryd.func68, Tryd.ntmps68
  go_wp2_with (go_at_call 77; refine (HO.out _).mono ?_; rintro e _ ⟨rfl, rfl⟩)
  go_ret
  exact ⟨rfl, rfl⟩
theorem tz64_core (x k idx : Nat) (w : World) (hx0 : ((x : Int) == 0) = false)
    (key : IntKind.u64.wrap (bits BinOp.and IntKind.u64 (x : Int) (IntKind.u64.wrap (-(x : Int))) * 285870213051353865) / 288230376151711744 = (idx : Int))
    (hi : idx < 64) (hk : k < 64) (hcell : w.cell? ⟨1, idx, none⟩ = some (.int .u8 k)) :
    Calls Tryd.prog 100 #[uv x] w fun e w' => e = .returned (iv k) ∧ w' = w := by
  go_enter Tryd.func100, Tryd.ntmps100
  go_wp2_with (simp only [key])
  go_ret
  exact ⟨rfl, rfl⟩
theorem tz64_any {m : Nat} (hm : m < 128) (h0 : m ≠ 0) {w : World} (hT : Tab64 w) :
    Calls Tryd.prog 100 #[uv m] w fun e w' => e = .returned (iv (Lib.ctz 64 m : Nat)) ∧ w' = w := by
  obtain ⟨hlow, hk⟩ := Lib.lowest_bit 64 m h0 (by omega)
  obtain ⟨hi, htab⟩ := Lib.deBruijn64_at _ hk
  have hcell := hT _ hi
  rw [htab] at hcell
  exact tz64_core m _ _ w (by simp; omega) (tz64_key m _ (by omega) h0 hlow) hi hk hcell
theorem tz_any {m : Nat} (hm : m < 128) (h0 : m ≠ 0) {w : World} (hT : Tab64 w) :
    Calls Tryd.prog 78 #[uv m] w fun e w' => e = .returned (iv (Lib.ctz 64 m : Nat)) ∧ w' = w := by
  have H := hide (tz64_any hm h0 hT)
  go_enter Tryd.func78, Tryd.ntmps78
  go_wp2_with (go_at_call 100; refine H.out.mono ?_; rintro e _ ⟨rfl, rfl⟩)
  go_ret
  exact ⟨rfl, rfl⟩
theorem ctz_is : ∀ m : Nat, m < 128 → m ≠ 0 → ((Lib.ctz 64 m : Nat) : Int) + -1 = lowB m := by decide +kernel
theorem wleast_any {m : Nat} {x : Int} (hm : m < 128) (h0 : m ≠ 0) (hx : lowB m = x) {w : World} (hT : Tab64 w) :
    Calls Tryd.prog 69 #[uv m] w fun e w' => e = .returned (iv x) ∧ w' = w := by
  subst hx
  have H := hide (tz_any hm h0 hT)
  have hc := ctz_is m hm h0
  have hb : Lib.ctz 64 m < 64 := (Lib.lowest_bit 64 m h0 (by omega)).2
  generalize Lib.ctz 64 m = k at *
  go_enter Tryd.func69, Tryd.ntmps69
  go_wp2_with (go_at_call 78; refine H.out.mono ?_; rintro e _ ⟨rfl, rfl⟩)
  go_ret
  exact ⟨ret_int (by omega), rfl⟩

theorem wishesOf_any : ∀ (T : TT) (w : World) (q : Nat), Tr w T q → HopT T →
    Calls Tryd.prog 67 #[pv q] w fun e w' => e = .returned (uv (wm T)) ∧ ∃ d : Ext w, w' = d.out
  | .leaf l b hp, w, q, h, hh => by
    have HL := hide (leaf_any h)
    have hq := h.lt
    have c2 : w.cell? ⟨q, 2, none⟩ = some (iv hp) := h.cells.2.2
    have HO := hide (only_any (h := hp) hh)
    have HE : Hid (wm (.leaf l b hp) = 2 ^ hb hp) := rfl
    clear h hh
    generalize wm (.leaf l b hp) = M at *
    generalize 2 ^ hb hp = p at *
    go_enter Tryd.func67, Tryd.ntmps67
    go_wp2_with (first
      | (go_at_call 37; refine HL.out.mono ?_; rintro e _ ⟨rfl, d1, rfl⟩)
      | (go_at_call 77; refine (HO.out _).mono ?_; rintro e _ ⟨rfl, rfl⟩))
    go_ret
    exact ⟨ret_uv HE.out.symm, _, rfl⟩
  | .node l b lo hi, w, q, h, hh => by
    have HL := hide (leaf_any h)
    have hq := h.lt
    obtain ⟨x, y, c3, c4, hlo, hhi⟩ := h.nodec
    have H1 := hide (fun (d : Ext w) => wishesOf_any lo d.out x (hlo.gr d.gr) hh.1)
    have H2 := hide (fun (d : Ext w) => wishesOf_any hi d.out y (hhi.gr d.gr) hh.2)
    have b1 := (wm_bd hh.1).1
    have b2 := (wm_bd hh.2).1
    have HE : Hid (wm (.node l b lo hi) = if wm lo &&& wm hi = 0 then wm lo ||| wm hi else wm lo &&& wm hi) := rfl
    have k1 : bits BinOp.and IntKind.u64 (wm lo : Int) (wm hi : Int) = ((wm lo &&& wm hi : Nat) : Int) := bits_and_u64_nat _ _ (by omega) (by omega)
    have k2 : bits BinOp.or IntKind.u64 (wm lo : Int) (wm hi : Int) = ((wm lo ||| wm hi : Nat) : Int) := bits_or_u64_nat _ _ (by omega) (by omega)
    clear h hlo hhi hh
    generalize wm (.node l b lo hi) = M at *
    generalize wm lo ||| wm hi = u at *
    generalize wm lo &&& wm hi = v at *
    generalize wm lo = m1 at *
    generalize wm hi = m2 at *
    by_cases hv : v = 0
    · have hz : ((v : Int) != 0) = false := by simp [hv]
      rw [if_pos hv] at HE
      go_enter Tryd.func67, Tryd.ntmps67
      go_wp2_with (go_at_call 37; refine HL.out.mono ?_; rintro e _ ⟨rfl, d1, rfl⟩)
      refine wp_region_ext_of (by kernel_rfl) (by kernel_rfl) ?_
      repeat (go_big_quiet_step (first | (go_at_call 67; with_reducible exact Calls.ext_of (H1.out _)) | (go_at_call 67; with_reducible exact Calls.ext_of (H2.out _))))
      refine wpQuiet_nil ?_
      rintro _ ⟨d2, rfl⟩
      go_wp2_with (simp only [k1, k2])
      go_ret
      exact ⟨ret_uv HE.out.symm, _, rfl⟩
    · have hz : ((v : Int) != 0) = true := by simp; omega
      rw [if_neg hv] at HE
      go_enter Tryd.func67, Tryd.ntmps67
      go_wp2_with (go_at_call 37; refine HL.out.mono ?_; rintro e _ ⟨rfl, d1, rfl⟩)
      refine wp_region_ext_of (by kernel_rfl) (by kernel_rfl) ?_
      repeat (go_big_quiet_step (first | (go_at_call 67; with_reducible exact Calls.ext_of (H1.out _)) | (go_at_call 67; with_reducible exact Calls.ext_of (H2.out _))))
      refine wpQuiet_nil ?_
      rintro _ ⟨d2, rfl⟩
      go_wp2_with (simp only [k1, k2])
      go_ret
      exact ⟨ret_uv HE.out.symm, _, rfl⟩

end Go.Proofs.YtklkminlkfnidacDoor
