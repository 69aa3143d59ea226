/- nodeBegun. -/
import Derived.Test.YtohbkhmpdegapadB1
import Derived.Test.YtohbkhmpdegapadD7
import Derived.Test.YtohbkhmpdegapadD8
import Derived.Test.YtohbkhmpdegapadD9
namespace Go.Proofs.Ytohbkhmpdegapad
open Go.RowKit
attribute [local go_sem] Ext.all Ext.cell Ext.frozen Ext.lt Ext.lt1 Ext.lt2 Ext.ne Ext.ne'

theorem field_hop (a b c : Int) (w : World) : (Instr.field 51 (.agg #[iv a, iv b, iv c]) 2).run Try.prog w = .ok (iv c) w := by kernel_rfl
attribute [local go_sem] field_hop

def bg0 : Md := newM 1
def bg1 : Md := lnkM bg0 2 3
def bg2 : Md := hrM bg1 2 4 1 5
def bg3 : Md := hrM bg2 2 4 1 9
theorem bg0_z : MdZ bg0 := new_z (by omega)
theorem bg1_z : MdZ bg1 := lnk_z bg0_z _ _
theorem bg2_z : MdZ bg2 := hr_z bg1_z _ _ _ _
theorem bg3_z : MdZ bg3 := hr_z bg2_z _ _ _ _
theorem bg_l : lcode bg0 2 3 = 0 := by decide
theorem bg_h2 : hcode bg1 2 4 1 5 = 0 := by decide
theorem bg_h3 : hcode bg2 2 4 1 9 = 0 := by decide
theorem bg_w4 : wayV (wayOf (sel bg3) 4) = .agg #[iv 1, iv 200, iv (-1)] := by
  have : wayOf (sel bg3) 4 = (1, 200, -1) := by decide
  rw [this]; rfl
theorem bg_w1 : wayV (wayOf (sel bg3) 1) = .agg #[iv 0, iv 0, iv 1] := by
  have : wayOf (sel bg3) 1 = (0, 0, 1) := by decide
  rw [this]; rfl
theorem bg_b : bet 2 9 1 1 = true := by decide

set_option maxRecDepth 20000 in
set_option maxHeartbeats 8000000 in
theorem nbegun_any (w : World) : Calls Try.prog 16 #[] w fun e w' => e = .returned (.bool true) ∧ ∃ d : Ext w, w' = d.out := by
  have HN0 : Hid (Calls Try.prog 17 #[iv 1] w fun e w' => e = .returned (pv w.heap.size) ∧ DAt w' w.heap.size (sel bg0) ∧ Gr w w') := nnew_ok (me := 1) (by omega) w
  have H1 : Hid (∀ (p : Nat) (V : World), DAt V p (sel bg0) → Calls Try.prog 28 #[pv p, iv 2, iv 3] V fun e w' => e = .returned (iv 0) ∧ DAt w' p (sel bg1) ∧ Wr p V w') := fun p V h => by
    have := nlinkN h bg0_z 2 3
    rw [bg_l] at this
    exact this
  have H2 : Hid (∀ (p : Nat) (V : World), DAt V p (sel bg1) → Calls Try.prog 29 #[pv p, .agg #[iv 2, iv 0, iv 4, iv 1, iv 5]] V fun e w' => e = .returned (iv 0) ∧ DAt w' p (sel bg2) ∧ Wr p V w') := fun p V h => by
    have := nhearN h bg1_z 2 0 4 1 5
    rw [bg_h2] at this
    exact this
  have H3 : Hid (∀ (p : Nat) (V : World), DAt V p (sel bg2) → Calls Try.prog 29 #[pv p, .agg #[iv 2, iv 0, iv 4, iv 1, iv 9]] V fun e w' => e = .returned (iv 0) ∧ DAt w' p (sel bg3) ∧ Wr p V w') := fun p V h => by
    have := nhearN h bg2_z 2 0 4 1 9
    rw [bg_h3] at this
    exact this
  have H4 : Hid (∀ (p : Nat) (V : World), DAt V p (sel bg3) → Calls Try.prog 23 #[pv p, iv 4] V fun e w' => e = .returned (.agg #[iv 1, iv 200, iv (-1)]) ∧ ∃ d : Ext V, w' = d.out) := fun p V h => by
    have := nway_any h 4
    rw [bg_w4] at this
    exact this
  have H5 : Hid (∀ (p : Nat) (V : World), DAt V p (sel bg3) → Calls Try.prog 23 #[pv p, iv 1] V fun e w' => e = .returned (.agg #[iv 0, iv 0, iv 1]) ∧ ∃ d : Ext V, w' = d.out) := fun p V h => by
    have := nway_any h 1
    rw [bg_w1] at this
    exact this
  have H6 : Hid (∀ (p : Nat) (V : World), DAt V p (sel bg3) → Calls Try.prog 21 #[pv p, iv 2] V fun e w' => ∃ ao c, e = .returned (.slice ao 6 c) ∧ ∃ d : Ext V, w' = d.out) := fun p V h =>
    (ntell_any h 2).mono fun e w' ⟨v, he, ho, hg⟩ => by
      obtain ⟨ao, c, hv, _, _⟩ := OwnN.shape ho
      rw [tell_len] at hv
      exact ⟨ao, c, by rw [he, hv], ext_mk hg⟩
  go_enter Try.func16, Try.ntmps16
  go_upto_region 2 with (go_at_call 17; with_reducible refine HN0.out.mono ?_; rintro e V0 ⟨rfl, M0', g0'⟩; have M0 := hide M0'; have G0 := hide g0'; clear M0' g0')
  go_upto_region 4 with (go_at_call 17; with_reducible refine (nnew_nil (k := -1) (by omega) _).mono ?_; rintro e w1 ⟨rfl, hw1⟩; have hw2 := hw1.symm; clear hw1; subst hw2)
  go_upto_region 5 with (go_at_call 28; with_reducible refine (H1.out _ _ M0.out).mono ?_; rintro e V1 ⟨rfl, M1', W1'⟩; have M1 := hide M1'; have G1 := hide (W1'.gr G0.out (Nat.le_refl _)); clear M1' W1')
  go_upto_region 6 with (go_at_call 29; with_reducible refine (H2.out _ _ M1.out).mono ?_; rintro e V2 ⟨rfl, M2', W2'⟩; have M2 := hide M2'; have G2 := hide (W2'.gr G1.out (Nat.le_refl _)); clear M2' W2')
  go_upto_region 7 with (go_at_call 29; with_reducible refine (H3.out _ _ M2.out).mono ?_; rintro e V3 ⟨rfl, M3', W3'⟩; have M3 := hide M3'; have G3 := hide (W3'.gr G2.out (Nat.le_refl _)); clear M3' W3')
  go_wp2_with (first
    | (go_at_call 23; with_reducible refine (H4.out _ _ M3.out).mono ?_; rintro e _ ⟨rfl, d4, rfl⟩)
    | (go_at_call 23; with_reducible refine (H5.out _ _ (M3.out.gr d4.gr)).mono ?_; rintro e _ ⟨rfl, d5, rfl⟩)
    | (go_at_call 21; with_reducible refine (H6.out _ _ ((M3.out.gr d4.gr).gr d5.gr)).mono ?_; rintro e _ ⟨ao, cp, rfl, d6, rfl⟩)
    | (go_at_call 26; with_reducible refine (nbetter_is bg_b _).mono ?_; rintro e _ ⟨rfl, rfl⟩))
  go_ret
  exact ⟨rfl, ext_mk (((G3.out.trans d4.gr).trans d5.gr).trans d6.gr)⟩

end Go.Proofs.Ytohbkhmpdegapad
