/- CONTRACT OF handpostref.SameNews. -/
import Derived.Test.YthiojjkgodffnaeD8
namespace Go.Proofs.Ythiojjkgodffnae
open Go.RowKit
attribute [local go_sem] Ext.all Ext.cell Ext.frozen Ext.lt Ext.lt1 Ext.lt2 Ext.ne Ext.ne'

set_option maxRecDepth 20000 in
set_option maxHeartbeats 8000000 in
theorem sameNews_same {w : World} {a b : Option Addr} {n c d : Nat} {l : List Nws} (hn : l.length = n) (hm : n ≤ 1000) (H : NewsAt w a l) (J : NewsAt w b l) :
    Calls Try.prog 28 #[.slice a n c, .slice b n d] w fun e w' => e = .returned (.bool true) ∧ ∃ x : Ext w, w' = x.out := by
  have HH := hide (fun (X : World) (g : Gr w X) => H.gr g)
  have HJ := hide (fun (X : World) (g : Gr w X) => J.gr g)
  clear H J
  go_enter Try.func28, Try.ntmps28
  go_wp2_with fail
  go_loopw [5] (fun v5 wr => ∃ k : Nat, k ≤ n ∧ v5 = .int .i64 (k : Int) ∧ Hid (Gr w wr)) (fun v5 _ => (n - intOf v5).toNat)
  case atStart => exact ⟨0, by omega, rfl, Gr.refl _⟩
  case round =>
    obtain ⟨k, hkn, rfl, gw⟩ := hrel
    by_cases hk : k < n
    · have hki : decide ((k : Int) < (n : Int)) = true := decide_eq_true (by omega)
      have hk0 : (k : Int) < (n : Int) := by omega
      have wk : IntKind.i64.wrap ((k : Int) + 1) = (k : Int) + 1 := by rw [IntKind.wrap_i64]; omega
      have hkl : k < l.length := by omega
      rcases HH.out _ gw.out with h0 | ⟨b1, o1, rfl, hb1, hc1⟩
      · exfalso; rw [h0] at hkl; simp at hkl
      rcases HJ.out _ gw.out with h0 | ⟨b2, o2, rfl, hb2, hc2⟩
      · exfalso; rw [h0] at hkl; simp at hkl
      obtain ⟨x0, x1, x2, x3, x4⟩ := hc1 k hkl
      obtain ⟨y0, y1, y2, y3, y4⟩ := hc2 k hkl
      clear hc1 hc2
      generalize l[k] = x at *
      obtain ⟨u0, u1, u2, u3, u4⟩ := x
      simp only at x0 x1 x2 x3 x4 y0 y1 y2 y3 y4
      go_upto_region 6 with (fail)
      refine wp_region_ext (by kernel_rfl) (by kernel_rfl) ?_
      repeat (go_big_quiet_step (fail))
      refine wpQuiet_nil ?_
      rintro _ ⟨d8, rfl⟩
      go_wp2_with fail
      go_roundw
      case rel => exact ⟨k + 1, by omega, by congr 1, gw.out.trans d8.gr⟩
      case measure => simp [intOf]; omega
    · have hki : decide ((k : Int) < (n : Int)) = false := decide_eq_false (by omega)
      go_wp2_with fail
      go_ret
      exact ⟨rfl, ext_mk gw.out⟩

end Go.Proofs.Ythiojjkgodffnae
