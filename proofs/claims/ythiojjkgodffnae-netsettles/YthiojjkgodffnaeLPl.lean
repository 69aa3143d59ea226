/- FOR THE LAWS OF A NET: played; how far, as an array. -/
import Derived.Test.YthiojjkgodffnaeLNt
import Derived.Test.YthiojjkgodffnaeRIs
namespace Go.Proofs.Ythiojjkgodffnae
open Go.RowKit
attribute [local go_sem] Ext.all Ext.cell Ext.frozen Ext.lt Ext.lt1 Ext.lt2 Ext.ne Ext.ne'

/-- How far, as numbers. -/
def farZ (c : Nat → Nat → Nat) (a : Nat) : Nat → Int := fun j => (dst c (a : Int) j : Int)
theorem Nl.far6 {M : Nat → Prop} {B w : World} {p k : Nat} {q : Nat → Nat} {v : Value} {c : Nat → Nat → Nat} {t : Tn} {n : Nat} (H : Nl M B w p k q v c t n) (a : Nat) :
    Calls Try.prog 26 #[pv k, iv (a : Int)] w fun e w' => e = .returned (.agg #[iv (farZ c a 0), iv (farZ c a 1), iv (farZ c a 2), iv (farZ c a 3), iv (farZ c a 4), iv (farZ c a 5)]) ∧ Gr w w' :=
  (lfar_any H.h.lk H.a.s.tc.lk (a : Int)).mono fun _ _ ⟨he, hg⟩ => ⟨he, hg⟩
theorem far6_at (w : World) (c : Nat → Nat → Nat) (a : Nat) : ZArr (w.alloc (.cells #[iv (farZ c a 0), iv (farZ c a 1), iv (farZ c a 2), iv (farZ c a 3), iv (farZ c a 4), iv (farZ c a 5)] 56)) 56 6 w.heap.size (farZ c a) := heap_alloc_new w _

set_option maxRecDepth 20000 in
set_option maxHeartbeats 8000000 in
theorem played_ok (w : World) (ao : Option Addr) (n cp : Nat) (l : List Sx) (H : SpAt w ao l) (hn : l.length = n) (hm : n ≤ 1000) :
    Calls Try.prog 25 #[.slice ao n cp] w fun e w' => ∃ p k q v c, e = .returned (pv p) ∧ Nl (fun b => b < w.heap.size) w w' p k q v c (playT newT (spsOf l) n) n := by
  have HS := hide (fun (X : World) (g : Gr w X) => H.gr g)
  have HNL := hide hn
  clear H hn
  have HNN := hide (netNew_nl w (fun b => b < w.heap.size) (fun _ h => h))
  go_enter Try.func25, Try.ntmps25
  go_upto_region 3 with (go_at_call 10; with_reducible refine HNN.out.mono ?_; rintro e V1 ⟨p, k, q, v, rfl, H0', z1'⟩; have H0 := hide H0'; clear H0' z1')
  clear HNN
  go_loopw [4] (fun v4 wr => ∃ (i : Nat) (v : Value) (c : Nat → Nat → Nat), i ≤ n ∧ v4 = .int .i64 (i : Int) ∧ Hid (Nl (fun b => b < w.heap.size) w wr p k q v c (playT newT (spsOf l) i) i)) (fun v4 _ => (n - intOf v4).toNat)
  case atStart => exact ⟨0, v, _, by omega, rfl, H0⟩
  case round =>
    clear H0 v
    obtain ⟨i, v, c, hin, rfl, H0⟩ := hrel
    by_cases hi : i < n
    · have hii : decide ((i : Int) < (n : Int)) = true := decide_eq_true (by omega)
      have hi0 : (i : Int) < (n : Int) := by omega
      have hil : i < l.length := by have := HNL.out; omega
      have wi : IntKind.i64.wrap ((i : Int) + 1) = (i : Int) + 1 := by rw [IntKind.wrap_i64]; omega
      obtain ⟨bn, on, hao, hbn, s0, s1, s2, s3, s4, s5⟩ := (HS.out _ (H0.out.h.kp.below (Nat.le_refl _) (fun _ h => h))).get hil
      have HPN := hide (play_next l hil)
      subst hao
      generalize l[i] = x at *
      obtain ⟨⟨kd, xa, xb, xn⟩, xl, xt⟩ := x
      simp only at s0 s1 s2 s3 s4 s5 HPN
      have HD := hide (H0.out.do (by omega) ⟨kd, xa, xb, xn⟩ (iv xl) (iv xt))
      rw [← HPN.out] at HD
      simp only at HD
      go_wp2_with (go_at_call 12; with_reducible refine HD.out.mono ?_; rintro e V2 ⟨v2, rfl, T2'⟩; have T2 := hide T2'; clear T2')
      go_roundw
      case rel => exact ⟨i + 1, v2, _, by omega, by congr 1, T2⟩
      case measure => simp [intOf]; omega
    · have hii : decide ((i : Int) < (n : Int)) = false := decide_eq_false (by omega)
      have ei : i = n := by omega
      rw [ei] at H0
      go_wp2_with fail
      go_ret
      exact ⟨p, k, q, v, c, rfl, H0.out⟩

end Go.Proofs.Ythiojjkgodffnae
