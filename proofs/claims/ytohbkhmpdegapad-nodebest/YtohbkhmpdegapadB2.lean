/- nodeStep: both nodes go on alike. -/
import Derived.Test.YtohbkhmpdegapadB1
namespace Go.Proofs.Ytohbkhmpdegapad
open Go.RowKit
attribute [local go_sem] Ext.all Ext.cell Ext.frozen Ext.lt Ext.lt1 Ext.lt2 Ext.ne Ext.ne'

/-- All blocks but p's and q's, and younger ones, are as they were. -/
structure Wr2 (p q : Nat) (w w' : World) : Prop where
  os : w'.os = w.os
  tape : w'.tape = w.tape
  output : w'.output = w.output
  size : w.heap.size ≤ w'.heap.size
  block : ∀ k, k < w.heap.size → k ≠ p → k ≠ q → w'.heap[k]? = w.heap[k]?
theorem Wr2.refl (p q : Nat) (w : World) : Wr2 p q w w := ⟨rfl, rfl, rfl, Nat.le_refl _, fun _ _ _ _ => rfl⟩
theorem Wr2.trans {p q : Nat} {a b c : World} (h : Wr2 p q a b) (k : Wr2 p q b c) : Wr2 p q a c :=
  ⟨k.os.trans h.os, k.tape.trans h.tape, k.output.trans h.output, Nat.le_trans h.size k.size, fun i hi hp hq => (k.block i (Nat.lt_of_lt_of_le hi h.size) hp hq).trans (h.block i hi hp hq)⟩
theorem Wr.l2 {p : Nat} {a b : World} (h : Wr p a b) (q : Nat) : Wr2 p q a b := ⟨h.os, h.tape, h.output, h.size, fun k hk hp _ => h.block k hk hp⟩
theorem Wr.r2 {p : Nat} {a b : World} (h : Wr p a b) (q : Nat) : Wr2 q p a b := ⟨h.os, h.tape, h.output, h.size, fun k hk _ hp => h.block k hk hp⟩
theorem Gr.wr2 {a b : World} (h : Gr a b) (p q : Nat) : Wr2 p q a b := ⟨h.os, h.tape, h.output, h.size, fun k hk _ _ => h.block k hk⟩
theorem Wr2.gr {p q : Nat} {B a b : World} (h : Wr2 p q a b) (g : Gr B a) (hp : B.heap.size ≤ p) (hq : B.heap.size ≤ q) : Gr B b :=
  ⟨h.os.trans g.os, h.tape.trans g.tape, h.output.trans g.output, Nat.le_trans g.size h.size, fun k hk => (h.block k (Nat.lt_of_lt_of_le hk g.size) (by omega) (by omega)).trans (g.block k hk)⟩
theorem NdAt.other {t : TypeId} {p q : Nat} {a b : World} {m : Md} (h : NdAt t a q m) (k : Wr p a b) (hn : q ≠ p) : NdAt t b q m := k.arr h hn

def stpF (x : Stp) : Nat → Int := fun j => if j = 0 then x.k else if j = 1 then x.c else if j = 2 then x.f else if j = 3 then x.o else if j = 4 then x.z else if j = 5 then x.s else x.d

set_option maxRecDepth 20000 in
set_option maxHeartbeats 8000000 in
theorem nstep_any {w : World} {p q : Nat} {m : Md} (H : DAt w p (sel m)) (J : MAt w q m) (hpq : p ≠ q) (hz : MdZ m) (ha : age m < 4611686018427387904) (x : Stp) :
    Calls Try.prog 19 #[pv p, pv q, x.val] w fun e w' => e = .returned (.bool true) ∧ DAt w' p (sel (stepM m x)) ∧ MAt w' q (stepM m x) ∧ Wr2 p q w w' := by
  have hp := H.lt
  have hq := J.lt
  have HD := hide (fun (X : World) (g : Gr w X) => H.gr g)
  have HJ := hide (fun (X : World) (g : Gr w X) => J.gr g)
  have HZ := hide hz
  have HA := hide ha
  have HST : Hid (stepM m x = if x.k = 0 then lnkM m x.f x.c else if x.k = 1 then hrM m x.f x.z x.s x.d else if x.k = 2 then tickM m else m) := rfl
  obtain ⟨k, c, f, o, z, s, d⟩ := x
  simp only [Stp.val] at HST ⊢
  clear H J hz ha
  go_enter Try.func19, Try.ntmps19
  go_upto_region 1 with (fail)
  refine wp_gen (fun V => Hid (ZArr V 46 7 w.heap.size (stpF ⟨k, c, f, o, z, s, d⟩)) ∧ Hid (Gr w V)) ⟨ZArr.new w 46 7 (stpF ⟨k, c, f, o, z, s, d⟩), (Gr.refl _).alloc _⟩ ?_
  have hpw : p ≠ w.heap.size := by omega
  have hqw : q ≠ w.heap.size := by omega
  clear hp hq
  rintro V ⟨A, gV⟩
  generalize w.heap.size = r at *
  have k0 : V.cell? ⟨r, 0, none⟩ = some (iv k) := A.out.cell (by omega)
  have k1 : V.cell? ⟨r, 1, none⟩ = some (iv c) := A.out.cell (by omega)
  have k2 : V.cell? ⟨r, 2, none⟩ = some (iv f) := A.out.cell (by omega)
  have k3 : V.cell? ⟨r, 3, none⟩ = some (iv o) := A.out.cell (by omega)
  have k4 : V.cell? ⟨r, 4, none⟩ = some (iv z) := A.out.cell (by omega)
  have k5 : V.cell? ⟨r, 5, none⟩ = some (iv s) := A.out.cell (by omega)
  have k6 : V.cell? ⟨r, 6, none⟩ = some (iv d) := A.out.cell (by omega)
  have j0 := A.out.lt
  by_cases h0 : k = 0
  · have g0 : (k == 0) = true := by simpa using h0
    have HS : Hid (stepM m ⟨k, c, f, o, z, s, d⟩ = lnkM m f c) := by unfold Hid; rw [HST.out, if_pos h0]
    clear HST h0
    go_upto_region 3 with (fail)
    go_region_held3 (fun W => W.cell? ⟨r, 1, none⟩ = some (iv c) ∧ W.cell? ⟨r, 2, none⟩ = some (iv f)) (first | exact ⟨k1, k2⟩ | exact ⟨u1, u2⟩ | exact ⟨t1, t2⟩ | go_keep) (first
      | (go_at_call 28; with_reducible refine (nlinkN (HD.out _ gV.out.drew) HZ.out f c).mono ?_; rintro e V1 ⟨rfl, M1', W1'⟩; have M1 := hide M1'; have W1 := hide W1'; clear M1' W1'; have B1 := hide (W1.out.arr (A.out.gr (Gr.refl _).drew) hpw.symm); have u1 := ZArr.cell B1.out (j := 1) (by omega); have u2 := ZArr.cell B1.out (j := 2) (by omega); simp only [stpF] at u1 u2; have u3 := ZArr.lt B1.out)
      | (go_at_call 39; with_reducible refine (mlinkN ((HJ.out _ gV.out.drew).other W1.out hpq.symm) HZ.out f c).mono ?_; rintro e V2 ⟨rfl, M2', W2'⟩; have M2 := hide M2'; have W2 := hide W2'; clear M2' W2'; have B2 := hide (W2.out.arr B1.out hqw.symm); have t1 := ZArr.cell B2.out (j := 1) (by omega); have t2 := ZArr.cell B2.out (j := 2) (by omega); simp only [stpF] at t1 t2))
    all_goals
      go_wp2_with fail
      go_ret
      exact ⟨by simp, by rw [HS.out]; exact M1.out.other W2.out hpq, by rw [HS.out]; exact M2.out, ((gV.out.drew.wr2 p q).trans (W1.out.l2 q)).trans (W2.out.r2 p)⟩
  · have g0 : (k == 0) = false := by simpa using h0
    by_cases h1 : k = 1
    · have g1 : (k == 1) = true := by simpa using h1
      have HS : Hid (stepM m ⟨k, c, f, o, z, s, d⟩ = hrM m f z s d) := by unfold Hid; rw [HST.out, if_neg h0, if_pos h1]
      clear HST h0 h1
      go_upto_region 5 with (fail)
      go_region_held3 (fun W => W.cell? ⟨r, 2, none⟩ = some (iv f) ∧ W.cell? ⟨r, 3, none⟩ = some (iv o) ∧ W.cell? ⟨r, 4, none⟩ = some (iv z) ∧ W.cell? ⟨r, 5, none⟩ = some (iv s) ∧ W.cell? ⟨r, 6, none⟩ = some (iv d)) (first | exact ⟨k2, k3, k4, k5, k6⟩ | exact ⟨u2, u3, u4, u5, u6⟩ | exact ⟨t2, t3, t4, t5, t6⟩ | go_keep) (first
        | (go_at_call 29; with_reducible refine (nhearN (HD.out _ gV.out.drew) HZ.out f o z s d).mono ?_; rintro e V1 ⟨rfl, M1', W1'⟩; have M1 := hide M1'; have W1 := hide W1'; clear M1' W1'; have B1 := hide (W1.out.arr (A.out.gr (Gr.refl _).drew) hpw.symm); have u2 := ZArr.cell B1.out (j := 2) (by omega); have u3 := ZArr.cell B1.out (j := 3) (by omega); have u4 := ZArr.cell B1.out (j := 4) (by omega); have u5 := ZArr.cell B1.out (j := 5) (by omega); have u6 := ZArr.cell B1.out (j := 6) (by omega); simp only [stpF] at u2 u3 u4 u5 u6; have u7 := ZArr.lt B1.out)
        | (go_at_call 40; with_reducible refine (mhearN ((HJ.out _ gV.out.drew).other W1.out hpq.symm) HZ.out f o z s d).mono ?_; rintro e V2 ⟨rfl, M2', W2'⟩; have M2 := hide M2'; have W2 := hide W2'; clear M2' W2'; have B2 := hide (W2.out.arr B1.out hqw.symm); have t2 := ZArr.cell B2.out (j := 2) (by omega); have t3 := ZArr.cell B2.out (j := 3) (by omega); have t4 := ZArr.cell B2.out (j := 4) (by omega); have t5 := ZArr.cell B2.out (j := 5) (by omega); have t6 := ZArr.cell B2.out (j := 6) (by omega); simp only [stpF] at t2 t3 t4 t5 t6))
      all_goals
        go_wp2_with fail
        go_ret
        exact ⟨by simp, by rw [HS.out]; exact M1.out.other W2.out hpq, by rw [HS.out]; exact M2.out, ((gV.out.drew.wr2 p q).trans (W1.out.l2 q)).trans (W2.out.r2 p)⟩
    · have g1 : (k == 1) = false := by simpa using h1
      by_cases h2 : k = 2
      · have g2 : (k == 2) = true := by simpa using h2
        have HS : Hid (stepM m ⟨k, c, f, o, z, s, d⟩ = tickM m) := by unfold Hid; rw [HST.out, if_neg h0, if_neg h1, if_pos h2]
        clear HST h0 h1 h2
        go_wp2_with (first
          | (go_at_call 30; with_reducible refine (ntickN (HD.out _ gV.out) HZ.out HA.out).mono ?_; rintro e V1 ⟨rfl, M1', W1'⟩; have M1 := hide M1'; have W1 := hide W1'; clear M1' W1')
          | (go_at_call 41; with_reducible refine (mtickN ((HJ.out _ gV.out).other W1.out hpq.symm) HZ.out HA.out).mono ?_; rintro e V2 ⟨rfl, M2', W2'⟩; have M2 := hide M2'; have W2 := hide W2'; clear M2' W2'))
        go_ret
        exact ⟨rfl, by rw [HS.out]; exact M1.out.other W2.out hpq, by rw [HS.out]; exact M2.out, ((gV.out.wr2 p q).trans (W1.out.l2 q)).trans (W2.out.r2 p)⟩
      · have g2 : (k == 2) = false := by simpa using h2
        have HS : Hid (stepM m ⟨k, c, f, o, z, s, d⟩ = m) := by unfold Hid; rw [HST.out, if_neg h0, if_neg h1, if_neg h2]
        clear HST h0 h1 h2
        go_wp2_with fail
        go_ret
        exact ⟨rfl, by rw [HS.out]; exact HD.out _ gV.out, by rw [HS.out]; exact HJ.out _ gV.out, gV.out.wr2 p q⟩

end Go.Proofs.Ytohbkhmpdegapad
