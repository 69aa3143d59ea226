/- CONTRACTS OF handpostref: the codes of Mind.Link and Mind.Hear. -/
import Derived.Test.YtohbkhmpdegapadN4
namespace Go.Proofs.Ytohbkhmpdegapad
open Go.RowKit
attribute [local go_sem] Ext.all Ext.cell Ext.frozen Ext.lt Ext.lt1 Ext.lt2 Ext.ne Ext.ne'

set_option maxRecDepth 20000 in
set_option maxHeartbeats 8000000 in
theorem mlink_bad {w : World} {p : Nat} {m : Md} (H : MAt w p m) {f c : Int} (hb : ¬ (0 ≤ f ∧ f < 6) ∨ f = m.me ∨ c < 0 ∨ 15 < c) :
    Calls Try.prog 39 #[pv p, iv f, iv c] w fun e w' => e = .returned (iv 1) ∧ w' = w := by
  have hp := H.lt
  have c0 := H.me
  obtain ⟨b, B1⟩ : ∃ b, Hid (decide (0 ≤ f ∧ f < 6) = b) := ⟨_, rfl⟩
  have HB : Hid (b = false ∨ (f == (m.me : Int)) = true ∨ decide (c < 0) = true ∨ decide (15 < c) = true) := by
    rcases hb with h | h | h | h
    · exact .inl (by rw [← B1.out]; exact decide_eq_false h)
    · exact .inr (.inl (by simpa using h))
    · exact .inr (.inr (.inl (decide_eq_true h)))
    · exact .inr (.inr (.inr (decide_eq_true h)))
  clear hb H
  cases b
  · go_enter Try.func39, Try.ntmps39
    go_wp2_with (go_at_call 10; with_reducible refine (isNode_is B1.out _).mono ?_; rintro e w1 ⟨rfl, hw1⟩; have hw2 := hw1.symm; clear hw1; subst hw2)
    go_ret
    exact ⟨rfl, rfl⟩
  · cases g3 : (f == (m.me : Int))
    · cases g4 : decide (c < 0)
      · have g5 : decide (15 < c) = true := by have := HB.out; simpa [g3, g4] using this
        clear HB
        go_enter Try.func39, Try.ntmps39
        go_wp2_with (go_at_call 10; with_reducible refine (isNode_is B1.out _).mono ?_; rintro e w1 ⟨rfl, hw1⟩; have hw2 := hw1.symm; clear hw1; subst hw2)
        go_ret
        exact ⟨rfl, rfl⟩
      · clear HB
        go_enter Try.func39, Try.ntmps39
        go_wp2_with (go_at_call 10; with_reducible refine (isNode_is B1.out _).mono ?_; rintro e w1 ⟨rfl, hw1⟩; have hw2 := hw1.symm; clear hw1; subst hw2)
        go_ret
        exact ⟨rfl, rfl⟩
    · clear HB
      go_enter Try.func39, Try.ntmps39
      go_wp2_with (go_at_call 10; with_reducible refine (isNode_is B1.out _).mono ?_; rintro e w1 ⟨rfl, hw1⟩; have hw2 := hw1.symm; clear hw1; subst hw2)
      go_ret
      exact ⟨rfl, rfl⟩

set_option maxRecDepth 20000 in
set_option maxHeartbeats 8000000 in
theorem mhear_bad {w : World} {p : Nat} {m : Md} (H : MAt w p m) {f o z s d : Int} (hb : ¬ (0 ≤ f ∧ f < 6) ∨ ¬ (0 ≤ z ∧ z < 6) ∨ f = m.me ∨ s < 0 ∨ d < 0 ∨ 200 < d) :
    Calls Try.prog 40 #[pv p, .agg #[iv f, iv o, iv z, iv s, iv d]] w fun e w' => e = .returned (iv 1) ∧ Gr w w' := by
  have HM := hide (fun (X : World) (g : Gr w X) => H.gr g)
  have hp := H.lt
  obtain ⟨b, B1⟩ : ∃ b, Hid (decide (0 ≤ f ∧ f < 6) = b) := ⟨_, rfl⟩
  obtain ⟨b2, B2⟩ : ∃ b, Hid (decide (0 ≤ z ∧ z < 6) = b) := ⟨_, rfl⟩
  have HB : Hid (b = false ∨ b2 = false ∨ (f == (m.me : Int)) = true ∨ decide (s < 0) = true ∨ decide (d < 0) = true ∨ decide (200 < d) = true) := by
    rcases hb with h | h | h | h | h | h
    · exact .inl (by rw [← B1.out]; exact decide_eq_false h)
    · exact .inr (.inl (by rw [← B2.out]; exact decide_eq_false h))
    · exact .inr (.inr (.inl (by simpa using h)))
    · exact .inr (.inr (.inr (.inl (decide_eq_true h))))
    · exact .inr (.inr (.inr (.inr (.inl (decide_eq_true h)))))
    · exact .inr (.inr (.inr (.inr (.inr (decide_eq_true h)))))
  clear hb H
  cases b
  · clear HB
    go_enter Try.func40, Try.ntmps40
    go_upto_region 1 with (fail)
    refine wp_gen (fun V => Hid (ZArr V 44 5 w.heap.size (nwF f o z s d)) ∧ Hid (Gr w V)) ⟨ZArr.new w 44 5 (nwF f o z s d), (Gr.refl _).alloc _⟩ ?_
    rintro V ⟨A, gV⟩
    have k0 : V.cell? ⟨w.heap.size, 0, none⟩ = some (iv f) := A.out.cell (by omega)
    have k2 : V.cell? ⟨w.heap.size, 2, none⟩ = some (iv z) := A.out.cell (by omega)
    have k3 : V.cell? ⟨w.heap.size, 3, none⟩ = some (iv s) := A.out.cell (by omega)
    have k4 : V.cell? ⟨w.heap.size, 4, none⟩ = some (iv d) := A.out.cell (by omega)
    have c0 := (HM.out _ gV.out).me
    have j0 := A.out.lt
    have j1 := (HM.out _ gV.out).lt
    go_wp2_with fail
    refine wp_region_ext (by kernel_rfl) (by kernel_rfl) ?_
    repeat (go_big_quiet_step (first | (go_at_call 10; with_reducible exact isNode_ext B1.out _) | (go_at_call 10; with_reducible exact isNode_ext B2.out _)))
    refine wpQuiet_nil ?_
    rintro _ ⟨d1, rfl⟩
    go_wp2_with fail
    go_ret
    exact ⟨rfl, gV.out.trans d1.gr⟩
  · cases b2
    · clear HB
      go_enter Try.func40, Try.ntmps40
      go_upto_region 1 with (fail)
      refine wp_gen (fun V => Hid (ZArr V 44 5 w.heap.size (nwF f o z s d)) ∧ Hid (Gr w V)) ⟨ZArr.new w 44 5 (nwF f o z s d), (Gr.refl _).alloc _⟩ ?_
      rintro V ⟨A, gV⟩
      have k0 : V.cell? ⟨w.heap.size, 0, none⟩ = some (iv f) := A.out.cell (by omega)
      have k2 : V.cell? ⟨w.heap.size, 2, none⟩ = some (iv z) := A.out.cell (by omega)
      have k3 : V.cell? ⟨w.heap.size, 3, none⟩ = some (iv s) := A.out.cell (by omega)
      have k4 : V.cell? ⟨w.heap.size, 4, none⟩ = some (iv d) := A.out.cell (by omega)
      have c0 := (HM.out _ gV.out).me
      have j0 := A.out.lt
      have j1 := (HM.out _ gV.out).lt
      go_wp2_with fail
      refine wp_region_ext (by kernel_rfl) (by kernel_rfl) ?_
      repeat (go_big_quiet_step (first | (go_at_call 10; with_reducible exact isNode_ext B1.out _) | (go_at_call 10; with_reducible exact isNode_ext B2.out _)))
      refine wpQuiet_nil ?_
      rintro _ ⟨d1, rfl⟩
      go_wp2_with fail
      go_ret
      exact ⟨rfl, gV.out.trans d1.gr⟩
    · cases g3 : (f == (m.me : Int))
      · cases g4 : decide (s < 0)
        · cases g5 : decide (d < 0)
          · have g6 : decide (200 < d) = true := by have := HB.out; simpa [g3, g4, g5] using this
            clear HB
            go_enter Try.func40, Try.ntmps40
            go_upto_region 1 with (fail)
            refine wp_gen (fun V => Hid (ZArr V 44 5 w.heap.size (nwF f o z s d)) ∧ Hid (Gr w V)) ⟨ZArr.new w 44 5 (nwF f o z s d), (Gr.refl _).alloc _⟩ ?_
            rintro V ⟨A, gV⟩
            have k0 : V.cell? ⟨w.heap.size, 0, none⟩ = some (iv f) := A.out.cell (by omega)
            have k2 : V.cell? ⟨w.heap.size, 2, none⟩ = some (iv z) := A.out.cell (by omega)
            have k3 : V.cell? ⟨w.heap.size, 3, none⟩ = some (iv s) := A.out.cell (by omega)
            have k4 : V.cell? ⟨w.heap.size, 4, none⟩ = some (iv d) := A.out.cell (by omega)
            have c0 := (HM.out _ gV.out).me
            have j0 := A.out.lt
            have j1 := (HM.out _ gV.out).lt
            go_wp2_with fail
            refine wp_region_ext (by kernel_rfl) (by kernel_rfl) ?_
            repeat (go_big_quiet_step (first | (go_at_call 10; with_reducible exact isNode_ext B1.out _) | (go_at_call 10; with_reducible exact isNode_ext B2.out _)))
            refine wpQuiet_nil ?_
            rintro _ ⟨d1, rfl⟩
            go_wp2_with fail
            go_ret
            exact ⟨rfl, gV.out.trans d1.gr⟩
          · clear HB
            go_enter Try.func40, Try.ntmps40
            go_upto_region 1 with (fail)
            refine wp_gen (fun V => Hid (ZArr V 44 5 w.heap.size (nwF f o z s d)) ∧ Hid (Gr w V)) ⟨ZArr.new w 44 5 (nwF f o z s d), (Gr.refl _).alloc _⟩ ?_
            rintro V ⟨A, gV⟩
            have k0 : V.cell? ⟨w.heap.size, 0, none⟩ = some (iv f) := A.out.cell (by omega)
            have k2 : V.cell? ⟨w.heap.size, 2, none⟩ = some (iv z) := A.out.cell (by omega)
            have k3 : V.cell? ⟨w.heap.size, 3, none⟩ = some (iv s) := A.out.cell (by omega)
            have k4 : V.cell? ⟨w.heap.size, 4, none⟩ = some (iv d) := A.out.cell (by omega)
            have c0 := (HM.out _ gV.out).me
            have j0 := A.out.lt
            have j1 := (HM.out _ gV.out).lt
            go_wp2_with fail
            refine wp_region_ext (by kernel_rfl) (by kernel_rfl) ?_
            repeat (go_big_quiet_step (first | (go_at_call 10; with_reducible exact isNode_ext B1.out _) | (go_at_call 10; with_reducible exact isNode_ext B2.out _)))
            refine wpQuiet_nil ?_
            rintro _ ⟨d1, rfl⟩
            go_wp2_with fail
            go_ret
            exact ⟨rfl, gV.out.trans d1.gr⟩
        · clear HB
          go_enter Try.func40, Try.ntmps40
          go_upto_region 1 with (fail)
          refine wp_gen (fun V => Hid (ZArr V 44 5 w.heap.size (nwF f o z s d)) ∧ Hid (Gr w V)) ⟨ZArr.new w 44 5 (nwF f o z s d), (Gr.refl _).alloc _⟩ ?_
          rintro V ⟨A, gV⟩
          have k0 : V.cell? ⟨w.heap.size, 0, none⟩ = some (iv f) := A.out.cell (by omega)
          have k2 : V.cell? ⟨w.heap.size, 2, none⟩ = some (iv z) := A.out.cell (by omega)
          have k3 : V.cell? ⟨w.heap.size, 3, none⟩ = some (iv s) := A.out.cell (by omega)
          have k4 : V.cell? ⟨w.heap.size, 4, none⟩ = some (iv d) := A.out.cell (by omega)
          have c0 := (HM.out _ gV.out).me
          have j0 := A.out.lt
          have j1 := (HM.out _ gV.out).lt
          go_wp2_with fail
          refine wp_region_ext (by kernel_rfl) (by kernel_rfl) ?_
          repeat (go_big_quiet_step (first | (go_at_call 10; with_reducible exact isNode_ext B1.out _) | (go_at_call 10; with_reducible exact isNode_ext B2.out _)))
          refine wpQuiet_nil ?_
          rintro _ ⟨d1, rfl⟩
          go_wp2_with fail
          go_ret
          exact ⟨rfl, gV.out.trans d1.gr⟩
      · clear HB
        go_enter Try.func40, Try.ntmps40
        go_upto_region 1 with (fail)
        refine wp_gen (fun V => Hid (ZArr V 44 5 w.heap.size (nwF f o z s d)) ∧ Hid (Gr w V)) ⟨ZArr.new w 44 5 (nwF f o z s d), (Gr.refl _).alloc _⟩ ?_
        rintro V ⟨A, gV⟩
        have k0 : V.cell? ⟨w.heap.size, 0, none⟩ = some (iv f) := A.out.cell (by omega)
        have k2 : V.cell? ⟨w.heap.size, 2, none⟩ = some (iv z) := A.out.cell (by omega)
        have k3 : V.cell? ⟨w.heap.size, 3, none⟩ = some (iv s) := A.out.cell (by omega)
        have k4 : V.cell? ⟨w.heap.size, 4, none⟩ = some (iv d) := A.out.cell (by omega)
        have c0 := (HM.out _ gV.out).me
        have j0 := A.out.lt
        have j1 := (HM.out _ gV.out).lt
        go_wp2_with fail
        refine wp_region_ext (by kernel_rfl) (by kernel_rfl) ?_
        repeat (go_big_quiet_step (first | (go_at_call 10; with_reducible exact isNode_ext B1.out _) | (go_at_call 10; with_reducible exact isNode_ext B2.out _)))
        refine wpQuiet_nil ?_
        rintro _ ⟨d1, rfl⟩
        go_wp2_with fail
        go_ret
        exact ⟨rfl, gV.out.trans d1.gr⟩

set_option maxRecDepth 20000 in
set_option maxHeartbeats 8000000 in
theorem mhear_none {w : World} {p : Nat} {m : Md} (H : MAt w p m) {f z : Nat} {o s d : Int} (hf : f < 6) (hz : z < 6) (hfm : f ≠ m.me) (hc : m.cost f = 0) (hs : 0 ≤ s) (hd : 0 ≤ d) (hd2 : d ≤ 200) :
    Calls Try.prog 40 #[pv p, .agg #[iv f, iv o, iv z, iv s, iv d]] w fun e w' => e = .returned (iv 6) ∧ Gr w w' := by
  have hp := H.lt
  have hfi : (f : Int) < 6 := by omega
  have hzi : (z : Int) < 6 := by omega
  have B1 : Hid (decide (0 ≤ (f : Int) ∧ (f : Int) < 6) = true) := decide_eq_true ⟨by omega, hfi⟩
  have B2 : Hid (decide (0 ≤ (z : Int) ∧ (z : Int) < 6) = true) := decide_eq_true ⟨by omega, hzi⟩
  have g3 : ((f : Int) == (m.me : Int)) = false := by simp; omega
  have g4 : decide (s < 0) = false := decide_eq_false (by omega)
  have g5 : decide (d < 0) = false := decide_eq_false (by omega)
  have g6 : decide (200 < d) = false := decide_eq_false (by omega)
  have g7 : (m.cost f == 0) = true := by simpa using hc
  have HM := hide (fun (X : World) (g : Gr w X) => H.gr g)
  clear H hs hd hd2 hfm hc
  go_enter Try.func40, Try.ntmps40
  go_upto_region 1 with (fail)
  refine wp_gen (fun V => Hid (ZArr V 44 5 w.heap.size (nwF f o z s d)) ∧ Hid (Gr w V)) ⟨ZArr.new w 44 5 (nwF f o z s d), (Gr.refl _).alloc _⟩ ?_
  rintro V ⟨A, gV⟩
  have k0 : V.cell? ⟨w.heap.size, 0, none⟩ = some (iv f) := A.out.cell (by omega)
  have k2 : V.cell? ⟨w.heap.size, 2, none⟩ = some (iv z) := A.out.cell (by omega)
  have k3 : V.cell? ⟨w.heap.size, 3, none⟩ = some (iv s) := A.out.cell (by omega)
  have k4 : V.cell? ⟨w.heap.size, 4, none⟩ = some (iv d) := A.out.cell (by omega)
  have c0 := (HM.out _ gV.out).me
  have c1 := (HM.out _ gV.out).cost hf
  have j0 := A.out.lt
  have j1 := (HM.out _ gV.out).lt
  go_wp2_with fail
  refine wp_region_ext (by kernel_rfl) (by kernel_rfl) ?_
  repeat (go_big_quiet_step (first | (go_at_call 10; with_reducible exact isNode_ext B1.out _) | (go_at_call 10; with_reducible exact isNode_ext B2.out _)))
  refine wpQuiet_nil ?_
  rintro _ ⟨d1, rfl⟩
  go_upto_region 3 with (fail)
  refine wp_region_ext (by kernel_rfl) (by kernel_rfl) ?_
  repeat (go_big_quiet_step (fail))
  refine wpQuiet_nil ?_
  rintro _ ⟨d2, rfl⟩
  go_wp2_with fail
  go_ret
  exact ⟨rfl, (gV.out.trans d1.gr).trans d2.gr⟩

end Go.Proofs.Ytohbkhmpdegapad
