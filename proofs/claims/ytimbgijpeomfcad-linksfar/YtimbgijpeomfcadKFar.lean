/- handpostlaw.LinksFar ANSWERS true. -/
import Derived.Test.YtimbgijpeomfcadK9
namespace Go.Proofs.Ytimbgijpeomfcad
open Go.RowKit
attribute [local go_sem] Ext.all Ext.cell Ext.frozen Ext.lt Ext.lt1 Ext.lt2 Ext.ne Ext.ne' run_idx6

theorem ofB_nat (C : Nat → Nat → Nat) {a : Nat} (ha : a < 6) : ∀ j, j ≤ 6 → ofB C a j = ofTo C a j
  | 0, _ => rfl
  | j + 1, hj => by
    have ih := ofB_nat C ha j (by omega)
    have e : cst C a j = C a j := by
      unfold cst
      rw [if_pos ⟨node_iff.2 (by omega), node_iff.2 (by omega)⟩]; rfl
    show ofTo (fun _ i => cst C a i) 0 j ++ (if cst C a j = 0 then [] else [j]) = _
    rw [ofTo, e]
    congr 1
def hitB (C : Nat → Nat → Nat) (a b x : Nat) : Bool := decide (C a x + dst C x b = dst C a b)
theorem hit_any {C : Nat → Nat → Nat} (hC : Lk C) {a b : Nat} (ha : a < 6) (hb : b < 6) (hne : a ≠ b) (hl : dst C a b < 200) : (ofTo C a 6).any (hitB C a b) = true := by
  obtain ⟨m, hm, h1, h2⟩ := dst_first hC ha hb hne hl
  exact List.any_eq_true.2 ⟨m, (of_mem C a 6 m).2 ⟨hm, h1⟩, decide_eq_true h2⟩
theorem any_take {l : List Nat} {f : Nat → Bool} {i : Nat} (h : i < l.length) : (l.take (i + 1)).any f = ((l.take i).any f || f l[i]) := by
  rw [List.take_succ_eq_append_getElem h, List.any_append]; simp

set_option maxRecDepth 20000 in
set_option maxHeartbeats 4000000 in
theorem kfar_any (w : World) (ao : Option Addr) (n k : Nat) (xs : List (Int × Int × Int)) (a b c : Int) (H : LinkAt w ao xs) (hn : xs.length = n) :
    Calls Try.prog 3 #[.slice ao n k, iv a, iv b, iv c] w fun e w' => e = .returned (.bool true) ∧ Gr w w' := by
  have HB := hide (kbegun_any w)
  by_cases h200 : 200 < n
  · have hd : decide ((200 : Int) < (n : Int)) = true := decide_eq_true (by omega)
    clear H
    go_enter Try.func3, Try.ntmps3
    go_wp2_with (first | (go_at_call 5; with_reducible refine HB.out.mono ?_; rintro e w1 ⟨rfl, g1⟩))
    go_ret
    exact ⟨rfl, g1⟩
  have hd : decide ((200 : Int) < (n : Int)) = false := decide_eq_false (by omega)
  cases hA : nodeB a
  · have A := hide hA
    clear H hA
    go_enter Try.func3, Try.ntmps3
    go_wp2_with (first | (go_at_call 5; with_reducible refine HB.out.mono ?_; rintro e w1 ⟨rfl, g1⟩) | (go_at_call 6; with_reducible refine (isNode_is A.out _).mono ?_; rintro e wn ⟨rfl, hwn⟩; subst hwn))
    go_ret
    exact ⟨rfl, g1⟩
  cases hB : nodeB b
  · have A := hide hA
    have B := hide hB
    clear H hA hB
    go_enter Try.func3, Try.ntmps3
    go_wp2_with (first | (go_at_call 5; with_reducible refine HB.out.mono ?_; rintro e w1 ⟨rfl, g1⟩) | (go_at_call 6; with_reducible refine (isNode_is A.out _).mono ?_; rintro e wn ⟨rfl, hwn⟩; subst hwn) | (go_at_call 6; with_reducible refine (isNode_is B.out _).mono ?_; rintro e wn ⟨rfl, hwn⟩; subst hwn))
    go_ret
    exact ⟨rfl, g1⟩
  cases hC : nodeB c
  · have A := hide hA
    have B := hide hB
    have C := hide hC
    clear H hA hB hC
    go_enter Try.func3, Try.ntmps3
    go_wp2_with (first | (go_at_call 5; with_reducible refine HB.out.mono ?_; rintro e w1 ⟨rfl, g1⟩) | (go_at_call 6; with_reducible refine (isNode_is A.out _).mono ?_; rintro e wn ⟨rfl, hwn⟩; subst hwn) | (go_at_call 6; with_reducible refine (isNode_is B.out _).mono ?_; rintro e wn ⟨rfl, hwn⟩; subst hwn) | (go_at_call 6; with_reducible refine (isNode_is C.out _).mono ?_; rintro e wn ⟨rfl, hwn⟩; subst hwn))
    go_ret
    exact ⟨rfl, g1⟩
  have HM := hide (fun (X : World) (g : Gr w X) => maps_any X ao n k xs (H.gr g) hn (by omega))
  have hc := costs_lk xs
  clear H
  generalize costs xs = C at *
  have A := hide hA
  have B := hide hB
  have Cc := hide hC
  obtain ⟨a0, a6⟩ := node_iff.1 hA
  obtain ⟨b0, b6⟩ := node_iff.1 hB
  obtain ⟨c0', c6⟩ := node_iff.1 hC
  clear hA hB hC
  obtain ⟨x, rfl⟩ : ∃ m : Nat, a = m := ⟨a.toNat, by omega⟩
  obtain ⟨y, rfl⟩ : ∃ m : Nat, b = m := ⟨b.toNat, by omega⟩
  obtain ⟨z, rfl⟩ : ∃ m : Nat, c = m := ⟨c.toNat, by omega⟩
  have hx : x < 6 := by omega
  have hy : y < 6 := by omega
  have hz : z < 6 := by omega
  go_enter Try.func3, Try.ntmps3
  go_upto_region 5 with (first | (go_at_call 5; with_reducible refine HB.out.mono ?_; rintro e w1 ⟨rfl, g1⟩) | (go_at_call 6; with_reducible refine (isNode_is A.out _).mono ?_; rintro e wn ⟨rfl, hwn⟩; subst hwn) | (go_at_call 6; with_reducible refine (isNode_is B.out _).mono ?_; rintro e wn ⟨rfl, hwn⟩; subst hwn) | (go_at_call 6; with_reducible refine (isNode_is Cc.out _).mono ?_; rintro e wn ⟨rfl, hwn⟩; subst hwn))
  have H1 := hide (HM.out _ g1)
  clear HB HM A B Cc
  go_upto_region 6 with (first | (go_at_call 7; with_reducible refine H1.out.mono ?_; rintro e X ⟨p, q, rfl, T⟩))
  have hgX := hide (g1.trans T.gr)
  have HL := hide T.l
  have HF : Hid (∀ (d : Ext X) (f : Int), Calls Try.prog 8 #[pv p, iv f] d.out fun e w' => e = .returned (.agg (ncells 6 (dst C f))) ∧ ∃ m : Ext X, w' = m.out) := fun d f =>
    (lfar_any (T.l.gr d.gr) hc f).mono fun e w' ⟨he, g⟩ => ⟨he, ext_mk (d.gr.trans g)⟩
  have HC := hide (fun (d : Ext X) (u v : Nat) (hu : u < 6) (hv : v < 6) => cost_nat (T.l.gr d.gr) hc hu hv)
  have HO := hide (fun (d : Ext X) (u : Int) => kof_any (T.l.gr d.gr) hc u)
  have Hc := hide hc
  clear T H1 g1 hc
  go_wp2_with fail
  refine wp_region_ext (by kernel_rfl) (by kernel_rfl) ?_
  repeat (go_big_quiet_step (first | (go_at_call 8; with_reducible exact HF.out _ _)))
  refine wpQuiet_nil ?_
  rintro _ ⟨d1, rfl⟩
  go_upto_region 7 with (fail)
  have u1 := dst_le C x y
  have u2 := dst_le C y z
  have u3 := dst_le C x z
  have u4 := dst_tri C (a := x) hy hz
  have u5 := dst_back Hc.out hx hy
  have u6 := dst_self C hx
  have HLK := hide (dst_link C hx hy)
  have HHIT := hide (hit_any Hc.out hx hy)
  go_cut [90] from 60 to 90 (fun v90 wc => v90 = .bool false ∧ ∃ d : Ext X, wc = d.out)
  case first => as_aux_lemma =>
    clear HLK HHIT
    have k1 : (((dst C x y : Nat) : Int) != ((dst C y x : Nat) : Int)) = false := by simp; omega
    have k2 : (((dst C x x : Nat) : Int) != 0) = false := by simp; omega
    have k3 : ¬ (((dst C x y : Nat) : Int) < 0) := by omega
    have k4 : ¬ ((200 : Int) < ((dst C x y : Nat) : Int)) := by omega
    have u1i : ((dst C x y : Nat) : Int) ≤ 200 := by omega
    have u2i : ((dst C y z : Nat) : Int) ≤ 200 := by omega
    clear u5 u6
    by_cases hm : dst C x y + dst C y z < 200
    · have k5 : ((dst C x y : Nat) : Int) + ((dst C y z : Nat) : Int) < 200 := by omega
      have k6 : ¬ (((dst C x y : Nat) : Int) + ((dst C y z : Nat) : Int) < ((dst C x z : Nat) : Int)) := by omega
      go_wp2_with (first | (go_at_call 8; with_reducible refine (HF.out _ _).mono ?_; rintro e _ ⟨rfl, d2, rfl⟩))
      all_goals
        go_meet
        case rel => exact ⟨by simp <;> omega, _, rfl⟩
    · have k5 : ¬ (((dst C x y : Nat) : Int) + ((dst C y z : Nat) : Int) < 200) := by omega
      have k6 : ¬ ((200 : Int) < ((dst C x z : Nat) : Int)) := by omega
      go_wp2_with (first | (go_at_call 8; with_reducible refine (HF.out _ _).mono ?_; rintro e _ ⟨rfl, d2, rfl⟩))
      all_goals
        go_meet
        case rel => exact ⟨by simp <;> omega, _, rfl⟩
  case rest =>
    obtain ⟨rfl, d2, rfl⟩ := hcut
    have HC1 := hide (HC.out d2 x y hx hy)
    have HO1 := hide (HO.out d2 x)
    rw [ofB_nat C hx 6 (Nat.le_refl _)] at HO1
    clear HC
    by_cases hxy : x = y
    · have hxi : ((x : Int) == (y : Int)) = true := by simp; omega
      by_cases hc0 : C x y = 0
      · generalize C x y = cxy at *
        subst hc0
        clear HHIT HLK u5 u6 hxy
        go_wp2_with (first | (go_at_call 9; with_reducible refine HC1.out.mono ?_; rintro e wn ⟨rfl, hwn⟩; subst hwn))
        go_ret
        exact ⟨rfl, hgX.out.ext d2⟩
      · exfalso
        subst hxy
        exact hc0 (Hc.out.self x)
    · have hxi : ((x : Int) == (y : Int)) = false := by simp; omega
      have HL2 : Hid (0 < C x y → dst C x y ≤ C x y) := HLK.out
      have hle := Hc.out.le x y
      clear HLK u5 u6 u4 u2 u3
      generalize C x y = n0 at *
      go_upto_region 10 with (first | (go_at_call 9; with_reducible refine HC1.out.mono ?_; rintro e wn ⟨rfl, hwn⟩; subst hwn))
      go_cut [101] from 95 to 101 (fun v101 wc => v101 = .bool false ∧ wc = d2.out)
      case first =>
        by_cases h0 : 0 < n0
        · have h1 : decide ((0 : Int) < (n0 : Int)) = true := decide_eq_true (by omega)
          have h2 : ¬ ((n0 : Int) < ((dst C x y : Nat) : Int)) := by have := HL2.out h0; omega
          go_wp2_with fail
          go_meet
          case rel => exact ⟨by simp <;> omega, rfl⟩
        · have h1 : decide ((0 : Int) < (n0 : Int)) = false := decide_eq_false (by omega)
          go_wp2_with fail
          go_meet
          case rel => exact ⟨rfl, rfl⟩
      case rest =>
        obtain ⟨rfl, rfl⟩ := hcut
        by_cases h2 : dst C x y = 200
        · have h3 : (((dst C x y : Nat) : Int) == 200) = true := by simp; omega
          clear h2 HHIT
          go_wp2_with fail
          go_ret
          exact ⟨rfl, hgX.out.ext d2⟩
        · have h3 : (((dst C x y : Nat) : Int) == 200) = false := by simp; omega
          have HH := hide (HHIT.out hxy (by omega))
          have hofl := of_len C x 6
          have HME := hide (fun m hm => (of_mem C x 6 m).1 hm)
          clear h2 HHIT HL2
          go_upto_region 16 with (first | (go_at_call 10; with_reducible refine HO1.out.mono ?_; rintro e w5 ⟨v5, rfl, o5, g5⟩))
          obtain ⟨ia, ic, rfl, ti⟩ := o5.shape
          generalize ofTo C x 6 = l at *
          obtain ⟨d3, rfl⟩ := ext_mk (d2.gr.trans g5)
          have TI := hide ti
          clear o5 ti g5 HO1 HO HC1
          generalize hD : dst C x y = xy at *
          have HDx := hide hD
          clear hD
          go_wp2_with fail
          go_loopw [16, 18] (fun v16 v18 wr => ∃ i : Nat, i ≤ l.length ∧ v16 = .bool ((l.take i).any (hitB C x y)) ∧ v18 = .int .i64 i ∧ Gr d3.out wr) (fun _ v18 _ => l.length - (intOf v18).toNat)
          case atStart => exact ⟨0, by omega, rfl, rfl, Gr.refl _⟩
          case round =>
            obtain ⟨i, hi, rfl, rfl, gi⟩ := hrel
            by_cases hil : i < l.length
            · have hii : (i : Int) < (l.length : Int) := by omega
              have HN := hide (any_take (f := hitB C x y) hil)
              have gXw := d3.gr.trans gi
              have HFZ : Hid (∀ (d : Ext wr) (f : Int), Calls Try.prog 8 #[pv p, iv f] d.out fun e w' => e = .returned (.agg (ncells 6 (dst C f))) ∧ ∃ m : Ext wr, w' = m.out) := fun d f =>
                (lfar_any (HL.out.gr (gXw.trans d.gr)) Hc.out f).mono fun e w' ⟨he, g⟩ => ⟨he, ext_mk (d.gr.trans g)⟩
              obtain ⟨b1, o1, rfl, hb1, hc1⟩ : ∃ b o, ia = some ⟨b, o, none⟩ ∧ b < wr.heap.size ∧ ∀ i (h : i < l.length), wr.cell? ⟨b, o + i, none⟩ = some (iv l[i]) := by
                rcases (TI.out.gr gi) with h | h
                · rw [h] at hil; simp at hil
                · exact h
              have c1 := hc1 i hil
              obtain ⟨m6, _⟩ := HME.out l[i] (List.getElem_mem hil)
              clear hc1
              generalize l[i] = m at *
              have HCZ : Hid (∀ (d : Ext wr), Calls Try.prog 9 #[pv p, iv x, iv m] d.out fun e w' => e = .returned (iv (C x m)) ∧ ∃ m : Ext wr, w' = m.out) := fun d =>
                (cost_nat (HL.out.gr (gXw.trans d.gr)) Hc.out hx m6).mono fun e w' ⟨he, g⟩ => ⟨he, d, g⟩
              have m6i : (m : Int) < 6 := by omega
              cases ht : (l.take i).any (hitB C x y)
              · have HHT : Hid (hitB C x y m = decide (C x m + dst C m y = xy)) := by unfold Hid hitB; rw [HDx.out]
                have q1 := dst_le C m y
                have q2 := Hc.out.le x m
                have hw1 : IntKind.i64.wrap (((C x m : Nat) : Int) + ((dst C m y : Nat) : Int)) = ((C x m : Nat) : Int) + ((dst C m y : Nat) : Int) := by rw [IntKind.wrap_i64]; omega
                rw [ht] at HN
                clear ht HH
                by_cases hh : C x m + dst C m y = xy
                · have k1 : (((C x m : Nat) : Int) + ((dst C m y : Nat) : Int) == (xy : Int)) = true := by simp; omega
                  have HT : Hid ((l.take (i + 1)).any (hitB C x y) = true) := by unfold Hid; rw [HN.out, HHT.out, decide_eq_true hh]; rfl
                  clear hh HN HHT
                  go_wp2_with fail
                  refine wp_region_ext (by kernel_rfl) (by kernel_rfl) ?_
                  repeat (go_big_quiet_step (first | (go_at_call 8; with_reducible exact HFZ.out _ _) | (go_at_call 9; with_reducible exact HCZ.out _)))
                  refine wpQuiet_nil ?_
                  rintro _ ⟨d5, rfl⟩
                  go_wp2_with fail
                  go_roundw
                  case rel => exact ⟨i + 1, by omega, by rw [HT.out], by go_num, gi.trans d5.gr⟩
                  case measure => simp [intOf]; omega
                · have k1 : (((C x m : Nat) : Int) + ((dst C m y : Nat) : Int) == (xy : Int)) = false := by simp; omega
                  have HT : Hid ((l.take (i + 1)).any (hitB C x y) = false) := by unfold Hid; rw [HN.out, HHT.out, decide_eq_false hh]; rfl
                  clear hh HN HHT
                  go_wp2_with fail
                  refine wp_region_ext (by kernel_rfl) (by kernel_rfl) ?_
                  repeat (go_big_quiet_step (first | (go_at_call 8; with_reducible exact HFZ.out _ _) | (go_at_call 9; with_reducible exact HCZ.out _)))
                  refine wpQuiet_nil ?_
                  rintro _ ⟨d5, rfl⟩
                  go_wp2_with fail
                  go_roundw
                  case rel => exact ⟨i + 1, by omega, by rw [HT.out], by go_num, gi.trans d5.gr⟩
                  case measure => simp [intOf]; omega
              · rw [ht] at HN
                have HT : Hid ((l.take (i + 1)).any (hitB C x y) = true) := by unfold Hid; rw [HN.out]; rfl
                clear ht HN HH
                go_wp2_with fail
                refine wp_region_ext (by kernel_rfl) (by kernel_rfl) ?_
                repeat (go_big_quiet_step (fail))
                refine wpQuiet_nil ?_
                rintro _ ⟨d5, rfl⟩
                go_wp2_with fail
                go_roundw
                case rel => exact ⟨i + 1, by omega, by rw [HT.out], by go_num, gi.trans d5.gr⟩
                case measure => simp [intOf]; omega
            · have hii : ¬ (i : Int) < (l.length : Int) := by omega
              have ht : (l.take i).any (hitB C x y) = true := by rw [List.take_of_length_le (by omega)]; exact HH.out
              rw [ht]
              clear ht HH
              go_wp2_with fail
              go_ret
              exact ⟨rfl, (hgX.out.ext d3).trans gi⟩

end Go.Proofs.Ytimbgijpeomfcad
