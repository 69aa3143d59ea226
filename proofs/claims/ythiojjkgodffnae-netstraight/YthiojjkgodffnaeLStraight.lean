/- handpostlaw.NetStraight ANSWERS true. -/
import Derived.Test.YthiojjkgodffnaePthF
import Derived.Test.YthiojjkgodffnaeRBt
namespace Go.Proofs.Ythiojjkgodffnae
open Go.RowKit
attribute [local go_sem] Ext.all Ext.cell Ext.frozen Ext.lt Ext.lt1 Ext.lt2 Ext.ne Ext.ne'

set_option maxRecDepth 20000 in
set_option maxHeartbeats 32000000 in
theorem netStraight_any (w : World) (ao : Option Addr) (n cp : Nat) (l : List Sx) (H : SpAt w ao l) (hn : l.length = n) :
    Calls Try.prog 4 #[.slice ao n cp] w fun e w' => e = .returned (.bool true) ∧ Gr w w' := by
  have HS := hide (fun (X : World) (g : Gr w X) => H.gr g)
  have HNL := hide hn
  clear H hn
  go_enter Try.func4, Try.ntmps4
  go_upto_region 3 with (go_at_call 9; with_reducible refine (netBegun_ok _).mono ?_; rintro e V0 ⟨rfl, g0'⟩; have G0 := hide g0'; clear g0')
  by_cases h150 : 150 < n
  · have gd : decide ((150 : Int) < (n : Int)) = true := decide_eq_true (by omega)
    go_wp2_with fail
    go_ret
    exact ⟨rfl, G0.out⟩
  · have gd : decide ((150 : Int) < (n : Int)) = false := decide_eq_false (by omega)
    have HNN := hide (netNew_nl V0 (fun b => b < V0.heap.size) (fun _ h => h))
    go_upto_region 7 with (go_at_call 10; with_reducible refine HNN.out.mono ?_; rintro e V1 ⟨p, k, q, v, rfl, H0', z1'⟩; have H0 := hide H0'; clear H0' z1')
    clear HNN
    go_loopw [4] (fun v4 wr => ∃ (i : Nat) (v : Value) (c : Nat → Nat → Nat) (t : Tn), i ≤ n ∧ v4 = .int .i64 (i : Int) ∧ Hid (Nl (fun b => b < V0.heap.size) V0 wr p k q v c t i)) (fun v4 _ => (n - intOf v4).toNat)
    case atStart => exact ⟨0, v, _, newT, by omega, rfl, H0⟩
    case round =>
      clear H0 v
      obtain ⟨i, v, c, t, hin, rfl, H0⟩ := hrel
      have gB : Hid (∀ (W : World) (v : Value) (c : Nat → Nat → Nat) (t : Tn) (N : Nat), Nl (fun b => b < V0.heap.size) V0 W p k q v c t N → Gr w W) := fun W v c t N h => G0.out.trans (h.h.kp.below (Nat.le_refl _) (fun _ h => h))
      by_cases hi : i < n
      · have hii : decide ((i : Int) < (n : Int)) = true := decide_eq_true (by omega)
        have hi0 : (i : Int) < (n : Int) := by omega
        have hil : i < l.length := by have := HNL.out; omega
        have wi : IntKind.i64.wrap ((i : Int) + 1) = (i : Int) + 1 := by rw [IntKind.wrap_i64]; omega
        obtain ⟨bn, on, hao, hbn, s0, s1, s2, s3, s4, s5⟩ := (HS.out _ (gB.out _ _ _ _ _ H0.out)).get hil
        subst hao
        generalize l[i] = x at *
        obtain ⟨⟨kd, xa, xb, xn⟩, xl, xt⟩ := x
        simp only at s0 s1 s2 s3 s4 s5
        have HD := hide (H0.out.do (by omega) ⟨kd, xa, xb, xn⟩ (iv xl) (iv xt))
        simp only at HD
        generalize nextC c ⟨kd, xa, xb, xn⟩ = c1 at *
        generalize (doT t ⟨kd, xa, xb, xn⟩).1 = t1 at *
        generalize (doT t ⟨kd, xa, xb, xn⟩).2 = rc at *
        go_upto_region 10 with (go_at_call 12; with_reducible refine HD.out.mono ?_; rintro e V2 ⟨v1, rfl, T2'⟩; have T3 := hide T2'; clear T2')
        clear H0 HD s0 s1 s2 s3 s4 s5 hbn
        go_wp2_with fail
        go_loopw [5] (fun v5 wr => ∃ a : Nat, a ≤ 6 ∧ v5 = .int .i64 (a : Int) ∧ Hid (Nl (fun b => b < V0.heap.size) V0 wr p k q v1 c1 t1 (i + 1))) (fun v5 _ => (6 - intOf v5).toNat)
        case atStart => exact ⟨0, by omega, rfl, T3⟩
        case round =>
          clear T3
          obtain ⟨a, ha6, rfl, T3⟩ := hrel
          by_cases ha : a < 6
          · have hai : decide ((a : Int) < 6) = true := decide_eq_true (by omega)
            have wa : IntKind.i64.wrap ((a : Int) + 1) = (a : Int) + 1 := by rw [IntKind.wrap_i64]; omega
            go_wp2_with fail
            go_loopw [6] (fun v6 wr => ∃ z : Nat, z ≤ 6 ∧ v6 = .int .i64 (z : Int) ∧ Hid (Nl (fun b => b < V0.heap.size) V0 wr p k q v1 c1 t1 (i + 1))) (fun v6 _ => (6 - intOf v6).toNat)
            case atStart => exact ⟨0, by omega, rfl, T3⟩
            case round =>
              clear T3
              obtain ⟨z, hz6, rfl, T3⟩ := hrel
              by_cases hz : z < 6
              · have hzi : decide ((z : Int) < 6) = true := decide_eq_true (by omega)
                have wz : IntKind.i64.wrap ((z : Int) + 1) = (z : Int) + 1 := by rw [IntKind.wrap_i64]; omega
                obtain ⟨pl, pe, hpl, hch, hp6, _, hpn, _⟩ := straight T3.out.a ha hz
                have HPT := hide (T3.out.path hz hpl)
                have HCH := hide hch
                have HP6 := hide hp6
                have HPN := hide (And.intro hch.pos hpn)
                clear hpl hch hp6 hpn
                go_upto_region 17 with (go_at_call 15; with_reducible refine HPT.out.mono ?_; rintro e V5 ⟨ap, np, cpp, rfl, hnp', nm', g5'⟩; have HNP := hide hnp'; have NM := hide nm'; have G5 := hide g5'; clear hnp' nm' g5')
                have T4 := hide (T3.out.ext G5.out)
                clear T3 HPT G5
                have n1 : (((np : Nat) : Int) == 0) = false := by have := HNP.out; have := HPN.out.1; simp; omega
                have n1' : (np == 0) = false := by have := HNP.out; have := HPN.out.1; simp; omega
                have n1'' : ¬ np = 0 := by have := HNP.out; have := HPN.out.1; omega
                have n2 : decide ((6 : Int) < (np : Int)) = false := decide_eq_false (by have := HNP.out; have := HPN.out.2; omega)
                have n3 : np ≤ 6 := by have := HNP.out; have := HPN.out.2; omega
                go_wp2_with fail
                go_loopw [9] (fun v9 wr => ∃ m : Nat, 1 ≤ m ∧ v9 = .int .i64 (m : Int) ∧ Hid (m ≤ np) ∧ Hid (Gr V5 wr)) (fun v9 _ => (np - intOf v9).toNat)
                case atStart => exact ⟨1, by omega, rfl, (by unfold Hid; omega), Gr.refl _⟩
                case round =>
                  obtain ⟨m, hm1, rfl, hmn, gw⟩ := hrel
                  by_cases hm : m < np
                  · have hmi : decide ((m : Int) < (np : Int)) = true := decide_eq_true (by omega)
                    have hm0 : (m : Int) < (np : Int) := by omega
                    have wm : IntKind.i64.wrap ((m : Int) + 1) = (m : Int) + 1 := by rw [IntKind.wrap_i64]; omega
                    obtain ⟨j, hj⟩ : ∃ j : Nat, m = j + 1 := ⟨m - 1, by omega⟩
                    have hj0 : (j : Int) < (np : Int) := by omega
                    have wj : IntKind.i64.wrap ((m : Int) - 1) = (j : Int) := by rw [IntKind.wrap_i64]; omega
                    have hml : m < pl.length := by have := HNP.out; omega
                    have hjl : j < pl.length := by omega
                    obtain ⟨y, hy⟩ : ∃ y, y = pl[m] := ⟨_, rfl⟩
                    obtain ⟨x, hx⟩ : ∃ x, x = pl[j] := ⟨_, rfl⟩
                    have hy6 : y < 6 := by rw [hy]; exact HP6.out _ (List.getElem_mem hml)
                    have hx6 : x < 6 := by rw [hx]; exact HP6.out _ (List.getElem_mem hjl)
                    have HST : Hid (StepR t1 z x y) := by
                      have := HCH.out.step j (by omega)
                      rw [hx, hy]
                      have e : pl[m] = pl[j + 1]'(by omega) := by congr 1
                      rw [e]; exact this
                    obtain ⟨en, eo, rfl, hen, c1', c2'⟩ : ∃ en eo, ap = some ⟨en, eo, none⟩ ∧ en < wr.heap.size ∧ wr.cell? ⟨en, eo + m, none⟩ = some (iv (y : Int)) ∧ wr.cell? ⟨en, eo + j, none⟩ = some (iv (x : Int)) := by
                      rcases NM.out.gr gw.out with e | ⟨en, eo, e, hen, hc⟩
                      · exfalso; rw [e] at hml; simp at hml
                      · exact ⟨en, eo, e, hen, by rw [hy]; exact hc m hml, by rw [hx]; exact hc j hjl⟩
                    clear hy hx hj hml hjl
                    have T5 := hide (T4.out.ext gw.out)
                    have l0 := T5.out.h.links
                    have hp := T5.out.h.blk.lt
                    have HB1 := hide (T5.out.best hy6 hz)
                    have HB2 := hide (fun (d : Ext wr) => (T5.out.ext d.gr).best hx6 hz)
                    have HCC := hide (fun (d : Ext wr) (d' : Ext d.out) (f : Ext d'.out) => Nl.costE ((T5.out.ext d.gr).ext d'.gr) hx6 hy6 f)
                    have HCN : ((c1 x y : Int) == 0) = false := by
                      have h1 := HST.out.1
                      rw [T5.out.a.s.tc.cst x y hx6 hy6] at h1
                      simpa using h1
                    have HBT := hide HST.out.2.1
                    clear T5 HST
                    generalize (t1.nd y).bests z = by_ at *
                    generalize (t1.nd x).bests z = bx_ at *
                    obtain ⟨ys, yd⟩ := by_
                    obtain ⟨xs, xd⟩ := bx_
                    generalize c1 x y = cc at *
                    simp only at HB1 HB2 HBT
                    go_upto_region 24 with (first | (go_at_call 22; with_reducible refine HB1.out.mono ?_; rintro e _ ⟨rfl, d1, rfl⟩) | (go_at_call 22; with_reducible refine (HB2.out d1).mono ?_; rintro e _ ⟨rfl, d2, rfl⟩))
                    have HCE := hide (HCC.out d1 d2)
                    have gw2 : Hid (Gr V5 d2.out) := gw.out.trans (d1.gr.trans d2.gr)
                    have l1 : d2.out.cell? ⟨p, 0, none⟩ = some (pv k) := ((d2.cell p 0 (d1.lt p hp)).trans (d1.cell p 0 hp)).trans l0
                    have c3 : d2.out.cell? ⟨en, eo + m, none⟩ = some (iv (y : Int)) := ((d2.cell en (eo + m) (d1.lt en hen)).trans (d1.cell en (eo + m) hen)).trans c1'
                    have c4 : d2.out.cell? ⟨en, eo + j, none⟩ = some (iv (x : Int)) := ((d2.cell en (eo + j) (d1.lt en hen)).trans (d1.cell en (eo + j) hen)).trans c2'
                    have hp2 := d2.lt p (d1.lt p hp)
                    have hen2 := d2.lt en (d1.lt en hen)
                    clear HCC HB1 HB2 gw l0 c1' c2' hp hen
                    generalize d2.out = U at *
                    clear d2 d1
                    refine wp_region_ext (by kernel_rfl) (by kernel_rfl) ?_
                    repeat (go_big_quiet_step (first | (go_at_call 23; with_reducible exact HCE.out _) | (go_at_call 24; with_reducible exact rbetter_ext HBT.out _)))
                    refine wpQuiet_nil ?_
                    rintro _ ⟨d6, rfl⟩
                    go_wp2_with fail
                    go_roundw
                    case rel => exact ⟨m + 1, by omega, by congr 1, (by unfold Hid; omega), gw2.out.trans d6.gr⟩
                    case measure => simp [intOf]; omega
                  · have hmi : decide ((m : Int) < (np : Int)) = false := decide_eq_false (by omega)
                    go_wp2_with fail
                    go_roundw
                    case rel => exact ⟨z + 1, by omega, by congr 1, T4.out.ext gw.out⟩
                    case measure => simp [intOf]; omega
              · have hzi : decide ((z : Int) < 6) = false := decide_eq_false (by omega)
                go_wp2_with fail
                go_roundw
                case rel => exact ⟨a + 1, by omega, by congr 1, T3⟩
                case measure => simp [intOf]; omega
          · have hai : decide ((a : Int) < 6) = false := decide_eq_false (by omega)
            go_wp2_with fail
            go_roundw
            case rel => exact ⟨i + 1, v1, c1, t1, by omega, by congr 1, T3⟩
            case measure => simp [intOf]; omega
      · have hii : decide ((i : Int) < (n : Int)) = false := decide_eq_false (by omega)
        go_wp2_with fail
        go_ret
        exact ⟨rfl, gB.out _ _ _ _ _ H0.out⟩

end Go.Proofs.Ythiojjkgodffnae
