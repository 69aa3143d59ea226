/- handpostlaw.LinksMore ANSWERS true. -/
import Derived.Test.YtimbgijpeomfcadK9
namespace Go.Proofs.Ytimbgijpeomfcad
open Go.RowKit
attribute [local go_sem] Ext.all Ext.cell Ext.frozen Ext.lt Ext.lt1 Ext.lt2 Ext.ne Ext.ne'

abbrev row6 (w : World) (p o : Nat) (g : Nat → Nat) : World := (((((w.setCell ⟨p, o, none⟩ (iv (g 0))).setCell ⟨p, o + 1, none⟩ (iv (g 1))).setCell ⟨p, o + 2, none⟩ (iv (g 2))).setCell ⟨p, o + 3, none⟩ (iv (g 3))).setCell ⟨p, o + 4, none⟩ (iv (g 4))).setCell ⟨p, o + 5, none⟩ (iv (g 5))
theorem NArr.row {w : World} {t p : Nat} {F F' : Nat → Nat} (h : NArr w t 36 p F) (n : Nat) (G : Nat → Nat) (e : ∀ i, i < 36 → F' i = if i / 6 = n then G (i % 6) else F i) : NArr (row6 w p (n * 6) G) t 36 p F' := by
  have k0 := h.set (j := n * 6) (g' := updn F (n * 6) (G 0)) (fun _ _ => rfl)
  have k1 := k0.set (j := n * 6 + 1) (g' := updn (updn F (n * 6) (G 0)) (n * 6 + 1) (G 1)) (fun _ _ => rfl)
  have k2 := k1.set (j := n * 6 + 2) (g' := updn (updn (updn F (n * 6) (G 0)) (n * 6 + 1) (G 1)) (n * 6 + 2) (G 2)) (fun _ _ => rfl)
  have k3 := k2.set (j := n * 6 + 3) (g' := updn (updn (updn (updn F (n * 6) (G 0)) (n * 6 + 1) (G 1)) (n * 6 + 2) (G 2)) (n * 6 + 3) (G 3)) (fun _ _ => rfl)
  have k4 := k3.set (j := n * 6 + 4) (g' := updn (updn (updn (updn (updn F (n * 6) (G 0)) (n * 6 + 1) (G 1)) (n * 6 + 2) (G 2)) (n * 6 + 3) (G 3)) (n * 6 + 4) (G 4)) (fun _ _ => rfl)
  have k5 := k4.set (j := n * 6 + 5) (g' := updn (updn (updn (updn (updn (updn F (n * 6) (G 0)) (n * 6 + 1) (G 1)) (n * 6 + 2) (G 2)) (n * 6 + 3) (G 3)) (n * 6 + 4) (G 4)) (n * 6 + 5) (G 5)) (fun _ _ => rfl)
  refine k5.congr fun i hi => ?_
  rw [e i hi]
  unfold updn
  by_cases q : i / 6 = n
  · rw [if_pos q]
    rcases six (show i % 6 < 6 by omega) with r | r | r | r | r | r <;> rw [r] <;> repeat (first | rw [if_pos (by omega)] | rw [if_neg (by omega)])
  · rw [if_neg q]
    repeat rw [if_neg (by omega)]
theorem gr_row6 {w X : World} {p : Nat} (g : Gr w X) (hp : w.heap.size ≤ p) (o : Nat) (G : Nat → Nat) : Gr w (row6 X p o G) :=
  (((((g.setCell hp _).setCell hp _).setCell hp _).setCell hp _).setCell hp _).setCell hp _
theorem row6_cells {w : World} {t p : Nat} {F : Nat → Nat} (h : NArr w t 36 p F) {n : Nat} (hn : n < 6) : ∀ j, j < 6 → w.cell? ⟨p, n * 6 + j, none⟩ = some (iv (F (n * 6 + j))) := fun _ hj => h.cell (by omega)
/-- Is a link made, or does it cost less? -/
def lessB (was v : Nat) : Bool := decide ((was = 0 ∧ 0 < v) ∨ (0 < was ∧ 0 < v ∧ v ≤ was))
theorem lfar_lit {w : World} {p : Nat} {c : Nat → Nat → Nat} (H : KL w p c) (hc : Lk c) (f : Int) :
    Calls Try.prog 8 #[pv p, iv f] w fun e w' => e = .returned (.agg #[iv (dst c f 0), iv (dst c f 1), iv (dst c f 2), iv (dst c f 3), iv (dst c f 4), iv (dst c f 5)]) ∧ Gr w w' := lfar_any H hc f
def oldF (C : Nat → Nat → Nat) (k i : Nat) : Nat := if i / 6 < k then dst C ((i / 6 : Nat) : Int) (i % 6) else 0

set_option maxRecDepth 20000 in
set_option maxHeartbeats 4000000 in
theorem kmore_any (w : World) (ao : Option Addr) (n k : Nat) (xs : List (Int × Int × Int)) (a b cost : Int) (H : LinkAt w ao xs) (hn : xs.length = n) :
    Calls Try.prog 4 #[.slice ao n k, iv a, iv b, iv cost] w fun e w' => e = .returned (.bool true) ∧ Gr w w' := by
  have HB := hide (kbegun_any w)
  by_cases h200 : 200 < n
  · have hd : decide ((200 : Int) < (n : Int)) = true := decide_eq_true (by omega)
    clear H
    go_enter Try.func4, Try.ntmps4
    go_wp2_with (first | (go_at_call 5; with_reducible refine HB.out.mono ?_; rintro e w1 ⟨rfl, g1⟩))
    go_ret
    exact ⟨rfl, g1⟩
  have hd : decide ((200 : Int) < (n : Int)) = false := decide_eq_false (by omega)
  have HM := hide (fun (X : World) (g : Gr w X) => maps_any X ao n k xs (H.gr g) hn (by omega))
  have hc := costs_lk xs
  clear H
  generalize costs xs = C at *
  go_enter Try.func4, Try.ntmps4
  go_upto_region 5 with (first | (go_at_call 5; with_reducible refine HB.out.mono ?_; rintro e w1 ⟨rfl, g1⟩))
  have H1 := hide (HM.out _ g1)
  clear HB HM
  go_upto_region 6 with (first | (go_at_call 7; with_reducible refine H1.out.mono ?_; rintro e X ⟨p, q, rfl, T⟩))
  have hgX := hide (g1.trans T.gr)
  have hwp := Nat.le_trans (Below.size g1) T.lp
  have HL := hide T.l
  have hpX := T.l.lt
  have HC1 := hide (cost_any T.l hc a b)
  have Hc := hide hc
  clear T H1 g1 hc
  go_upto_region 8 with (first | (go_at_call 9; with_reducible refine HC1.out.mono ?_; rintro e wn ⟨rfl, hwn⟩; subst hwn))
  clear HC1
  refine wp_gen (fun Y => Hid (NArr Y 35 36 wn.heap.size (oldF C 0)) ∧ Gr wn Y) ⟨(NArr.new wn 35 36 fun _ => 0).congr (fun j _ => by unfold oldF; simp), (Gr.refl _).alloc _⟩ ?_
  rintro Y ⟨NY, gY⟩
  go_wp2_with fail
  go_loopw [14] (fun v14 wr => ∃ k : Nat, k ≤ 6 ∧ v14 = .int .i64 k ∧ Hid (NArr wr 35 36 wn.heap.size (oldF C k)) ∧ Gr wn wr) (fun v14 _ => 6 - (intOf v14).toNat)
  case atStart => exact ⟨0, by omega, rfl, NY, gY⟩
  case round =>
    obtain ⟨k, hk, rfl, Nk, gk⟩ := hrel
    clear NY gY
    by_cases hlt : k < 6
    · have hki : (k : Int) < 6 := by omega
      have HF := hide (lfar_lit (HL.out.gr gk) Hc.out k)
      have HNX : Hid (∀ i, i < 36 → oldF C (k + 1) i = if i / 6 = k then dst C k (i % 6) else oldF C k i) := fun i _ => by
        unfold oldF
        by_cases e : i / 6 = k
        · rw [if_pos (by omega), if_pos e, e]
        · rw [if_neg e]
          by_cases e2 : i / 6 < k
          · rw [if_pos (by omega), if_pos e2]
          · rw [if_neg (by omega), if_neg e2]
      go_wp2_with (first | (go_at_call 8; with_reducible refine HF.out.mono ?_; rintro e w2 ⟨rfl, g2⟩; have N2 := Nk.out.gr g2; have x0 := N2.cell (j := k * 6) (by omega); have x1 := N2.cell (j := k * 6 + 1) (by omega); have x2 := N2.cell (j := k * 6 + 2) (by omega); have x3 := N2.cell (j := k * 6 + 3) (by omega); have x4 := N2.cell (j := k * 6 + 4) (by omega); have x5 := N2.cell (j := k * 6 + 5) (by omega); have fz := N2.free; have l2 := N2.lt; have NN := hide N2; clear N2))
      go_roundw
      case rel => exact ⟨k + 1, by omega, by go_num, NN.out.row k (dst C k) HNX.out, gr_row6 (gk.trans g2) (Nat.le_refl _) _ _⟩
      case measure => simp [intOf]; omega
    · have hki : ¬ (k : Int) < 6 := by omega
      have NO : Hid (NArr wr 35 36 wn.heap.size (fun i => dst C ((i / 6 : Nat) : Int) (i % 6))) := Nk.out.congr fun i hi => by unfold oldF; rw [if_pos (by omega)]
      clear Nk
      have HKL := hide (HL.out.gr gk)
      have nr : wn.heap.size ≠ p := by omega
      cases hS : setB a b cost
      · have HB := hide (kset_bad (w := wr) (p := p) hS)
        clear hS
        go_wp2_with (first | (go_at_call 11; with_reducible refine HB.out.mono ?_; rintro e w2 ⟨rfl, hw2⟩; subst hw2))
        go_ret
        exact ⟨rfl, hgX.out.trans gk⟩
      · obtain ⟨⟨a0, a6⟩, ⟨b0, b6⟩, hab, v0, v15⟩ := set_iff.1 hS
        have HE : Hid (cst C a b = C a.toNat b.toNat) := by
          unfold Hid cst
          rw [if_pos ⟨node_iff.2 ⟨a0, a6⟩, node_iff.2 ⟨b0, b6⟩⟩]
        obtain ⟨x, rfl⟩ : ∃ m : Nat, a = m := ⟨a.toNat, by omega⟩
        obtain ⟨y, rfl⟩ : ∃ m : Nat, b = m := ⟨b.toNat, by omega⟩
        obtain ⟨v, rfl⟩ : ∃ m : Nat, cost = m := ⟨cost.toNat, by omega⟩
        simp only [Int.toNat_natCast] at HE
        have hx : x < 6 := by omega
        have hy : y < 6 := by omega
        have hxy : x ≠ y := by omega
        have hv : v ≤ 15 := by omega
        have HS := hide (kset_ok HKL.out hx hy hxy hv)
        have HC2 := hide (Hc.out.set hxy hv)
        rw [HE.out]
        have hwas := Hc.out.le x y
        have L1 : Hid (lessB (C x y) v = true → 0 < v ∧ (C x y = 0 ∨ v ≤ C x y)) := fun h => by
          have := of_decide_eq_true h
          omega
        have L2 : Hid (lessB (C x y) v = false → v ≠ C x y → 0 < C x y ∧ (v = 0 ∨ C x y ≤ v)) := fun h hne => by
          have := of_decide_eq_false h
          omega
        clear hS HE HKL HL hab
        go_upto_region 14 with (first | (go_at_call 11; with_reducible refine HS.out.mono ?_; rintro e w2 ⟨rfl, j, hw2, k2⟩; have HW2 := hide hw2; clear hw2))
        have NO2 : Hid (NArr w2 35 36 wn.heap.size (fun i => dst C ((i / 6 : Nat) : Int) (i % 6))) := by rw [HW2.out]; exact NO.out.other nr j _
        have gw2 : Hid (Gr w w2) := by rw [HW2.out]; exact (hgX.out.trans gk).setCell (p := ⟨p, j, none⟩) hwp _
        have K2 := hide k2
        clear HS NO k2 HW2 gk
        go_cut [15] from 50 to 68 (fun v15 wc => v15 = .bool (lessB (C x y) v) ∧ wc = w2)
        case first =>
          clear L1 L2 NO2 K2
          generalize C x y = was at *
          by_cases h1 : was = 0
          · subst h1
            by_cases h2 : 0 < v
            · have HT : Hid (lessB 0 v = true) := decide_eq_true (by omega)
              have k2 : (0 : Int) < (v : Int) := by omega
              clear h2
              go_wp2_with fail
              go_meet
              case rel => exact ⟨by rw [HT.out], rfl⟩
            · obtain rfl : v = 0 := by omega
              have HT : Hid (lessB 0 0 = false) := decide_eq_false (by omega)
              clear h2
              go_wp2_with fail
              go_meet
              case rel => exact ⟨by rw [HT.out], rfl⟩
          · have k1 : ((was : Int) == 0) = false := by simp; omega
            have k3 : (0 : Int) < (was : Int) := by omega
            by_cases h2 : 0 < v
            · have k2 : (0 : Int) < (v : Int) := by omega
              by_cases h3 : v ≤ was
              · have HT : Hid (lessB was v = true) := decide_eq_true (by omega)
                have k4 : (v : Int) ≤ (was : Int) := by omega
                clear h1 h2 h3
                go_wp2_with fail
                go_meet
                case rel => exact ⟨by rw [HT.out], rfl⟩
              · have HT : Hid (lessB was v = false) := decide_eq_false (by omega)
                have k4 : ¬ (v : Int) ≤ (was : Int) := by omega
                clear h1 h2 h3
                go_wp2_with fail
                go_meet
                case rel => exact ⟨by rw [HT.out], rfl⟩
            · obtain rfl : v = 0 := by omega
              have HT : Hid (lessB was 0 = false) := decide_eq_false (by omega)
              clear h1 h2
              go_wp2_with fail
              go_meet
              case rel => exact ⟨by rw [HT.out], rfl⟩
        case rest =>
          obtain ⟨rfl, rfl⟩ := hcut
          have HFN : Hid (∀ Z, Gr wc Z → ∀ m : Nat, Calls Try.prog 8 #[pv p, iv m] Z fun e w' => e = .returned (.agg #[iv (dst (setC C x y v) m 0), iv (dst (setC C x y v) m 1), iv (dst (setC C x y v) m 2), iv (dst (setC C x y v) m 3), iv (dst (setC C x y v) m 4), iv (dst (setC C x y v) m 5)]) ∧ Gr Z w') := fun Z g m => lfar_lit (K2.out.gr g) HC2.out m
          have F1 : Hid (lessB (C x y) v = true → ∀ i j : Nat, i < 6 → j < 6 → dst (setC C x y v) i j ≤ dst C i j ∧ dst (setC C x y v) i j = min (dst C i j) (min (dst C i x + v + dst C y j) (dst C i y + v + dst C x j))) := fun h i j hi hj =>
            ⟨dst_less (setC_less Hc.out (L1.out h)) i j hj, dst_by Hc.out hx hy hxy hv (L1.out h) hi hj⟩
          have F2 : Hid (lessB (C x y) v = false → v ≠ C x y → ∀ i j : Nat, i < 6 → j < 6 → dst C i j ≤ dst (setC C x y v) i j) := fun h hne i j hi hj => dst_less (setC_more Hc.out (L2.out h hne)) i j hj
          have F3 : Hid (v = C x y → ∀ i j : Nat, dst (setC C x y v) i j = dst C i j) := fun h i j => by rw [setC_same Hc.out h.symm]
          have HD := hide (dst_le C)
          clear L1 L2 K2 HC2 Hc
          generalize setC C x y v = C' at *
          generalize C x y = was at *
          generalize lessB was v = t at *
          go_wp2_with fail
          go_loopw [16] (fun v16 wr => ∃ i : Nat, i ≤ 6 ∧ v16 = .int .i64 i ∧ Gr wc wr) (fun v16 _ => 6 - (intOf v16).toNat)
          case atStart => exact ⟨0, by omega, rfl, Gr.refl _⟩
          case round =>
            obtain ⟨i, hi6, rfl, gi⟩ := hrel
            by_cases hi : i < 6
            · have hii : (i : Int) < 6 := by omega
              have H1 := hide (HFN.out _ gi i)
              go_upto_region 19 with (first | (go_at_call 8; with_reducible refine H1.out.mono ?_; rintro e w3 ⟨rfl, g3⟩))
              refine wp_gen (fun Z => Hid (NArr Z 29 6 w3.heap.size (dst C' i)) ∧ Hid (NArr Z 35 36 wn.heap.size (fun i => dst C ((i / 6 : Nat) : Int) (i % 6))) ∧ Gr wc Z) ⟨NArr.new w3 29 6 (dst C' i), (NO2.out.gr (gi.trans g3)).gr ((Gr.refl _).alloc _), (gi.trans g3).alloc _⟩ ?_
              rintro Z ⟨NS, NR, gZ⟩
              generalize w3.heap.size = s at *
              clear H1 g3 gi
              have HNS := hide (fun j (hj : j < 6) => NS.out.cell hj)
              have HNR : Hid (∀ a j : Nat, a < 6 → j < 6 → Z.cell? ⟨wn.heap.size, a * 6 + j, none⟩ = some (iv (dst C a j))) := fun a j ha hj => by
                have := NR.out.cell (j := a * 6 + j) (by omega)
                simp only [show (a * 6 + j) / 6 = a by omega, show (a * 6 + j) % 6 = j by omega] at this
                exact this
              have ls := NS.out.lt
              have lr := NR.out.lt
              clear NS NR
              go_wp2_with fail
              go_loopw [18] (fun v18 wr => ∃ j : Nat, j ≤ 6 ∧ v18 = .int .i64 j ∧ Gr Z wr) (fun v18 _ => 6 - (intOf v18).toNat)
              case atStart => exact ⟨0, by omega, rfl, Gr.refl _⟩
              case round =>
                obtain ⟨j, hj6, rfl, gj⟩ := hrel
                obtain ⟨d, rfl⟩ := ext_mk gj
                by_cases hj : j < 6
                · have hji : (j : Int) < 6 := by omega
                  have cs := HNS.out j hj
                  have cr := HNR.out i j hi hj
                  have u1 := HD.out i j
                  go_upto_region 22 with (fail)
                  go_cut [127] from 80 to 127 (fun v127 wc' => v127 = .bool false ∧ ∃ d : Ext Z, wc' = d.out)
                  case first =>
                    cases t
                    · by_cases hvw : v = was
                      · subst hvw
                        have k1 : (((dst C' i j : Nat) : Int) != ((dst C i j : Nat) : Int)) = false := by
                          have := F3.out rfl i j
                          simp; omega
                        clear F1 F2 F3 HNS HNR
                        go_wp2_with fail
                        refine wp_region_ext_of (by kernel_rfl) (by kernel_rfl) ?_
                        repeat (go_big_quiet_step (fail))
                        refine wpQuiet_nil ?_
                        rintro _ ⟨d1, rfl⟩
                        go_wp2_with fail
                        go_meet
                        case rel => exact ⟨by simp, _, rfl⟩
                      · have k0 : ((v : Int) == (was : Int)) = false := by simp; omega
                        have k0' : ((v : Int) != (was : Int)) = true := by simp; omega
                        have k1 : decide (((dst C' i j : Nat) : Int) < ((dst C i j : Nat) : Int)) = false := decide_eq_false (by
                          have := F2.out rfl hvw i j hi hj
                          omega)
                        have k1n : decide (dst C' i j < dst C i j) = false := by simpa using k1
                        clear F1 F2 F3 HNS HNR hvw
                        go_wp2_with fail
                        refine wp_region_ext_of (by kernel_rfl) (by kernel_rfl) ?_
                        repeat (go_big_quiet_step (fail))
                        refine wpQuiet_nil ?_
                        rintro _ ⟨d1, rfl⟩
                        go_wp2_with fail
                        go_meet
                        case rel => exact ⟨by simp, _, rfl⟩
                    · have k2 : decide (((dst C i j : Nat) : Int) < ((dst C' i j : Nat) : Int)) = false := decide_eq_false (by
                        have := (F1.out rfl i j hi hj).1
                        omega)
                      have k2n : decide (dst C i j < dst C' i j) = false := by simpa using k2
                      by_cases hvw : v = was
                      · subst hvw
                        have k1 : (((dst C' i j : Nat) : Int) != ((dst C i j : Nat) : Int)) = false := by
                          have := F3.out rfl i j
                          simp; omega
                        clear F1 F2 F3 HNS HNR
                        go_wp2_with fail
                        refine wp_region_ext_of (by kernel_rfl) (by kernel_rfl) ?_
                        repeat (go_big_quiet_step (fail))
                        refine wpQuiet_nil ?_
                        rintro _ ⟨d1, rfl⟩
                        go_wp2_with fail
                        go_meet
                        case rel => exact ⟨by simp, _, rfl⟩
                      · have k0 : ((v : Int) == (was : Int)) = false := by simp; omega
                        clear F1 F2 F3 HNS HNR hvw
                        go_wp2_with fail
                        refine wp_region_ext_of (by kernel_rfl) (by kernel_rfl) ?_
                        repeat (go_big_quiet_step (fail))
                        refine wpQuiet_nil ?_
                        rintro _ ⟨d1, rfl⟩
                        go_wp2_with fail
                        go_meet
                        case rel => exact ⟨by simp, _, rfl⟩
                  case rest =>
                    obtain ⟨rfl, d2, rfl⟩ := hcut
                    have e1 := HNR.out i x hi hx
                    have e2 := HNR.out y j hy hj
                    have e3 := HNR.out i y hi hy
                    have e4 := HNR.out x j hx hj
                    have u2 := HD.out i x
                    have u3 := HD.out y j
                    have u4 := HD.out i y
                    have u5 := HD.out x j
                    have hxi : (x : Int) < 6 := by omega
                    have hyi : (y : Int) < 6 := by omega
                    have w1 : IntKind.i64.wrap (((dst C i x : Nat) : Int) + (v : Int)) = ((dst C i x : Nat) : Int) + (v : Int) := by rw [IntKind.wrap_i64]; omega
                    have w2' : IntKind.i64.wrap (((dst C i x : Nat) : Int) + (v : Int) + ((dst C y j : Nat) : Int)) = ((dst C i x : Nat) : Int) + (v : Int) + ((dst C y j : Nat) : Int) := by rw [IntKind.wrap_i64]; omega
                    have w3' : IntKind.i64.wrap (((dst C i y : Nat) : Int) + (v : Int)) = ((dst C i y : Nat) : Int) + (v : Int) := by rw [IntKind.wrap_i64]; omega
                    have w4 : IntKind.i64.wrap (((dst C i y : Nat) : Int) + (v : Int) + ((dst C x j : Nat) : Int)) = ((dst C i y : Nat) : Int) + (v : Int) + ((dst C x j : Nat) : Int) := by rw [IntKind.wrap_i64]; omega
                    go_upto_region 24 with (fail)
                    go_cut [19] from 128 to 154 (fun v19 wc' => v19 = iv ((min (dst C i x + v + dst C y j) (dst C i y + v + dst C x j) : Nat) : Int) ∧ ∃ d : Ext Z, wc' = d.out)
                    case first =>
                      clear F1 F2 F3 HNS HNR HD
                      by_cases hm : dst C i x + v + dst C y j < dst C i y + v + dst C x j
                      · have k1 : ((dst C i x : Nat) : Int) + (v : Int) + ((dst C y j : Nat) : Int) < ((dst C i y : Nat) : Int) + (v : Int) + ((dst C x j : Nat) : Int) := by omega
                        have HE : Hid (((min (dst C i x + v + dst C y j) (dst C i y + v + dst C x j) : Nat) : Int) = ((dst C i x : Nat) : Int) + (v : Int) + ((dst C y j : Nat) : Int)) := by unfold Hid; omega
                        have k2 : ¬ ((dst C i y : Nat) : Int) + (v : Int) + ((dst C x j : Nat) : Int) < ((dst C i x : Nat) : Int) + (v : Int) + ((dst C y j : Nat) : Int) := by omega
                        clear hm
                        go_wp2_with fail
                        refine wp_region_ext_of (by kernel_rfl) (by kernel_rfl) ?_
                        repeat (go_big_quiet_step (fail))
                        refine wpQuiet_nil ?_
                        rintro _ ⟨d3, rfl⟩
                        go_wp2_with fail
                        all_goals
                          go_meet
                          case rel => exact ⟨by congr 1; omega, _, rfl⟩
                      · have k1 : ¬ ((dst C i x : Nat) : Int) + (v : Int) + ((dst C y j : Nat) : Int) < ((dst C i y : Nat) : Int) + (v : Int) + ((dst C x j : Nat) : Int) := by omega
                        have HE : Hid (((min (dst C i x + v + dst C y j) (dst C i y + v + dst C x j) : Nat) : Int) = ((dst C i y : Nat) : Int) + (v : Int) + ((dst C x j : Nat) : Int)) := by unfold Hid; omega
                        have k2 : ((dst C i y : Nat) : Int) + (v : Int) + ((dst C x j : Nat) : Int) ≤ ((dst C i x : Nat) : Int) + (v : Int) + ((dst C y j : Nat) : Int) := by omega
                        clear hm
                        go_wp2_with fail
                        refine wp_region_ext_of (by kernel_rfl) (by kernel_rfl) ?_
                        repeat (go_big_quiet_step (fail))
                        refine wpQuiet_nil ?_
                        rintro _ ⟨d3, rfl⟩
                        go_wp2_with fail
                        all_goals
                          go_meet
                          case rel => exact ⟨by congr 1; omega, _, rfl⟩
                    case rest =>
                      obtain ⟨rfl, d3, rfl⟩ := hcut
                      have F4 : Hid (t = true → dst C' i j = min (dst C i j) (min (dst C i x + v + dst C y j) (dst C i y + v + dst C x j))) := fun h => (F1.out h i j hi hj).2
                      generalize min (dst C i x + v + dst C y j) (dst C i y + v + dst C x j) = by_ at *
                      clear e1 e2 e3 e4 u2 u3 u4 u5 w1 w2' w3' w4
                      go_upto_region 25 with (fail)
                      go_cut [168] from 155 to 168 (fun v168 wc' => v168 = .bool false ∧ ∃ d : Ext Z, wc' = d.out)
                      case first =>
                        cases t
                        · clear F1 F2 F3 F4 HNS HNR HD
                          go_wp2_with fail
                          refine wp_region_ext_of (by kernel_rfl) (by kernel_rfl) ?_
                          repeat (go_big_quiet_step (fail))
                          refine wpQuiet_nil ?_
                          rintro _ ⟨d4, rfl⟩
                          go_wp2_with fail
                          go_meet
                          case rel => exact ⟨by simp, _, rfl⟩
                        · have F5 := F4.out rfl
                          by_cases hm : dst C i j ≤ by_
                          · have k1 : ((dst C i j : Nat) : Int) ≤ (by_ : Int) := by omega
                            have k2 : ¬ (by_ : Int) < ((dst C i j : Nat) : Int) := by omega
                            have k3 : (((dst C' i j : Nat) : Int) != ((dst C i j : Nat) : Int)) = false := by simp; omega
                            clear F1 F2 F3 F4 F5 HNS HNR HD hm
                            go_wp2_with fail
                            refine wp_region_ext_of (by kernel_rfl) (by kernel_rfl) ?_
                            repeat (go_big_quiet_step (fail))
                            refine wpQuiet_nil ?_
                            rintro _ ⟨d4, rfl⟩
                            go_wp2_with fail
                            go_meet
                            case rel => exact ⟨by simp, _, rfl⟩
                          · have k1 : ¬ ((dst C i j : Nat) : Int) ≤ (by_ : Int) := by omega
                            have k2 : (by_ : Int) < ((dst C i j : Nat) : Int) := by omega
                            have k3 : (((dst C' i j : Nat) : Int) != (by_ : Int)) = false := by simp; omega
                            clear F1 F2 F3 F4 F5 HNS HNR HD hm
                            go_wp2_with fail
                            refine wp_region_ext_of (by kernel_rfl) (by kernel_rfl) ?_
                            repeat (go_big_quiet_step (fail))
                            refine wpQuiet_nil ?_
                            rintro _ ⟨d4, rfl⟩
                            go_wp2_with fail
                            go_meet
                            case rel => exact ⟨by simp, _, rfl⟩
                      case rest =>
                        obtain ⟨rfl, d4, rfl⟩ := hcut
                        go_wp2_with fail
                        go_roundw
                        case rel => exact ⟨j + 1, by omega, by go_num, d4.gr⟩
                        case measure => simp [intOf]; omega
                · have hji : ¬ (j : Int) < 6 := by omega
                  go_wp2_with fail
                  go_roundw
                  case rel => exact ⟨i + 1, by omega, by go_num, gZ.ext d⟩
                  case measure => simp [intOf]; omega
            · have hii : ¬ (i : Int) < 6 := by omega
              go_wp2_with fail
              go_ret
              exact ⟨rfl, gw2.out.trans gi⟩

end Go.Proofs.Ytimbgijpeomfcad
