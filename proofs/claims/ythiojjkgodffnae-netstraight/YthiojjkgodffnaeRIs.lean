import Derived.Test.YthiojjkgodffnaeK2
import Derived.StillTailTactics
import Derived.Test.YthiojjkgodffnaeN0
/- CONTRACT OF package links: Far. -/
namespace Go.Proofs.Ythiojjkgodffnae
open Go.RowKit
attribute [local go_sem] Ext.all Ext.cell Ext.frozen Ext.lt Ext.lt1 Ext.lt2 Ext.ne Ext.ne'

theorem wk0_yes {c : Nat → Nat → Nat} {f : Nat} (j : Nat) : wk c f 0 j = if j = f then 0 else 200 := by
  rw [wk]
  by_cases e : j = f
  · rw [if_pos e, if_pos (by omega)]
  · rw [if_neg e, if_neg (by omega)]

/-- A link's three cells. -/
def bx (a b c : Nat) : Nat → Nat := fun j => if j = 0 then a else if j = 1 then b else c

set_option maxRecDepth 20000 in
set_option maxHeartbeats 4000000 in
theorem far_any {w : World} {p : Nat} {c : Nat → Nat → Nat} (H : KL w p c) (hc : Lk c) (f : Int) :
    Calls Try.prog 54 #[pv p, iv f] w fun e w' => ∃ g, e = .returned (.slice (some ⟨g, 0, none⟩) 6 6) ∧ NArr w' 56 6 g (dst c f) ∧ w.heap.size ≤ g ∧ Gr w w' := by
  have hp := H.lt
  have HL := hide (fun (wX : World) (gX : Gr w wX) => klist_any (H.gr gX) hc)
  have HD := hide (fun (d : Nat → Nat) (h0 : ∀ n, n < 6 → d n = wk c f 0 n) => rds_is hc f h0)
  have HM := hide (fun x hx => (all_mem c 6 (by omega) x).1 hx)
  have HLE := hide hc.le
  have hlen := all_len c 6
  clear H hc
  have N0 := hide (NArr.new w 56 6 fun _ => 0)
  go_enter Try.func54, Try.ntmps54
  go_wp2_with fail
  go_loopw [10] (fun v10 wr => ∃ k : Nat, k ≤ 6 ∧ v10 = .int .i64 k ∧ Hid (NArr wr 56 6 w.heap.size (fun j => if j < k then 200 else 0)) ∧ Gr w wr) (fun v10 _ => 6 - (intOf v10).toNat)
  case atStart => exact ⟨0, by omega, rfl, N0.out.congr (fun j _ => by simp), (Gr.refl _).alloc _⟩
  case round =>
    obtain ⟨k, hk, rfl, Nk, gk⟩ := hrel
    by_cases hlt : k < 6
    · have hki : (k : Int) < 6 := by omega
      have cc := Nk.out.cell hlt
      have fz := Nk.out.free k
      have pl := Nk.out.lt
      have NN : Hid (NArr (wr.setCell ⟨w.heap.size, k, none⟩ (iv (200 : Nat))) 56 6 w.heap.size (fun j => if j < k + 1 then 200 else 0)) := Nk.out.set fun i _ => by
        by_cases e : i = k
        · rw [if_pos (by omega), if_pos e]
        · rw [if_neg e]
          by_cases e2 : i < k
          · rw [if_pos (by omega), if_pos e2]
          · rw [if_neg (by omega), if_neg e2]
      have GG := hide (gk.setCell (p := ⟨w.heap.size, k, none⟩) (by simp) (iv (200 : Nat)))
      clear Nk
      go_wp2_with fail
      go_roundw
      case rel => exact ⟨k + 1, by omega, by go_num, NN, GG.out⟩
      case measure => simp [intOf]; omega
    · have e6 : k = 6 := by omega
      subst e6
      have N6 : NArr wr 56 6 w.heap.size (fun _ => 200) := Nk.out.congr (fun j hj => by simp [hj])
      have l6 := N6.lt
      clear Nk N0
      go_upto_if 17 with (first | (go_at_call 45; with_reducible refine (node_is (v := nodeB f) rfl _).mono ?_; rintro e w' ⟨rfl, hw⟩; subst hw))
      go_cut [] from 17 to 19 (fun wc => Hid (NArr wc 56 6 w.heap.size (wk c f 0)) ∧ Gr w wc)
      case first =>
        cases hf : nodeB f
        · have N0 : Hid (NArr w' 56 6 w.heap.size (wk c f 0)) := N6.congr fun j hj => by
            have := node_not.1 hf
            rw [wk, if_neg (by omega)]
          clear N6 hf
          go_wp2_with fail
          go_meet
          case rel => exact ⟨N0, gk⟩
        · obtain ⟨f0, f6⟩ := node_iff.1 hf
          obtain ⟨m, rfl⟩ : ∃ m : Nat, f = m := ⟨f.toNat, by omega⟩
          have hm : m < 6 := by omega
          have cc := N6.cell hm
          have fz := N6.free m
          have NN : Hid (NArr (w'.setCell ⟨w.heap.size, m, none⟩ (iv (0 : Nat))) 56 6 w.heap.size (wk c m 0)) := N6.set fun i _ => by rw [wk0_yes]
          have GG := hide (gk.setCell (p := ⟨w.heap.size, m, none⟩) (by simp) (iv (0 : Nat)))
          clear N6 hf
          go_wp2_with fail
          go_meet
          case rel => exact ⟨NN, GG.out⟩
      case rest =>
        obtain ⟨NC, gc⟩ := hcut
        clear N6 l6 gk
        have HK := hide (HL.out _ gc)
        have HDD := hide (HD.out (wk c f 0) (fun _ _ => rfl))
        have H0 := hide (wk_le c f 0)
        clear HD HL
        generalize allTo c 6 = l at *
        generalize wk c f 0 = d0 at *
        go_upto_region 10 with (first | (go_at_call 72; with_reducible refine HK.out.mono ?_; rintro e wL ⟨v, rfl, ho, gL⟩))
        obtain ⟨ao, cc, rfl, hT⟩ := ho.shape
        have hy := ho.young
        have l1 := NC.out.lt
        have hne : Hid (∀ b o, ao = some ⟨b, o, none⟩ → b ≠ w.heap.size) := fun b o e => by
          have := hy b o _ _ (by rw [e])
          omega
        refine wp_gen (fun Y => Hid (NArr Y 56 6 w.heap.size d0) ∧ Hid (TriAt Y ao l) ∧ Gr w Y) ⟨NC.out.gr gL, hT, gc.trans gL⟩ ?_
        rintro Y ⟨NY, TY, gY⟩
        clear NC gc HK ho hT hy l1 gL
        go_wp2_with fail
        go_loopw [22] (fun v22 wr => ∃ k : Nat, k ≤ 5 ∧ v22 = .int .i64 k ∧ Hid (NArr wr 56 6 w.heap.size (rds l d0 k)) ∧ Hid (TriAt wr ao l) ∧ Gr w wr) (fun v22 _ => 5 - (intOf v22).toNat)
        case atStart => exact ⟨0, by omega, rfl, NY, TY, gY⟩
        case round =>
          obtain ⟨k, hk, rfl, Nk, Tk, gk⟩ := hrel
          clear NY TY gY
          by_cases hlt : k < 5
          · have hki : (k : Int) < 5 := by omega
            have HB : Hid (∀ n, rds l d0 k n ≤ 200) := fun n => Nat.le_trans (rds_le k n) (H0.out n)
            have HNX : Hid (rds l d0 (k + 1) = l.foldl rx (rds l d0 k)) := rfl
            generalize rds l d0 k = dk at *
            go_wp2_with fail
            go_loopw [26] (fun v26 wr => ∃ i : Nat, i ≤ l.length ∧ v26 = .int .i64 i ∧ Hid (NArr wr 56 6 w.heap.size ((l.take i).foldl rx dk)) ∧ Hid (TriAt wr ao l) ∧ Gr w wr) (fun v26 _ => l.length - (intOf v26).toNat)
            case atStart => exact ⟨0, by omega, rfl, Nk, Tk, gk⟩
            case round =>
              obtain ⟨i, hi, rfl, Ni, Ti, gi⟩ := hrel
              clear Nk Tk gk
              by_cases hil : i < l.length
              · obtain ⟨b, o, rfl, hb, hcs⟩ : ∃ b o, ao = some ⟨b, o, none⟩ ∧ b < wr.heap.size ∧ ∀ i (h : i < l.length), wr.cell? ⟨b, o + i * 3, none⟩ = some (iv l[i].1) ∧ wr.cell? ⟨b, o + i * 3 + 1, none⟩ = some (iv l[i].2.1) ∧ wr.cell? ⟨b, o + i * 3 + 2, none⟩ = some (iv l[i].2.2) := by
                  rcases Ti.out with h | h
                  · rw [h] at hil; simp at hil
                  · exact h
                obtain ⟨c1, c2, c3⟩ := hcs i hil
                obtain ⟨x1, x2, x3, x4, x5⟩ := HM.out l[i] (List.getElem_mem hil)
                have x6 := HLE.out l[i].1 l[i].2.1
                rw [← x4] at x6
                have HXT : Hid ((l.take (i + 1)).foldl rx dk = rx ((l.take i).foldl rx dk) l[i]) := by
                  unfold Hid
                  rw [List.take_succ_eq_append_getElem hil, List.foldl_append]; rfl
                have HD2 : Hid (∀ n, (l.take i).foldl rx dk n ≤ 200) := fun n => Nat.le_trans (fold_le _ _ _) (HB.out n)
                generalize (l.take i).foldl rx dk = D at *
                generalize l[i] = x at *
                obtain ⟨xa, xb, xc⟩ := x
                simp only at c1 c2 c3 x1 x2 x3 x4 x5 x6
                clear hcs x4 x5
                have n1 := hne.out b o rfl
                have dl := Ni.out.lt
                have BX : NArr (wr.alloc (.cells #[iv xa, iv xb, iv xc] 116)) 116 3 wr.heap.size (bx xa xb xc) := NArr.new wr 116 3 (bx xa xb xc)
                go_upto_region 15 with (fail)
                refine wp_gen (fun Y => Hid (NArr Y 56 6 w.heap.size D) ∧ Hid (NArr Y 116 3 wr.heap.size (bx xa xb xc)) ∧ Hid (TriAt Y (some ⟨b, o, none⟩) l) ∧ Gr w Y) ⟨Ni.out.gr ((Gr.refl _).alloc _), BX, Ti.out.gr ((Gr.refl _).alloc _), gi.alloc _⟩ ?_
                rintro Y ⟨NY, BY, TY, gY⟩
                have nr : wr.heap.size ≠ w.heap.size := by omega
                clear Ni Ti gi BX c1 c2 c3 dl hb
                generalize wr.heap.size = r at *
                go_cut [] from 30 to 44 (fun wc => Hid (NArr wc 56 6 w.heap.size (rxa D (xa, xb, xc))) ∧ Hid (NArr wc 116 3 r (bx xa xb xc)) ∧ Hid (TriAt wc (some ⟨b, o, none⟩) l) ∧ Gr w wc)
                case first => as_aux_lemma =>
                  have da := NY.out.cell x1
                  have db := NY.out.cell x3
                  have b0 : Y.cell? ⟨r, 0, none⟩ = some (iv xa) := BY.out.cell (by omega)
                  have b1 : Y.cell? ⟨r, 1, none⟩ = some (iv xb) := BY.out.cell (by omega)
                  have b2 : Y.cell? ⟨r, 2, none⟩ = some (iv xc) := BY.out.cell (by omega)
                  have ba := HD2.out xa
                  have bb := HD2.out xb
                  have fz := NY.out.free xa
                  have l1 := NY.out.lt
                  have l2 := BY.out.lt
                  have x1i : (xa : Int) < 6 := by omega
                  have x3i : (xb : Int) < 6 := by omega
                  have hw1 : IntKind.i64.wrap ((D xb : Int) + (xc : Int)) = (D xb : Int) + (xc : Int) := by rw [IntKind.wrap_i64]; omega
                  by_cases hlt2 : D xb + xc < D xa
                  · have hmi : (D xb : Int) + (xc : Int) < (D xa : Int) := by omega
                    have HN : Hid (NArr (Y.setCell ⟨w.heap.size, xa, none⟩ (iv ((D xb + xc : Nat) : Int))) 56 6 w.heap.size (rxa D (xa, xb, xc))) := NY.out.set fun j _ => by
                      show (if j = xa then min (D xa) (D xb + xc) else D j) = _
                      rw [Nat.min_eq_right (by omega)]
                    have HB2 := hide (BY.out.other nr xa (iv ((D xb + xc : Nat) : Int)))
                    have HT2 := hide (TY.out.other (q := w.heap.size) (fun b' o' e => by cases e; exact n1) xa (iv ((D xb + xc : Nat) : Int)))
                    have HG2 := hide (gY.setCell (p := ⟨w.heap.size, xa, none⟩) (by simp) (iv ((D xb + xc : Nat) : Int)))
                    clear NY BY TY
                    go_still_tail 15, (by kernel_rfl)
                    go_wp2_with fail
                    go_meet
                    case rel => exact ⟨HN.out.gr (Gr.refl _).drew, HB2.out.gr (Gr.refl _).drew, HT2.out.gr (Gr.refl _).drew, HG2.out.drew⟩
                  · have hmi : ¬ (D xb : Int) + (xc : Int) < (D xa : Int) := by omega
                    have hmi2 : (D xa : Int) ≤ (D xb : Int) + (xc : Int) := by omega
                    have HN : Hid (NArr (Y.setCell ⟨w.heap.size, xa, none⟩ (iv (D xa))) 56 6 w.heap.size (rxa D (xa, xb, xc))) := NY.out.set fun j _ => by
                      show (if j = xa then min (D xa) (D xb + xc) else D j) = _
                      rw [Nat.min_eq_left (by omega)]
                    have HB2 := hide (BY.out.other nr xa (iv (D xa)))
                    have HT2 := hide (TY.out.other (q := w.heap.size) (fun b' o' e => by cases e; exact n1) xa (iv (D xa)))
                    have HG2 := hide (gY.setCell (p := ⟨w.heap.size, xa, none⟩) (by simp) (iv (D xa)))
                    clear NY BY TY
                    go_still_tail 15, (by kernel_rfl)
                    go_wp2_with fail
                    go_meet
                    case rel => exact ⟨HN.out.gr (Gr.refl _).drew, HB2.out.gr (Gr.refl _).drew, HT2.out.gr (Gr.refl _).drew, HG2.out.drew⟩
                case rest =>
                  clear NY BY TY gY
                  obtain ⟨NY, BY, TY, gY⟩ := hcut
                  have HD3 : Hid (∀ n, rxa D (xa, xb, xc) n ≤ 200) := fun n => Nat.le_trans (rxa_le _ _ _) (HD2.out n)
                  have HRX : Hid (rx D (xa, xb, xc) = rxb (rxa D (xa, xb, xc)) (xa, xb, xc)) := rfl
                  generalize rxa D (xa, xb, xc) = E at *
                  go_upto_region 16 with (fail)
                  have da := NY.out.cell x1
                  have db := NY.out.cell x3
                  have b0 : wc.cell? ⟨r, 0, none⟩ = some (iv xa) := BY.out.cell (by omega)
                  have b1 : wc.cell? ⟨r, 1, none⟩ = some (iv xb) := BY.out.cell (by omega)
                  have b2 : wc.cell? ⟨r, 2, none⟩ = some (iv xc) := BY.out.cell (by omega)
                  have ba := HD3.out xa
                  have bb := HD3.out xb
                  have fz := NY.out.free xb
                  have l1 := NY.out.lt
                  have l2 := BY.out.lt
                  have x1i : (xa : Int) < 6 := by omega
                  have x3i : (xb : Int) < 6 := by omega
                  have hw1 : IntKind.i64.wrap ((E xa : Int) + (xc : Int)) = (E xa : Int) + (xc : Int) := by rw [IntKind.wrap_i64]; omega
                  by_cases hlt2 : E xa + xc < E xb
                  · have hmi : (E xa : Int) + (xc : Int) < (E xb : Int) := by omega
                    have HN : Hid (NArr (wc.setCell ⟨w.heap.size, xb, none⟩ (iv ((E xa + xc : Nat) : Int))) 56 6 w.heap.size (rxb E (xa, xb, xc))) := NY.out.set fun j _ => by
                      show (if j = xb then min (E xb) (E xa + xc) else E j) = _
                      rw [Nat.min_eq_right (by omega)]
                    have HT2 := hide (TY.out.other (q := w.heap.size) (fun b' o' e => by cases e; exact n1) xb (iv ((E xa + xc : Nat) : Int)))
                    have HG2 := hide (gY.setCell (p := ⟨w.heap.size, xb, none⟩) (by simp) (iv ((E xa + xc : Nat) : Int)))
                    clear NY BY TY
                    go_still_tail 15, (by kernel_rfl)
                    go_wp2_with fail
                    go_roundw
                    case rel => exact ⟨i + 1, by omega, by go_num, by rw [HXT.out, HRX.out]; exact HN.out.gr (Gr.refl _).drew, HT2.out.gr (Gr.refl _).drew, HG2.out.drew⟩
                    case measure => simp [intOf]; omega
                  · have hmi : ¬ (E xa : Int) + (xc : Int) < (E xb : Int) := by omega
                    have hmi2 : (E xb : Int) ≤ (E xa : Int) + (xc : Int) := by omega
                    have HN : Hid (NArr (wc.setCell ⟨w.heap.size, xb, none⟩ (iv (E xb))) 56 6 w.heap.size (rxb E (xa, xb, xc))) := NY.out.set fun j _ => by
                      show (if j = xb then min (E xb) (E xa + xc) else E j) = _
                      rw [Nat.min_eq_left (by omega)]
                    have HT2 := hide (TY.out.other (q := w.heap.size) (fun b' o' e => by cases e; exact n1) xb (iv (E xb)))
                    have HG2 := hide (gY.setCell (p := ⟨w.heap.size, xb, none⟩) (by simp) (iv (E xb)))
                    clear NY BY TY
                    go_still_tail 15, (by kernel_rfl)
                    go_wp2_with fail
                    go_roundw
                    case rel => exact ⟨i + 1, by omega, by go_num, by rw [HXT.out, HRX.out]; exact HN.out.gr (Gr.refl _).drew, HT2.out.gr (Gr.refl _).drew, HG2.out.drew⟩
                    case measure => simp [intOf]; omega
              · have ei : i = l.length := by omega
                go_wp2_with fail
                go_roundw
                case rel => exact ⟨k + 1, by omega, by go_num, by rw [HNX.out]; rw [ei, List.take_length] at Ni; exact Ni, Ti, gi⟩
                case measure => simp [intOf]; omega
          · have e5 : k = 5 := by omega
            subst e5
            have hl := Nk.out.lt
            have hsz : Hid (NArr wr 56 6 w.heap.size (dst c f)) := Nk.out.congr HDD.out
            clear Nk Tk
            go_wp2_with fail
            go_ret
            exact ⟨_, rfl, hsz.out, Nat.le_refl _, gk⟩

end Go.Proofs.Ythiojjkgodffnae

/- CONTRACT OF handpostlaw.far: of all nodes how far they are, as an array. -/
namespace Go.Proofs.Ythiojjkgodffnae
open Go.RowKit
attribute [local go_sem] Ext.all Ext.cell Ext.frozen Ext.lt Ext.lt1 Ext.lt2 Ext.ne Ext.ne'

theorem run_idx6 (g : Nat → Nat) {j : Nat} (hj : j < 6) (w : World) : (Instr.index 56 (.agg (ncells 6 g)) (.int .i64 j)).run Try.prog w = .ok (iv (g j)) w := by
  rcases six hj with rfl | rfl | rfl | rfl | rfl | rfl <;> kernel_rfl
theorem NArr.set2 {w : World} {t n p : Nat} {g g' : Nat → Nat} (h : NArr w t n p g) {j v : Nat} {u : Value} (e : ∀ i, i < n → g' i = if i = j then v else g i) : NArr ((w.setCell ⟨p, j, none⟩ u).setCell ⟨p, j, none⟩ (iv v)) t n p g' := by
  have h1 := NArr.set (g' := g') h e
  unfold NArr at h h1 ⊢
  have a : (w.setCell ⟨p, j, none⟩ (iv v)).heap[p]? = some (.cells ((ncells n g).setIfInBounds j (iv v)) t (0, 0)) := by
    simp [World.setCell, Array.getElem?_modify, h]
  have b : (w.setCell ⟨p, j, none⟩ u).heap[p]? = some (.cells ((ncells n g).setIfInBounds j u) t (0, 0)) := by
    simp [World.setCell, Array.getElem?_modify, h]
  have c : ((w.setCell ⟨p, j, none⟩ u).setCell ⟨p, j, none⟩ (iv v)).heap[p]? = some (.cells (((ncells n g).setIfInBounds j u).setIfInBounds j (iv v)) t (0, 0)) := by
    simp [World.setCell, Array.getElem?_modify, h]
  rw [c]
  rw [a] at h1
  rw [← h1]
  congr 2
  simp
theorem NArr.all6 {w : World} {t p : Nat} {g : Nat → Nat} (h : NArr w t 6 p g) : w.cell? ⟨p, 0, none⟩ = some (iv (g 0)) ∧ w.cell? ⟨p, 1, none⟩ = some (iv (g 1)) ∧ w.cell? ⟨p, 2, none⟩ = some (iv (g 2)) ∧ w.cell? ⟨p, 3, none⟩ = some (iv (g 3)) ∧ w.cell? ⟨p, 4, none⟩ = some (iv (g 4)) ∧ w.cell? ⟨p, 5, none⟩ = some (iv (g 5)) :=
  ⟨h.cell (by decide), h.cell (by decide), h.cell (by decide), h.cell (by decide), h.cell (by decide), h.cell (by decide)⟩
abbrev nput (w : World) (p : Nat) (g : Nat → Nat) : World := (((((w.setCell ⟨p, 0, none⟩ (iv (g 0))).setCell ⟨p, 1, none⟩ (iv (g 1))).setCell ⟨p, 2, none⟩ (iv (g 2))).setCell ⟨p, 3, none⟩ (iv (g 3))).setCell ⟨p, 4, none⟩ (iv (g 4))).setCell ⟨p, 5, none⟩ (iv (g 5))
def updn (g : Nat → Nat) (j v : Nat) : Nat → Nat := fun i => if i = j then v else g i
theorem NArr.put {w : World} {t p : Nat} {g : Nat → Nat} (h : NArr w t 6 p g) (G : Nat → Nat) : NArr (nput w p G) t 6 p G := by
  have k0 := h.set (g' := updn g 0 (G 0)) (fun _ _ => rfl)
  have k1 := k0.set (g' := updn (updn g 0 (G 0)) 1 (G 1)) (fun _ _ => rfl)
  have k2 := k1.set (g' := updn (updn (updn g 0 (G 0)) 1 (G 1)) 2 (G 2)) (fun _ _ => rfl)
  have k3 := k2.set (g' := updn (updn (updn (updn g 0 (G 0)) 1 (G 1)) 2 (G 2)) 3 (G 3)) (fun _ _ => rfl)
  have k4 := k3.set (g' := updn (updn (updn (updn (updn g 0 (G 0)) 1 (G 1)) 2 (G 2)) 3 (G 3)) 4 (G 4)) (fun _ _ => rfl)
  have k5 := k4.set (g' := updn (updn (updn (updn (updn (updn g 0 (G 0)) 1 (G 1)) 2 (G 2)) 3 (G 3)) 4 (G 4)) 5 (G 5)) (fun _ _ => rfl)
  refine k5.congr fun j hj => ?_
  rcases six hj with rfl | rfl | rfl | rfl | rfl | rfl <;> rfl
theorem gr_nput {w X : World} {p : Nat} (g : Gr w X) (hp : w.heap.size ≤ p) (G : Nat → Nat) : Gr w (nput X p G) :=
  (((((g.setCell hp _).setCell hp _).setCell hp _).setCell hp _).setCell hp _).setCell hp _

set_option maxRecDepth 20000 in
set_option maxHeartbeats 4000000 in
theorem lfar_any {w : World} {p : Nat} {c : Nat → Nat → Nat} (H : KL w p c) (hc : Lk c) (f : Int) :
    Calls Try.prog 26 #[pv p, iv f] w fun e w' => e = .returned (.agg (ncells 6 (dst c f))) ∧ Gr w w' := by
  have hp := H.lt
  have HF := hide (fun (wX : World) (gX : Gr w wX) => far_any (H.gr gX) hc f)
  clear H hc
  generalize dst c f = G at *
  have N0 := hide (NArr.new w 56 6 fun _ => 0)
  have HF1 := hide (HF.out _ ((Gr.refl w).alloc (.cells (ncells 6 fun _ => 0) 56)))
  go_enter Try.func26, Try.ntmps26
  go_upto_region 3 with (first | (go_at_call 54; refine HF1.out.mono ?_; rintro e w1 ⟨g, rfl, n1, lg, g1⟩))
  refine wp_gen (fun Y => Hid (NArr Y 56 6 w.heap.size (fun _ => 0)) ∧ Hid (NArr Y 56 6 g G) ∧ Hid (NArr Y 56 6 w1.heap.size (fun _ => 0)) ∧ Gr w Y) ⟨(N0.out.gr g1).gr ((Gr.refl _).alloc _), n1.gr ((Gr.refl _).alloc _), NArr.new w1 56 6 (fun _ => 0), (((Gr.refl _).alloc _).trans g1).alloc _⟩ ?_
  rintro Y ⟨YR, YG, YQ, gY⟩
  have e1 : w.heap.size ≠ w1.heap.size := by
    have h1 := n1.lt
    have h2 := lg
    simp at h2
    omega
  have e2 : g ≠ w1.heap.size := by have := n1.lt; omega
  have e3 : w.heap.size ≤ w1.heap.size := by have := Below.size g1; simp at this; omega
  clear N0 n1 g1 HF HF1 lg
  generalize w1.heap.size = q at *
  go_wp2_with fail
  go_loopw [7] (fun v7 wr => ∃ k : Nat, k ≤ 6 ∧ v7 = .int .i64 k ∧ Hid (NArr wr 56 6 w.heap.size (fun _ => 0)) ∧ Hid (NArr wr 56 6 g G) ∧ Hid (NArr wr 56 6 q (fun j => if j < k then G j else 0)) ∧ Gr w wr) (fun v7 _ => 6 - (intOf v7).toNat)
  case atStart => exact ⟨0, by omega, rfl, YR, YG, YQ.out.congr (fun j _ => by simp), gY⟩
  case round =>
    obtain ⟨k, hk, rfl, kR, kG, kQ, gk⟩ := hrel
    clear YR YG YQ gY
    by_cases hlt : k < 6
    · have hki : (k : Int) < 6 := by omega
      have cg := kG.out.cell hlt
      have cq := kQ.out.cell hlt
      have fz := kQ.out.free k
      have lq := kQ.out.lt
      have lg := kG.out.lt
      have HR := hide ((kR.out.other e1 k (iv (-1))).other e1 k (iv (G k)))
      have HG := hide ((kG.out.other e2 k (iv (-1))).other e2 k (iv (G k)))
      have HQ : Hid (NArr ((wr.setCell ⟨q, k, none⟩ (iv (-1))).setCell ⟨q, k, none⟩ (iv (G k))) 56 6 q (fun j => if j < k + 1 then G j else 0)) := kQ.out.set2 fun i _ => by
        by_cases e : i = k
        · subst e; rw [if_pos (by omega), if_pos rfl]
        · rw [if_neg e]
          by_cases e2 : i < k
          · rw [if_pos (by omega), if_pos e2]
          · rw [if_neg (by omega), if_neg e2]
      have HW := hide ((gk.setCell (p := ⟨q, k, none⟩) e3 (iv (-1))).setCell (p := ⟨q, k, none⟩) e3 (iv (G k)))
      clear kR kG kQ
      go_wp2_with fail
      go_roundw
      case rel => exact ⟨k + 1, by omega, by go_num, HR, HG, HQ, HW.out⟩
      case measure => simp [intOf]; omega
    · have hki : ¬ (k : Int) < 6 := by omega
      have og : NArr wr 56 6 q G := kQ.out.congr fun j hj => by rw [if_pos (by omega)]
      obtain ⟨a0, a1, a2, a3, a4, a5⟩ := og.all6
      obtain ⟨b0, b1, b2, b3, b4, b5⟩ := kR.out.all6
      have fr := kR.out.free
      have HR := hide (kR.out.put G)
      have HG := hide (gr_nput gk (Nat.le_refl _) G)
      clear kR kG kQ og
      go_wp2_with fail
      refine bp_gen' (fun V => NArr V 56 6 w.heap.size G ∧ Gr w V) ⟨HR.out, HG.out⟩ ?_
      rintro V ⟨vR, gV⟩
      clear a0 a1 a2 a3 a4 a5 b0 b1 b2 b3 b4 b5 fr
      obtain ⟨b0, b1, b2, b3, b4, b5⟩ := vR.all6
      exact bodyPost_ret (v := .agg (ncells 6 G)) (by simp [results, Try.results26, go_sem, *]; rfl) rfl ⟨rfl, gV⟩

end Go.Proofs.Ythiojjkgodffnae

/- CONTRACT OF handpostref.SameInts, at two lists that are the same. -/
namespace Go.Proofs.Ythiojjkgodffnae
open Go.RowKit
attribute [local go_sem] Ext.all Ext.cell Ext.frozen Ext.lt Ext.lt1 Ext.lt2 Ext.ne Ext.ne'

theorem NArr.numAt {w : World} {t n p : Nat} {g : Nat → Nat} (h : NArr w t n p g) : NumAt w (some ⟨p, 0, none⟩) ((List.range n).map g) := by
  refine .inr ⟨p, 0, rfl, h.lt, fun i hi => ?_⟩
  have hi' : i < n := by simpa using hi
  rw [Nat.zero_add, h.cell hi']
  simp
set_option maxHeartbeats 1000000 in
theorem sameInts_eq (w : World) (ao bo : Option Addr) (n k k' : Nat) (l : List Nat) (H : NumAt w ao l) (K : NumAt w bo l) (hn : l.length = n) (hm : n ≤ 1000) :
    Calls Try.prog 17 #[.slice ao n k, .slice bo n k'] w fun e w' => e = .returned (.bool true) ∧ Gr w w' := by
  go_enter Try.func17, Try.ntmps17
  go_wp2_with fail
  go_loopw [5] (fun i wr => ∃ k : Nat, k ≤ n ∧ i = .int .i64 k ∧ Gr w wr) (fun i _ => n - (intOf i).toNat)
  case atStart => exact ⟨0, by omega, rfl, Gr.refl _⟩
  case round =>
    obtain ⟨k, hk, rfl, gg⟩ := hrel
    obtain ⟨d, rfl⟩ := ext_mk gg
    by_cases hlt : k < n
    · have hkl : k < l.length := by omega
      rcases H with rfl | ⟨b, o, rfl, hb, hcs⟩
      · simp at hkl
      rcases K with rfl | ⟨b', o', rfl, hb', hcs'⟩
      · simp at hkl
      have c1 := hcs k hkl
      have c2 := hcs' k hkl
      clear hcs hcs'
      generalize l[k] = x at *
      have hkb : (k : Int) < (n : Int) := by omega
      have hb : ((x : Int) != (x : Int)) = false := by simp
      go_wp2_with fail
      refine wp_region_ext_of (by kernel_rfl) (by kernel_rfl) ?_
      repeat (go_big_quiet_step (fail))
      refine wpQuiet_nil ?_
      rintro _ ⟨d1, rfl⟩
      go_wp2_with fail
      go_roundw
      case rel => exact ⟨k + 1, by omega, by go_num, d1.gr⟩
      case measure => simp [intOf]; omega
    · go_wp2_with fail
      go_ret
      exact ⟨rfl, d.gr⟩

end Go.Proofs.Ythiojjkgodffnae

/- CONTRACT OF handpostref.IsNode. -/
namespace Go.Proofs.Ythiojjkgodffnae
open Go.RowKit
attribute [local go_sem] Ext.all Ext.cell Ext.frozen Ext.lt Ext.lt1 Ext.lt2 Ext.ne Ext.ne'

theorem isNode_is {k : Int} {v : Bool} (h : decide (0 ≤ k ∧ k < 6) = v) (w : World) : Calls Try.prog 29 #[iv k] w fun e w' => e = .returned (.bool v) ∧ w' = w := by
  subst h
  by_cases e : 0 ≤ k
  · have e1 : decide (0 ≤ k ∧ k < 6) = decide (k < 6) := by simp [e]
    rw [e1]
    clear e1
    go_enter Try.func29, Try.ntmps29
    go_wp2
    go_ret
    exact ⟨rfl, rfl⟩
  · have e1 : decide (0 ≤ k ∧ k < 6) = false := by simp [e]
    have e2 : decide (0 ≤ k) = false := decide_eq_false e
    rw [e1]
    clear e1 e
    go_enter Try.func29, Try.ntmps29
    go_wp2
    go_ret
    exact ⟨rfl, rfl⟩

theorem isNode_ext {k : Int} {v : Bool} (h : decide (0 ≤ k ∧ k < 6) = v) {B : World} (x : Ext B) : Calls Try.prog 29 #[iv k] x.out fun e w' => e = .returned (.bool v) ∧ ∃ m : Ext B, w' = m.out :=
  (isNode_is h x.out).mono fun _ _ ⟨he, hw⟩ => ⟨he, x, hw⟩

end Go.Proofs.Ythiojjkgodffnae
