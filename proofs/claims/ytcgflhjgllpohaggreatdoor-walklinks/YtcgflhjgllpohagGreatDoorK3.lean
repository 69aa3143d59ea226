/- CONTRACT OF package links: Far. -/
import Derived.Test.YtcgflhjgllpohagGreatDoorK2
import Derived.StillTailTactics
namespace Go.Proofs.YtcgflhjgllpohagGreatDoor
open Go.RowKit
attribute [local go_sem] Ext.all Ext.cell Ext.frozen Ext.lt Ext.lt1 Ext.lt2 Ext.ne Ext.ne'
theorem wk0_yes {c : Nat → Nat → Nat} {f : Nat} (j : Nat) : wk c f 0 j = if j = f then 0 else 200 := by
  rw [wk]
  by_cases e : j = f
  · rw [if_pos e, if_pos (by omega)]
  · rw [if_neg e, if_neg (by omega)]

/-- A link's three cells. -/
def bx (a b c : Nat) : Nat → Nat := fun j => if j = 0 then a else if j = 1 then b else c

set_option maxRecDepth 20000 in
set_option maxHeartbeats 4000000 in
theorem far_any {w : World} {p : Nat} {c : Nat → Nat → Nat} (H : KL w p c) (hc : Lk c) (f : Int) :
    Calls Tryz.prog 27 #[pv p, iv f] w fun e w' => ∃ g, e = .returned (.slice (some ⟨g, 0, none⟩) 6 6) ∧ NArr w' 41 6 g (dst c f) ∧ w.heap.size ≤ g ∧ Gr w w' := by
  have hp := H.lt
  have HL := hide (fun (wX : World) (gX : Gr w wX) => klist_any (H.gr gX) hc)
  have HD := hide (fun (d : Nat → Nat) (h0 : ∀ n, n < 6 → d n = wk c f 0 n) => rds_is hc f h0)
  have HM := hide (fun x hx => (all_mem c 6 (by omega) x).1 hx)
  have HLE := hide hc.le
  have hlen := all_len c 6
  clear H hc
  have N0 := hide (NArr.new w 41 6 fun _ => 0)
  go_enter Tryz.func27, Tryz.ntmps27
  go_wp2_with fail
  go_loopw [10] (fun v10 wr => ∃ k : Nat, k ≤ 6 ∧ v10 = .int .i64 k ∧ Hid (NArr wr 41 6 w.heap.size (fun j => if j < k then 200 else 0)) ∧ Gr w wr) (fun v10 _ => 6 - (intOf v10).toNat)
  case atStart => exact ⟨0, by omega, rfl, N0.out.congr (fun j _ => by simp), (Gr.refl _).alloc _⟩
  case round =>
    obtain ⟨k, hk, rfl, Nk, gk⟩ := hrel
    by_cases hlt : k < 6
    · have hki : (k : Int) < 6 := by omega
      have cc := Nk.out.cell hlt
      have fz := Nk.out.free k
      have pl := Nk.out.lt
      have NN : Hid (NArr (wr.setCell ⟨w.heap.size, k, none⟩ (iv (200 : Nat))) 41 6 w.heap.size (fun j => if j < k + 1 then 200 else 0)) := Nk.out.set fun i _ => by
        by_cases e : i = k
        · rw [if_pos (by omega), if_pos e]
        · rw [if_neg e]
          by_cases e2 : i < k
          · rw [if_pos (by omega), if_pos e2]
          · rw [if_neg (by omega), if_neg e2]
      have GG := hide (gk.setCell (p := ⟨w.heap.size, k, none⟩) (by simp) (iv (200 : Nat)))
      clear Nk
      go_wp2_with fail
      go_roundw
      case rel => exact ⟨k + 1, by omega, by go_num, NN, GG.out⟩
      case measure => simp [intOf]; omega
    · have e6 : k = 6 := by omega
      subst e6
      have N6 : NArr wr 41 6 w.heap.size (fun _ => 200) := Nk.out.congr (fun j hj => by simp [hj])
      have l6 := N6.lt
      clear Nk N0
      go_upto_if 17 with (first | (go_at_call 24; with_reducible refine (node_is (v := nodeB f) rfl _).mono ?_; rintro e w' ⟨rfl, hw⟩; subst hw))
      go_cut [] from 17 to 19 (fun wc => Hid (NArr wc 41 6 w.heap.size (wk c f 0)) ∧ Gr w wc)
      case first =>
        cases hf : nodeB f
        · have N0 : Hid (NArr w' 41 6 w.heap.size (wk c f 0)) := N6.congr fun j hj => by
            have := node_not.1 hf
            rw [wk, if_neg (by omega)]
          clear N6 hf
          go_wp2_with fail
          go_meet
          case rel => exact ⟨N0, gk⟩
        · obtain ⟨f0, f6⟩ := node_iff.1 hf
          obtain ⟨m, rfl⟩ : ∃ m : Nat, f = m := ⟨f.toNat, by omega⟩
          have hm : m < 6 := by omega
          have cc := N6.cell hm
          have fz := N6.free m
          have NN : Hid (NArr (w'.setCell ⟨w.heap.size, m, none⟩ (iv (0 : Nat))) 41 6 w.heap.size (wk c m 0)) := N6.set fun i _ => by rw [wk0_yes]
          have GG := hide (gk.setCell (p := ⟨w.heap.size, m, none⟩) (by simp) (iv (0 : Nat)))
          clear N6 hf
          go_wp2_with fail
          go_meet
          case rel => exact ⟨NN, GG.out⟩
      case rest =>
        obtain ⟨NC, gc⟩ := hcut
        clear N6 l6 gk
        have HK := hide (HL.out _ gc)
        have HDD := hide (HD.out (wk c f 0) (fun _ _ => rfl))
        have H0 := hide (wk_le c f 0)
        clear HD HL
        generalize allTo c 6 = l at *
        generalize wk c f 0 = d0 at *
        go_upto_region 10 with (first | (go_at_call 49; with_reducible refine HK.out.mono ?_; rintro e wL ⟨v, rfl, ho, gL⟩))
        obtain ⟨ao, cc, rfl, hT⟩ := ho.shape
        have hy := ho.young
        have l1 := NC.out.lt
        have hne : Hid (∀ b o, ao = some ⟨b, o, none⟩ → b ≠ w.heap.size) := fun b o e => by
          have := hy b o _ _ (by rw [e])
          omega
        refine wp_gen (fun Y => Hid (NArr Y 41 6 w.heap.size d0) ∧ Hid (TriAt Y ao l) ∧ Gr w Y) ⟨NC.out.gr gL, hT, gc.trans gL⟩ ?_
        rintro Y ⟨NY, TY, gY⟩
        clear NC gc HK ho hT hy l1 gL
        go_wp2_with fail
        go_loopw [22] (fun v22 wr => ∃ k : Nat, k ≤ 5 ∧ v22 = .int .i64 k ∧ Hid (NArr wr 41 6 w.heap.size (rds l d0 k)) ∧ Hid (TriAt wr ao l) ∧ Gr w wr) (fun v22 _ => 5 - (intOf v22).toNat)
        case atStart => exact ⟨0, by omega, rfl, NY, TY, gY⟩
        case round =>
          obtain ⟨k, hk, rfl, Nk, Tk, gk⟩ := hrel
          clear NY TY gY
          by_cases hlt : k < 5
          · have hki : (k : Int) < 5 := by omega
            have HB : Hid (∀ n, rds l d0 k n ≤ 200) := fun n => Nat.le_trans (rds_le k n) (H0.out n)
            have HNX : Hid (rds l d0 (k + 1) = l.foldl rx (rds l d0 k)) := rfl
            generalize rds l d0 k = dk at *
            go_wp2_with fail
            go_loopw [26] (fun v26 wr => ∃ i : Nat, i ≤ l.length ∧ v26 = .int .i64 i ∧ Hid (NArr wr 41 6 w.heap.size ((l.take i).foldl rx dk)) ∧ Hid (TriAt wr ao l) ∧ Gr w wr) (fun v26 _ => l.length - (intOf v26).toNat)
            case atStart => exact ⟨0, by omega, rfl, Nk, Tk, gk⟩
            case round =>
              obtain ⟨i, hi, rfl, Ni, Ti, gi⟩ := hrel
              clear Nk Tk gk
              by_cases hil : i < l.length
              · obtain ⟨b, o, rfl, hb, hcs⟩ : ∃ b o, ao = some ⟨b, o, none⟩ ∧ b < wr.heap.size ∧ ∀ i (h : i < l.length), wr.cell? ⟨b, o + i * 3, none⟩ = some (iv l[i].1) ∧ wr.cell? ⟨b, o + i * 3 + 1, none⟩ = some (iv l[i].2.1) ∧ wr.cell? ⟨b, o + i * 3 + 2, none⟩ = some (iv l[i].2.2) := by
                  rcases Ti.out with h | h
                  · rw [h] at hil; simp at hil
                  · exact h
                obtain ⟨c1, c2, c3⟩ := hcs i hil
                obtain ⟨x1, x2, x3, x4, x5⟩ := HM.out l[i] (List.getElem_mem hil)
                have x6 := HLE.out l[i].1 l[i].2.1
                rw [← x4] at x6
                have HXT : Hid ((l.take (i + 1)).foldl rx dk = rx ((l.take i).foldl rx dk) l[i]) := by
                  unfold Hid
                  rw [List.take_succ_eq_append_getElem hil, List.foldl_append]; rfl
                have HD2 : Hid (∀ n, (l.take i).foldl rx dk n ≤ 200) := fun n => Nat.le_trans (fold_le _ _ _) (HB.out n)
                generalize (l.take i).foldl rx dk = D at *
                generalize l[i] = x at *
                obtain ⟨xa, xb, xc⟩ := x
                simp only at c1 c2 c3 x1 x2 x3 x4 x5 x6
                clear hcs x4 x5
                have n1 := hne.out b o rfl
                have dl := Ni.out.lt
                have BX : NArr (wr.alloc (.cells #[iv xa, iv xb, iv xc] 107)) 107 3 wr.heap.size (bx xa xb xc) := NArr.new wr 107 3 (bx xa xb xc)
                go_upto_region 15 with (fail)
                refine wp_gen (fun Y => Hid (NArr Y 41 6 w.heap.size D) ∧ Hid (NArr Y 107 3 wr.heap.size (bx xa xb xc)) ∧ Hid (TriAt Y (some ⟨b, o, none⟩) l) ∧ Gr w Y) ⟨Ni.out.gr ((Gr.refl _).alloc _), BX, Ti.out.gr ((Gr.refl _).alloc _), gi.alloc _⟩ ?_
                rintro Y ⟨NY, BY, TY, gY⟩
                have nr : wr.heap.size ≠ w.heap.size := by omega
                clear Ni Ti gi BX c1 c2 c3 dl hb
                generalize wr.heap.size = r at *
                go_cut [] from 30 to 44 (fun wc => Hid (NArr wc 41 6 w.heap.size (rxa D (xa, xb, xc))) ∧ Hid (NArr wc 107 3 r (bx xa xb xc)) ∧ Hid (TriAt wc (some ⟨b, o, none⟩) l) ∧ Gr w wc)
                case first => as_aux_lemma =>
                  have da := NY.out.cell x1
                  have db := NY.out.cell x3
                  have b0 : Y.cell? ⟨r, 0, none⟩ = some (iv xa) := BY.out.cell (by omega)
                  have b1 : Y.cell? ⟨r, 1, none⟩ = some (iv xb) := BY.out.cell (by omega)
                  have b2 : Y.cell? ⟨r, 2, none⟩ = some (iv xc) := BY.out.cell (by omega)
                  have ba := HD2.out xa
                  have bb := HD2.out xb
                  have fz := NY.out.free xa
                  have l1 := NY.out.lt
                  have l2 := BY.out.lt
                  have x1i : (xa : Int) < 6 := by omega
                  have x3i : (xb : Int) < 6 := by omega
                  have hw1 : IntKind.i64.wrap ((D xb : Int) + (xc : Int)) = (D xb : Int) + (xc : Int) := by rw [IntKind.wrap_i64]; omega
                  by_cases hlt2 : D xb + xc < D xa
                  · have hmi : (D xb : Int) + (xc : Int) < (D xa : Int) := by omega
                    have HN : Hid (NArr (Y.setCell ⟨w.heap.size, xa, none⟩ (iv ((D xb + xc : Nat) : Int))) 41 6 w.heap.size (rxa D (xa, xb, xc))) := NY.out.set fun j _ => by
                      show (if j = xa then min (D xa) (D xb + xc) else D j) = _
                      rw [Nat.min_eq_right (by omega)]
                    have HB2 := hide (BY.out.other nr xa (iv ((D xb + xc : Nat) : Int)))
                    have HT2 := hide (TY.out.other (q := w.heap.size) (fun b' o' e => by cases e; exact n1) xa (iv ((D xb + xc : Nat) : Int)))
                    have HG2 := hide (gY.setCell (p := ⟨w.heap.size, xa, none⟩) (by simp) (iv ((D xb + xc : Nat) : Int)))
                    clear NY BY TY
                    go_still_tail 15, (by kernel_rfl)
                    go_wp2_with fail
                    go_meet
                    case rel => exact ⟨HN.out.gr (Gr.refl _).drew, HB2.out.gr (Gr.refl _).drew, HT2.out.gr (Gr.refl _).drew, HG2.out.drew⟩
                  · have hmi : ¬ (D xb : Int) + (xc : Int) < (D xa : Int) := by omega
                    have hmi2 : (D xa : Int) ≤ (D xb : Int) + (xc : Int) := by omega
                    have HN : Hid (NArr (Y.setCell ⟨w.heap.size, xa, none⟩ (iv (D xa))) 41 6 w.heap.size (rxa D (xa, xb, xc))) := NY.out.set fun j _ => by
                      show (if j = xa then min (D xa) (D xb + xc) else D j) = _
                      rw [Nat.min_eq_left (by omega)]
                    have HB2 := hide (BY.out.other nr xa (iv (D xa)))
                    have HT2 := hide (TY.out.other (q := w.heap.size) (fun b' o' e => by cases e; exact n1) xa (iv (D xa)))
                    have HG2 := hide (gY.setCell (p := ⟨w.heap.size, xa, none⟩) (by simp) (iv (D xa)))
                    clear NY BY TY
                    go_still_tail 15, (by kernel_rfl)
                    go_wp2_with fail
                    go_meet
                    case rel => exact ⟨HN.out.gr (Gr.refl _).drew, HB2.out.gr (Gr.refl _).drew, HT2.out.gr (Gr.refl _).drew, HG2.out.drew⟩
                case rest =>
                  clear NY BY TY gY
                  obtain ⟨NY, BY, TY, gY⟩ := hcut
                  have HD3 : Hid (∀ n, rxa D (xa, xb, xc) n ≤ 200) := fun n => Nat.le_trans (rxa_le _ _ _) (HD2.out n)
                  have HRX : Hid (rx D (xa, xb, xc) = rxb (rxa D (xa, xb, xc)) (xa, xb, xc)) := rfl
                  generalize rxa D (xa, xb, xc) = E at *
                  go_upto_region 16 with (fail)
                  have da := NY.out.cell x1
                  have db := NY.out.cell x3
                  have b0 : wc.cell? ⟨r, 0, none⟩ = some (iv xa) := BY.out.cell (by omega)
                  have b1 : wc.cell? ⟨r, 1, none⟩ = some (iv xb) := BY.out.cell (by omega)
                  have b2 : wc.cell? ⟨r, 2, none⟩ = some (iv xc) := BY.out.cell (by omega)
                  have ba := HD3.out xa
                  have bb := HD3.out xb
                  have fz := NY.out.free xb
                  have l1 := NY.out.lt
                  have l2 := BY.out.lt
                  have x1i : (xa : Int) < 6 := by omega
                  have x3i : (xb : Int) < 6 := by omega
                  have hw1 : IntKind.i64.wrap ((E xa : Int) + (xc : Int)) = (E xa : Int) + (xc : Int) := by rw [IntKind.wrap_i64]; omega
                  by_cases hlt2 : E xa + xc < E xb
                  · have hmi : (E xa : Int) + (xc : Int) < (E xb : Int) := by omega
                    have HN : Hid (NArr (wc.setCell ⟨w.heap.size, xb, none⟩ (iv ((E xa + xc : Nat) : Int))) 41 6 w.heap.size (rxb E (xa, xb, xc))) := NY.out.set fun j _ => by
                      show (if j = xb then min (E xb) (E xa + xc) else E j) = _
                      rw [Nat.min_eq_right (by omega)]
                    have HT2 := hide (TY.out.other (q := w.heap.size) (fun b' o' e => by cases e; exact n1) xb (iv ((E xa + xc : Nat) : Int)))
                    have HG2 := hide (gY.setCell (p := ⟨w.heap.size, xb, none⟩) (by simp) (iv ((E xa + xc : Nat) : Int)))
                    clear NY BY TY
                    go_still_tail 15, (by kernel_rfl)
                    go_wp2_with fail
                    go_roundw
                    case rel => exact ⟨i + 1, by omega, by go_num, by rw [HXT.out, HRX.out]; exact HN.out.gr (Gr.refl _).drew, HT2.out.gr (Gr.refl _).drew, HG2.out.drew⟩
                    case measure => simp [intOf]; omega
                  · have hmi : ¬ (E xa : Int) + (xc : Int) < (E xb : Int) := by omega
                    have hmi2 : (E xb : Int) ≤ (E xa : Int) + (xc : Int) := by omega
                    have HN : Hid (NArr (wc.setCell ⟨w.heap.size, xb, none⟩ (iv (E xb))) 41 6 w.heap.size (rxb E (xa, xb, xc))) := NY.out.set fun j _ => by
                      show (if j = xb then min (E xb) (E xa + xc) else E j) = _
                      rw [Nat.min_eq_left (by omega)]
                    have HT2 := hide (TY.out.other (q := w.heap.size) (fun b' o' e => by cases e; exact n1) xb (iv (E xb)))
                    have HG2 := hide (gY.setCell (p := ⟨w.heap.size, xb, none⟩) (by simp) (iv (E xb)))
                    clear NY BY TY
                    go_still_tail 15, (by kernel_rfl)
                    go_wp2_with fail
                    go_roundw
                    case rel => exact ⟨i + 1, by omega, by go_num, by rw [HXT.out, HRX.out]; exact HN.out.gr (Gr.refl _).drew, HT2.out.gr (Gr.refl _).drew, HG2.out.drew⟩
                    case measure => simp [intOf]; omega
              · have ei : i = l.length := by omega
                go_wp2_with fail
                go_roundw
                case rel => exact ⟨k + 1, by omega, by go_num, by rw [HNX.out]; rw [ei, List.take_length] at Ni; exact Ni, Ti, gi⟩
                case measure => simp [intOf]; omega
          · have e5 : k = 5 := by omega
            subst e5
            have hl := Nk.out.lt
            have hsz : Hid (NArr wr 41 6 w.heap.size (dst c f)) := Nk.out.congr HDD.out
            clear Nk Tk
            go_wp2_with fail
            go_ret
            exact ⟨_, rfl, hsz.out, Nat.le_refl _, gk⟩

end Go.Proofs.YtcgflhjgllpohagGreatDoor
