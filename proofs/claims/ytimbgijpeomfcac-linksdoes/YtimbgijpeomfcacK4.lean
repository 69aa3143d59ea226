/- CONTRACT OF handpostref: Map.Far. -/
import Derived.Test.YtimbgijpeomfcacK3
namespace Go.Proofs.Ytimbgijpeomfcac
open Go.RowKit
attribute [local go_sem] Ext.all Ext.cell Ext.frozen Ext.lt Ext.lt1 Ext.lt2 Ext.ne Ext.ne'

theorem NArr.of_own {w : World} {base t n g : Nat} {xs : List Value} {f : Nat → Nat} (h : w.ownsRow base t 1 (.slice (some ⟨g, 0, none⟩) n n) n xs) (e : xs = (List.range n).map fun i => iv (f i)) : NArr w t n g f := by
  obtain ⟨h0, hh⟩ := h
  rcases hh with ⟨h1, _⟩ | ⟨g', cap, cur, h1, hb, hg, hn, hc, hs, ht⟩
  · cases h1
  · cases h1
    unfold NArr ncells
    rw [hg]
    have : cur.toList = xs := by
      rw [← ht, List.take_of_length_le (by simp; omega)]
    rw [← e, ← this]

set_option maxRecDepth 20000 in
set_option maxHeartbeats 4000000 in
theorem mfar_any {w : World} {p : Nat} {c : Nat → Nat → Nat} (H : KM w p c) (hc : Lk c) (f : Int) :
    Calls Try.prog 10 #[pv p, iv f] w fun e w' => ∃ g, e = .returned (.slice (some ⟨g, 0, none⟩) 6 6) ∧ NArr w' 3 6 g (dst c f) ∧ w.heap.size ≤ g ∧ Gr w w' := by
  have hp := H.lt
  have HM := hide (fun (wX : World) (gX : Gr w wX) (a b : Nat) (ha : a < 6) (hb : b < 6) => (H.gr gX).cell ha hb)
  have HLE := hide hc.le
  have HD := hide (rdy_is c f (d := wk c f 0) (fun _ _ => rfl))
  have H0 := hide (wk_le c f 0)
  have HW0 : Hid (∀ j, wk c f 0 j = if (j : Int) = f then 0 else 200) := fun _ => rfl
  clear H hc
  generalize wk c f 0 = d0 at *
  generalize dst c f = dd at *
  obtain ⟨i0, hi, hz0, hz1, hz2⟩ := info_parts Try.info3
  go_enter Try.func10, Try.ntmps10
  go_wp2_with (at_make; refine wpList_make_full _ rfl _ _ 30 rfl w.heap.size 3 i0 (.int .i64 0) 1 Try.underlying30 hi hz0 hz1 _ _ _ _ 6 rfl rfl rfl rfl ?b2 ?b3 (Nat.le_refl _) ?_)
  case b2 => rw [hz2]; decide
  case b3 => unfold maxLen; decide
  intro w0 hown0 hgrow0
  have gr0 : Gr w w0 := (Gr.refl _).grown hgrow0 (fun k h => by cases h)
  have N0 : Hid (NArr w0 3 6 w.heap.size (fun _ => 0)) := NArr.of_own hown0 (by rw [toList_madeCells_one]; rfl)
  clear hgrow0 hown0 hi hz0 hz1 hz2
  go_wp2_with fail
  go_loopw [6] (fun v6 wr => ∃ k : Nat, k ≤ 6 ∧ v6 = .int .i64 k ∧ Hid (NArr wr 3 6 w.heap.size (fun j => if j < k then d0 j else 0)) ∧ Gr w wr) (fun v6 _ => 6 - (intOf v6).toNat)
  case atStart => exact ⟨0, by omega, rfl, N0.out.congr (fun j _ => by simp), gr0⟩
  case round =>
    obtain ⟨k, hk, rfl, Nk, gk⟩ := hrel
    by_cases hlt : k < 6
    · have hki : (k : Int) < 6 := by omega
      have cc := Nk.out.cell hlt
      have fz := Nk.out.free k
      have pl := Nk.out.lt
      by_cases hf : (k : Int) = f
      · have hb : ((k : Int) == f) = true := by simpa using hf
        have N1 : NArr (wr.setCell ⟨w.heap.size, k, none⟩ (iv (200 : Nat))) 3 6 w.heap.size (fun j => if j = k then 200 else if j < k then d0 j else 0) := Nk.out.set fun i _ => rfl
        have cc2 := N1.cell hlt
        have fz2 := N1.free k
        have NN : Hid (NArr ((wr.setCell ⟨w.heap.size, k, none⟩ (iv (200 : Nat))).setCell ⟨w.heap.size, k, none⟩ (iv (0 : Nat))) 3 6 w.heap.size (fun j => if j < k + 1 then d0 j else 0)) := N1.set fun i _ => by
          by_cases e : i = k
          · subst e; rw [if_pos (by omega), if_pos rfl, HW0.out, if_pos hf]
          · rw [if_neg e, if_neg e]
            by_cases e2 : i < k
            · rw [if_pos (by omega), if_pos e2]
            · rw [if_neg (by omega), if_neg e2]
        have GG := hide ((gk.setCell (p := ⟨w.heap.size, k, none⟩) (by simp) (iv (200 : Nat))).setCell (p := ⟨w.heap.size, k, none⟩) (by simp) (iv (0 : Nat)))
        clear Nk N1 hf
        go_wp2_with fail
        go_roundw
        case rel => exact ⟨k + 1, by omega, by go_num, NN, GG.out⟩
        case measure => simp [intOf]; omega
      · have hb : ((k : Int) == f) = false := by simpa using hf
        have NN : Hid (NArr (wr.setCell ⟨w.heap.size, k, none⟩ (iv (200 : Nat))) 3 6 w.heap.size (fun j => if j < k + 1 then d0 j else 0)) := Nk.out.set fun i _ => by
          by_cases e : i = k
          · subst e; rw [if_pos (by omega), if_pos rfl, HW0.out, if_neg hf]
          · rw [if_neg e]
            by_cases e2 : i < k
            · rw [if_pos (by omega), if_pos e2]
            · rw [if_neg (by omega), if_neg e2]
        have GG := hide (gk.setCell (p := ⟨w.heap.size, k, none⟩) (by simp) (iv (200 : Nat)))
        clear Nk hf
        go_wp2_with fail
        go_roundw
        case rel => exact ⟨k + 1, by omega, by go_num, NN, GG.out⟩
        case measure => simp [intOf]; omega
    · have hki : ¬ (k : Int) < 6 := by omega
      have N6 : Hid (NArr wr 3 6 w.heap.size d0) := Nk.out.congr (fun j hj => by rw [if_pos (by omega)])
      clear Nk N0
      go_wp2_with fail
      go_loopw [7] (fun v7 wr => ∃ k : Nat, k ≤ 6 ∧ v7 = .int .i64 k ∧ Hid (NArr wr 3 6 w.heap.size (rdy c d0 k)) ∧ Gr w wr) (fun v7 _ => 6 - (intOf v7).toNat)
      case atStart => exact ⟨0, by omega, rfl, N6, gk⟩
      case round =>
        obtain ⟨k, hk, rfl, Nk, gk⟩ := hrel
        clear N6
        by_cases hlt : k < 6
        · have hki : (k : Int) < 6 := by omega
          have HB : Hid (∀ n, rdy c d0 k n ≤ 200) := fun n => Nat.le_trans (rdy_le c d0 k n) (H0.out n)
          have HNX : Hid (rdy c d0 (k + 1) = rys c (rdy c d0 k) 6) := rfl
          generalize rdy c d0 k = dk at *
          go_wp2_with fail
          go_loopw [8] (fun v8 wr => ∃ a : Nat, a ≤ 6 ∧ v8 = .int .i64 a ∧ Hid (NArr wr 3 6 w.heap.size (rys c dk a)) ∧ Gr w wr) (fun v8 _ => 6 - (intOf v8).toNat)
          case atStart => exact ⟨0, by omega, rfl, Nk, gk⟩
          case round =>
            obtain ⟨a, ha, rfl, Na, ga⟩ := hrel
            clear Nk
            by_cases hla : a < 6
            · have hai : (a : Int) < 6 := by omega
              have HB2 : Hid (∀ n, rys c dk a n ≤ 200) := fun n => Nat.le_trans (rys_le c dk a n) (HB.out n)
              have HNY : Hid (rys c dk (a + 1) = ryr c (rys c dk a) a 6) := rfl
              generalize rys c dk a = da at *
              go_wp2_with fail
              go_loopw [9] (fun v9 wr => ∃ b : Nat, b ≤ 6 ∧ v9 = .int .i64 b ∧ Hid (NArr wr 3 6 w.heap.size (ryr c da a b)) ∧ Gr w wr) (fun v9 _ => 6 - (intOf v9).toNat)
              case atStart => exact ⟨0, by omega, rfl, Na, ga⟩
              case round =>
                obtain ⟨b, hb, rfl, Nb, gb⟩ := hrel
                clear Na
                by_cases hlb : b < 6
                · have hbi : (b : Int) < 6 := by omega
                  have HB3 : Hid (∀ n, ryr c da a b n ≤ 200) := fun n => Nat.le_trans (ryr_le c da a b n) (HB2.out n)
                  have HNZ : Hid (ryr c da a (b + 1) = ry c (ryr c da a b) a b) := rfl
                  generalize ryr c da a b = D at *
                  have cc := HM.out wr gb a b hla hlb
                  have d1 := Nb.out.cell hla
                  have d2 := Nb.out.cell hlb
                  have fz := Nb.out.free b
                  have dl := Nb.out.lt
                  have pl : p < wr.heap.size := Nat.lt_of_lt_of_le hp (Below.size gb)
                  have ba := HB3.out a
                  have bb := HB3.out b
                  have le := HLE.out a b
                  have HRY : Hid (ry c D a b = if 0 < c a b ∧ D a < 200 ∧ D a + c a b < D b then upd D b (D a + c a b) else D) := rfl
                  generalize c a b = q at *
                  have hw1 : IntKind.i64.wrap ((D a : Int) + (q : Int)) = (D a : Int) + (q : Int) := by rw [IntKind.wrap_i64]; omega
                  by_cases h1 : 0 < q
                  · have g1 : decide ((0 : Int) < (q : Int)) = true := decide_eq_true (by omega)
                    by_cases h2 : D a < 200
                    · have g2 : decide ((D a : Int) < 200) = true := decide_eq_true (by omega)
                      by_cases h3 : D a + q < D b
                      · have g3 : decide ((D a : Int) + (q : Int) < (D b : Int)) = true := decide_eq_true (by omega)
                        go_wp2_with fail
                        refine wp_region_ext (by kernel_rfl) (by kernel_rfl) ?_
                        repeat (go_big_quiet_step (fail))
                        refine wpQuiet_nil ?_
                        rintro _ ⟨e1, rfl⟩
                        go_upto_region 18 with (fail)
                        refine wp_gen (fun Y => NArr Y 3 6 w.heap.size D ∧ Y.cell? ⟨p, a * 6 + b, none⟩ = some (iv q) ∧ p < Y.heap.size ∧ Gr w Y) ⟨Nb.out.gr e1.gr, (Below.cell e1.gr (p := ⟨p, a * 6 + b, none⟩) pl).trans cc, Nat.lt_of_lt_of_le pl (Below.size e1.gr), gb.trans e1.gr⟩ ?_
                        rintro Y ⟨NY, cy, py, gY⟩
                        clear cc d1 d2 fz dl pl Nb gb
                        have d1 := NY.cell hla
                        have d2 := NY.cell hlb
                        have fz := NY.free b
                        have dl := NY.lt
                        have HN : Hid (NArr (Y.setCell ⟨w.heap.size, b, none⟩ (iv ((D a + q : Nat) : Int))) 3 6 w.heap.size (upd D b (D a + q))) := NY.set fun j _ => rfl
                        have HG2 := hide (gY.setCell (p := ⟨w.heap.size, b, none⟩) (by simp) (iv ((D a + q : Nat) : Int)))
                        clear NY
                        go_still_tail 15, (by kernel_rfl)
                        go_wp2_with fail
                        go_roundw
                        case rel => exact ⟨b + 1, by omega, by go_num, by rw [HNZ.out, HRY.out, if_pos (by omega)]; exact HN.out.gr (Gr.refl _).drew, HG2.out.drew⟩
                        case measure => simp [intOf]; omega
                      · have g3 : decide ((D a : Int) + (q : Int) < (D b : Int)) = false := decide_eq_false (by omega)
                        go_wp2_with fail
                        refine wp_region_ext (by kernel_rfl) (by kernel_rfl) ?_
                        repeat (go_big_quiet_step (fail))
                        refine wpQuiet_nil ?_
                        rintro _ ⟨e1, rfl⟩
                        go_wp2_with fail
                        go_roundw
                        case rel => exact ⟨b + 1, by omega, by go_num, by rw [HNZ.out, HRY.out, if_neg (by omega)]; exact Nb.out.gr e1.gr, gb.trans e1.gr⟩
                        case measure => simp [intOf]; omega
                    · have g2 : decide ((D a : Int) < 200) = false := decide_eq_false (by omega)
                      go_wp2_with fail
                      refine wp_region_ext (by kernel_rfl) (by kernel_rfl) ?_
                      repeat (go_big_quiet_step (fail))
                      refine wpQuiet_nil ?_
                      rintro _ ⟨e1, rfl⟩
                      go_wp2_with fail
                      go_roundw
                      case rel => exact ⟨b + 1, by omega, by go_num, by rw [HNZ.out, HRY.out, if_neg (by omega)]; exact Nb.out.gr e1.gr, gb.trans e1.gr⟩
                      case measure => simp [intOf]; omega
                  · have g1 : decide ((0 : Int) < (q : Int)) = false := decide_eq_false (by omega)
                    go_wp2_with fail
                    refine wp_region_ext (by kernel_rfl) (by kernel_rfl) ?_
                    repeat (go_big_quiet_step (fail))
                    refine wpQuiet_nil ?_
                    rintro _ ⟨e1, rfl⟩
                    go_wp2_with fail
                    go_roundw
                    case rel => exact ⟨b + 1, by omega, by go_num, by rw [HNZ.out, HRY.out, if_neg (by omega)]; exact Nb.out.gr e1.gr, gb.trans e1.gr⟩
                    case measure => simp [intOf]; omega
                · have e6 : b = 6 := by omega
                  subst e6
                  go_wp2_with fail
                  go_roundw
                  case rel => exact ⟨a + 1, by omega, by go_num, by rw [HNY.out]; exact Nb, gb⟩
                  case measure => simp [intOf]; omega
            · have e6 : a = 6 := by omega
              subst e6
              go_wp2_with fail
              go_roundw
              case rel => exact ⟨k + 1, by omega, by go_num, by rw [HNX.out]; exact Na, ga⟩
              case measure => simp [intOf]; omega
        · have e6 : k = 6 := by omega
          subst e6
          have hsz : Hid (NArr wr 3 6 w.heap.size dd) := Nk.out.congr HD.out
          clear Nk
          go_wp2_with fail
          go_ret
          exact ⟨_, rfl, hsz.out, Nat.le_refl _, gk⟩

end Go.Proofs.Ytimbgijpeomfcac
