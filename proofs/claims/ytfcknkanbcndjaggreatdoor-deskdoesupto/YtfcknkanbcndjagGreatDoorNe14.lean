/- THE PROGRAM'S Net: a round. -/
import Derived.Test.YtfcknkanbcndjagGreatDoorNe13
namespace Go.Proofs.YtfcknkanbcndjagGreatDoor
open Go.RowKit
attribute [local go_sem] Ext.all Ext.cell Ext.frozen Ext.lt Ext.lt1 Ext.lt2 Ext.ne Ext.ne'
section
variable {M : Nat → Prop} {B w w' : World} {p k : Nat} {q : Nat → Nat} {v : Value} {c : Nat → Nat → Nat} {t : Tn}
/-- One of the news that b hears of a. -/
theorem part_stepN (H : TnA t c) {a b j : Nat} (ha : a < 6) (hb : b < 6) (hc : t.cst a b ≠ 0) (hj : j < 6) (h : Ne M B w p k q v c (partT t a b j)) :
    Calls Tryz.prog 58 #[pv (q b), .agg #[iv (a : Int), iv (b : Int), iv (j : Int), iv ((t.nd a).ways j).1, iv ((t.nd a).ways j).2.1]] w fun e w' => ∃ r, e = .returned r ∧ Ne M B w' p k q v c (partT t a b (j + 1)) ∧ Wr (q b) w w' := by
  have hcc : c a b ≠ 0 := fun e => hc (by rw [H.s.tc.cst a b ha hb, e]; rfl)
  have hne : a ≠ b := fun e => hcc (by rw [e]; exact H.s.tc.lk.self b)
  have T1 := (H.partly ha hb hcc j (by omega)).1
  have hz : MdZ (tellAll (t.nd b) a (t.nd a).ways j) := by
    have := T1.s.z b hb
    have e : updW t.nd b (tellAll (t.nd b) a (t.nd a).ways j) b = tellAll (t.nd b) a (t.nd a).ways j := updW_same _ _ _
    rw [← e]; exact this
  have hM : DAt w (q b) (sel (tellAll (t.nd b) a (t.nd a).ways j)) := by
    have := h.six.at_ b hb
    have e : (partT t a b j).nd b = tellAll (t.nd b) a (t.nd a).ways j := updW_same _ _ _
    rw [e] at this; exact this
  obtain ⟨_, t1, t2, t3⟩ := (H.s.z a ha).x.tells hj
  have hme : (tellAll (t.nd b) a (t.nd a).ways j).me = b := by
    rw [(tellAll_z (t.nd b) a (t.nd a).ways 0 j).me]
    split
    · exact (look_me _ _).trans (H.s.tc.me b hb)
    · exact H.s.tc.me b hb
  have hcs : (tellAll (t.nd b) a (t.nd a).ways j).cost a = (c b a : Int) := by
    rw [(tellAll_z (t.nd b) a (t.nd a).ways 0 j).cost]
    split
    · unfold hearM; rw [look_cost]; exact H.s.tc.cost b a hb ha
    · exact H.s.tc.cost b a hb ha
  refine (nhearN hM hz (a : Int) (b : Int) (j : Int) ((t.nd a).ways j).1 ((t.nd a).ways j).2.1).mono fun e w' ⟨he, hm, hw⟩ => ⟨_, he, ?_, hw⟩
  have e1 : hrM (tellAll (t.nd b) a (t.nd a).ways j) (a : Int) (j : Int) ((t.nd a).ways j).1 ((t.nd a).ways j).2.1 = tellAll (t.nd b) a (t.nd a).ways (j + 1) := by
    unfold hrM
    rw [Int.toNat_natCast, Int.toNat_natCast, if_pos ⟨⟨⟨⟨by omega, by omega⟩, by rw [hme]; omega⟩, ⟨by omega, by omega⟩, t1, t2, t3⟩, by
      rw [hcs, H.s.tc.lk.sym b a]
      intro q0
      exact hcc (by omega)⟩]
    rfl
  rw [e1] at hm
  have := h.put hb hw hm
  have e2 : ({ partT t a b j with nd := updW (partT t a b j).nd b (tellAll (t.nd b) a (t.nd a).ways (j + 1)) } : Tn) = partT t a b (j + 1) := by
    unfold partT
    dsimp only
    congr 1
    funext x
    by_cases e : x = b
    · rw [e, updW_same, updW_same]
    · rw [updW_ne _ _ e, updW_ne _ _ e, updW_ne _ _ e]
  rw [e2] at this
  exact this
/-- The way of b, while it hears. -/
theorem part_way {a b j j' : Nat} (h : Ne M B w p k q v c (partT t a b j)) (hb : b < 6) (hj : j' < 6) : Calls Tryz.prog 57 #[pv p, iv (b : Int), iv (j' : Int)] w fun e w' => e = .returned (.agg #[iv ((tellAll (t.nd b) a (t.nd a).ways j).ways j').1, iv ((tellAll (t.nd b) a (t.nd a).ways j).ways j').2.1, iv ((tellAll (t.nd b) a (t.nd a).ways j).ways j').2.2]) ∧ ∃ d : Ext w, w' = d.out := by
  have := netWay_any h (b : Int) (j' : Int)
  have e : wayTn (partT t a b j) (b : Int) (j' : Int) = (tellAll (t.nd b) a (t.nd a).ways j).ways j' := by
    unfold wayTn
    rw [if_pos ⟨by omega, by omega⟩, Int.toNat_natCast, wayOf_nat _ hj]
    have e : (partT t a b j).nd b = tellAll (t.nd b) a (t.nd a).ways j := updW_same _ _ _
    rw [e]
  rw [e] at this
  exact this
theorem tellT_at (t : Tn) (a b : Nat) {j : Nat} (hj : j < 6) : (newsL (tellT t a b))[j]? = some ((a : Int), (b : Int), (j : Int), ((t.nd a).ways j).1, ((t.nd a).ways j).2.1) := by
  unfold newsL tellT
  simp [hj]
theorem wayF_cells {w : World} {X : Nat} {s d h : Int} (hz : ZArr w 119 3 X (wayF (s, d, h))) : w.cell? ⟨X, 0, none⟩ = some (iv s) ∧ w.cell? ⟨X, 1, none⟩ = some (iv d) ∧ w.cell? ⟨X, 2, none⟩ = some (iv h) :=
  ⟨hz.cell (j := 0) (by omega), hz.cell (j := 1) (by omega), hz.cell (j := 2) (by omega)⟩
end

set_option maxRecDepth 20000 in
set_option maxHeartbeats 16000000 in
theorem netRound_ok {M : Nat → Prop} {B w : World} {p k : Nat} {q : Nat → Nat} {v : Value} {c : Nat → Nat → Nat} {t : Tn} (H : Ne M B w p k q v c t) (A : TnA t c) :
    Calls Tryz.prog 30 #[pv p] w fun e w' => e = .returned (.bool (roundChg t 6)) ∧ Ne M B w' p k q v c (roundT t 6) := by
  have hp := H.blk.lt
  have c0 : w.cell? ⟨p, 1, none⟩ = some (pv (q 0)) := H.node (a := 0) (by omega)
  have c1 : w.cell? ⟨p, 2, none⟩ = some (pv (q 1)) := H.node (a := 1) (by omega)
  have c2 : w.cell? ⟨p, 3, none⟩ = some (pv (q 2)) := H.node (a := 2) (by omega)
  have c3 : w.cell? ⟨p, 4, none⟩ = some (pv (q 3)) := H.node (a := 3) (by omega)
  have c4 : w.cell? ⟨p, 5, none⟩ = some (pv (q 4)) := H.node (a := 4) (by omega)
  have c5 : w.cell? ⟨p, 6, none⟩ = some (pv (q 5)) := H.node (a := 5) (by omega)
  have H0 := hide H
  have HA := hide A
  clear H A
  go_enter Tryz.func30, Tryz.ntmps30
  go_wp2_with fail
  clear c0 c1 c2 c3 c4 c5 hp
  generalize hC : (#[pv (q 0), pv (q 1), pv (q 2), pv (q 3), pv (q 4), pv (q 5)] : Array Value) = C
  have HIX := hide (fun (s : Nat) (hs : s < 6) => idx_nodes (g := q) hC hs)
  clear hC
  go_loopw [3, 15] (fun v3 v15 wr => ∃ (a : Nat) (ch : Bool), a ≤ 6 ∧ v15 = .int .i64 (a : Int) ∧ v3 = .bool ch ∧ Hid (roundChg t a = ch) ∧ Hid (Ne M B wr p k q v c (roundT t a))) (fun _ v15 _ => (6 - intOf v15).toNat)
  case atStart => exact ⟨0, false, by omega, rfl, rfl, rfl, H0⟩
  case round =>
    clear H0
    obtain ⟨a, ch, ha6, rfl, rfl, HCH, H0⟩ := hrel
    by_cases ha : a < 6
    · have hai : decide ((a : Int) < 6) = true := decide_eq_true (by omega)
      have ha0 : (a : Int) < 6 := by omega
      have wa : IntKind.i64.wrap ((a : Int) + 1) = (a : Int) + 1 := by rw [IntKind.wrap_i64]; omega
      have A1 := hide (HA.out.round' a (by omega))
      have HRD := hide (And.intro (show roundT t (a + 1) = rowT (roundT t a) a 6 from rfl) (show roundChg t (a + 1) = (roundChg t a || rowChg (roundT t a) a 6) from rfl))
      rw [HCH.out] at HRD
      generalize roundT t a = t1 at *
      have hix := HIX.out a ha
      have l0 := H0.out.links
      have hp := H0.out.blk.lt
      have HS := hide (rowL_all t1 (a := a) (f := fun _ i => c a i) (fun b hb => by rw [A1.out.s.tc.cst a b ha hb]; omega) 6 (Nat.le_refl _))
      have HLT := hide (ofz_lt (fun _ i => c a i) 6)
      have HLN := hide (ofz_len (fun _ i => c a i) 6)
      have HO := hide (ofCall H0.out A1.out.s.tc.lk ha)
      have AL := hide (fun i => rowL_a A1.out ha (L := ofTo (fun _ i => c a i) 0 6) (fun x hx => (HLT.out x hx).1) i)
      have HCC : Hid (∀ i b, b < 6 → c a b ≠ 0 → (rowL t1 a (ofTo (fun _ i => c a i) 0 6) i).cst a b ≠ 0) := fun i b hb h => by rw [rowL_cst, A1.out.s.tc.cst a b ha hb]; omega
      generalize ofTo (fun _ i => c a i) 0 6 = L at *
      go_upto_region 6 with (go_at_call 55; with_reducible refine HO.out.mono ?_; rintro e W ⟨ao, n, cp, rfl, hnl', nm', gW', nr'⟩; have HNL := hide hnl'; have NM := hide nm'; have GW := hide gW'; have NR := hide nr'; clear hnl' nm' gW' nr')
      have HW := hide (H0.out.ext GW.out)
      have HR := hide HW.out.rest
      have UR : Hid (∀ {X : World} {c' : Nat → Nat → Nat} {t' : Tn}, Ne (rest W p k q v) W X p k q v c' t' → Ne M B X p k q v c' t') := fun h => HW.out.unrest h
      clear H0 GW HO l0 hp HW hix
      go_loopw [3, 26] (fun v3 v26 wr => ∃ (i : Nat) (ch2 : Bool), i ≤ n ∧ v26 = .int .i64 (i : Int) ∧ v3 = .bool ch2 ∧ Hid ((ch || rowLC t1 a L i) = ch2) ∧ Hid (Ne (rest W p k q v) W wr p k q v c (rowL t1 a L i))) (fun _ v26 _ => ((n : Int) - intOf v26).toNat)
      case atStart => exact ⟨0, ch, by omega, rfl, rfl, Bool.or_false _, HR⟩
      case round =>
        clear HR
        obtain ⟨i, ch2, hin, rfl, rfl, HC2, T1⟩ := hrel
        by_cases hi : i < n
        · have hii : decide ((i : Int) < (n : Int)) = true := decide_eq_true (by omega)
          have hi0 : (i : Int) < (n : Int) := by omega
          have hiL : i < L.length := by have := HNL.out; omega
          have wi : IntKind.i64.wrap ((i : Int) + 1) = (i : Int) + 1 := by rw [IntKind.wrap_i64]; have := HNL.out; have := HLN.out; omega
          obtain ⟨b, hbL⟩ : ∃ b, b = L[i] := ⟨_, rfl⟩
          obtain ⟨hb6, hcb⟩ : b < 6 ∧ Hid (c a b ≠ 0) := by rw [hbL]; exact HLT.out _ (List.getElem_mem hiL)
          have hb0 : (b : Int) < 6 := by omega
          obtain ⟨bn, on, rfl, hbn, cb⟩ : ∃ bn on, ao = some ⟨bn, on, none⟩ ∧ bn < wr.heap.size ∧ wr.cell? ⟨bn, on + i, none⟩ = some (iv (b : Int)) := by
            have nk : NumAt wr ao L := NM.out.keep (fun b' o' e hb' => T1.out.kp.block b' hb' (NR.out b' o' e hb'))
            rcases nk with e | ⟨bn, on, e, hbn, hc⟩
            · exfalso; rw [e] at hiL; simp at hiL
            · exact ⟨bn, on, e, hbn, by rw [hbL]; exact hc i hiL⟩
          have HN := hide (rowL_next t1 a hiL)
          rw [← hbL] at HN
          have A2 := hide (AL.out i)
          have HC3 := hide (HCC.out i b hb6 hcb.out)
          generalize rowL t1 a L i = t2 at *
          have HT := hide (tellCall2 T1.out A2.out.s.tc.me ha b)
          clear hbL
          go_upto_region 9 with (go_at_call 56; with_reducible refine HT.out.mono ?_; rintro e W2 ⟨ao2, cp2, rfl, nw', gW', nr'⟩; have NW := hide nw'; have GW := hide gW'; have NR2 := hide nr'; clear nw' gW' nr')
          have HW := hide (T1.out.ext GW.out)
          have HR := hide HW.out.rest
          have UR2 : Hid (∀ {X : World} {c' : Nat → Nat → Nat} {t' : Tn}, Ne (rest W2 p k q v) W2 X p k q v c' t' → Ne (rest W p k q v) W X p k q v c' t') := fun h => HW.out.unrest h
          rw [← part_zero t2 a b] at HR
          clear HT T1 GW HW hbn cb
          go_loopw [3, 34] (fun v3 v34 wr => ∃ (j : Nat) (ch3 : Bool), j ≤ 6 ∧ v34 = .int .i64 (j : Int) ∧ v3 = .bool ch3 ∧ Hid ((ch2 || tellChg (t2.nd b) a (t2.nd a).ways j) = ch3) ∧ Hid (Ne (rest W2 p k q v) W2 wr p k q v c (partT t2 a b j))) (fun _ v34 _ => (6 - intOf v34).toNat)
          case atStart => exact ⟨0, ch2, by omega, rfl, rfl, Bool.or_false _, HR⟩
          case round =>
            clear HR
            obtain ⟨j, ch3, hj6, rfl, rfl, HC4, T1⟩ := hrel
            by_cases hj : j < 6
            · have hji : decide ((j : Int) < 6) = true := decide_eq_true (by omega)
              have hj0 : (j : Int) < 6 := by omega
              have wj : IntKind.i64.wrap ((j : Int) + 1) = (j : Int) + 1 := by rw [IntKind.wrap_i64]; omega
              obtain ⟨en, eo, rfl, hen, d0, d1, d2, d3, d4⟩ : ∃ en eo, ao2 = some ⟨en, eo, none⟩ ∧ en < wr.heap.size ∧ wr.cell? ⟨en, eo + j * 5, none⟩ = some (iv (a : Int)) ∧ wr.cell? ⟨en, eo + j * 5 + 1, none⟩ = some (iv (b : Int)) ∧ wr.cell? ⟨en, eo + j * 5 + 2, none⟩ = some (iv (j : Int)) ∧ wr.cell? ⟨en, eo + j * 5 + 3, none⟩ = some (iv ((t2.nd a).ways j).1) ∧ wr.cell? ⟨en, eo + j * 5 + 4, none⟩ = some (iv ((t2.nd a).ways j).2.1) := by
                have nk : NewsAt wr ao2 (newsL (tellT t2 a b)) := NW.out.keep (fun b' o' e hb' => T1.out.kp.block b' hb' (NR2.out b' o' e hb'))
                have hat := tellT_at t2 a b hj
                obtain ⟨hjl, hje⟩ := List.getElem?_eq_some_iff.1 hat
                rcases nk with e | ⟨en, eo, e, hen, hc⟩
                · exfalso; rw [e] at hjl; simp at hjl
                · have := hc j hjl
                  rw [hje] at this
                  exact ⟨en, eo, e, hen, this⟩
              have HTC : Hid (tellChg (t2.nd b) a (t2.nd a).ways (j + 1) = (tellChg (t2.nd b) a (t2.nd a).ways j || decide ((tellAll (t2.nd b) a (t2.nd a).ways (j + 1)).ways j ≠ (tellAll (t2.nd b) a (t2.nd a).ways j).ways j))) := rfl
              have HQ := hide (fun (X : World) (h : Ne (rest W2 p k q v) W2 X p k q v c (partT t2 a b j)) => part_stepN A2.out ha hb6 HC3.out hj h)
              have HB := hide (fun (X : World) (h : Ne (rest W2 p k q v) W2 X p k q v c (partT t2 a b j)) => part_way h hb6 hj)
              have HF := hide (fun (X : World) (h : Ne (rest W2 p k q v) W2 X p k q v c (partT t2 a b (j + 1))) => part_way h hb6 hj)
              generalize (tellAll (t2.nd b) a (t2.nd a).ways (j + 1)).ways j = nv at *
              generalize (tellAll (t2.nd b) a (t2.nd a).ways j).ways j = ov at *
              obtain ⟨ns, nd, nh⟩ := nv
              obtain ⟨os, od, oh⟩ := ov
              generalize (t2.nd a).ways j = wv at *
              obtain ⟨ws, wd, wh⟩ := wv
              simp only at d0 d1 d2 d3 d4 HQ HB HF
              go_upto_region 12 with (go_at_call 57; with_reducible refine (HB.out _ (T1.out.ext ((Gr.refl _).alloc _))).mono ?_; rintro e _ ⟨rfl, x1, rfl⟩)
              refine wp_gen (fun V => Hid (Ne (rest W2 p k q v) W2 V p k q v c (partT t2 a b j)) ∧ Hid (ZArr V 114 5 wr.heap.size (nsF ⟨a, b, j, ws, wd⟩)) ∧ Hid (ZArr V 119 3 x1.out.heap.size (wayF (os, od, oh)))) ⟨T1.out.ext ((((Gr.refl _).alloc _).ext x1).alloc _), ZArr.gr (show ZArr _ 114 5 wr.heap.size (nsF ⟨a, b, j, ws, wd⟩) from heap_alloc_new wr _) (x1.gr.alloc _), (show ZArr _ 119 3 x1.out.heap.size (wayF (os, od, oh)) from heap_alloc_new x1.out _)⟩ ?_
              clear T1 hen d0 d1 d2 d3 d4
              generalize x1.out.heap.size = Y at *
              clear x1
              generalize wr.heap.size = X at *
              rintro V ⟨T1, Z1, Y1⟩
              obtain ⟨y0, y1, y2, y3, y4⟩ := nsF_cells Z1.out
              have hX := Z1.out.lt
              have hp := T1.out.blk.lt
              have n0 := T1.out.node hb6
              have HQW := hide (HQ.out _ (T1.out.ext (Gr.refl V).drew))
              have hXq : Hid (X ≠ q b ∧ Y ≠ q b) := ⟨blk_ne Z1.out (T1.out.six.at_ b hb6) (by decide), blk_ne Y1.out (T1.out.six.at_ b hb6) (by decide)⟩
              go_region_held3 (fun W => W.cell? ⟨p, 1 + b, none⟩ = some (pv (q b)) ∧ W.cell? ⟨X, 0, none⟩ = some (iv (a : Int)) ∧ W.cell? ⟨X, 1, none⟩ = some (iv (b : Int)) ∧ W.cell? ⟨X, 2, none⟩ = some (iv (j : Int)) ∧ W.cell? ⟨X, 3, none⟩ = some (iv ws) ∧ W.cell? ⟨X, 4, none⟩ = some (iv wd)) (first | exact ⟨n0, y0, y1, y2, y3, y4⟩ | exact ⟨T2.out.node hb6, nsF_cells Z2.out⟩ | go_keep) (first | (go_at_call 58; with_reducible refine HQW.out.mono ?_; rintro e V2 ⟨r2, rfl, T2', W2'⟩; have T2 := hide T2'; have Z2 := hide (W2'.arr (Z1.out.gr (Gr.refl V).drew) hXq.out.1); have Y2 := hide (W2'.arr (Y1.out.gr (Gr.refl V).drew) hXq.out.2); clear T2' W2'))
              all_goals
                clear hXq HQW n0 hp hX y0 y1 y2 y3 y4 Z1 Y1 T1
                go_upto_region 13 with (fail)
                refine wp_gen (fun V => Hid (Ne (rest W2 p k q v) W2 V p k q v c (partT t2 a b (j + 1))) ∧ Hid (ZArr V 114 5 X (nsF ⟨a, b, j, ws, wd⟩)) ∧ Hid (ZArr V 119 3 Y (wayF (os, od, oh)))) ⟨T2.out, Z2.out, Y2.out⟩ ?_
                clear T2 Z2 Y2
                rintro U ⟨T1, Z1, Y1⟩
                obtain ⟨_, _, y2, _, _⟩ := nsF_cells Z1.out
                obtain ⟨z0, z1, z2⟩ := wayF_cells Y1.out
                have hX := Z1.out.lt
                have hY := Y1.out.lt
                have HWY : Hid (∀ x : Ext U, Calls Tryz.prog 57 #[pv p, iv (b : Int), iv (j : Int)] x.out fun e w' => e = .returned (.agg #[iv ns, iv nd, iv nh]) ∧ ∃ d : Ext U, w' = d.out) := fun x => Calls.ext_of (HF.out _ (T1.out.ext x.gr))
                simp only at y2
                cases ch3
                · have HNX : Hid ((ch2 || tellChg (t2.nd b) a (t2.nd a).ways (j + 1)) = decide ((ns, nd, nh) ≠ (os, od, oh))) := by
                    unfold Hid
                    rw [HTC.out, ← Bool.or_assoc, HC4.out, Bool.false_or]
                  have hway : (ns = os ∧ nd = od ∧ nh = oh) ∨ (((ns = os ∧ nd = od ∧ (nh == oh) = false) ∨ (ns = os ∧ (nd == od) = false) ∨ (ns == os) = false) ∧ Hid (decide ((ns, nd, nh) ≠ (os, od, oh)) = true)) := by
                    by_cases e1 : ns = os
                    · by_cases e2 : nd = od
                      · by_cases e3 : nh = oh
                        · exact .inl ⟨e1, e2, e3⟩
                        · exact .inr ⟨.inl ⟨e1, e2, by simpa using e3⟩, decide_eq_true fun x => e3 (by injection x with _ x; injection x)⟩
                      · exact .inr ⟨.inr (.inl ⟨e1, by simpa using e2⟩), decide_eq_true fun x => e2 (by injection x with _ x; injection x)⟩
                    · exact .inr ⟨.inr (.inr (by simpa using e1)), decide_eq_true fun x => e1 (by injection x)⟩
                  rcases hway with ⟨rfl, rfl, rfl⟩ | ⟨hway, HDT⟩
                  · have HNY : Hid ((ch2 || tellChg (t2.nd b) a (t2.nd a).ways (j + 1)) = false) := by
                      unfold Hid
                      rw [HNX.out]
                      exact decide_eq_false (fun x => x rfl)
                    clear HNX HTC
                    refine wp_region_ext (by kernel_rfl) (by kernel_rfl) ?_
                    repeat (go_big_quiet_step ((go_at_call 57; with_reducible exact HWY.out _)))
                    refine wpQuiet_nil ?_
                    rintro _ ⟨d6, rfl⟩
                    go_wp2_with fail
                    go_roundw
                    case rel => exact ⟨j + 1, _, by omega, by congr 1, rfl, HNY, T1.out.ext d6.gr⟩
                    case measure => simp [intOf]; omega
                  · rw [HDT.out] at HNX
                    clear HDT HTC
                    rcases hway with ⟨rfl, rfl, e3⟩ | ⟨rfl, e2⟩ | e1
                    all_goals
                      refine wp_region_ext (by kernel_rfl) (by kernel_rfl) ?_
                      repeat (go_big_quiet_step ((go_at_call 57; with_reducible exact HWY.out _)))
                      refine wpQuiet_nil ?_
                      rintro _ ⟨d6, rfl⟩
                      go_wp2_with fail
                      go_roundw
                      case rel => exact ⟨j + 1, _, by omega, by congr 1, rfl, HNX, T1.out.ext d6.gr⟩
                      case measure => simp [intOf]; omega
                · have HNX : Hid ((ch2 || tellChg (t2.nd b) a (t2.nd a).ways (j + 1)) = true) := by
                    unfold Hid
                    rw [HTC.out, ← Bool.or_assoc, HC4.out, Bool.true_or]
                  refine wp_region_ext (by kernel_rfl) (by kernel_rfl) ?_
                  repeat (go_big_quiet_step ((go_at_call 57; with_reducible exact HWY.out _)))
                  refine wpQuiet_nil ?_
                  rintro _ ⟨d6, rfl⟩
                  go_wp2_with fail
                  go_roundw
                  case rel => exact ⟨j + 1, true, by omega, by congr 1, rfl, HNX, T1.out.ext d6.gr⟩
                  case measure => simp [intOf]; omega
            · have hji : decide ((j : Int) < 6) = false := decide_eq_false (by omega)
              have ej : j = 6 := by omega
              rw [ej, part_six t2 HC3.out, ← HN.out.1] at T1
              rw [ej] at HC4
              have HC5 : Hid ((ch || rowLC t1 a L (i + 1)) = ch3) := by
                unfold Hid
                rw [HN.out.2, ← Bool.or_assoc, HC2.out]
                exact HC4.out
              go_wp2_with fail
              go_roundw
              case rel => exact ⟨i + 1, ch3, by omega, by congr 1, rfl, HC5, UR2.out T1.out⟩
              case measure => simp [intOf]; omega
        · have hii : decide ((i : Int) < (n : Int)) = false := decide_eq_false (by omega)
          have ei : i = L.length := by have := HNL.out; omega
          rw [ei, HS.out.1, ← HRD.out.1] at T1
          rw [ei, HS.out.2, ← HRD.out.2] at HC2
          go_wp2_with fail
          go_roundw
          case rel => exact ⟨a + 1, ch2, by omega, by congr 1, rfl, HC2, UR.out T1.out⟩
          case measure => simp [intOf]; omega
    · have hai : decide ((a : Int) < 6) = false := decide_eq_false (by omega)
      have ea : a = 6 := by omega
      rw [ea] at H0 HCH
      go_wp2_with fail
      go_ret
      exact ⟨by rw [HCH.out]; rfl, H0.out⟩

end Go.Proofs.YtfcknkanbcndjagGreatDoor
