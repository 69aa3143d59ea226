/- TrieLeast: the walk. -/
import Derived.Test.YtmlmcpopkcgflabT9
import Derived.Test.YtmlmcpopkcgflabT6
namespace Go.Proofs.Ytmlmcpopkcgflab
open Go.RowKit
attribute [local go_sem] Ext.all Ext.cell Ext.frozen Ext.lt Ext.lt1 Ext.lt2 Ext.ne Ext.ne'

theorem cnt_take {rs : List Rt} {k : Nat} (hk : k < rs.length) (a : Int) : cntL (rs.take (k + 1)) a = cntL (rs.take k) a + (if hasB rs[k].1 rs[k].2.1 a then 1 else 0) := by
  unfold cntL
  rw [List.take_succ_eq_append_getElem hk, List.countP_append, List.countP_singleton]
theorem same_tr (rs ss : List Rt) : decide ((trT rs).leaves = (trT ss).leaves) = eqF (fun j : Nat => lookL rs j) (fun j : Nat => lookL ss j) := by
  unfold trT
  by_cases h : ∀ j : Nat, j < 256 → lookL rs j = lookL ss j
  · rw [eqF_yes h]
    exact decide_eq_true (leaves_same.2 h)
  · rw [decide_eq_false fun q => h (leaves_same.1 q)]
    symm
    cases e : eqF (fun j : Nat => lookL rs j) (fun j : Nat => lookL ss j)
    · rfl
    · unfold eqF at e
      exact absurd (of_decide_eq_true e) h
theorem whole_gr {B : World} {rs : List Rt} {q : Nat} (h : Tr B (trT rs) q) (wX : World) (gX : Gr B wX) :
    Calls Try.prog 28 #[pv q, pfx 0 0] wX fun e w' => e = .returned (.bool true) ∧ Gr wX w' := by
  refine (whole_any (trT rs) wX q 0 0 (h.gr gX) (whole_T _)).mono ?_
  rintro e _ ⟨rfl, d, rfl⟩
  exact ⟨rfl, d.gr⟩
theorem Calls.ext_gr {P : Program} {f : FuncId} {args : Array Value} {a : World} {d : Ext a} {v : Value}
    (h : Calls P f args d.out fun e w' => e = .returned v ∧ Gr d.out w') : Calls P f args d.out fun e w'' => e = .returned v ∧ ∃ m : Ext a, w'' = m.out :=
  h.mono fun _ _ ⟨he, hg⟩ => ⟨he, ext_mk (d.gr.trans hg)⟩
theorem cnt_tr (rs : List Rt) (a : Int) : cntL (trT rs).leaves a = if 0 ≤ a ∧ a < 256 then 1 else 0 := cnt_T _ a
theorem leaf_tr {rs : List Rt} {r : Rt} (hr : r ∈ (trT rs).leaves) {a : Int} (ha : hasB r.1 r.2.1 a = true) : r.2.2 = (trT rs).look a := leaf_look hr ha

set_option maxRecDepth 20000 in
set_option maxHeartbeats 4000000 in
theorem tleast_any (w : World) (N N2 : Nat → Prop) (ao bo : Option Addr) (n m c c' : Nat) (ls ms : List Rt) (a : Int) (H : n ≤ 120 → RowAt w N ao ls ∧ ls.length = n) (K : m ≤ 120 → RowAt w N2 bo ms ∧ ms.length = m) :
    Calls Try.prog 7 #[.slice ao n c, .slice bo m c', .int .i64 a] w fun e w' => e = .returned (.bool true) ∧ ∃ d : Ext w, w' = d.out := by
  by_cases hbig : 120 < n
  · have hd : decide ((120 : Int) < (n : Int)) = true := decide_eq_true (by omega)
    clear H K
    go_enter Try.func7, Try.ntmps7
    go_wp2_with (go_at_call 18; refine (tbegun_any _).mono ?_; rintro e _ ⟨rfl, d1, rfl⟩)
    go_ret
    exact ⟨rfl, _, rfl⟩
  obtain ⟨hrow, rfl⟩ := H (by omega)
  clear H
  have hd : decide ((120 : Int) < (ls.length : Int)) = false := by simp; omega
  by_cases hbig2 : 120 < m
  · have hd2 : decide ((120 : Int) < (m : Int)) = true := decide_eq_true (by omega)
    clear K hrow
    go_enter Try.func7, Try.ntmps7
    go_wp2_with (go_at_call 18; refine (tbegun_any _).mono ?_; rintro e _ ⟨rfl, d1, rfl⟩)
    go_ret
    exact ⟨rfl, _, rfl⟩
  obtain ⟨krow, rfl⟩ := K (by omega)
  clear K
  have hd2 : decide ((120 : Int) < (ms.length : Int)) = false := by simp; omega
  have HT1 := hide (fun (wX : World) (gX : Gr w wX) => tables_gr hrow (by omega) c wX gX)
  have HT2 := hide (fun (wX : World) (gX : Gr w wX) => tables_gr krow (by omega) c' wX gX)
  have TR := hide (setAll_tab ls)
  have TS := hide (setAll_tab ms)
  clear hrow krow
  generalize setAll ls = rs at *
  generalize setAll ms = ss at *
  obtain ⟨x, hx⟩ : ∃ x, lookL rs a = x := ⟨_, rfl⟩
  have HLX := hide hx
  have HTX := hide ((trT_look rs a).trans hx)
  clear hx
  have HW1 := hide (fun (B : World) (q : Nat) (h : Tr B (trT rs) q) (wX : World) (gX : Gr B wX) => whole_gr h wX gX)
  have HW2 := hide (fun (B : World) (q : Nat) (h : Tr B (trT ss) q) (wX : World) (gX : Gr B wX) => whole_gr h wX gX)
  obtain ⟨z, hz⟩ : ∃ z, eqF (fun j : Nat => lookL rs j) (fun j : Nat => lookL ss j) = z := ⟨_, rfl⟩
  have HZ := hide hz
  have HZ2 := hide ((same_tr rs ss).trans hz)
  clear hz
  have hm1 : (trT rs).leaves.length ≤ 256 := len_trT rs
  have hm2 : (trT ss).leaves.length ≤ 256 := len_trT ss
  have HV1 := hide (fun (B : World) (q : Nat) (h : Tr B (trT rs) q) (wX : World) (gX : Gr B wX) => leaves_gr h (by omega) wX gX)
  have HV2 := hide (fun (B : World) (q : Nat) (h : Tr B (trT ss) q) (wX : World) (gX : Gr B wX) => leaves_gr h (by omega) wX gX)
  have HCT := hide (cnt_tr rs a)
  have HLT := hide (fun (r : Rt) (hr : r ∈ (trT rs).leaves) (ha : hasB r.1 r.2.1 a = true) => (leaf_tr hr ha).trans HTX.out)
  have HO1 := hide (fun (B : World) (tb : Nat) (ro : Option Addr) (h : Laid B tb ro rs) (wX : World) (gX : Gr B wX) => h.tof TR.out wX gX)
  have HO2 := hide (fun (B : World) (tb : Nat) (ro : Option Addr) (h : Laid B tb ro ss) (wX : World) (gX : Gr B wX) => h.tof TS.out wX gX)
  generalize trT rs = T at *
  generalize trT ss = U at *
  have e4 : (z != z) = false := by simp
  have e5 : (x != x) = false := by simp
  go_enter Try.func7, Try.ntmps7
  go_upto_region 13 with (first
    | (go_at_call 18; refine (tbegun_any _).mono ?_; rintro e _ ⟨rfl, d1, rfl⟩)
    | (go_at_call 10; with_reducible refine (HT1.out _ d1.gr).mono ?_; rintro e w2 ⟨tb, ro, c2, rfl, l1, g1⟩; have LT := hide l1; have G2 := hide (d1.gr.trans g1); clear l1 g1)
    | (go_at_call 10; with_reducible refine (HT2.out _ G2.out).mono ?_; rintro e w3 ⟨ub, so, c3, rfl, l2, g2⟩; have LU := hide l2; have LT3 := hide (LT.out.gr g2); have G3 := hide (G2.out.trans g2); clear l2 g2)
    | (go_at_call 19; with_reducible refine (HO1.out w3 tb ro LT3.out w3 (Gr.refl _)).mono ?_; rintro e w4 ⟨q, rfl, t4, g4⟩; have TQ := hide t4; have G4 := hide g4; clear t4 g4)
    | (go_at_call 19; with_reducible refine (HO2.out w3 ub so LU.out w4 G4.out).mono ?_; rintro e w5 ⟨r, rfl, t5, g5⟩; have UQ := hide t5; have TQ5 := hide (TQ.out.gr g5); have G5 := hide (G4.out.trans g5); clear t5 g5)
    | (go_at_call 28; with_reducible refine (HW1.out w5 q TQ5.out w5 (Gr.refl _)).mono ?_; rintro e w6 ⟨rfl, g6⟩; have G56 := hide g6; clear g6)
    | (go_at_call 28; with_reducible refine (HW2.out w5 r UQ.out w6 G56.out).mono ?_; rintro e w7 ⟨rfl, g7⟩; have G57 := hide (G56.out.trans g7); clear g7)
    | (go_at_call 26; have X := LT3.out.tsame LU.out TR.out TS.out w7 (G5.out.trans G57.out); rw [HZ.out] at X; refine X.mono ?_; clear X; rintro e w8 ⟨rfl, g8⟩; have G58 := hide (G57.out.trans g8); clear g8)
    | (go_at_call 23; with_reducible refine (HV1.out w5 q TQ5.out w8 G58.out).mono ?_; rintro e w9 ⟨o9, c9, rfl, r9, g9⟩; have R9 := hide r9; have G59 := hide (G58.out.trans g9); clear r9 g9)
    | (go_at_call 23; with_reducible refine (HV2.out w5 r UQ.out w9 G59.out).mono ?_; rintro e w10 ⟨o10, c10, rfl, r10, g10⟩; have R10 := hide r10; have R9' := hide (R9.out.gr g10); have G510 := hide (G59.out.trans g10); clear r10 g10)
    | (go_at_call 17; refine (same_gr R9'.out R10.out (by omega) (by omega) HZ2.out c9 c10).mono ?_; rintro e w11 ⟨rfl, g11⟩; have G511 := hide (G510.out.trans g11); clear g11)
    | (go_at_call 23; with_reducible refine (HV1.out w5 q TQ5.out w11 G511.out).mono ?_; rintro e w12 ⟨o12, c12, rfl, r12, g12⟩; have R12 := hide r12; have G512 := hide (G511.out.trans g12); clear r12 g12))
  have GW := hide ((G3.out.trans G5.out).trans G512.out)
  have TQL := hide (fun (d : Ext w12) => Calls.ext_gr (look_gr TQ5.out HTX.out d.out (G512.out.ext d)))
  have TL := hide (fun (d : Ext w12) => Calls.ext_gr (LT3.out.look TR.out HLX.out d.out ((G5.out.trans G512.out).ext d)))
  clear HT1 HT2 HW1 HW2 HV1 HV2 HO1 HO2 LT LU TQ UQ R9 R9' R10 HZ HZ2 HLX HTX
  go_wp2_with fail
  go_loopw [16, 17] (fun nv i wr => ∃ (k cn : Nat), k ≤ T.leaves.length ∧ i = .int .i64 k ∧ nv = .int .i64 cn ∧ cn ≤ k ∧ Hid (cntL (T.leaves.take k) a = cn) ∧ Gr w12 wr) (fun _ i _ => T.leaves.length - (intOf i).toNat)
  case atStart => exact ⟨0, 0, by omega, rfl, rfl, Nat.le_refl _, rfl, Gr.refl _⟩
  case round =>
    obtain ⟨k, cn, hk, rfl, rfl, hcn, HC, g⟩ := hrel
    obtain ⟨d, rfl⟩ := ext_mk g
    by_cases hlt : k < T.leaves.length
    · have HS := hide (cnt_take hlt a)
      have HH := hide (HLT.out T.leaves[k] (List.getElem_mem hlt))
      have hR := R12.out
      rcases hR with h | ⟨rb, o, rfl, hb, hM, hcs⟩
      · rw [h] at hlt; simp at hlt
      obtain ⟨c1, c2', c3'⟩ := hcs k hlt
      clear hcs HLT R12 HCT
      generalize T.leaves[k] = r at *
      obtain ⟨rl, rbb, rh⟩ := r
      simp only at c1 c2' c3' HS HH
      cases hq : hasB rl rbb a
      · have HQ := hide hq
        have HR : Hid (cntL (T.leaves.take (k + 1)) a = cn) := by unfold Hid; rw [HS.out, hq, HC.out]; rfl
        clear hq HS HC HH
        go_wp2_with (go_at_call 14; with_reducible refine (Calls.ext_of (rhas_is HQ.out _)).mono ?_; rintro e _ ⟨rfl, d1, rfl⟩)
        go_roundw
        case rel => exact ⟨k + 1, cn, by omega, by go_num, rfl, by omega, HR, d1.gr⟩
        case measure => simp [intOf]; omega
      · have HQ := hide hq
        have HR : Hid (cntL (T.leaves.take (k + 1)) a = cn + 1) := by unfold Hid; rw [HS.out, hq, HC.out]; rfl
        have hrh : rh = x := HH.out hq
        subst hrh
        clear hq HS HC HH
        go_wp2_with (go_at_call 14; with_reducible refine (Calls.ext_of (rhas_is HQ.out _)).mono ?_; rintro e _ ⟨rfl, d1, rfl⟩)
        refine wp_region_ext_of (by kernel_rfl) (by kernel_rfl) ?_
        repeat (go_big_quiet_step (first | (go_at_call 25; with_reducible exact TQL.out _) | (go_at_call 12; with_reducible exact TL.out _)))
        refine wpQuiet_nil ?_
        rintro _ ⟨d2, rfl⟩
        go_wp2
        go_roundw
        case rel => exact ⟨k + 1, cn + 1, by omega, by go_num, by go_num, by omega, HR, d2.gr⟩
        case measure => simp [intOf]; omega
    · have HE : Hid (cn = if 0 ≤ a ∧ a < 256 then 1 else 0) := by
        unfold Hid
        rw [← HC.out, List.take_of_length_le (by omega)]
        exact HCT.out
      clear HC HCT R12 HLT TQL TL
      by_cases h0 : 0 ≤ a ∧ a < 256
      · have e1 : cn = 1 := by rw [HE.out, if_pos h0]
        have hd0 : decide ((0 : Int) ≤ a) = true := decide_eq_true h0.1
        have hd1 : decide (a < 256) = true := decide_eq_true h0.2
        obtain ⟨a0, a1⟩ := h0
        subst e1
        clear HE
        go_wp2
        go_ret
        exact ⟨rfl, ext_mk (GW.out.ext d)⟩
      · have e1 : cn = 0 := by rw [HE.out, if_neg h0]
        subst e1
        clear HE
        by_cases a0 : 0 ≤ a
        · have hd0 : decide ((0 : Int) ≤ a) = true := decide_eq_true a0
          have hd1 : decide (a < 256) = false := by simp; omega
          go_wp2
          go_ret
          exact ⟨rfl, ext_mk (GW.out.ext d)⟩
        · have hd0 : decide ((0 : Int) ≤ a) = false := by simp; omega
          go_wp2
          go_ret
          exact ⟨rfl, ext_mk (GW.out.ext d)⟩

end Go.Proofs.Ytmlmcpopkcgflab
