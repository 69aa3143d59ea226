/- TrieOrder: the walk. -/
import Derived.Test.YtmlmcpopkcgflabT9
namespace Go.Proofs.Ytmlmcpopkcgflab
open Go.RowKit
attribute [local go_sem] Ext.all Ext.cell Ext.frozen Ext.lt Ext.lt1 Ext.lt2 Ext.ne Ext.ne'

theorem chn_at {rs : List Rt} {k : Nat} {s e : Int} (hk : k < rs.length) (h : Chn s (rs.drop k) e) : okB rs[k].1 rs[k].2.1 = true ∧ firstI rs[k].1 rs[k].2.1 = s ∧ Chn (lastI rs[k].1 rs[k].2.1 + 1) (rs.drop (k + 1)) e := by
  rw [List.drop_eq_getElem_cons hk] at h
  exact h
theorem chn_T_tr (rs : List Rt) : Chn 0 (trT rs).leaves 256 := chn_T _
theorem chk_tr {rs : List Rt} (hT : Tab rs) : chkL (trT rs).leaves = if 40 < (trT rs).leaves.length then 3 else 0 := chk_T fun j _ => hT.look_hop j
theorem eqF_tr (rs : List Rt) : eqF (fun j : Nat => lookL (trT rs).leaves j) (fun j : Nat => lookL rs j) = true := eqF_yes fun j hj => lookL_T _ j hj
theorem srt_tr (rs : List Rt) : Srt (trT rs).leaves := srt_T _

set_option maxRecDepth 20000 in
set_option maxHeartbeats 4000000 in
theorem torder_any (w : World) (N : Nat → Prop) (ao : Option Addr) (n c : Nat) (ls : List Rt) (a : Int) (H : n ≤ 120 → RowAt w N ao ls ∧ ls.length = n) :
    Calls Try.prog 8 #[.slice ao n c, .int .i64 a] w fun e w' => e = .returned (.bool true) ∧ ∃ d : Ext w, w' = d.out := by
  by_cases hbig : 120 < n
  · have hd : decide ((120 : Int) < (n : Int)) = true := decide_eq_true (by omega)
    clear H
    go_enter Try.func8, Try.ntmps8
    go_wp2_with (go_at_call 18; refine (tbegun_any _).mono ?_; rintro e _ ⟨rfl, d1, rfl⟩)
    go_ret
    exact ⟨rfl, _, rfl⟩
  obtain ⟨hrow, rfl⟩ := H (by omega)
  clear H
  have hd : decide ((120 : Int) < (ls.length : Int)) = false := by simp; omega
  have HT1 := hide (fun (wX : World) (gX : Gr w wX) => tables_gr hrow (by omega) c wX gX)
  have TR := hide (setAll_tab ls)
  clear hrow
  generalize setAll ls = rs at *
  have HCH := hide (chn_T_tr rs)
  have HCK := hide (chk_tr TR.out)
  have HEQ := hide (eqF_tr rs)
  have HSR := hide (srt_tr rs)
  have hm : (trT rs).leaves.length ≤ 256 := len_trT rs
  have HLV := hide (fun (B : World) (q : Nat) (h : Tr B (trT rs) q) (wX : World) (gX : Gr B wX) => leaves_gr h (by omega) wX gX)
  generalize hTT : trT rs = T at *
  go_enter Try.func8, Try.ntmps8
  go_upto_region 10 with (first
    | (go_at_call 18; refine (tbegun_any _).mono ?_; rintro e _ ⟨rfl, d1, rfl⟩)
    | (go_at_call 10; with_reducible refine (HT1.out _ d1.gr).mono ?_; rintro e w2 ⟨tb, ro, c2, rfl, l1, g1⟩; have LT := hide l1; have G2 := hide (d1.gr.trans g1); clear l1 g1)
    | (go_at_call 19; refine (LT.out.tof TR.out _ (Gr.refl _)).mono ?_; rintro e w3 ⟨q, rfl, t3, g3⟩; have TQ := hide (hTT ▸ t3); have G3 := hide g3; clear t3 g3)
    | (go_at_call 23; refine (HLV.out w3 q TQ.out _ (Gr.refl _)).mono ?_; rintro e w4 ⟨o4, c4, rfl, r4, g4⟩; have R4 := hide r4; have G34 := hide g4; clear r4 g4))
  have GW := hide ((G2.out.trans G3.out).trans G34.out)
  have TQ4 := hide (TQ.out.gr G34.out)
  have LT4 := hide (LT.out.gr (G3.out.trans G34.out))
  clear HT1 LT TQ HLV hTT
  go_wp2_with fail
  go_loopw [10, 11] (fun at' i wr => ∃ (k : Nat) (s : Int), k ≤ T.leaves.length ∧ i = .int .i64 k ∧ at' = .int .i64 s ∧ Hid (Chn s (T.leaves.drop k) 256) ∧ Gr w4 wr) (fun _ i _ => T.leaves.length - (intOf i).toNat)
  case atStart => exact ⟨0, 0, by omega, rfl, rfl, by unfold Hid; simpa using HCH.out, Gr.refl _⟩
  case round =>
    obtain ⟨k, s, hk, rfl, rfl, HC, g⟩ := hrel
    obtain ⟨d, rfl⟩ := ext_mk g
    by_cases hlt : k < T.leaves.length
    · have HA := hide (chn_at hlt HC.out)
      have hR := R4.out
      rcases hR with h | ⟨rb, o, rfl, hb, hM, hcs⟩
      · rw [h] at hlt; simp at hlt
      obtain ⟨c1, c2', c3⟩ := hcs k hlt
      clear hcs HC HCH HCK HEQ HSR R4
      generalize T.leaves[k] = r at *
      obtain ⟨rl, rbb, rh⟩ := r
      simp only at c1 c2' c3 HA
      obtain ⟨hok, hf, hch⟩ := HA.out
      obtain ⟨f0, fl, l1, _⟩ := span_has (a := 0) hok
      obtain ⟨e, he⟩ : ∃ e, lastI rl rbb = e := ⟨_, rfl⟩
      rw [he] at hch fl l1
      rw [hf] at f0 fl
      have HF1 := hide hf
      have HF2 := hide he
      have HCN := hide hch
      clear hok hf he hch HA
      have e1 : (s != s) = false := by simp
      go_wp2_with (first
        | (go_at_call 29; have X := Calls.ext_of (rfirst_any rl rbb d.out); rw [HF1.out] at X; refine X.mono ?_; clear X; rintro e _ ⟨rfl, d5, rfl⟩)
        | (go_at_call 30; have X := Calls.ext_of (rlast_any rl rbb d5.out); rw [HF2.out] at X; refine X.mono ?_; clear X; rintro e _ ⟨rfl, d6, rfl⟩))
      go_roundw
      case rel => exact ⟨k + 1, e + 1, by omega, by go_num, rfl, HCN.out, d6.gr⟩
      case measure => simp [intOf]; omega
    · have hs : s = 256 := by
        have h := HC.out
        rw [List.drop_of_length_le (by omega)] at h
        exact h
      subst hs
      clear HC HCH
      have e0 : ((256 : Int) != 256) = false := by decide
      go_upto_region 17 with (fail)
      go_cut [72] (fun s wc => s = .bool false ∧ ∃ d : Ext w4, wc = d.out)
      case first => as_aux_lemma =>
        clear HEQ HSR HCK R4 LT4
        cases T with
        | leaf tl tb' th =>
          have HLF := hide (fun (d : Ext w4) => leaf_is TQ4.out (v := true) rfl d)
          clear TQ4
          refine wp_region_ext_of (by kernel_rfl) (by kernel_rfl) ?_
          repeat (go_big_quiet_step ((go_at_call 31; with_reducible exact HLF.out _)))
          refine wpQuiet_nil ?_
          rintro _ ⟨d7, rfl⟩
          go_wp2
          go_meet
          case rel => exact ⟨rfl, d7, rfl⟩
        | node tl tb' lo hi =>
          have HLF := hide (fun (d : Ext w4) => leaf_is TQ4.out (v := false) rfl d)
          have hlen : (TT.node tl tb' lo hi).leaves.length = lo.leaves.length + hi.leaves.length := by simp [TT.leaves]
          have hq := TQ4.out.lt
          obtain ⟨x, y, c3, c4', hlo, hhi⟩ := TQ4.out.nodec
          have HS0 := hide (fun (d : Ext w4) => Calls.ext_of (size_any _ d.out q (TQ4.out.gr d.gr) (by omega)))
          have HS1 := hide (fun (d : Ext w4) => Calls.ext_of (size_any lo d.out x (hlo.gr d.gr) (by omega)))
          have HS2 := hide (fun (d : Ext w4) => Calls.ext_of (size_any hi d.out y (hhi.gr d.gr) (by omega)))
          rw [hlen] at HS0 hm
          generalize lo.leaves.length = n1 at *
          generalize hi.leaves.length = n2 at *
          have wn : IntKind.i64.wrap ((n1 : Int) + (n2 : Int)) = (n1 : Int) + n2 := wrap_in _ (by omega) (by omega)
          have en : (((n1 : Int) + (n2 : Int)) != (n1 : Int) + n2) = false := by simp
          clear TQ4 hlo hhi
          refine wp_region_ext_of (by kernel_rfl) (by kernel_rfl) ?_
          repeat (go_big_quiet_step (first | (go_at_call 31; with_reducible exact HLF.out _) | (go_at_call 24; with_reducible exact HS0.out _) | (go_at_call 24; with_reducible exact HS1.out _) | (go_at_call 24; with_reducible exact HS2.out _)))
          refine wpQuiet_nil ?_
          rintro _ ⟨d7, rfl⟩
          go_wp2
          go_meet
          case rel => exact ⟨by simp, d7, rfl⟩
      case rest =>
        obtain ⟨rfl, d7, rfl⟩ := hcut
        have HCC := hide (fun (wX : World) (gX : Gr w4 wX) => check2_any wX (fun _ => True) o4 T.leaves.length c4 T.leaves (R4.out.gr gX) rfl)
        by_cases h40 : 40 < T.leaves.length
        · have hd4 : decide ((40 : Int) < (T.leaves.length : Int)) = true := decide_eq_true (by omega)
          rw [HCK.out, if_pos h40] at HCC
          clear HCK TQ4
          go_wp2_with (first
            | (go_at_call 21; with_reducible refine (allOf_gr R4.out HSR.out c4 _ d7.gr).mono ?_; rintro e w8 ⟨g8, rfl, n8, gr8⟩; have N8 := hide n8; have G8 := hide (d7.gr.trans gr8); clear n8 gr8)
            | (go_at_call 21; with_reducible refine (LT4.out.allOf TR.out c2 _ G8.out).mono ?_; rintro e w9 ⟨g9, rfl, n9, gr9⟩; have N9 := hide n9; have N8' := hide (N8.out.gr gr9); have G9 := hide (G8.out.trans gr9); clear n9 gr9)
            | (go_at_call 27; refine (sameInts_gr N8'.out N9.out HEQ.out).mono ?_; rintro e w10 ⟨rfl, g10⟩; have G10 := hide (G9.out.trans g10); clear g10)
            | (go_at_call 32; refine (HCC.out _ G10.out).mono ?_; rintro e _ ⟨rfl, d11, rfl⟩))
          go_ret
          exact ⟨rfl, ext_mk ((GW.out.trans G10.out).ext d11)⟩
        · have hd4 : decide ((40 : Int) < (T.leaves.length : Int)) = false := by simp; omega
          rw [HCK.out, if_neg h40] at HCC
          clear HCK TQ4
          go_wp2_with (first
            | (go_at_call 21; with_reducible refine (allOf_gr R4.out HSR.out c4 _ d7.gr).mono ?_; rintro e w8 ⟨g8, rfl, n8, gr8⟩; have N8 := hide n8; have G8 := hide (d7.gr.trans gr8); clear n8 gr8)
            | (go_at_call 21; with_reducible refine (LT4.out.allOf TR.out c2 _ G8.out).mono ?_; rintro e w9 ⟨g9, rfl, n9, gr9⟩; have N9 := hide n9; have N8' := hide (N8.out.gr gr9); have G9 := hide (G8.out.trans gr9); clear n9 gr9)
            | (go_at_call 27; refine (sameInts_gr N8'.out N9.out HEQ.out).mono ?_; rintro e w10 ⟨rfl, g10⟩; have G10 := hide (G9.out.trans g10); clear g10)
            | (go_at_call 32; refine (HCC.out _ G10.out).mono ?_; rintro e _ ⟨rfl, d11, rfl⟩))
          go_ret
          exact ⟨rfl, ext_mk ((GW.out.trans G10.out).ext d11)⟩

end Go.Proofs.Ytmlmcpopkcgflab
