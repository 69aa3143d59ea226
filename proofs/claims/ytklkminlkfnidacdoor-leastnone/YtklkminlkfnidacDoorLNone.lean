/- LeastNone: the walk. -/
import Derived.Test.YtklkminlkfnidacDoorNPlain
namespace Go.Proofs.YtklkminlkfnidacDoor
open Go.RowKit
attribute [local go_sem] Ext.all Ext.cell Ext.frozen Ext.lt Ext.lt1 Ext.lt2 Ext.ne Ext.ne'

theorem Is.mk {B : World} {M : Nat → Prop} {tb : Nat} {v : Value} {rs : List Rt} (h : TabS B M tb v rs) : Is B tb rs := ⟨M, v, h⟩
theorem Is.kept {W w w' : World} {tb : Nat} {rs : List Rt} (h : Is W tb rs) (g : Gr W w) (k : Kp (fun k => k < W.heap.size) w w') : Is w' tb rs := by
  obtain ⟨M, v, hS⟩ := h
  exact ⟨M, v, (hS.gr g).kept k hS.lt (fun g' hg' => (hS.own.lt g' hg').2)⟩
theorem gr_kp {W w w' : World} (g : Gr W w) (k : Kp (fun k => k < W.heap.size) w w') : Gr W w' := Below.trans g (k.below (Below.size g) (fun _ h => h))
/-- table.Of of a list that may stand. -/
theorem of_new {B : World} {M : Nat → Prop} {ao : Option Addr} {rs : List Rt} (H : RowAt B M ao rs) (hT : Tab rs) (c : Nat) (wX : World) (gX : Gr B wX) :
    Calls Tryd.prog 19 #[.slice ao rs.length c] wX fun e w' => ∃ tb v, e = .returned (.tuple #[pv tb, iv 0]) ∧ TabS w' (fun k => k < wX.heap.size) tb v rs ∧ Gr wX w' := by
  refine (of_any wX M ao rs.length c rs (H.gr gX) rfl (tab_chk hT)).mono ?_
  rintro e w' ⟨tb, v, rfl, hS, d, rfl⟩
  exact ⟨tb, v, rfl, hS, d.gr⟩
/-- The index that the law takes. -/
theorem pick_at (k : Int) (n : Nat) (h0 : 0 < n) (hn : n ≤ 1000) : ∃ i : Nat, i < n ∧ wrap64 ((IntKind.u64.wrap k).tmod (n : Int)) = i := by
  have hk : 0 ≤ IntKind.u64.wrap k := by rw [IntKind.wrap_u64]; omega
  rw [Int.tmod_eq_emod_of_nonneg hk]
  have h1 := Int.emod_nonneg (IntKind.u64.wrap k) (show (n : Int) ≠ 0 by omega)
  have h2 := Int.emod_lt_of_pos (IntKind.u64.wrap k) (show (0 : Int) < (n : Int) by omega)
  refine ⟨(IntKind.u64.wrap k % (n : Int)).toNat, by omega, ?_⟩
  unfold wrap64
  omega

set_option maxRecDepth 20000 in
set_option maxHeartbeats 4000000 in
theorem lnone_any (w : World) (h64 : Tab64 w) (N : Nat → Prop) (ao : Option Addr) (n c : Nat) (ls : List Rt) (k hop : Int) (H : n ≤ 120 → RowAt w N ao ls ∧ ls.length = n) :
    Calls Tryd.prog 5 #[.slice ao n c, .int .i64 k, .int .i64 hop] w fun e w' => e = .returned (.bool true) ∧ Gr w w' := by
  have HB := hide (lbegun_any w h64)
  by_cases hbig : 120 < n
  · have hd : decide ((120 : Int) < (n : Int)) = true := decide_eq_true (by omega)
    clear H h64
    go_enter Tryd.func5, Tryd.ntmps5
    go_wp2_with (go_at_call 7; refine HB.out.mono ?_; rintro e w1 ⟨rfl, g1⟩)
    go_ret
    exact ⟨rfl, g1⟩
  obtain ⟨hrow, rfl⟩ := H (by omega)
  clear H
  have hd : decide ((120 : Int) < (ls.length : Int)) = false := by simp; omega
  have HT1 := hide (fun (wX : World) (gX : Gr w wX) => tables_gr hrow (by omega) c wX gX)
  have TR := hide (setAll_tab ls)
  clear hrow
  generalize setAll ls = rs at *
  have TS := hide (lst_tab TR.out)
  have HLP := hide (fun l b h => less_plain TR.out (l := l) (b := b) (h := h))
  have hle := TS.out.len
  have H64 := hide h64
  clear h64
  generalize hss : lstL rs = ss at *
  have HLS := hide hss
  clear hss
  by_cases h0 : ss.length = 0
  · have hz : ((ss.length : Int) == 0) = true := beq_iff_eq.2 (by omega)
    go_enter Tryd.func5, Tryd.ntmps5
    go_wp2_with (first
      | (go_at_call 7; refine HB.out.mono ?_; rintro e w1 ⟨rfl, g1⟩)
      | (go_at_call 8; refine (HT1.out w1 g1).mono ?_; rintro e w2 ⟨tb, ro, c2, rfl, L2, g2⟩; have T2 := hide L2.is; have G2 := hide (g1.trans g2); clear L2)
      | (go_at_call 9; with_reducible refine (T2.out.lof (H64.out.gr G2.out) TR.out HLS.out).mono ?_; rintro e w3 ⟨ub, rfl, u3, g3⟩; have U3 := hide u3; have G3 := hide (G2.out.trans g3); clear u3 g3)
      | (go_at_call 14; refine (U3.out.list TS.out).mono ?_; rintro e w4 ⟨ao4, c4, rfl, r4, g4⟩; have G4 := hide (G3.out.trans g4); clear r4 g4)
      | fail)
    go_ret
    exact ⟨rfl, G4.out⟩
  have hz : ((ss.length : Int) == 0) = false := beq_eq_false_iff_ne.2 (by omega)
  obtain ⟨i, hi, hpk⟩ := pick_at k ss.length (by omega) (by omega)
  have hmem : ss[i] ∈ ss := List.getElem_mem hi
  obtain ⟨l, b, h, hlb⟩ : ∃ l b h, ss[i] = (l, b, h) := ⟨_, _, _, rfl⟩
  rw [hlb] at hmem
  obtain ⟨ss1, hset1, hT1, heq1, hnext⟩ := HLP.out l b h hmem
  have HI := hide hlb
  have HS1 := hide hset1
  have TT1 := hide hT1
  have HE1 := hide heq1
  have HNX := hide hnext
  clear hlb hset1 hT1 heq1 hnext hmem HLP
  go_enter Tryd.func5, Tryd.ntmps5
  go_upto_region 14 with (first
    | (go_at_call 7; refine HB.out.mono ?_; rintro e w1 ⟨rfl, g1⟩)
    | (go_at_call 8; refine (HT1.out w1 g1).mono ?_; rintro e w2 ⟨tb, ro, c2, rfl, L2, g2⟩; have T2 := hide L2.is; have G2 := hide (g1.trans g2); clear L2)
    | (go_at_call 9; with_reducible refine (T2.out.lof (H64.out.gr G2.out) TR.out HLS.out).mono ?_; rintro e w3 ⟨ub, rfl, u3, g3⟩; have U3 := hide u3; have T3 := hide (T2.out.gr g3); have G3 := hide (G2.out.trans g3); clear u3 g3)
    | (go_at_call 14; with_reducible refine (U3.out.list TS.out).mono ?_; rintro e w4 ⟨ao4, c4, rfl, r4, g4⟩; have U4 := hide (U3.out.gr g4); have T4 := hide (T3.out.gr g4); have G4 := hide (G3.out.trans g4); clear r4 g4)
    | (go_at_call 14; with_reducible refine (U4.out.list TS.out).mono ?_; rintro e w5 ⟨ao5, c5, rfl, r5, g5⟩; have R5 := hide r5; have T5 := hide (T4.out.gr g5); have G5 := hide (G4.out.trans g5); clear r5 g5)
    | fail)
  obtain ⟨a1, a2, a3, hbr⟩ : ∃ rb o, ao5 = some ⟨rb, o, none⟩ ∧ rb < w5.heap.size ∧ w5.cell? ⟨rb, o + i * 3, none⟩ = some (iv l) ∧ w5.cell? ⟨rb, o + i * 3 + 1, none⟩ = some (iv b) ∧ w5.cell? ⟨rb, o + i * 3 + 2, none⟩ = some (iv h) := by
    rcases R5.out with e | ⟨rb, o, e, hb, _, hcs⟩
    · rw [e] at h0; simp at h0
    · have := hcs i hi
      rw [HI.out] at this
      exact ⟨rb, o, e, hb, this⟩
  obtain ⟨hrl, c1, c2, c3⟩ := hbr
  subst a3
  have hwl : IntKind.u64.wrap (ss.length : Int) = ss.length := by rw [IntKind.wrap_u64]; omega
  have hln : ((ss.length : Int) == 0) = false := hz
  have hin : (i : Int) < (ss.length : Int) := by omega
  have hi0 : (0 : Int) ≤ (i : Int) := by omega
  go_upto_region 15 with (simp only [hpk])
  refine wp_gen (fun X => Gr w5 X ∧ X.heap[w5.heap.size]? = some (.cells #[iv l, iv b, iv h] 45 (0, 0))) ⟨(Gr.refl _).alloc _, heap_alloc_new w5 _⟩ ?_
  rintro X6 ⟨g6, hbox⟩
  have T6 := hide (T5.out.gr g6)
  have G6 := hide (G5.out.trans g6)
  have HBOX : Hid (∀ w', Gr X6 w' → w'.cell? ⟨w5.heap.size, 0, none⟩ = some (iv l) ∧ w'.cell? ⟨w5.heap.size, 1, none⟩ = some (iv b) ∧ w'.cell? ⟨w5.heap.size, 2, none⟩ = some (iv h)) := fun w' g => by
    have := (Below.block g _ (lt_of_block hbox)).trans hbox
    refine ⟨?_, ?_, ?_⟩ <;> simp [World.cell?, this]
  obtain ⟨l0, l1, l2⟩ := HBOX.out X6 (Gr.refl _)
  clear hbox c1 c2 c3
  cases hh : hopB hop
  · have HHOP := hide (fun w => isHop_is hh w)
    go_wp2_with (first
      | (go_at_call 19; refine (of_new R5.out TS.out c5 X6 g6).mono ?_; rintro e w7 ⟨vb, vv, rfl, s7, g7⟩; have S7 := hide s7; have G7 := hide g7; clear s7 g7; obtain ⟨m0, m1, m2⟩ := HBOX.out _ (G7.out))
      | (go_at_call 20; have X := set_is S7.out TS.out HS1.out; with_reducible refine X.mono ?_; clear X; rintro e w8 ⟨rfl, v8, s8, k8⟩; have S8 := hide s8; have T8 := hide (T6.out.kept G7.out k8); have G8 := hide (gr_kp G7.out k8); have V8 := hide (Is.mk s8); clear s8 k8; obtain ⟨n0, n1, n2⟩ := HBOX.out _ (G8.out))
      | (go_at_call 11; have X := T8.out.tsame V8.out TR.out TT1.out HE1.out; with_reducible refine X.mono ?_; clear X; rintro e w9 ⟨rfl, g9⟩; have S9 := hide (S8.out.gr g9); have G9 := hide (G8.out.trans g9); have G89 := hide g9; clear g9; obtain ⟨q0, q1, q2⟩ := HBOX.out _ (G9.out))
      | (go_at_call 21; have X := HHOP.out w9; with_reducible refine X.mono ?_; clear X; rintro e _ ⟨rfl, d10, rfl⟩; have G10 := hide (G9.out.trans d10.gr); obtain ⟨r0, r1, r2⟩ := HBOX.out _ (G10.out))
      | fail)
    go_ret
    exact ⟨rfl, G6.out.trans G10.out⟩
  · have HHOP := hide (fun w => isHop_is hh w)
    by_cases he : hop = h
    · subst he
      have hhe : (hop == hop) = true := by simp
      go_wp2_with (first
      | (go_at_call 19; refine (of_new R5.out TS.out c5 X6 g6).mono ?_; rintro e w7 ⟨vb, vv, rfl, s7, g7⟩; have S7 := hide s7; have G7 := hide g7; clear s7 g7; obtain ⟨m0, m1, m2⟩ := HBOX.out _ (G7.out))
      | (go_at_call 20; have X := set_is S7.out TS.out HS1.out; with_reducible refine X.mono ?_; clear X; rintro e w8 ⟨rfl, v8, s8, k8⟩; have S8 := hide s8; have T8 := hide (T6.out.kept G7.out k8); have G8 := hide (gr_kp G7.out k8); have V8 := hide (Is.mk s8); clear s8 k8; obtain ⟨n0, n1, n2⟩ := HBOX.out _ (G8.out))
      | (go_at_call 11; have X := T8.out.tsame V8.out TR.out TT1.out HE1.out; with_reducible refine X.mono ?_; clear X; rintro e w9 ⟨rfl, g9⟩; have S9 := hide (S8.out.gr g9); have G9 := hide (G8.out.trans g9); have G89 := hide g9; clear g9; obtain ⟨q0, q1, q2⟩ := HBOX.out _ (G9.out))
      | (go_at_call 21; have X := HHOP.out w9; with_reducible refine X.mono ?_; clear X; rintro e _ ⟨rfl, d10, rfl⟩; have G10 := hide (G9.out.trans d10.gr); obtain ⟨r0, r1, r2⟩ := HBOX.out _ (G10.out))
      | fail)
      go_ret
      exact ⟨rfl, G6.out.trans G10.out⟩
    · have hhe : (hop == h) = false := by simpa using he
      have HNE := hide he
      clear he
      obtain ⟨ss2, hs2, ht2, he2⟩ := HNX.out hop hh HNE.out
      have HS2 := hide hs2
      have TT2 := hide ht2
      have HE2 := hide he2
      clear hs2 ht2 he2
      go_wp2_with (first
      | (go_at_call 19; refine (of_new R5.out TS.out c5 X6 g6).mono ?_; rintro e w7 ⟨vb, vv, rfl, s7, g7⟩; have S7 := hide s7; have G7 := hide g7; clear s7 g7; obtain ⟨m0, m1, m2⟩ := HBOX.out _ (G7.out))
      | (go_at_call 20; have X := set_is S7.out TS.out HS1.out; with_reducible refine X.mono ?_; clear X; rintro e w8 ⟨rfl, v8, s8, k8⟩; have S8 := hide s8; have T8 := hide (T6.out.kept G7.out k8); have G8 := hide (gr_kp G7.out k8); have V8 := hide (Is.mk s8); clear s8 k8; obtain ⟨n0, n1, n2⟩ := HBOX.out _ (G8.out))
      | (go_at_call 11; have X := T8.out.tsame V8.out TR.out TT1.out HE1.out; with_reducible refine X.mono ?_; clear X; rintro e w9 ⟨rfl, g9⟩; have S9 := hide (S8.out.gr g9); have G9 := hide (G8.out.trans g9); have G89 := hide g9; clear g9; obtain ⟨q0, q1, q2⟩ := HBOX.out _ (G9.out))
      | (go_at_call 21; have X := HHOP.out w9; with_reducible refine X.mono ?_; clear X; rintro e _ ⟨rfl, d10, rfl⟩; have G10 := hide (G9.out.trans d10.gr); obtain ⟨r0, r1, r2⟩ := HBOX.out _ (G10.out))
      | (go_at_call 20; have X := set_is (S9.out.gr d10.gr) TT1.out HS2.out; with_reducible refine X.mono ?_; clear X; rintro e w11 ⟨rfl, v11, s11, k11⟩; have T11 := hide (T6.out.kept G10.out k11); have G11 := hide (gr_kp G10.out k11); have V11 := hide (Is.mk s11); clear s11 k11)
      | (go_at_call 11; have X := T11.out.tsame V11.out TR.out TT2.out HE2.out; with_reducible refine X.mono ?_; clear X; rintro e w12 ⟨rfl, g12⟩; have G12 := hide (G11.out.trans g12); clear g12)
      | fail)
      go_ret
      exact ⟨rfl, G6.out.trans G12.out⟩

end Go.Proofs.YtklkminlkfnidacDoor
