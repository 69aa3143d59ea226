/- handpostlaw.WalkStraight ANSWERS true. -/
import Derived.Test.YtcgflhjgllpohafGreatDoorLWkDoes
namespace Go.Proofs.YtcgflhjgllpohafGreatDoor
open Go.RowKit
attribute [local go_sem] Ext.all Ext.cell Ext.frozen Ext.lt Ext.lt1 Ext.lt2 Ext.ne Ext.ne'
set_option maxRecDepth 20000 in
set_option maxHeartbeats 16000000 in
theorem walkStraight_any (w : World) (h64 : Tab64 w) (ao : Option Addr) (n cp : Nat) (l : List Sx) (a : Int) (H : SpAt w ao l) (hn : l.length = n) :
    Calls Tryz.prog 7 #[.slice ao n cp, iv a] w fun e w' => e = .returned (.bool true) ∧ Gr w w' := by
  have HS := hide (fun (X : World) (g : Gr w X) => H.gr g)
  have HNL := hide hn
  have HB := hide (walkBegun_ok w h64)
  have H64 := hide h64
  clear H hn h64
  go_enter Tryz.func7, Tryz.ntmps7
  go_upto_region 3 with (go_at_call 26; with_reducible refine HB.out.mono ?_; rintro e V0 ⟨rfl, g0'⟩; have G0 := hide g0'; clear g0')
  by_cases h150 : 150 < n
  · have gd : decide ((150 : Int) < (n : Int)) = true := decide_eq_true (by omega)
    go_wp2_with fail
    go_ret
    exact ⟨rfl, G0.out⟩
  have gd : decide ((150 : Int) < (n : Int)) = false := decide_eq_false (by omega)
  have HPO := hide (posts_any V0 ao n cp l (HS.out _ G0.out) HNL.out (by omega))
  go_upto_region 6 with (go_at_call 9; with_reducible refine HPO.out.mono ?_; rintro e V1 ⟨P, T, c, t, rs, rfl, h1'⟩; have H1 := hide h1'; clear h1')
  clear HPO HS
  obtain ⟨SP, ST, hpq, _, _⟩ := H1.out
  have AA := hide H1.out.a
  have OW := hide H1.out.ows
  have GW := hide (G0.out.trans H1.out.grw)
  have PQ := hide hpq
  have HN : Hid (∀ (V : World) (sm : Bool), Gr V1 V → Calls Tryz.prog 28 #[pv P, .bool sm] V fun e w' => ∃ X SW, e = .returned (pv X) ∧ Wq w' X P SW (tabL t rs sm) ∧ Gr V w' ∧ ∀ b, SW b → V.heap.size ≤ b) := fun V sm g => walkNew_any (PQ.out.gr g) (H64.out.gr (GW.out.trans g)) sm
  clear hpq H1
  go_upto_region 7 with (first
    | (go_at_call 28; with_reducible refine (HN.out V1 true (Gr.refl _)).mono ?_; rintro e V2 ⟨X, SW, rfl, w2', g2', _⟩; have W2 := hide w2'; have G2 := hide g2'; clear w2' g2')
    | (go_at_call 28; with_reducible refine (HN.out V2 false G2.out).mono ?_; rintro e V3 ⟨X', SW', rfl, w3', g3', _⟩; have Q3 := hide w3'; have W3 := hide (W2.out.gr g3'); have G3 := hide (G2.out.trans g3'); clear w3' g3')
    | fail)
  clear W2 G2 HN
  go_wp2_with fail
  go_loopw [10, 11, 12] (fun v10 _ _ wr => ∃ i : Nat, i ≤ 6 ∧ v10 = .int .i64 (i : Int) ∧ Hid (Gr V3 wr)) (fun v10 _ _ _ => (6 - intOf v10).toNat)
  case atStart => exact ⟨0, by omega, rfl, Gr.refl _⟩
  case round =>
    obtain ⟨i, hi6, rfl, GR⟩ := hrel
    by_cases hi : i < 6
    · have hii : decide ((i : Int) < 6) = true := decide_eq_true (by omega)
      have hi0 : (i : Int) < 6 := by omega
      have wi : IntKind.i64.wrap ((i : Int) + 1) = (i : Int) + 1 := by rw [IntKind.wrap_i64]; omega
      obtain ⟨tl, tk, te, hgo, hl6, hte⟩ : ∃ tl tk te, goN (letH t rs a) (fun u v => (c u v : Int)) 7 (i : Int) [] 0 = (tl, tk, te) ∧ tl.length ≤ 6 ∧ (te = -1 ∨ (te = lookL rs a ∧ 0 ≤ te)) := by
        rcases trip_any AA.out OW.out a hi with ⟨_, q⟩ | ⟨z, tl, e, hz, hq, tr, q⟩
        · exact ⟨_, _, _, q, by simp, .inl rfl⟩
        · refine ⟨_, _, _, q, tr.len, ?_⟩
          by_cases ez : e = z
          · rw [if_pos ez]; exact .inr ⟨hq.symm, by omega⟩
          · rw [if_neg ez]; exact .inl rfl
      have HGx := hide (fun (V : World) (g : Gr wr V) => (W3.out.gr (GR.out.trans g)).go (PQ.out.gr (G3.out.trans (GR.out.trans g))) AA.out OW.out (i : Int) a hgo)
      have HGy := hide (fun (V : World) (g : Gr wr V) => (Q3.out.gr (GR.out.trans g)).go (PQ.out.gr (G3.out.trans (GR.out.trans g))) AA.out OW.out (i : Int) a hgo)
      have HOO : Hid (∀ V, Gr wr V → Calls Tryz.prog 12 #[pv P, iv a] V fun e w' => e = .returned (iv (lookL rs a)) ∧ Gr V w') := fun V g => (PQ.out.gr (G3.out.trans (GR.out.trans g))).owner a
      clear hgo
      go_upto_region 11 with (first
        | (go_at_call 29; (with_reducible refine (HGx.out wr (Gr.refl wr)).mono ?_); rintro e V4 ⟨ao4, cp4, rfl, n4', g4'⟩; have N4 := hide n4'.1; have G4 := hide g4'; clear n4' g4')
        | (go_at_call 29; (with_reducible refine (HGy.out _ G4.out).mono ?_); rintro e V5 ⟨ao5, cp5, rfl, n5', g5'⟩; have N5 := hide n5'.1; have M5 := hide (N4.out.gr g5'); have G5 := hide (G4.out.trans g5'); clear n5' g5')
        | fail)
      obtain ⟨W, hW⟩ : ∃ W, W = (V5.alloc (.cells #[.slice ao4 tl.length cp4, iv tk, iv te] 60)).alloc (.cells #[.slice ao5 tl.length cp5, iv tk, iv te] 60) := ⟨_, rfl⟩
      have gW : Gr V5 W := by rw [hW]; exact ((Gr.refl _).alloc _).alloc _
      have hA : W.heap[V5.heap.size]? = some (.cells #[.slice ao4 tl.length cp4, iv tk, iv te] 60 (0, 0)) := by
        have h0 := heap_alloc_new V5 (.cells #[.slice ao4 tl.length cp4, iv tk, iv te] 60)
        rw [hW]
        exact (Below.block ((Gr.refl _).alloc _) _ (lt_of_block h0)).trans h0
      have hB : W.heap[V5.heap.size + 1]? = some (.cells #[.slice ao5 tl.length cp5, iv tk, iv te] 60 (0, 0)) := by
        have h0 := heap_alloc_new (V5.alloc (.cells #[.slice ao4 tl.length cp4, iv tk, iv te] 60)) (.cells #[.slice ao5 tl.length cp5, iv tk, iv te] 60)
        have hs : (V5.alloc (.cells #[.slice ao4 tl.length cp4, iv tk, iv te] 60)).heap.size = V5.heap.size + 1 := by simp
        rw [hs] at h0
        rw [hW]
        exact h0
      refine wp_gen (fun V => Hid ((V.cell? ⟨V5.heap.size, 0, none⟩ = some (.slice ao4 tl.length cp4) ∧ V.cell? ⟨V5.heap.size, 1, none⟩ = some (iv tk) ∧ V.cell? ⟨V5.heap.size, 2, none⟩ = some (iv te)) ∧ (V.cell? ⟨V5.heap.size + 1, 0, none⟩ = some (.slice ao5 tl.length cp5) ∧ V.cell? ⟨V5.heap.size + 1, 1, none⟩ = some (iv tk) ∧ V.cell? ⟨V5.heap.size + 1, 2, none⟩ = some (iv te)) ∧ V5.heap.size + 1 < V.heap.size) ∧ Hid (NmAt V ao4 tl ∧ NmAt V ao5 tl) ∧ Hid (Gr wr V)) (by rw [← hW]; exact ⟨⟨three_cells hA, three_cells hB, lt_of_block hB⟩, ⟨M5.out.gr gW, N5.out.gr gW⟩, G5.out.trans gW⟩) ?_
      clear hA hB hW gW N4 N5 M5 G4 G5 HGx HGy
      generalize V5.heap.size = Y at *
      rintro V ⟨CE, NV, GV⟩
      obtain ⟨⟨a0, a1, a2⟩, ⟨b0, b1, b2⟩, hY1⟩ := CE.out
      have hY0 : Y < V.heap.size := by omega
      have HSI : Hid (∀ d : Ext V, Calls Tryz.prog 31 #[.slice ao4 tl.length cp4, .slice ao5 tl.length cp5] d.out fun e w' => e = .returned (.bool true) ∧ ∃ m : Ext V, w' = m.out) := fun d =>
        (sameInts_eq d.out ao4 ao5 tl.length cp4 cp5 tl (NV.out.1.gr d.gr).num (NV.out.2.gr d.gr).num rfl (by omega)).mono fun _ _ ⟨he, g⟩ => ⟨he, ext_mk (d.gr.trans g)⟩
      have HOE : Hid (∀ d : Ext V, Calls Tryz.prog 12 #[pv P, iv a] d.out fun e w' => e = .returned (iv (lookL rs a)) ∧ ∃ m : Ext V, w' = m.out) := fun d =>
        (HOO.out d.out (GV.out.trans d.gr)).mono fun _ _ ⟨he, g⟩ => ⟨he, ext_mk (d.gr.trans g)⟩
      have e6 : decide ((6 : Int) < (tl.length : Int)) = false := decide_eq_false (by omega)
      have e6' : ¬ (6 : Int) < (tl.length : Int) := by omega
      have ett : (te == te) = true := by simp
      have ekk : (tk == tk) = true := by simp
      clear CE NV HOO
      rcases hte with q | ⟨q, q0⟩
      · subst q
        refine wp_region_ext (by kernel_rfl) (by kernel_rfl) ?_
        repeat (go_big_quiet_step (first | (go_at_call 12; with_reducible exact HOE.out _) | (go_at_call 31; with_reducible exact HSI.out _)))
        refine wpQuiet_nil ?_
        rintro _ ⟨d7, rfl⟩
        go_wp2_with fail
        go_roundw
        case rel => exact ⟨i + 1, by omega, by congr 1, GR.out.trans (GV.out.trans d7.gr)⟩
        case measure => simp [intOf]; omega
      · rw [← q] at HOE
        clear q
        have n1 : (te == -1) = false := by simp; omega
        have n2 : (te == -2) = false := by simp; omega
        have n3 : te ≠ -1 := by omega
        have n5 : (te != -1) = true := by simpa using n3
        have n4 : te ≠ -2 := by omega
        refine wp_region_ext (by kernel_rfl) (by kernel_rfl) ?_
        repeat (go_big_quiet_step (first | (go_at_call 12; with_reducible exact HOE.out _) | (go_at_call 31; with_reducible exact HSI.out _)))
        refine wpQuiet_nil ?_
        rintro _ ⟨d7, rfl⟩
        go_wp2_with fail
        go_roundw
        case rel => exact ⟨i + 1, by omega, by congr 1, GR.out.trans (GV.out.trans d7.gr)⟩
        case measure => simp [intOf]; omega
    · have hii : decide ((i : Int) < 6) = false := decide_eq_false (by omega)
      go_wp2_with fail
      go_ret
      exact ⟨rfl, GW.out.trans (G3.out.trans GR.out)⟩

end Go.Proofs.YtcgflhjgllpohafGreatDoor
