/- handpostlaw.WalkLinks ANSWERS true. -/
import Derived.Test.YtcgflhjgllpohagGreatDoorLWkDoes
namespace Go.Proofs.YtcgflhjgllpohagGreatDoor
open Go.RowKit
attribute [local go_sem] Ext.all Ext.cell Ext.frozen Ext.lt Ext.lt1 Ext.lt2 Ext.ne Ext.ne'
/-- All that the law asks of a trip. -/
structure TripF (h : Nat → Int) (c : Nat → Nat → Nat) (x : Nat) (l : List Nat) (k e : Int) : Prop where
  go : goN h (fun u v => (c u v : Int)) 7 (x : Int) [] 0 = (l, k, e)
  pos : 0 < l.length
  len : l.length ≤ 6
  first : ∀ (hl : 0 < l.length), l[0] = x
  lt : ∀ y ∈ l, y < 6
  link : ∀ j (hj : j + 1 < l.length), c l[j] l[j + 1] ≠ 0
  cost : k = (sumC c l (l.length - 1) : Nat)
  part : ∀ j (hj : j < l.length), ∃ k', goN h (fun u v => (c u v : Int)) 7 (l[j] : Int) [] 0 = (l.drop j, k', e)
theorem tripF_any {t : Tn} {c : Nat → Nat → Nat} (H : TnA t c) {rs : List Rt} (ho : Ows rs) (a : Int) {x : Nat} (hx : x < 6) : ∃ l k e, TripF (letH t rs a) c x l k e := by
  rcases trip_any H ho a hx with ⟨_, q⟩ | ⟨z, l, e, hz, hq, tr, q⟩
  · refine ⟨[x], 0, -1, q, by simp, by simp, fun _ => rfl, fun y hy => by rw [List.mem_singleton.1 hy]; exact hx, fun j hj => by simp at hj, by simp [sumC], fun j hj => ?_⟩
    have : j = 0 := by simpa using hj
    subst this
    exact ⟨0, q⟩
  · refine ⟨l, _, _, q, tr.pos, tr.len, ?_, tr.lt, fun j hj => ?_, rfl, fun j hj => ?_⟩
    · intro hl
      have := tr.ch.drop 0 hl
      rw [List.drop_zero] at this
      clear q
      have hch := tr.ch
      clear tr this
      induction hch with
      | one => rfl
      | @snoc l x' y h1 h2 ih => rw [List.getElem_append_left h1.pos]; exact ih h1.pos
    · have := (tr.ch.step j hj).1
      rw [H.s.tc.cst _ _ (tr.lt _ (List.getElem_mem _)) (tr.lt _ (List.getElem_mem _))] at this
      omega
    · have tp := tr.part hj
      exact ⟨_, (goN_congr (g := hopT t z) (fun y hy => let_own ho hz hq hy) _ _ _ _).trans (tp.go H hz)⟩
/-- The part of a list from its j-th on, as a slice. -/
theorem NmAt.tail {w : World} {b o : Nat} {l : List Nat} (h : NmAt w (some ⟨b, o, none⟩) l) (j : Nat) : NmAt w (some ⟨b, o + j, none⟩) (l.drop j) := by
  rcases h with h | ⟨b', o', e, hb, hc⟩
  · rw [h]; exact .inl (by simp)
  · cases e
    refine .inr ⟨b, o + j, rfl, hb, fun i hi => ?_⟩
    rw [List.length_drop] at hi
    have := hc (j + i) (by omega)
    rw [List.getElem_drop]
    rw [show o + j + i = o + (j + i) by omega]
    exact this
set_option maxRecDepth 20000 in
set_option maxHeartbeats 16000000 in
theorem walkLinks_any (w : World) (h64 : Tab64 w) (ao : Option Addr) (n cp : Nat) (l : List Sx) (fr a : Int) (H : SpAt w ao l) (hn : l.length = n) :
    Calls Tryz.prog 5 #[.slice ao n cp, iv fr, iv a] w fun e w' => e = .returned (.bool true) ∧ Gr w w' := by
  have HS := hide (fun (X : World) (g : Gr w X) => H.gr g)
  have HNL := hide hn
  have HB := hide (walkBegun_ok w h64)
  have H64 := hide h64
  clear H hn h64
  go_enter Tryz.func5, Tryz.ntmps5
  go_upto_region 3 with (go_at_call 6; with_reducible refine HB.out.mono ?_; rintro e V0 ⟨rfl, g0'⟩; have G0 := hide g0'; clear g0')
  by_cases h150 : 150 < n
  · have gd : decide ((150 : Int) < (n : Int)) = true := decide_eq_true (by omega)
    go_wp2_with fail
    go_ret
    exact ⟨rfl, G0.out⟩
  have gd : decide ((150 : Int) < (n : Int)) = false := decide_eq_false (by omega)
  have HPO := hide (posts_any V0 ao n cp l (HS.out _ G0.out) HNL.out (by omega))
  go_upto_region 6 with (go_at_call 8; with_reducible refine HPO.out.mono ?_; rintro e V1 ⟨P, T, c, t, rs, rfl, h1'⟩; have H1 := hide h1'; clear h1')
  clear HPO HS
  obtain ⟨SP, ST, hpq, _, _⟩ := H1.out
  have AA := hide H1.out.a
  have OW := hide H1.out.ows
  have GW := hide (G0.out.trans H1.out.grw)
  have PQ := hide hpq
  have HN := hide (walkNew_any hpq (H64.out.gr GW.out) true)
  clear hpq H1
  go_upto_region 7 with (go_at_call 10; with_reducible refine HN.out.mono ?_; rintro e V2 ⟨X, SW, rfl, w2', g2', _⟩; have W2 := hide w2'; have G2 := hide g2'; clear w2' g2')
  clear HN
  by_cases hfr : isN fr
  · have B1 : Hid (decide (0 ≤ fr ∧ fr < 6) = true) := decide_eq_true hfr
    obtain ⟨x, rfl⟩ : ∃ x : Nat, fr = (x : Int) := ⟨fr.toNat, by have := hfr.1; omega⟩
    have hx : x < 6 := by have := hfr.2; omega
    obtain ⟨tl, tk, te, TF'⟩ := tripF_any AA.out OW.out a hx
    have TF := hide TF'
    have HG := hide (W2.out.go (PQ.out.gr G2.out) AA.out OW.out (x : Int) a TF'.go)
    have hpos := TF'.pos
    have hl6 := TF'.len
    clear TF' hfr
    go_upto_region 8 with (go_at_call 11; refine HG.out.mono ?_; rintro e V3 ⟨ao3, cp3, rfl, n3', g3'⟩; have N3 := hide n3'; have G3 := hide (G2.out.trans g3'); have W3 := hide (W2.out.gr g3'); clear n3' g3')
    have hbt := box_trip V3 (.slice ao3 tl.length cp3) (iv tk) (iv te) 36
    have g4 : Gr V3 (V3.alloc (.cells #[.slice ao3 tl.length cp3, iv tk, iv te] 36)) := (Gr.refl _).alloc _
    refine wp_gen (fun D => Hid (Gr V1 D) ∧ Hid (Wq D X P SW (tabL t rs true)) ∧ Hid (NmAt D ao3 tl) ∧ Hid ((D.cell? ⟨V3.heap.size, 0, none⟩ = some (.slice ao3 tl.length cp3) ∧ D.cell? ⟨V3.heap.size, 1, none⟩ = some (iv tk) ∧ D.cell? ⟨V3.heap.size, 2, none⟩ = some (iv te)) ∧ V3.heap.size < D.heap.size)) ⟨G3.out.trans g4, W3.out.gr g4, N3.out.1.gr g4, hbt⟩ ?_
    have hcp : tl.length ≤ cp3 := N3.out.2.2
    clear hbt g4 W2 W3 N3 G2 G3 HG
    generalize V3.heap.size = Y at *
    rintro D ⟨GD, WD, ND, BD⟩
    rcases ND.out with hnil | ⟨lb, lo, hao, hlb, hlc⟩
    · exfalso; rw [hnil] at hpos; simp at hpos
    subst hao
    have HCE : Hid (∀ V, Gr D V → (V.cell? ⟨Y, 0, none⟩ = some (.slice (some ⟨lb, lo, none⟩) tl.length cp3) ∧ V.cell? ⟨Y, 1, none⟩ = some (iv tk) ∧ V.cell? ⟨Y, 2, none⟩ = some (iv te)) ∧ Y < V.heap.size ∧ lb < V.heap.size) := fun V g => ⟨⟨(Below.cell g (p := ⟨Y, 0, none⟩) BD.out.2).trans BD.out.1.1, (Below.cell g (p := ⟨Y, 1, none⟩) BD.out.2).trans BD.out.1.2.1, (Below.cell g (p := ⟨Y, 2, none⟩) BD.out.2).trans BD.out.1.2.2⟩, Nat.lt_of_lt_of_le BD.out.2 (Below.size g), Nat.lt_of_lt_of_le hlb (Below.size g)⟩
    have HLC : Hid (∀ V j (hj : j < tl.length), Gr D V → V.cell? ⟨lb, lo + j, none⟩ = some (iv (tl[j] : Int))) := fun V j hj g => (Below.cell g (p := ⟨lb, lo + j, none⟩) hlb).trans (hlc j hj)
    obtain ⟨p, k0, hPw, hpw, hkw, q0, q1, HKL⟩ := (PQ.out.gr GD.out).links
    have HCO : Hid (∀ (V : World), Gr D V → (V.cell? ⟨P, 0, none⟩ = some (pv p) ∧ V.cell? ⟨p, 0, none⟩ = some (pv k0) ∧ P < V.heap.size ∧ p < V.heap.size)) := fun V g =>
      ⟨(Below.cell g (p := ⟨P, 0, none⟩) hPw).trans q0, (Below.cell g (p := ⟨p, 0, none⟩) hpw).trans q1, Nat.lt_of_lt_of_le hPw (Below.size g), Nat.lt_of_lt_of_le hpw (Below.size g)⟩
    have HCK : Hid (∀ (V : World) (u v : Nat), Gr D V → u < 6 → v < 6 → Calls Tryz.prog 16 #[pv k0, iv (u : Int), iv (v : Int)] V fun e w' => e = .returned (iv (c u v : Int)) ∧ w' = V) := fun V u v g hu hv => cost_nat (HKL V g) AA.out.s.tc.lk hu hv
    obtain ⟨⟨a0, a1, a2⟩, hY, hlbD⟩ := HCE.out D (Gr.refl D)
    have GWD := hide (GW.out.trans GD.out)
    clear hlc q0 q1 HKL hPw hpw hkw BD ND
    go_wp2_with (go_at_call 7; with_reducible refine (isNode_is B1.out _).mono ?_; rintro e w1 ⟨rfl, hw1⟩; have hw2 := hw1.symm; clear hw1; subst hw2)
    have hlI : (tl.length : Int) ≤ 6 := by omega
    go_loopw [12, 13, 14] (fun v12 v13 _ wr => ∃ i j : Nat, j ≤ tl.length ∧ v12 = .int .i64 ((sumC c tl i : Nat) : Int) ∧ v13 = .int .i64 (j : Int) ∧ Hid (j = i + 1 ∧ sumC c tl i ≤ 15 * i) ∧ Hid (Gr D wr)) (fun _ v13 _ _ => (tl.length - intOf v13).toNat)
    case atStart => exact ⟨0, 1, hpos, rfl, rfl, ⟨rfl, Nat.le_refl _⟩, Gr.refl _⟩
    case round =>
      obtain ⟨i, j, hjl, rfl, rfl, HJ, GR⟩ := hrel
      obtain ⟨⟨x0, x1, x2⟩, hYr, hlbr⟩ := HCE.out wr GR.out
      by_cases hj : j < tl.length
      · have hii : decide ((j : Int) < (tl.length : Int)) = true := decide_eq_true (by omega)
        have hj0 : (j : Int) < (tl.length : Int) := by omega
        have hij : i < tl.length := by have := HJ.out.1; omega
        have wj : IntKind.i64.wrap ((j : Int) - 1) = (i : Int) := by have := HJ.out.1; rw [IntKind.wrap_i64]; omega
        have wj2 : IntKind.i64.wrap ((j : Int) + 1) = (j : Int) + 1 := by rw [IntKind.wrap_i64]; omega
        have hi0 : (i : Int) < (tl.length : Int) := by omega
        have y1 := HLC.out wr i hij GR.out
        have y2 := HLC.out wr j hj GR.out
        obtain ⟨q0, q1, q2, q3⟩ := HCO.out wr GR.out
        have hu : tl[i] < 6 := TF.out.lt _ (List.getElem_mem _)
        have hv : tl[j] < 6 := TF.out.lt _ (List.getElem_mem _)
        have HL0 : Hid (c tl[i] tl[j] ≠ 0 ∧ sumC c tl j = sumC c tl i + c tl[i] tl[j] ∧ c tl[i] tl[j] ≤ 15) := by
          obtain ⟨h1, _⟩ := HJ.out
          subst h1
          refine ⟨TF.out.link i hj, ?_, AA.out.s.tc.lk.le _ _⟩
          rw [sumC, dif_pos hj]
        have HCX : Hid (∀ d : Ext wr, Calls Tryz.prog 16 #[pv k0, iv (tl[i] : Int), iv (tl[j] : Int)] d.out fun e w' => e = .returned (iv (c tl[i] tl[j] : Int)) ∧ ∃ m : Ext wr, w' = m.out) := fun d => (HCK.out d.out tl[i] tl[j] (GR.out.trans d.gr) hu hv).mono fun _ _ ⟨he, hw⟩ => ⟨he, d, hw⟩
        clear hu hv
        generalize tl[i] = u at *
        generalize tl[j] = v at *
        generalize hcuv : c u v = cuv at *
        clear hcuv
        have hc0 : ((cuv : Int) == 0) = false := by have := HL0.out.1; simp; omega
        have hc1 : (cuv : Int) ≠ 0 := by have := HL0.out.1; omega
        have hc2 : ¬ cuv = 0 := by have := HL0.out.1; omega
        have wsum : IntKind.i64.wrap (((sumC c tl i : Nat) : Int) + (cuv : Int)) = ((sumC c tl i : Nat) : Int) + (cuv : Int) := by have := HL0.out.2.2; have := HJ.out.2; rw [IntKind.wrap_i64]; omega
        go_upto_region 14 with (fail)
        refine wp_region_ext (by kernel_rfl) (by kernel_rfl) ?_
        repeat (go_big_quiet_step (first | (go_at_call 16; with_reducible exact HCX.out _) | fail))
        refine wpQuiet_nil ?_
        rintro _ ⟨d7, rfl⟩
        go_wp2_with fail
        go_roundw
        case rel => exact ⟨j, j + 1, by omega, by rw [HL0.out.2.1]; congr 1, by congr 1, ⟨rfl, by have := HL0.out.2; have := HJ.out; omega⟩, GR.out.trans d7.gr⟩
        case measure => simp [intOf]; omega
      · have hii : decide ((j : Int) < (tl.length : Int)) = false := decide_eq_false (by omega)
        have hjj : ¬ j < tl.length := hj
        have HTK : Hid (((sumC c tl i : Nat) : Int) = tk) := by
          have := HJ.out.1
          rw [TF.out.cost, show tl.length - 1 = i by omega]
          rfl
        have y0 := HLC.out wr 0 hpos GR.out
        rw [TF.out.first hpos, Nat.add_zero] at y0
        rw [HTK.out]
        have el1 : (tl.length : Int) ≠ 0 := by omega
        have el : ((tl.length : Int) == 0) = false := beq_eq_false_iff_ne.2 el1
        have el3 : ¬ tl = [] := fun e => by rw [e] at hpos; simp at hpos
        have el2 : ¬ tl.length = 0 := by omega
        have ekk : (tk == tk) = true := by simp
        have exx : ((x : Int) == (x : Int)) = true := by simp
        have hpI : (0 : Int) < (tl.length : Int) := by omega
        clear HTK HJ HCO HCK
        go_wp2_with fail
        refine wp_gen (fun V => Hid (Gr D V)) GR.out ?_
        clear x0 x1 x2 hYr hlbr y0 GR
        clear wr
        rintro V GV
        go_loopw [15, 16] (fun v15 _ w2 => ∃ k : Nat, k ≤ tl.length ∧ v15 = .int .i64 (k : Int) ∧ Hid (Gr D w2)) (fun v15 _ _ => (tl.length - intOf v15).toNat)
        case atStart => exact ⟨0, by omega, rfl, GV⟩
        case round =>
          clear GV
          obtain ⟨k, hkl, rfl, GR2⟩ := hrel
          obtain ⟨⟨x0, x1, x2⟩, hYr, hlbr⟩ := HCE.out wr GR2.out
          by_cases hk : k < tl.length
          · have hki : decide ((k : Int) < (tl.length : Int)) = true := decide_eq_true (by omega)
            have hk0 : (k : Int) < (tl.length : Int) := by omega
            have wk : IntKind.i64.wrap ((k : Int) + 1) = (k : Int) + 1 := by rw [IntKind.wrap_i64]; omega
            have y2 := HLC.out wr k hk GR2.out
            obtain ⟨kk, hgo⟩ := TF.out.part k hk
            have HG2 : Hid (Calls Tryz.prog 11 #[pv X, iv (tl[k] : Int), iv a] wr fun e w' => ∃ ao6 cp6, e = .returned (.agg #[.slice ao6 (tl.length - k) cp6, iv kk, iv te]) ∧ NmAt w' ao6 (tl.drop k) ∧ Gr wr w') := ((WD.out.gr GR2.out).go ((PQ.out.gr GD.out).gr GR2.out) AA.out OW.out (tl[k] : Int) a hgo).mono fun e w' ⟨ao6, cp6, he, hn, hg⟩ => ⟨ao6, cp6, by rw [he, List.length_drop], hn.1, hg⟩
            clear hgo
            generalize tl[k] = u at *
            go_upto_region 24 with (go_at_call 11; (with_reducible refine HG2.out.mono ?_); rintro e V6 ⟨ao6, cp6, rfl, n6', g6'⟩; have N6 := hide n6'; have G6 := hide g6'; clear n6' g6')
            have hbt := box_trip V6 (.slice ao6 (tl.length - k) cp6) (iv kk) (iv te) 36
            have g7 : Gr V6 (V6.alloc (.cells #[.slice ao6 (tl.length - k) cp6, iv kk, iv te] 36)) := (Gr.refl _).alloc _
            refine wp_gen (fun V => Hid ((V.cell? ⟨V6.heap.size, 0, none⟩ = some (.slice ao6 (tl.length - k) cp6) ∧ V.cell? ⟨V6.heap.size, 1, none⟩ = some (iv kk) ∧ V.cell? ⟨V6.heap.size, 2, none⟩ = some (iv te)) ∧ V6.heap.size < V.heap.size) ∧ Hid (NmAt V ao6 (tl.drop k)) ∧ Hid (Gr D V)) ⟨hbt, N6.out.gr g7, GR2.out.trans (G6.out.trans g7)⟩ ?_
            clear hbt g7 N6 G6 HG2 x0 x1 x2 hYr hlbr y2
            generalize V6.heap.size = Z at *
            rintro V ⟨CE, NV, GV⟩
            obtain ⟨⟨b0, b1, b2⟩, hZ⟩ := CE.out
            obtain ⟨⟨x0, x1, x2⟩, hYr, hlbr⟩ := HCE.out V GV.out
            have NL : Hid (NmAt V (some ⟨lb, lo, none⟩) tl) := .inr ⟨lb, lo, rfl, hlbr, fun j hj => HLC.out V j hj GV.out⟩
            have HSI : Hid (∀ d : Ext V, Calls Tryz.prog 15 #[.slice ao6 (tl.length - k) cp6, .slice (some ⟨lb, lo + k, none⟩) (tl.length - k) (cp3 - k)] d.out fun e w' => e = .returned (.bool true) ∧ ∃ m : Ext V, w' = m.out) := fun d =>
              (sameInts_eq d.out ao6 _ (tl.length - k) cp6 (cp3 - k) (tl.drop k) (NV.out.gr d.gr).num ((NL.out.gr d.gr).tail k).num List.length_drop (by omega)).mono fun _ _ ⟨he, g⟩ => ⟨he, ext_mk (d.gr.trans g)⟩
            have ett : (te == te) = true := by simp
            have hck : ¬ cp3 = k := by omega
            have hk1 : (k : Int) ≤ (tl.length : Int) := by omega
            have hk2 : (tl.length : Int) ≤ (cp3 : Int) := by omega
            have hk3 : (k : Int) ≤ (cp3 : Int) := by omega
            clear CE NL NV
            refine wp_region_ext (by kernel_rfl) (by kernel_rfl) ?_
            repeat (go_big_quiet_step (first | (go_at_call 15; with_reducible exact HSI.out _) | fail))
            refine wpQuiet_nil ?_
            rintro _ ⟨d7, rfl⟩
            go_wp2_with fail
            go_roundw
            case rel => exact ⟨k + 1, by omega, by congr 1, GV.out.trans d7.gr⟩
            case measure => simp [intOf]; omega
          · have hki : decide ((k : Int) < (tl.length : Int)) = false := decide_eq_false (by omega)
            go_wp2_with fail
            go_ret
            exact ⟨rfl, GWD.out.trans GR2.out⟩
  · have B1 : Hid (decide (0 ≤ fr ∧ fr < 6) = false) := decide_eq_false hfr
    have HG := hide (W2.out.go (PQ.out.gr G2.out) AA.out OW.out fr a (go_out _ _ hfr))
    clear hfr
    go_upto_region 8 with (go_at_call 11; refine HG.out.mono ?_; rintro e V3 ⟨ao3, cp3, rfl, _, g3'⟩; have G3 := hide (G2.out.trans g3'); clear g3')
    have hbt := box_trip V3 (.slice ao3 ([] : List Nat).length cp3) (iv 0) (iv (-1)) 36
    refine wp_gen (fun D => Hid (Gr V1 D) ∧ Hid ((D.cell? ⟨V3.heap.size, 0, none⟩ = some (.slice ao3 0 cp3) ∧ D.cell? ⟨V3.heap.size, 1, none⟩ = some (iv 0) ∧ D.cell? ⟨V3.heap.size, 2, none⟩ = some (iv (-1))) ∧ V3.heap.size < D.heap.size)) ⟨G3.out.alloc _, hbt⟩ ?_
    clear hbt W2 G2 G3 HG
    generalize V3.heap.size = Y at *
    rintro D ⟨GD, BD⟩
    obtain ⟨⟨a0, a1, a2⟩, hY⟩ := BD.out
    go_wp2_with (go_at_call 7; with_reducible refine (isNode_is B1.out _).mono ?_; rintro e w1 ⟨rfl, hw1⟩; have hw2 := hw1.symm; clear hw1; subst hw2)
    go_ret
    exact ⟨rfl, GW.out.trans GD.out⟩

end Go.Proofs.YtcgflhjgllpohagGreatDoor
