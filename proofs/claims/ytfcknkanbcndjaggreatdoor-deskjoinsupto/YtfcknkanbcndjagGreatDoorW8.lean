import Derived.Test.YtfcknkanbcndjagGreatDoorW5
import Derived.Test.YtfcknkanbcndjagGreatDoorE1
import Derived.Test.YtfcknkanbcndjagGreatDoorLPlain2
/- CONTRACT OF handpostref.LeastOf: the routes of as few as can be, in new memory. -/
namespace Go.Proofs.YtfcknkanbcndjagGreatDoor
open Go.RowKit
attribute [local go_sem] Ext.all Ext.cell Ext.frozen Ext.lt Ext.lt1 Ext.lt2 Ext.ne Ext.ne'
theorem wishes_any {w : World} {f : Nat → Int} (hf : ∀ j, f j ∈ hopsR) {g : Nat} : ∀ (k o c : Nat), k ≤ 8 → Nums w g o (2 ^ k) f → 2 ^ k ≤ c → c ≤ 1000 → ∀ wX, Gr w wX →
    Calls Tryz.prog 175 #[.slice (some ⟨g, o, none⟩) (2 ^ k : Nat) c] wX fun e w' => e = .returned (.agg (bcells (wg (wish f k o)))) ∧ Gr wX w'
  | 0, o, c, _, H, _, _, wX, gX => wishes_leaf f hf g 0 o (2 ^ 0) c wX rfl (by decide) (H.gr gX) (alk_one f o)
  | k + 1, o, c, hk, H, hc, hcm, wX, gX => by
    have h2 : 2 ^ k ≤ 128 := Nat.le_trans (Nat.pow_le_pow_right (by decide) (show k ≤ 7 by omega)) (by decide)
    have h0 : 0 < 2 ^ k := Nat.two_pow_pos k
    have e : 2 ^ (k + 1) = 2 ^ k + 2 ^ k := by rw [Nat.pow_succ]; omega
    by_cases ha : Alk f o (2 ^ (k + 1))
    · exact wishes_leaf f hf g (k + 1) o (2 ^ (k + 1)) c wX rfl (by omega) (H.gr gX) ha
    · have hG : ∀ j, j < 7 → wg (wish f (k + 1) o) j = if anyG (wg (wish f k o)) (wg (wish f k (o + 2 ^ k))) 7 = true then wg (wish f k o) j && wg (wish f k (o + 2 ^ k)) j else wg (wish f k o) j || wg (wish f k (o + 2 ^ k)) j := fun j _ => by
        rw [any_both]
        unfold wg
        rw [wish_not ha, comb]
      rw [e] at H hc ha ⊢
      have H1 := fun wY (gY : Gr wX wY) => wishes_any hf k o c (by omega) (H.low (by omega)) (by omega) hcm wY (gX.trans gY)
      have H2 := fun wY (gY : Gr wX wY) => wishes_any hf k (o + 2 ^ k) (c - 2 ^ k) (by omega) (H.high (by omega)) (by omega) (by omega) wY (gX.trans gY)
      exact wishes_node _ _ _ f g o (2 ^ k) c wX h2 h0 hc hcm (H.gr gX) ha hG H1 H2

/-- Behind the loop down from the greatest hop. -/
def downG (W : Int → Bool) (h : Int) : Nat → Int
  | 0 => h
  | s + 1 => if W (5 - (s : Int)) then 5 - (s : Int) else downG W h s
theorem down_low (W : Int → Bool) (h : Int) : downG W h 7 = lowW W h := by
  simp only [downG, lowW, hopsR]
  simp only [List.find?]
  have e : ((5 : Int) - ((6 : Nat) : Int)) = -1 := by omega
  have e1 : ((5 : Int) - ((5 : Nat) : Int)) = 0 := by omega
  have e2 : ((5 : Int) - ((4 : Nat) : Int)) = 1 := by omega
  have e3 : ((5 : Int) - ((3 : Nat) : Int)) = 2 := by omega
  have e4 : ((5 : Int) - ((2 : Nat) : Int)) = 3 := by omega
  have e5 : ((5 : Int) - ((1 : Nat) : Int)) = 4 := by omega
  have e6 : ((5 : Int) - ((0 : Nat) : Int)) = 5 := by omega
  simp only [e, e1, e2, e3, e4, e5, e6]
  cases W (-1) <;> cases W 0 <;> cases W 1 <;> cases W 2 <;> cases W 3 <;> cases W 4 <;> cases W 5 <;> rfl

/-- 'append(l, x...)' where x may be empty. -/
theorem run_app' {B w : World} {v : Value} {rs xs : List Rt} {M : Nat → Prop} {ao : Option Addr} {c : Nat} (ty : TypeId) (hO : Own B w v rs) (g : Gr B w) (H : RowAt w M ao xs) (hm : rs.length + xs.length ≤ 2000) :
    ∃ v' w', (Builtin.append_ #[108, 108] ty #[v, .slice ao xs.length c]).run Tryz.prog w = .ok v' w' ∧ Own B w' v' (rs ++ xs) ∧ Gr B w' := by
  by_cases h0 : 0 < xs.length
  · exact run_app ty hO g H rfl h0 hm
  · have e : xs = [] := List.eq_nil_of_length_eq_zero (by omega)
    subst e
    obtain ⟨i0, hi, hz0, hz1, hz2⟩ := info_parts Tryz.info133
    refine ⟨v, w, ?_, by rw [List.append_nil]; exact hO, g⟩
    rcases hO.2 with ⟨rfl, hn⟩ | ⟨g', cap, cur, rfl, hb, hgg, hle, rest⟩
    · cases ao <;> simp [Builtin.append_, run_underlying Tryz.underlying108, sizeOf, typeInfo, hi, Builtin.lenOf, Builtin.firstCells, loadCells, loadCellsFrom]
    · cases ao <;> simp [Builtin.append_, run_underlying Tryz.underlying108, sizeOf, typeInfo, hi, Builtin.lenOf, Builtin.firstCells, hle, loadCells, loadCellsFrom, storeCells]

end Go.Proofs.YtfcknkanbcndjagGreatDoor

/- CONTRACT OF handpostref.LeastOf: one part, by its halves. -/
namespace Go.Proofs.YtfcknkanbcndjagGreatDoor
open Go.RowKit
attribute [local go_sem] Ext.all Ext.cell Ext.frozen Ext.lt Ext.lt1 Ext.lt2 Ext.ne Ext.ne'
set_option maxRecDepth 20000 in
set_option maxHeartbeats 4000000 in
theorem least_step (f : Nat → Int) (g : Nat) (l b : Int) (o n c : Nat) (h : Int) (w : World) (V : Int → Bool) (A Z R here : List Rt)
    (hh0 : -1 ≤ h) (hh6 : h < 6) (hl0 : 0 ≤ l) (hl8 : l ≤ 8) (hb0 : 0 ≤ b) (hb8 : b ≤ 256) (h0 : 0 < n) (hn : n ≤ 256) (hc : n ≤ c) (_hcm : c ≤ 1000) (hA : A.length ≤ 300) (hZ : Z.length ≤ 300) (H : Nums w g o n f)
    (HH : Hid (here = if V h then [] else [(l, b, lowW V h)])) (HR1 : Hid (Alk f o n → R = here)) (HR2 : Hid (¬ Alk f o n → R = here ++ (A ++ Z)))
    (HV : Hid (∀ wX, Gr w wX → Calls Tryz.prog 175 #[.slice (some ⟨g, o, none⟩) n c] wX fun e w' => e = .returned (.agg (bcells (wg V))) ∧ Gr wX w'))
    (HE : Hid (¬ Alk f o n → ∃ m, n = m + m ∧ 0 < m ∧ (∀ wX, Gr w wX → Calls Tryz.prog 138 #[pfx (l + 1) (b * 2), .slice (some ⟨g, o, none⟩) m c, iv (nxt V h)] wX fun e w' => ∃ v, e = .returned v ∧ Own wX w' v A ∧ Gr wX w')
      ∧ (∀ wX, Gr w wX → Calls Tryz.prog 138 #[pfx (l + 1) (b * 2 + 1), .slice (some ⟨g, o + m, none⟩) m (c - m), iv (nxt V h)] wX fun e w' => ∃ v, e = .returned v ∧ Own wX w' v Z ∧ Gr wX w'))) :
    Calls Tryz.prog 138 #[pfx l b, .slice (some ⟨g, o, none⟩) n c, iv h] w fun e w' => ∃ v, e = .returned v ∧ Own w w' v R ∧ Gr w w' := by
  obtain ⟨W, hW, gW, b0, b1, s0⟩ := pbox_gr w l b
  have HVW := hide (HV.out W gW)
  have HK := hide (fun (wX : World) (gX : Gr W wX) => (show wX.cell? ⟨w.heap.size, 0, none⟩ = some (iv l) ∧ wX.cell? ⟨w.heap.size, 1, none⟩ = some (iv b) from ⟨(Below.cell gX (p := ⟨w.heap.size, 0, none⟩) s0).trans b0, (Below.cell gX (p := ⟨w.heap.size, 1, none⟩) s0).trans b1⟩))
  have HS : Hid (∀ wX, Gr W wX → w.heap.size < wX.heap.size) := fun wX gX => Nat.lt_of_lt_of_le s0 (Below.size gX)
  have HN := hide (fun (wX : World) (gX : Gr W wX) => ralike_any wX g o n c f (H.gr (gW.trans gX)) h0 hn)
  obtain ⟨j, hj⟩ : ∃ j : Nat, h + 1 = (j : Int) := ⟨(h + 1).toNat, by omega⟩
  have hj7 : j < 7 := by omega
  have HJ : Hid (wg V j = V h) := by unfold Hid wg; rw [← hj]; congr 1; omega
  have HW := hide hW
  clear hW b0 b1 s0 H HV
  go_enter Tryz.func138, Tryz.ntmps138
  go_upto_region 3 with (first | (go_at_call 175; rw [← HW.out]; refine HVW.out.mono ?_; rintro e w1 ⟨rfl, g1⟩))
  refine wp_gen (fun Y => BArr Y w1.heap.size (wg V) ∧ Gr W Y) ⟨heap_alloc_new w1 _, g1.alloc _⟩ ?_
  rintro X ⟨BX, gX⟩
  generalize w1.heap.size = q at *
  clear HVW HW g1
  have cj := BX.cell hj7
  rw [HJ.out] at cj
  have lq := BX.lt
  have hj0 : (0 : Int) ≤ (j : Int) := by omega
  have hj8 : (j : Int) < 7 := by omega
  go_upto_if 17 with (fail)
  go_cut [2, 7, 9] from 18 to 32 (fun v2 v7 v9 wc => v2 = iv (nxt V h) ∧ Hid (Own W wc v7 here) ∧ Gr W wc)
  case first =>
    clear HE HN HR1 HR2
    have HNX : Hid (nxt V h = if V h then h else lowW V h) := rfl
    generalize V h = t at *
    cases t
    · have HDN := hide (down_low V h)
      have HB := hide BX
      clear cj HJ BX
      go_wp2_with fail
      go_loopw [2, 9] (fun v2 v9 wr => ∃ s : Nat, s ≤ 7 ∧ v9 = .int .i64 (6 - (s : Int)) ∧ v2 = .int .i64 (downG V h s) ∧ wr = X) (fun _ v9 _ => (intOf v9 + 1).toNat)
      case atStart => exact ⟨0, by omega, by simp, rfl, rfl⟩
      case round =>
        obtain ⟨s, hs, rfl, rfl, rfl⟩ := hrel
        by_cases hs7 : s < 7
        · obtain ⟨r, hr⟩ : ∃ r : Nat, 6 - (s : Int) = (r : Int) := ⟨(6 - (s : Int)).toNat, by omega⟩
          have hr7 : r < 7 := by omega
          have cr := HB.out.cell hr7
          have HG : Hid (wg V r = V (5 - (s : Int))) := by unfold Hid wg; congr 1; omega
          have HD2 : Hid (downG V h (s + 1) = if V (5 - (s : Int)) then 5 - (s : Int) else downG V h s) := rfl
          have hr0 : (0 : Int) ≤ (r : Int) := by omega
          have hr8 : (r : Int) < 7 := by omega
          rw [HG.out] at cr
          rw [hr]
          generalize V (5 - (s : Int)) = z at *
          generalize downG V h s = ds at *
          have e5 : (5 : Int) - (s : Int) = (r : Int) - 1 := by omega
          have HE5 := hide e5
          have HR := hide hr
          clear e5 hr HG
          cases z
          · go_wp2_with fail
            go_roundw
            case rel => exact ⟨s + 1, by omega, by congr 1; have := HR.out; omega, by rw [HD2.out]; rfl, by trivial⟩
            case measure => have := HR.out; simp [intOf]; try omega
          · go_wp2_with fail
            go_roundw
            case rel => exact ⟨s + 1, by omega, by congr 1; have := HR.out; omega, by rw [HD2.out, HE5.out]; rfl, by trivial⟩
            case measure => have := HR.out; simp [intOf]; try omega
        · have e7 : s = 7 := by omega
          subst e7
          rw [HDN.out]
          obtain ⟨x0, x1⟩ := HK.out _ gX
          have hw := HS.out _ gX
          obtain ⟨Y, hY⟩ : ∃ Y, Y = wr.alloc (.cells #[iv l, iv b, iv (lowW V h)] 133) := ⟨_, rfl⟩
          have hrow : RowAt Y (fun _ => True) (some ⟨wr.heap.size, 0, none⟩) [(l, b, lowW V h)] := by
            refine .inr ⟨wr.heap.size, 0, rfl, by rw [hY]; simp, trivial, fun i hi => ?_⟩
            have : i = 0 := by simpa using hi
            subst this
            rw [hY]
            refine ⟨?_, ?_, ?_⟩ <;> simp [go_sem]
          have gY : Gr W Y := by rw [hY]; exact gX.alloc _
          obtain ⟨v', w', hrun, hown, hgr⟩ := run_app' (c := 1) 108 (Own.nil W Y) gY hrow (by simp)
          have HR : Hid ((Builtin.append_ #[108, 108] 108 #[.slice none 0 0, .slice (some ⟨wr.heap.size, 0, none⟩) 1 1]).run Tryz.prog (wr.alloc (.cells #[iv l, iv b, iv (lowW V h)] 133)) = .ok v' w') := by
            rw [← hY]; exact hrun
          have HOW : Hid (Own W w' v' [(l, b, lowW V h)]) := hown
          clear hrun hown hY hrow gY
          go_wp2_with (first | (at_builtin; refine Lib.wpList_append_run _ rfl _ _ _ _ rfl _ _ rfl rfl _ _ HR.out ?_))
          go_meet
          case rel => exact ⟨by rw [HNX.out]; rfl, by rw [HH.out]; exact HOW.out, hgr⟩
    · have HO := hide (Own.nil W X)
      go_wp2_with fail
      go_meet
      case rel => exact ⟨by rw [HNX.out]; rfl, by rw [HH.out]; exact HO.out, gX⟩
  case rest =>
    obtain ⟨rfl, HO, gc⟩ := hcut
    clear BX gX cj lq hj0 hj8 hj7 HJ hj
    have hHere : here.length ≤ 1 := by rw [HH.out]; split <;> simp
    have HR := hide (HN.out _ gc)
    clear HH
    by_cases ha : Alk f o n
    · rw [decide_eq_true ha] at HR
      have HAL := hide (HR1.out ha)
      clear ha HE HR1 HR2
      go_wp2_with (first | (go_at_call 176; refine HR.out.mono ?_; rintro e _ ⟨rfl, d1, rfl⟩))
      go_ret
      exact ⟨_, rfl, by rw [HAL.out]; exact (HO.out.gr d1.gr).mono gW, gW.trans (gc.ext d1)⟩
    · obtain ⟨m, rfl, hm0, E1, E2⟩ := HE.out ha
      rw [decide_eq_false ha] at HR
      have HAL := hide (HR2.out ha)
      have H1 := hide (fun (wX : World) (gX : Gr W wX) => E1 wX (gW.trans gX))
      have H2 := hide (fun (wX : World) (gX : Gr W wX) => E2 wX (gW.trans gX))
      clear ha HE E1 E2 HR1 HR2
      have e1 : ((m : Int) + (m : Int)) / 2 = m := by omega
      have hcc : (m : Int) ≤ c := by omega
      have hmm : (m : Int) ≤ (m : Int) + m := by omega
      have hcm' : ¬ c = m := by omega
      have wl := wrap_in (l + 1) (by omega) (by omega)
      have wb := wrap_in (b * 2) (by omega) (by omega)
      have wc' := wrap_in (b * 2 + 1) (by omega) (by omega)
      generalize nxt V h = hx at *
      go_upto_region 13 with (first
        | (go_at_call 176; refine HR.out.mono ?_; rintro e _ ⟨rfl, d1, rfl⟩))
      refine wp_gen (fun X => Gr W X ∧ Own W X u7 here) ⟨gc.ext d1, HO.out.gr d1.gr⟩ ?_
      rintro X ⟨gX, oX⟩
      obtain ⟨x0, x1⟩ := HK.out X gX
      have gD := hide gX.drew
      have OD := hide (oX.gr (Gr.refl _).drew)
      clear HR HO gc oX
      go_wp2_with fail
      go_region_held3 (fun w' => w'.cell? ⟨w.heap.size, 0, none⟩ = some (iv l) ∧ w'.cell? ⟨w.heap.size, 1, none⟩ = some (iv b)) (first | exact HK.out _ G3.out | exact HK.out _ G2.out | exact HK.out _ gD.out | go_keep)
        (first
        | (go_at_call 138; with_reducible refine (H1.out _ gD.out).mono ?_; rintro e w2 ⟨v2, rfl, o2, g2⟩; have G2 := hide (gD.out.trans g2); obtain ⟨ao2, c2, hv2, hc2, R2⟩ := o2.shape; subst hv2; obtain ⟨v3, w3, hrun, hown, hgr⟩ := run_app' (c := c2) 108 (OD.out.gr g2) G2.out R2 (by omega); have HRR := hide hrun; have HOW := hide hown; have G3 := hide hgr; clear g2 o2 R2 hrun hown hgr)
        | (refine step_append_eqR rfl (.tmp 39) (.tmp 51) 108 108 rfl u7 (.slice ao2 A.length c2) rfl rfl (v' := v3) (w' := w3) HRR.out ?_)
        | fail)
      all_goals
        go_upto_region 14 with (fail)
        clear x0 x1
        obtain ⟨x0, x1⟩ := HK.out _ G3.out
        have gE := hide G3.out.drew
        have OE := hide (HOW.out.gr (Gr.refl _).drew)
        go_wp2_with fail
        go_region_held3 (fun w' => w'.cell? ⟨w.heap.size, 0, none⟩ = some (iv l) ∧ w'.cell? ⟨w.heap.size, 1, none⟩ = some (iv b)) (first | exact HK.out _ G5.out | exact HK.out _ G4.out | exact HK.out _ gE.out | go_keep)
          (first
          | (go_at_call 138; with_reducible refine (H2.out _ gE.out).mono ?_; rintro e w4 ⟨v4, rfl, o4, g4⟩; have G4 := hide (gE.out.trans g4); obtain ⟨ao4, c4, hv4, hc4, R4⟩ := o4.shape; subst hv4; obtain ⟨v5, w5, hrun, hown, hgr⟩ := run_app' (c := c4) 108 (OE.out.gr g4) G4.out R4 (by rw [List.length_append]; omega); have HR5 := hide hrun; have HO5 := hide hown; have G5 := hide hgr; clear g4 o4 R4 hrun hown hgr)
          | (refine step_append_eqR rfl (.tmp 53) (.tmp 66) 108 108 rfl v3 (.slice ao4 Z.length c4) rfl rfl (v' := v5) (w' := w5) HR5.out ?_)
          | fail)
        all_goals
          go_wp2
          go_ret
          exact ⟨_, rfl, by rw [HAL.out, ← List.append_assoc]; exact HO5.out.mono gW, gW.trans G5.out⟩

end Go.Proofs.YtfcknkanbcndjagGreatDoor

/- CONTRACT OF handpostref.LeastOf. -/
namespace Go.Proofs.YtfcknkanbcndjagGreatDoor
open Go.RowKit

theorem few_pow' {f : Nat → Int} : ∀ (k o : Nat), few f k o + 1 ≤ 2 ^ k
  | 0, _ => by simp [few]
  | k + 1, o => by
    have h1 := few_pow' (f := f) k o
    have h2 := few_pow' (f := f) k (o + 2 ^ k)
    rw [few, Nat.pow_succ]
    split <;> omega
theorem least_bd {f : Nat → Int} (hf : ∀ j, f j ∈ hopsR) (k : Nat) (l b : Int) (o : Nat) {h : Int} (hh : h ∈ hopsR) (hk : 2 ^ k ≤ 256) : (leastR f k l b o h).length ≤ 257 := by
  rw [least_len hf k l b o hh]
  have h1 := few_pow' (f := f) k o
  have h2 : off (wish f k o) h ≤ 1 := by unfold off; split <;> omega
  omega
theorem pow_k {k : Nat} (h : 2 ^ k ≤ 256) : k ≤ 8 := by
  refine Nat.le_of_not_lt fun hlt => ?_
  have := Nat.pow_le_pow_right (n := 2) (by decide) (show 9 ≤ k by omega)
  omega

theorem leastOf_any (f : Nat → Int) (hf : ∀ j, f j ∈ hopsR) (g : Nat) : ∀ (k : Nat) (l b : Int) (o n c : Nat) (h : Int) (w : World), SpT k l b o → 2 ^ k = n → n ≤ c → c ≤ 1000 → h ∈ hopsR → Nums w g o n f →
    Calls Tryz.prog 138 #[pfx l b, .slice (some ⟨g, o, none⟩) n c, iv h] w fun e w' => ∃ v, e = .returned v ∧ Own w w' v (leastR f k l b o h) ∧ Gr w w' := by
  intro k
  induction k with
  | zero =>
    intro l b o n c h w hS hn hc hcm hh H
    obtain ⟨bl0, bl8, bb0, bb8⟩ := hS.bd
    have h6 : -1 ≤ h ∧ h < 6 := by have := hop_mem.2 hh; simp [hopB] at this; omega
    have hn1 : n = 1 := by rw [← hn]
    have ha : Alk f o n := by rw [hn1]; exact alk_one f o
    refine least_step f g l b o n c h w (wish f 0 o) [] [] _ _ h6.1 h6.2 (by omega) (by omega) (by omega) (by omega) (by omega) (by omega) hc hcm (by simp) (by simp) H rfl (fun _ => ?_) (fun hna => absurd ha hna) ?_ (fun hna => absurd ha hna)
    · rw [leastR]
    · intro wX gX
      have := wishes_any hf 0 o c (by omega) (w := w) (g := g) (by rw [hn]; exact H) (by omega) hcm wX gX
      rw [hn] at this
      exact this
  | succ k ih =>
    intro l b o n c h w hS hn hc hcm hh H
    obtain ⟨bl0, bl8, bb0, bb8⟩ := hS.bd
    have h6 : -1 ≤ h ∧ h < 6 := by have := hop_mem.2 hh; simp [hopB] at this; omega
    have hm : n ≤ 256 := by have := hS.top; omega
    obtain ⟨m, hmk⟩ : ∃ m, 2 ^ k = m := ⟨_, rfl⟩
    have hnm : n = m + m := by rw [← hn, ← hmk, Nat.pow_succ]; omega
    have h0 : 0 < m := by rw [← hmk]; exact Nat.pow_pos (by decide)
    obtain ⟨n1, n2⟩ := nxt_is (wish_some hf (k + 1) o) hh
    refine least_step f g l b o n c h w (wish f (k + 1) o) (leastR f k (l + 1) (b * 2) o (nxt (wish f (k + 1) o) h)) (leastR f k (l + 1) (b * 2 + 1) (o + m) (nxt (wish f (k + 1) o) h)) _ _ h6.1 h6.2 (by omega) (by omega) (by omega) (by omega) (by omega) hm hc hcm
      (Nat.le_trans (least_bd hf k _ _ _ n2 (by omega)) (by omega)) (Nat.le_trans (least_bd hf k _ _ _ n2 (by omega)) (by omega)) H rfl (fun ha => ?_) (fun hna => ?_) ?_ (fun _ => ⟨m, hnm, h0, ?_, ?_⟩)
    · have ha' : Alk f o (2 ^ (k + 1)) := by rw [hn]; exact ha
      rw [leastR, if_pos ha', List.append_nil]
    · have hna' : ¬ Alk f o (2 ^ (k + 1)) := by rw [hn]; exact hna
      rw [leastR, if_neg hna', hmk]
    · intro wX gX
      have := wishes_any hf (k + 1) o c (pow_k (by omega)) (w := w) (g := g) (by rw [hn]; exact H) (by omega) hcm wX gX
      rw [hn] at this
      exact this
    · intro wX gX
      exact ih (l + 1) (b * 2) o m c _ wX hS.low hmk (by omega) hcm n2 ((H.low (by omega)).gr gX)
    · intro wX gX
      exact ih (l + 1) (b * 2 + 1) (o + m) m (c - m) _ wX (hmk ▸ hS.high) hmk (by omega) (by omega) n2 ((H.high (by omega)).gr gX)

end Go.Proofs.YtfcknkanbcndjagGreatDoor
