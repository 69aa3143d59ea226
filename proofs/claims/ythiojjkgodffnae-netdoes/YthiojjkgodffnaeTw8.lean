import Derived.Test.YthiojjkgodffnaeTw6
import Derived.Test.YthiojjkgodffnaeB1
import Derived.Test.YthiojjkgodffnaePlainAll
/- THE REFERENCE'S Town: Settle. -/
namespace Go.Proofs.Ythiojjkgodffnae
open Go.RowKit
attribute [local go_sem] Ext.all Ext.cell Ext.frozen Ext.lt Ext.lt1 Ext.lt2 Ext.ne Ext.ne'

/-- The news are taken away. -/
theorem Tw.noNews {M : Nat → Prop} {B w : World} {p : Nat} {q : Nat → Nat} {v o : Value} {t : Tn} (h : Tw M B w p q v o t) : Tw M B (w.setCell ⟨p, 42, none⟩ (.slice none 0 0)) p q (.slice none 0 0) o { t with news := [] } :=
  h.newsPut (World.grownBy.refl _ _) (NwO.nil _ _) (.inl rfl)
/-- One of them. -/
theorem part_step {M : Nat → Prop} {B w : World} {p : Nat} {q : Nat → Nat} {v o : Value} {t : Tn} {c : Nat → Nat → Nat} (H : TnA t c) {a b j : Nat} (ha : a < 6) (hb : b < 6) (hc : t.cst a b ≠ 0) (hj : j < 6) (h : Tw M B w p q v o (partT t a b j)) :
    Calls Try.prog 43 #[pv (q b), .agg #[iv (a : Int), iv (b : Int), iv (j : Int), iv ((t.nd a).ways j).1, iv ((t.nd a).ways j).2.1]] w fun e w' => ∃ r, e = .returned r ∧ Tw M B w' p q v o (partT t a b (j + 1)) ∧ Wr (q b) w w' := by
  have hcc : c a b ≠ 0 := fun e => hc (by rw [H.s.tc.cst a b ha hb, e]; rfl)
  have hne : a ≠ b := fun e => hcc (by rw [e]; exact H.s.tc.lk.self b)
  have T1 := (H.partly ha hb hcc j (by omega)).1
  have hz : MdZ (tellAll (t.nd b) a (t.nd a).ways j) := by
    have := T1.s.z b hb
    have e : updW t.nd b (tellAll (t.nd b) a (t.nd a).ways j) b = tellAll (t.nd b) a (t.nd a).ways j := updW_same _ _ _
    rw [← e]; exact this
  have hM : MAt w (q b) (tellAll (t.nd b) a (t.nd a).ways j) := by
    have := h.six.at_ b hb
    have e : (partT t a b j).nd b = tellAll (t.nd b) a (t.nd a).ways j := updW_same _ _ _
    rw [e] at this; exact this
  obtain ⟨_, t1, t2, t3⟩ := (H.s.z a ha).x.tells hj
  have hme : (tellAll (t.nd b) a (t.nd a).ways j).me = b := by
    rw [(tellAll_z (t.nd b) a (t.nd a).ways 0 j).me]
    split
    · exact (look_me _ _).trans (H.s.tc.me b hb)
    · exact H.s.tc.me b hb
  have hcs : (tellAll (t.nd b) a (t.nd a).ways j).cost a = (c b a : Int) := by
    rw [(tellAll_z (t.nd b) a (t.nd a).ways 0 j).cost]
    split
    · unfold hearM; rw [look_cost]; exact H.s.tc.cost b a hb ha
    · exact H.s.tc.cost b a hb ha
  refine (mhearN hM hz (a : Int) (b : Int) (j : Int) ((t.nd a).ways j).1 ((t.nd a).ways j).2.1).mono fun e w' ⟨he, hm, hw⟩ => ⟨_, he, ?_, hw⟩
  have e1 : hrM (tellAll (t.nd b) a (t.nd a).ways j) (a : Int) (j : Int) ((t.nd a).ways j).1 ((t.nd a).ways j).2.1 = tellAll (t.nd b) a (t.nd a).ways (j + 1) := by
    unfold hrM
    rw [Int.toNat_natCast, Int.toNat_natCast, if_pos ⟨⟨⟨⟨by omega, by omega⟩, by rw [hme]; omega⟩, ⟨by omega, by omega⟩, t1, t2, t3⟩, by
      rw [hcs, H.s.tc.lk.sym b a]
      intro q0
      exact hcc (by omega)⟩]
    rfl
  rw [e1] at hm
  have := h.put hb hw hm
  have e2 : ({ partT t a b j with nd := updW (partT t a b j).nd b (tellAll (t.nd b) a (t.nd a).ways (j + 1)) } : Tn) = partT t a b (j + 1) := by
    unfold partT
    dsimp only
    congr 1
    funext x
    by_cases e : x = b
    · rw [e, updW_same, updW_same]
    · rw [updW_ne _ _ e, updW_ne _ _ e, updW_ne _ _ e]
  rw [e2] at this
  exact this

end Go.Proofs.Ythiojjkgodffnae

/- THE REFERENCE'S Town: Settle, the walk. -/
namespace Go.Proofs.Ythiojjkgodffnae
open Go.RowKit
attribute [local go_sem] Ext.all Ext.cell Ext.frozen Ext.lt Ext.lt1 Ext.lt2 Ext.ne Ext.ne'

set_option maxRecDepth 20000 in
set_option maxHeartbeats 8000000 in
theorem wsettle_ok {M : Nat → Prop} {B w : World} {p : Nat} {q : Nat → Nat} {v o : Value} {t : Tn} {c : Nat → Nat → Nat} (H : Tw M B w p q v o t) (A : TnA t c) (hA : ∀ k, k < 6 → agT t k < 4611686018427387904) (R : Int) (hR : R ≤ 1000) :
    Calls Try.prog 21 #[pv p, iv R] w fun e w' => e = .returned (.tuple #[]) ∧ Tw M B w' p q (.slice none 0 0) o (settleT t R.toNat) := by
  have hp := H.blk.lt
  have c2 := H.news
  have fz := H.blk.free
  obtain ⟨ao, cv, hv, _, _, _⟩ := H.nw.shape
  subst hv
  have H0 := hide H.noNews
  have A0 : Hid (TnA { t with news := [] } c) := A.sub (fun x hx => by cases hx)
  have HA := hide hA
  clear H A hA
  have hag : Hid (∀ k, agT { t with news := [] } k = agT t k) := fun _ => rfl
  have HST : Hid (settleT t R.toNat = roundsT (tickTo { t with news := [] } 6) R.toNat) := rfl
  generalize ({ t with news := [] } : Tn) = t0 at *
  go_enter Try.func21, Try.ntmps21
  go_upto_region 1 with (fail)
  refine wp_gen (fun V => Hid (Tw M B V p q (.slice none 0 0) o t0)) H0 ?_
  clear hp c2 fz H0
  rintro V H0
  go_wp2_with fail
  go_loopw [4] (fun v4 wr => ∃ a : Nat, a ≤ 6 ∧ v4 = .int .i64 (a : Int) ∧ Hid (Tw M B wr p q (.slice none 0 0) o (tickTo t0 a))) (fun v4 _ => (6 - intOf v4).toNat)
  case atStart => exact ⟨0, by omega, rfl, H0⟩
  case round =>
    clear H0
    obtain ⟨a, ha6, rfl, H0⟩ := hrel
    by_cases ha : a < 6
    · have hai : decide ((a : Int) < 6) = true := decide_eq_true (by omega)
      have ha0 : (a : Int) < 6 := by omega
      have wa : IntKind.i64.wrap ((a : Int) + 1) = (a : Int) + 1 := by rw [IntKind.wrap_i64]; omega
      obtain ⟨T1, T2⟩ := A0.out.ticks a (by omega)
      have c1 := H0.out.node ha
      have hp := H0.out.blk.lt
      have hage : age ((tickTo t0 a).nd a) < 4611686018427387904 := by
        have e1 : age ((tickTo t0 a).nd a) = agT (tickTo t0 a) a := by unfold age agT; rw [T1.s.tc.me a ha]
        rw [e1, T2 a ha, if_neg (by omega), hag.out]
        exact HA.out a ha
      have HQ : Hid (Calls Try.prog 41 #[pv (q a)] wr fun e w' => e = .returned (.tuple #[]) ∧ Tw M B w' p q (.slice none 0 0) o (tickTo t0 (a + 1))) := (mtickN (H0.out.six.at_ a ha) (T1.s.z a ha) hage).mono fun e w' ⟨he, hm, hw⟩ => ⟨he, H0.out.put ha hw hm⟩
      clear T1 T2 hage
      go_wp2_with (go_at_call 41; with_reducible refine HQ.out.mono ?_; rintro e V1 ⟨rfl, H1'⟩; have H1 := hide H1'; clear H1')
      go_roundw
      case rel => exact ⟨a + 1, by omega, by congr 1, H1⟩
      case measure => simp [intOf]; omega
    · have hai : decide ((a : Int) < 6) = false := decide_eq_false (by omega)
      have ea : a = 6 := by omega
      rw [ea] at H0
      have A1 := hide (A0.out.ticks 6 (Nat.le_refl _)).1
      clear ea ha ha6 A0 HA hag
      generalize tickTo t0 6 = t1 at *
      have AR := hide (fun r => (A1.out.rounds r).1)
      go_wp2_with fail
      go_loopw [5] (fun v5 wr => ∃ r : Nat, (r : Int) ≤ max R 0 ∧ v5 = .int .i64 (r : Int) ∧ Hid (Tw M B wr p q (.slice none 0 0) o (roundsT t1 r))) (fun v5 _ => (R - intOf v5).toNat)
      case atStart => exact ⟨0, by omega, rfl, H0⟩
      case round =>
        clear H0
        obtain ⟨r, hr, rfl, H0⟩ := hrel
        by_cases hrR : (r : Int) < R
        · have hri : decide ((r : Int) < R) = true := decide_eq_true hrR
          have wr1 : IntKind.i64.wrap ((r : Int) + 1) = (r : Int) + 1 := by rw [IntKind.wrap_i64]; omega
          have A2 := hide (AR.out r)
          have HRS := hide (show roundsT t1 (r + 1) = roundT (roundsT t1 r) 6 from rfl)
          generalize roundsT t1 r = t2 at *
          go_wp2_with fail
          go_loopw [6] (fun v6 wr => ∃ a : Nat, a ≤ 6 ∧ v6 = .int .i64 (a : Int) ∧ Hid (Tw M B wr p q (.slice none 0 0) o (roundT t2 a))) (fun v6 _ => (6 - intOf v6).toNat)
          case atStart => exact ⟨0, by omega, rfl, H0⟩
          case round =>
            clear H0
            obtain ⟨x, hx6, rfl, H0⟩ := hrel
            by_cases hx : x < 6
            · have hxi : decide ((x : Int) < 6) = true := decide_eq_true (by omega)
              have hx0 : (x : Int) < 6 := by omega
              have wx : IntKind.i64.wrap ((x : Int) + 1) = (x : Int) + 1 := by rw [IntKind.wrap_i64]; omega
              have A3 := hide (A2.out.round' x (by omega))
              have HRD := hide (show roundT t2 (x + 1) = rowT (roundT t2 x) x 6 from rfl)
              generalize roundT t2 x = t3 at *
              go_wp2_with fail
              go_loopw [7] (fun v7 wr => ∃ b : Nat, b ≤ 6 ∧ v7 = .int .i64 (b : Int) ∧ Hid (Tw M B wr p q (.slice none 0 0) o (rowT t3 x b))) (fun v7 _ => (6 - intOf v7).toNat)
              case atStart => exact ⟨0, by omega, rfl, H0⟩
              case round =>
                clear H0
                obtain ⟨y, hy6, rfl, H0⟩ := hrel
                by_cases hy : y < 6
                · have hyi : decide ((y : Int) < 6) = true := decide_eq_true (by omega)
                  have hy0 : (y : Int) < 6 := by omega
                  have wy : IntKind.i64.wrap ((y : Int) + 1) = (y : Int) + 1 := by rw [IntKind.wrap_i64]; omega
                  have A4 := hide (A3.out.row' hx y (by omega))
                  have HRW := hide (show rowT t3 x (y + 1) = tellTo (rowT t3 x y) x y from rfl)
                  generalize rowT t3 x y = t4 at *
                  have cc := H0.out.cst hx hy
                  have hp := H0.out.blk.lt
                  by_cases hc : t4.cst x y = 0
                  · have g1 : (t4.cst x y == 0) = true := by simpa using hc
                    have HE : Hid (tellTo t4 x y = t4) := if_pos hc
                    clear hc
                    go_wp2_with fail
                    go_roundw
                    case rel => exact ⟨y + 1, by omega, by congr 1, by rw [HRW.out, HE.out]; exact H0⟩
                    case measure => simp [intOf]; omega
                  · have g1 : (t4.cst x y == 0) = false := by simpa using hc
                    have HC := hide hc
                    have cn := H0.out.node hx
                    have HT : Hid (Calls Try.prog 52 #[pv (q x), iv (y : Int)] wr fun e w' => ∃ ao k, e = .returned (.slice ao 6 k) ∧ NewsAt w' ao (tellL (t4.nd x) (y : Int) 6) ∧ (∀ b' o', ao = some ⟨b', o', none⟩ → wr.heap.size ≤ b') ∧ Tw M B w' p q (.slice none 0 0) o t4) :=
                      (mtell_any (H0.out.six.at_ x hx) (y : Int)).mono fun e w' ⟨v, he, ho, hg⟩ => by
                        obtain ⟨ao, k, hv, hn, hy⟩ := OwnN.shape ho
                        rw [tell_len] at hv
                        exact ⟨ao, k, by rw [he, hv], hn, hy, H0.out.ext hg⟩
                    have hmx := A4.out.s.tc.me x hx
                    have hqy : q y < wr.heap.size := (H0.out.six.at_ y hy).lt
                    clear hc
                    go_upto_region 16 with (go_at_call 52; with_reducible refine HT.out.mono ?_; rintro e V1 ⟨an, cn2, rfl, NA', NY', H1'⟩; have NA := hide NA'; have NY := hide NY'; have H1 := hide H1'; clear NA' NY' H1')
                    have NY2 : Hid (∀ b' o', an = some ⟨b', o', none⟩ → b' ≠ q y) := fun b' o' e => by have := NY.out b' o' e; omega
                    have H1' : Hid (Tw M B V1 p q (.slice none 0 0) o (partT t4 x y 0)) := by rw [part_zero]; exact H1
                    clear NY H1 HT H0 cc cn hp hqy
                    have H1 := H1'
                    clear H1'
                    go_wp2_with fail
                    go_loopw [9] (fun v9 wr => ∃ j : Nat, j ≤ 6 ∧ v9 = .int .i64 (j : Int) ∧ Hid (Tw M B wr p q (.slice none 0 0) o (partT t4 x y j)) ∧ Hid (NewsAt wr an (tellL (t4.nd x) (y : Int) 6))) (fun v9 _ => (6 - intOf v9).toNat)
                    case atStart => exact ⟨0, by omega, rfl, H1, NA⟩
                    case round =>
                      clear H1 NA
                      obtain ⟨j, hj6, rfl, H1, NA⟩ := hrel
                      by_cases hj : j < 6
                      · have hji : decide ((j : Int) < 6) = true := decide_eq_true (by omega)
                        have hj0 : (j : Int) < 6 := by omega
                        have wj : IntKind.i64.wrap ((j : Int) + 1) = (j : Int) + 1 := by rw [IntKind.wrap_i64]; omega
                        have hlen := tell_len (t4.nd x) (y : Int) 6
                        rcases NA.out with h0 | ⟨bn, on, rfl, hbn, hcn⟩
                        · exfalso; rw [h0] at hlen; simp at hlen
                        obtain ⟨d0, d1, d2, d3, d4⟩ := hcn j (by omega)
                        rw [tell_at, hmx] at d0 d1 d2 d3 d4
                        simp only at d0 d1 d2 d3 d4
                        have hny := NY2.out bn on rfl
                        have nd := H1.out.node hy
                        have hp := H1.out.blk.lt
                        have HQ : Hid (Calls Try.prog 43 #[pv (q y), .agg #[iv (x : Int), iv (y : Int), iv (j : Int), iv ((t4.nd x).ways j).1, iv ((t4.nd x).ways j).2.1]] wr.drew fun e w' => ∃ r, e = .returned r ∧ Tw M B w' p q (.slice none 0 0) o (partT t4 x y (j + 1)) ∧ Wr (q y) wr.drew w') := part_step A4.out hx hy HC.out hj (H1.out.ext (Gr.refl _).drew)
                        have HNA := hide (fun (W : World) (hw : Wr (q y) wr.drew W) => (NewsAt.gr NA.out (Gr.refl wr).drew).keep (w' := W) (fun b' o' e hb' => hw.block b' hb' (NY2.out b' o' e)))
                        have HCL : Hid (∀ W : World, Wr (q y) wr.drew W → W.cell? ⟨bn, on + j * 5, none⟩ = some (iv (x : Int)) ∧ W.cell? ⟨bn, on + j * 5 + 1, none⟩ = some (iv (y : Int)) ∧ W.cell? ⟨bn, on + j * 5 + 2, none⟩ = some (iv (j : Int)) ∧ W.cell? ⟨bn, on + j * 5 + 3, none⟩ = some (iv ((t4.nd x).ways j).1) ∧ W.cell? ⟨bn, on + j * 5 + 4, none⟩ = some (iv ((t4.nd x).ways j).2.1)) := fun W hw => by
                          have e : ∀ k, W.cell? ⟨bn, k, none⟩ = wr.cell? ⟨bn, k, none⟩ := fun k => World.cell?_of_block (w := wr) (a := ⟨bn, k, none⟩) (hw.block bn hbn hny)
                          rw [e, e, e, e, e]
                          exact ⟨d0, d1, d2, d3, d4⟩
                        clear hcn
                        generalize (t4.nd x).ways j = wv at *
                        obtain ⟨ws, wd, wh⟩ := wv
                        simp only at d0 d1 d2 d3 d4 HQ HCL
                        go_upto_region 19 with (fail)
                        go_region_held3 (fun W => W.cell? ⟨p, 36 + y, none⟩ = some (pv (q y)) ∧ W.cell? ⟨bn, on + j * 5, none⟩ = some (iv (x : Int)) ∧ W.cell? ⟨bn, on + j * 5 + 1, none⟩ = some (iv (y : Int)) ∧ W.cell? ⟨bn, on + j * 5 + 2, none⟩ = some (iv (j : Int)) ∧ W.cell? ⟨bn, on + j * 5 + 3, none⟩ = some (iv ws) ∧ W.cell? ⟨bn, on + j * 5 + 4, none⟩ = some (iv wd)) (first | exact ⟨nd, d0, d1, d2, d3, d4⟩ | exact ⟨H2.out.node hy, HCL.out _ W2.out⟩ | go_keep) (first | (go_at_call 43; with_reducible refine HQ.out.mono ?_; rintro e V2 ⟨r2, rfl, H2', W2'⟩; have H2 := hide H2'; have W2 := hide W2'; clear H2' W2'))
                        all_goals
                          go_wp2_with fail
                          go_roundw
                          case rel => exact ⟨j + 1, by omega, by congr 1, H2, HNA.out _ W2.out⟩
                          case measure => simp [intOf]; omega
                      · have hji : decide ((j : Int) < 6) = false := decide_eq_false (by omega)
                        have ej : j = 6 := by omega
                        rw [ej, part_six t4 HC.out, ← HRW.out] at H1
                        go_wp2_with fail
                        go_roundw
                        case rel => exact ⟨y + 1, by omega, by congr 1, H1⟩
                        case measure => simp [intOf]; omega
                · have hyi : decide ((y : Int) < 6) = false := decide_eq_false (by omega)
                  have ey : y = 6 := by omega
                  rw [ey, ← HRD.out] at H0
                  go_wp2_with fail
                  go_roundw
                  case rel => exact ⟨x + 1, by omega, by congr 1, H0⟩
                  case measure => simp [intOf]; omega
            · have hxi : decide ((x : Int) < 6) = false := decide_eq_false (by omega)
              have ex : x = 6 := by omega
              rw [ex, ← HRS.out] at H0
              go_wp2_with fail
              go_roundw
              case rel => exact ⟨r + 1, by omega, by congr 1, H0⟩
              case measure => simp [intOf]; omega
        · have hri : decide ((r : Int) < R) = false := decide_eq_false hrR
          have er : r = R.toNat := by omega
          go_wp2_with fail
          refine bodyPost_end (results_none rfl _ _ _) rfl ?_
          exact ⟨rfl, by rw [HST.out, ← er]; exact H0.out⟩

end Go.Proofs.Ythiojjkgodffnae
