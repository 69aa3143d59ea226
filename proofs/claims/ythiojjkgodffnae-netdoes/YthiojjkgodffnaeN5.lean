import Derived.Test.YthiojjkgodffnaeN2
/- CONTRACTS OF handpostref: Mind.Hear where all is right. -/
namespace Go.Proofs.Ythiojjkgodffnae
open Go.RowKit
attribute [local go_sem] Ext.all Ext.cell Ext.frozen Ext.lt Ext.lt1 Ext.lt2 Ext.ne Ext.ne'


set_option maxRecDepth 20000 in
set_option maxHeartbeats 8000000 in
theorem mhear_ok {w : World} {p : Nat} {m : Md} (H : MAt w p m) (hX : MdOk m) {f z : Nat} {o s d : Int} (hf : f < 6) (hz : z < 6) (hfm : f ≠ m.me) (hc : m.cost f ≠ 0) (hs : 0 ≤ s) (hd : 0 ≤ d) (hd2 : d ≤ 200) :
    Calls Try.prog 43 #[pv p, .agg #[iv f, iv o, iv z, iv s, iv d]] w fun e w' => e = .returned (iv 0) ∧ MAt w' p (hearM m f z s d) ∧ Wr p w w' := by
  have hp := H.lt
  have hfi : (f : Int) < 6 := by omega
  have hzi : (z : Int) < 6 := by omega
  have B1 : Hid (decide (0 ≤ (f : Int) ∧ (f : Int) < 6) = true) := decide_eq_true ⟨by omega, hfi⟩
  have B2 : Hid (decide (0 ≤ (z : Int) ∧ (z : Int) < 6) = true) := decide_eq_true ⟨by omega, hzi⟩
  have g3 : ((f : Int) == (m.me : Int)) = false := by simp; omega
  have g4 : decide (s < 0) = false := decide_eq_false (by omega)
  have g5 : decide (d < 0) = false := decide_eq_false (by omega)
  have g6 : decide (200 < d) = false := decide_eq_false (by omega)
  have g7 : (m.cost f == 0) = false := by simpa using hc
  have HM := hide (fun (X : World) (g : Gr w X) => H.gr g)
  have HL : Hid (hearM m f z s d = lookM { m with heard := updW m.heard f (updW (m.heard f) z (s, d)) } z) := rfl
  have HS : Hid (∀ r, 0 ≤ (updW m.heard f (updW (m.heard f) z (s, d)) r z).2 ∧ (updW m.heard f (updW (m.heard f) z (s, d)) r z).2 ≤ 200) := by
    intro r
    by_cases e : r = f
    · subst e; simp [updW, hd, hd2]
    · have := hX.said r z
      simp [updW, e, this.2.1, this.2.2]
  clear H hs hd hd2 hfm hc
  go_enter Try.func43, Try.ntmps43
  go_upto_region 1 with (fail)
  refine wp_gen (fun V => Hid (ZArr V 66 5 w.heap.size (nwF f o z s d)) ∧ Hid (Gr w V)) ⟨ZArr.new w 66 5 (nwF f o z s d), (Gr.refl _).alloc _⟩ ?_
  rintro V ⟨A, gV⟩
  have k0 : V.cell? ⟨w.heap.size, 0, none⟩ = some (iv f) := A.out.cell (by omega)
  have k2 : V.cell? ⟨w.heap.size, 2, none⟩ = some (iv z) := A.out.cell (by omega)
  have k3 : V.cell? ⟨w.heap.size, 3, none⟩ = some (iv s) := A.out.cell (by omega)
  have k4 : V.cell? ⟨w.heap.size, 4, none⟩ = some (iv d) := A.out.cell (by omega)
  have c0 := (HM.out _ gV.out).me
  have c1 := (HM.out _ gV.out).cost hf
  have j0 := A.out.lt
  have j1 := (HM.out _ gV.out).lt
  go_wp2_with fail
  refine wp_region_ext (by kernel_rfl) (by kernel_rfl) ?_
  repeat (go_big_quiet_step (first | (go_at_call 29; with_reducible exact isNode_ext B1.out _) | (go_at_call 29; with_reducible exact isNode_ext B2.out _)))
  refine wpQuiet_nil ?_
  rintro _ ⟨d1, rfl⟩
  go_upto_region 3 with (fail)
  refine wp_region_ext (by kernel_rfl) (by kernel_rfl) ?_
  repeat (go_big_quiet_step (fail))
  refine wpQuiet_nil ?_
  rintro _ ⟨d2, rfl⟩
  go_upto_region 5 with (fail)
  refine wp_gen (fun V2 => Hid (ZArr V2 66 5 w.heap.size (nwF f o z s d)) ∧ Hid (Gr w V2)) ⟨(A.out.gr d1.gr).gr d2.gr, (gV.out.trans d1.gr).trans d2.gr⟩ ?_
  clear A gV k0 k2 k3 k4 c0 c1 j0 j1
  rintro V2 ⟨A, gV⟩
  have k0 : V2.cell? ⟨w.heap.size, 0, none⟩ = some (iv f) := A.out.cell (by omega)
  have k2 : V2.cell? ⟨w.heap.size, 2, none⟩ = some (iv z) := A.out.cell (by omega)
  have k3 : V2.cell? ⟨w.heap.size, 3, none⟩ = some (iv s) := A.out.cell (by omega)
  have k4 : V2.cell? ⟨w.heap.size, 4, none⟩ = some (iv d) := A.out.cell (by omega)
  obtain ⟨q0, q1⟩ := (HM.out _ gV.out).heard hf hz
  have fz := ZArr.free (HM.out _ gV.out)
  have j0 := A.out.lt
  have j1 := (HM.out _ gV.out).lt
  have SM := hide ((HM.out _ gV.out).setHeard hf hz s d)
  have SW := hide (((gV.out.wr p).set (7 + f * 12 + z * 2) (iv s)).set (7 + f * 12 + z * 2 + 1) (iv d))
  have SA := hide ((A.out.other (q := p) (by omega) (7 + f * 12 + z * 2) (iv s)).other (q := p) (by omega) (7 + f * 12 + z * 2 + 1) (iv d))
  clear A gV
  go_still_tail 14, (by kernel_rfl)
  go_upto_region 6 with (fail)
  refine wp_gen (fun V3 => Hid (ZArr V3 66 5 w.heap.size (nwF f o z s d)) ∧ Hid (MAt V3 p { m with heard := updW m.heard f (updW (m.heard f) z (s, d)) }) ∧ Hid (Wr p w V3)) ⟨SA.out.gr (Gr.refl _).drew, SM.out.gr (Gr.refl _).drew, SW.out.trans ((Gr.refl _).drew.wr p)⟩ ?_
  clear SA SM SW k0 k2 k3 k4 q0 q1 fz j0 j1
  rintro V3 ⟨A, M3, W3⟩
  have k2 : V3.cell? ⟨w.heap.size, 2, none⟩ = some (iv z) := A.out.cell (by omega)
  have j0 := A.out.lt
  go_wp2_with (go_at_call 66; with_reducible refine (mlook_any M3.out hz hX.cost HS.out).mono ?_; rintro e V4 ⟨rfl, M4, W4⟩; have HM4 := hide M4; have HW4 := hide W4; clear M4 W4)
  go_ret
  exact ⟨rfl, by rw [HL.out]; exact HM4.out, W3.out.trans HW4.out⟩

end Go.Proofs.Ythiojjkgodffnae

/- CONTRACTS OF handpostref: Mind.Link where all is right. -/
namespace Go.Proofs.Ythiojjkgodffnae
open Go.RowKit
attribute [local go_sem] Ext.all Ext.cell Ext.frozen Ext.lt Ext.lt1 Ext.lt2 Ext.ne Ext.ne'

def clrM (m : Md) (f : Nat) (c : Int) (k : Nat) : Md := { m with cost := updW m.cost f c, heard := fun j i => if j = f ∧ i < k then (0, 200) else m.heard j i }
def midM (m : Md) (f : Nat) (c : Int) : Md := { m with cost := updW m.cost f c, heard := if c = 0 then updW m.heard f (fun _ => (0, 200)) else m.heard }
theorem clr_zero (m : Md) (f : Nat) (c : Int) : clrM m f c 0 = { m with cost := updW m.cost f c } := by
  unfold clrM
  congr 1
  funext j i
  rw [if_neg (by omega)]
theorem clr_succ (m : Md) (f : Nat) (c : Int) (k : Nat) : { clrM m f c k with heard := updW (clrM m f c k).heard f (updW ((clrM m f c k).heard f) k (0, 200)) } = clrM m f c (k + 1) := by
  unfold clrM
  dsimp only
  congr 1
  funext j i
  unfold updW
  by_cases e : j = f
  · subst e
    rw [if_pos rfl]
    dsimp only
    by_cases e2 : i = k
    · rw [if_pos e2, if_pos ⟨rfl, by omega⟩]
    · rw [if_neg e2]
      by_cases e3 : i < k
      · rw [if_pos ⟨rfl, e3⟩, if_pos ⟨rfl, by omega⟩]
      · rw [if_neg (by omega), if_neg (by omega)]
  · simp [e]
theorem clr_heard (m : Md) (f j : Nat) {k : Nat} (hk : k < 6) : (clrM m f 0 6).heard j k = (midM m f 0).heard j k := by
  unfold clrM midM updW
  by_cases e : j = f
  · simp [e, hk]
  · simp [e]
theorem clr_end {w : World} {p : Nat} {m : Md} {f : Nat} {c : Int} {k : Nat} (h : MAt w p (clrM m f c k)) (hk : (c = 0 ∧ k = 6) ∨ (c ≠ 0 ∧ k = 0)) : MAt w p (midM m f c) := by
  rcases hk with ⟨rfl, rfl⟩ | ⟨hc, rfl⟩
  · refine ZArr.congr h fun i hi => ?_
    have E := clr_heard m f ((i - 7) / 12) (k := (i - 7) % 12 / 2) (by omega)
    unfold mdF
    rw [E]
    rfl
  · rw [clr_zero] at h
    unfold midM
    rw [if_neg hc]
    exact h
theorem mid_cost {m : Md} (hX : MdOk m) {f : Nat} {c : Int} (h0 : 0 ≤ c) (h1 : c ≤ 15) (n : Nat) : ∀ r, 0 ≤ (lookTo (midM m f c) n).cost r ∧ (lookTo (midM m f c) n).cost r ≤ 15 := by
  intro r
  rw [(lookTo_all (midM m f c) n).2.1]
  show 0 ≤ updW m.cost f c r ∧ updW m.cost f c r ≤ 15
  unfold updW
  by_cases e : r = f
  · rw [if_pos e]; exact ⟨h0, h1⟩
  · rw [if_neg e]; exact hX.cost r
theorem mid_said {m : Md} (hX : MdOk m) (f : Nat) (c : Int) (n k : Nat) : ∀ r, 0 ≤ ((lookTo (midM m f c) n).heard r k).2 ∧ ((lookTo (midM m f c) n).heard r k).2 ≤ 200 := by
  intro r
  rw [(lookTo_all (midM m f c) n).2.2.1]
  have := (hX.said r k).2
  unfold midM updW
  dsimp only
  by_cases e : c = 0
  · rw [if_pos e]
    by_cases e2 : r = f
    · rw [if_pos e2]; exact ⟨by decide, by decide⟩
    · rw [if_neg e2]; exact this
  · rw [if_neg e]; exact this

set_option maxRecDepth 20000 in
set_option maxHeartbeats 8000000 in
theorem mlink_ok {w : World} {p : Nat} {m : Md} (H : MAt w p m) (hX : MdOk m) {f : Nat} {c : Int} (hf : f < 6) (hfm : f ≠ m.me) (h0 : 0 ≤ c) (h1 : c ≤ 15) :
    Calls Try.prog 40 #[pv p, iv f, iv c] w fun e w' => e = .returned (iv 0) ∧ MAt w' p (linkM m f c) ∧ Wr p w w' := by
  have hp := H.lt
  have hfi : (f : Int) < 6 := by omega
  have B1 : Hid (decide (0 ≤ (f : Int) ∧ (f : Int) < 6) = true) := decide_eq_true ⟨by omega, hfi⟩
  have g3 : ((f : Int) == (m.me : Int)) = false := by simp; omega
  have g4 : decide (c < 0) = false := decide_eq_false (by omega)
  have g5 : decide (15 < c) = false := decide_eq_false (by omega)
  have HL : Hid (linkM m f c = lookTo (midM m f c) 6) := rfl
  have HC : Hid (∀ n r, 0 ≤ (lookTo (midM m f c) n).cost r ∧ (lookTo (midM m f c) n).cost r ≤ 15) := mid_cost hX h0 h1
  have HS := hide (mid_said hX f c)
  have c0 := H.me
  have c1 := H.cost hf
  have fz := ZArr.free H
  have SM : Hid (MAt (w.setCell ⟨p, 1 + f, none⟩ (iv c)) p (clrM m f c 0)) := by unfold Hid; rw [clr_zero]; exact H.setCost hf c
  have SW := hide ((Wr.refl p w).set (1 + f) (iv c))
  clear H h0 h1 hfm
  go_enter Try.func40, Try.ntmps40
  go_upto_region 4 with (first | (go_at_call 29; with_reducible refine (isNode_is B1.out _).mono ?_; rintro e w1 ⟨rfl, hw1⟩; have hw2 := hw1.symm; clear hw1; subst hw2))
  refine wp_gen (fun V => Hid (MAt V p (clrM m f c 0)) ∧ Hid (Wr p w V)) ⟨SM.out, SW.out⟩ ?_
  clear SM SW c0 c1 fz
  rintro V ⟨M0, W0⟩
  go_wp2_with fail
  go_loopw [7] (fun v7 wr => ∃ k : Nat, k ≤ 6 ∧ (c ≠ 0 → k = 0) ∧ v7 = .int .i64 (k : Int) ∧ Hid (MAt wr p (clrM m f c k)) ∧ Hid (Wr p w wr)) (fun v7 _ => (6 - intOf v7).toNat)
  case atStart => exact ⟨0, by omega, fun _ => rfl, rfl, M0, W0⟩
  case round =>
    clear M0 W0
    obtain ⟨k, hk6, hck, rfl, M0, W0⟩ := hrel
    by_cases hgo : k < 6 ∧ c = 0
    · obtain ⟨hk, rfl⟩ := hgo
      have hki : (k : Int) < 6 := by omega
      obtain ⟨q0, q1⟩ := M0.out.heard hf hk
      have fz := ZArr.free M0.out
      have hpl := M0.out.lt
      have SM : Hid (MAt ((wr.setCell ⟨p, 7 + f * 12 + k * 2, none⟩ (iv 0)).setCell ⟨p, 7 + f * 12 + k * 2 + 1, none⟩ (iv 200)) p (clrM m f 0 (k + 1))) := by unfold Hid; rw [← clr_succ]; exact M0.out.setHeard hf hk 0 200
      have SW := hide ((W0.out.set (7 + f * 12 + k * 2) (iv 0)).set (7 + f * 12 + k * 2 + 1) (iv 200))
      have wk : IntKind.i64.wrap ((k : Int) + 1) = (k : Int) + 1 := by rw [IntKind.wrap_i64]; omega
      clear M0 W0 hck
      go_wp2_with fail
      go_roundw
      case rel => exact ⟨k + 1, by omega, fun h => absurd rfl h, by congr 1, SM, SW⟩
      case measure => simp [intOf]; omega
    · have HE : Hid ((c = 0 ∧ k = 6) ∨ (c ≠ 0 ∧ k = 0)) := by
        by_cases e : c = 0
        · exact .inl ⟨e, by omega⟩
        · exact .inr ⟨e, hck e⟩
      have M1 := hide (clr_end M0.out HE.out)
      have HG : Hid (¬ (k < 6 ∧ c = 0)) := hgo
      clear M0 hck hgo
      have gk : decide ((k : Int) < 6) = true ∧ (c == 0) = false ∨ decide ((k : Int) < 6) = false := by
        by_cases e : k < 6
        · exact .inl ⟨decide_eq_true (by omega), by have := HG.out; simp; omega⟩
        · exact .inr (decide_eq_false (by omega))
      clear HG HE
      rcases gk with ⟨gk, gc⟩ | gk
      all_goals
        go_upto_region 8 with (fail)
        refine wp_gen (fun V => Hid (MAt V p (lookTo (midM m f c) 0)) ∧ Hid (Wr p w V)) ⟨M1.out, W0.out⟩ ?_
        clear M1 W0
        rintro V2 ⟨M2, W2⟩
        go_wp2_with fail
        go_loopw [8] (fun v8 wr => ∃ n : Nat, n ≤ 6 ∧ v8 = .int .i64 (n : Int) ∧ Hid (MAt wr p (lookTo (midM m f c) n)) ∧ Hid (Wr p w wr)) (fun v8 _ => (6 - intOf v8).toNat)
        case atStart => exact ⟨0, by omega, rfl, M2, W2⟩
        case round =>
          clear M2 W2
          obtain ⟨n, hn6, rfl, M2, W2⟩ := hrel
          by_cases hn : n < 6
          · have hni : decide ((n : Int) < 6) = true := decide_eq_true (by omega)
            have wk : IntKind.i64.wrap ((n : Int) + 1) = (n : Int) + 1 := by rw [IntKind.wrap_i64]; omega
            have HQ := hide (mlook_any M2.out hn (HC.out n) (HS.out n n))
            go_wp2_with (go_at_call 66; with_reducible refine HQ.out.mono ?_; rintro e V4 ⟨rfl, M4, W4⟩; have HM4 := hide M4; have HW4 := hide W4; clear M4 W4)
            go_roundw
            case rel => exact ⟨n + 1, by omega, by congr 1, HM4, W2.out.trans HW4.out⟩
            case measure => simp [intOf]; omega
          · have hni : decide ((n : Int) < 6) = false := decide_eq_false (by omega)
            have en : n = 6 := by omega
            subst en
            go_wp2_with fail
            go_ret
            exact ⟨rfl, by rw [HL.out]; exact M2.out, W2.out⟩

end Go.Proofs.Ythiojjkgodffnae

/- CONTRACTS OF handpostref: the codes of Mind.Link and Mind.Hear. -/
namespace Go.Proofs.Ythiojjkgodffnae
open Go.RowKit
attribute [local go_sem] Ext.all Ext.cell Ext.frozen Ext.lt Ext.lt1 Ext.lt2 Ext.ne Ext.ne'

set_option maxRecDepth 20000 in
set_option maxHeartbeats 8000000 in
theorem mlink_bad {w : World} {p : Nat} {m : Md} (H : MAt w p m) {f c : Int} (hb : ¬ (0 ≤ f ∧ f < 6) ∨ f = m.me ∨ c < 0 ∨ 15 < c) :
    Calls Try.prog 40 #[pv p, iv f, iv c] w fun e w' => e = .returned (iv 1) ∧ w' = w := by
  have hp := H.lt
  have c0 := H.me
  obtain ⟨b, B1⟩ : ∃ b, Hid (decide (0 ≤ f ∧ f < 6) = b) := ⟨_, rfl⟩
  have HB : Hid (b = false ∨ (f == (m.me : Int)) = true ∨ decide (c < 0) = true ∨ decide (15 < c) = true) := by
    rcases hb with h | h | h | h
    · exact .inl (by rw [← B1.out]; exact decide_eq_false h)
    · exact .inr (.inl (by simpa using h))
    · exact .inr (.inr (.inl (decide_eq_true h)))
    · exact .inr (.inr (.inr (decide_eq_true h)))
  clear hb H
  cases b
  · go_enter Try.func40, Try.ntmps40
    go_wp2_with (go_at_call 29; with_reducible refine (isNode_is B1.out _).mono ?_; rintro e w1 ⟨rfl, hw1⟩; have hw2 := hw1.symm; clear hw1; subst hw2)
    go_ret
    exact ⟨rfl, rfl⟩
  · cases g3 : (f == (m.me : Int))
    · cases g4 : decide (c < 0)
      · have g5 : decide (15 < c) = true := by have := HB.out; simpa [g3, g4] using this
        clear HB
        go_enter Try.func40, Try.ntmps40
        go_wp2_with (go_at_call 29; with_reducible refine (isNode_is B1.out _).mono ?_; rintro e w1 ⟨rfl, hw1⟩; have hw2 := hw1.symm; clear hw1; subst hw2)
        go_ret
        exact ⟨rfl, rfl⟩
      · clear HB
        go_enter Try.func40, Try.ntmps40
        go_wp2_with (go_at_call 29; with_reducible refine (isNode_is B1.out _).mono ?_; rintro e w1 ⟨rfl, hw1⟩; have hw2 := hw1.symm; clear hw1; subst hw2)
        go_ret
        exact ⟨rfl, rfl⟩
    · clear HB
      go_enter Try.func40, Try.ntmps40
      go_wp2_with (go_at_call 29; with_reducible refine (isNode_is B1.out _).mono ?_; rintro e w1 ⟨rfl, hw1⟩; have hw2 := hw1.symm; clear hw1; subst hw2)
      go_ret
      exact ⟨rfl, rfl⟩

set_option maxRecDepth 20000 in
set_option maxHeartbeats 8000000 in
theorem mhear_bad {w : World} {p : Nat} {m : Md} (H : MAt w p m) {f o z s d : Int} (hb : ¬ (0 ≤ f ∧ f < 6) ∨ ¬ (0 ≤ z ∧ z < 6) ∨ f = m.me ∨ s < 0 ∨ d < 0 ∨ 200 < d) :
    Calls Try.prog 43 #[pv p, .agg #[iv f, iv o, iv z, iv s, iv d]] w fun e w' => e = .returned (iv 1) ∧ Gr w w' := by
  have HM := hide (fun (X : World) (g : Gr w X) => H.gr g)
  have hp := H.lt
  obtain ⟨b, B1⟩ : ∃ b, Hid (decide (0 ≤ f ∧ f < 6) = b) := ⟨_, rfl⟩
  obtain ⟨b2, B2⟩ : ∃ b, Hid (decide (0 ≤ z ∧ z < 6) = b) := ⟨_, rfl⟩
  have HB : Hid (b = false ∨ b2 = false ∨ (f == (m.me : Int)) = true ∨ decide (s < 0) = true ∨ decide (d < 0) = true ∨ decide (200 < d) = true) := by
    rcases hb with h | h | h | h | h | h
    · exact .inl (by rw [← B1.out]; exact decide_eq_false h)
    · exact .inr (.inl (by rw [← B2.out]; exact decide_eq_false h))
    · exact .inr (.inr (.inl (by simpa using h)))
    · exact .inr (.inr (.inr (.inl (decide_eq_true h))))
    · exact .inr (.inr (.inr (.inr (.inl (decide_eq_true h)))))
    · exact .inr (.inr (.inr (.inr (.inr (decide_eq_true h)))))
  clear hb H
  cases b
  · clear HB
    go_enter Try.func43, Try.ntmps43
    go_upto_region 1 with (fail)
    refine wp_gen (fun V => Hid (ZArr V 66 5 w.heap.size (nwF f o z s d)) ∧ Hid (Gr w V)) ⟨ZArr.new w 66 5 (nwF f o z s d), (Gr.refl _).alloc _⟩ ?_
    rintro V ⟨A, gV⟩
    have k0 : V.cell? ⟨w.heap.size, 0, none⟩ = some (iv f) := A.out.cell (by omega)
    have k2 : V.cell? ⟨w.heap.size, 2, none⟩ = some (iv z) := A.out.cell (by omega)
    have k3 : V.cell? ⟨w.heap.size, 3, none⟩ = some (iv s) := A.out.cell (by omega)
    have k4 : V.cell? ⟨w.heap.size, 4, none⟩ = some (iv d) := A.out.cell (by omega)
    have c0 := (HM.out _ gV.out).me
    have j0 := A.out.lt
    have j1 := (HM.out _ gV.out).lt
    go_wp2_with fail
    refine wp_region_ext (by kernel_rfl) (by kernel_rfl) ?_
    repeat (go_big_quiet_step (first | (go_at_call 29; with_reducible exact isNode_ext B1.out _) | (go_at_call 29; with_reducible exact isNode_ext B2.out _)))
    refine wpQuiet_nil ?_
    rintro _ ⟨d1, rfl⟩
    go_wp2_with fail
    go_ret
    exact ⟨rfl, gV.out.trans d1.gr⟩
  · cases b2
    · clear HB
      go_enter Try.func43, Try.ntmps43
      go_upto_region 1 with (fail)
      refine wp_gen (fun V => Hid (ZArr V 66 5 w.heap.size (nwF f o z s d)) ∧ Hid (Gr w V)) ⟨ZArr.new w 66 5 (nwF f o z s d), (Gr.refl _).alloc _⟩ ?_
      rintro V ⟨A, gV⟩
      have k0 : V.cell? ⟨w.heap.size, 0, none⟩ = some (iv f) := A.out.cell (by omega)
      have k2 : V.cell? ⟨w.heap.size, 2, none⟩ = some (iv z) := A.out.cell (by omega)
      have k3 : V.cell? ⟨w.heap.size, 3, none⟩ = some (iv s) := A.out.cell (by omega)
      have k4 : V.cell? ⟨w.heap.size, 4, none⟩ = some (iv d) := A.out.cell (by omega)
      have c0 := (HM.out _ gV.out).me
      have j0 := A.out.lt
      have j1 := (HM.out _ gV.out).lt
      go_wp2_with fail
      refine wp_region_ext (by kernel_rfl) (by kernel_rfl) ?_
      repeat (go_big_quiet_step (first | (go_at_call 29; with_reducible exact isNode_ext B1.out _) | (go_at_call 29; with_reducible exact isNode_ext B2.out _)))
      refine wpQuiet_nil ?_
      rintro _ ⟨d1, rfl⟩
      go_wp2_with fail
      go_ret
      exact ⟨rfl, gV.out.trans d1.gr⟩
    · cases g3 : (f == (m.me : Int))
      · cases g4 : decide (s < 0)
        · cases g5 : decide (d < 0)
          · have g6 : decide (200 < d) = true := by have := HB.out; simpa [g3, g4, g5] using this
            clear HB
            go_enter Try.func43, Try.ntmps43
            go_upto_region 1 with (fail)
            refine wp_gen (fun V => Hid (ZArr V 66 5 w.heap.size (nwF f o z s d)) ∧ Hid (Gr w V)) ⟨ZArr.new w 66 5 (nwF f o z s d), (Gr.refl _).alloc _⟩ ?_
            rintro V ⟨A, gV⟩
            have k0 : V.cell? ⟨w.heap.size, 0, none⟩ = some (iv f) := A.out.cell (by omega)
            have k2 : V.cell? ⟨w.heap.size, 2, none⟩ = some (iv z) := A.out.cell (by omega)
            have k3 : V.cell? ⟨w.heap.size, 3, none⟩ = some (iv s) := A.out.cell (by omega)
            have k4 : V.cell? ⟨w.heap.size, 4, none⟩ = some (iv d) := A.out.cell (by omega)
            have c0 := (HM.out _ gV.out).me
            have j0 := A.out.lt
            have j1 := (HM.out _ gV.out).lt
            go_wp2_with fail
            refine wp_region_ext (by kernel_rfl) (by kernel_rfl) ?_
            repeat (go_big_quiet_step (first | (go_at_call 29; with_reducible exact isNode_ext B1.out _) | (go_at_call 29; with_reducible exact isNode_ext B2.out _)))
            refine wpQuiet_nil ?_
            rintro _ ⟨d1, rfl⟩
            go_wp2_with fail
            go_ret
            exact ⟨rfl, gV.out.trans d1.gr⟩
          · clear HB
            go_enter Try.func43, Try.ntmps43
            go_upto_region 1 with (fail)
            refine wp_gen (fun V => Hid (ZArr V 66 5 w.heap.size (nwF f o z s d)) ∧ Hid (Gr w V)) ⟨ZArr.new w 66 5 (nwF f o z s d), (Gr.refl _).alloc _⟩ ?_
            rintro V ⟨A, gV⟩
            have k0 : V.cell? ⟨w.heap.size, 0, none⟩ = some (iv f) := A.out.cell (by omega)
            have k2 : V.cell? ⟨w.heap.size, 2, none⟩ = some (iv z) := A.out.cell (by omega)
            have k3 : V.cell? ⟨w.heap.size, 3, none⟩ = some (iv s) := A.out.cell (by omega)
            have k4 : V.cell? ⟨w.heap.size, 4, none⟩ = some (iv d) := A.out.cell (by omega)
            have c0 := (HM.out _ gV.out).me
            have j0 := A.out.lt
            have j1 := (HM.out _ gV.out).lt
            go_wp2_with fail
            refine wp_region_ext (by kernel_rfl) (by kernel_rfl) ?_
            repeat (go_big_quiet_step (first | (go_at_call 29; with_reducible exact isNode_ext B1.out _) | (go_at_call 29; with_reducible exact isNode_ext B2.out _)))
            refine wpQuiet_nil ?_
            rintro _ ⟨d1, rfl⟩
            go_wp2_with fail
            go_ret
            exact ⟨rfl, gV.out.trans d1.gr⟩
        · clear HB
          go_enter Try.func43, Try.ntmps43
          go_upto_region 1 with (fail)
          refine wp_gen (fun V => Hid (ZArr V 66 5 w.heap.size (nwF f o z s d)) ∧ Hid (Gr w V)) ⟨ZArr.new w 66 5 (nwF f o z s d), (Gr.refl _).alloc _⟩ ?_
          rintro V ⟨A, gV⟩
          have k0 : V.cell? ⟨w.heap.size, 0, none⟩ = some (iv f) := A.out.cell (by omega)
          have k2 : V.cell? ⟨w.heap.size, 2, none⟩ = some (iv z) := A.out.cell (by omega)
          have k3 : V.cell? ⟨w.heap.size, 3, none⟩ = some (iv s) := A.out.cell (by omega)
          have k4 : V.cell? ⟨w.heap.size, 4, none⟩ = some (iv d) := A.out.cell (by omega)
          have c0 := (HM.out _ gV.out).me
          have j0 := A.out.lt
          have j1 := (HM.out _ gV.out).lt
          go_wp2_with fail
          refine wp_region_ext (by kernel_rfl) (by kernel_rfl) ?_
          repeat (go_big_quiet_step (first | (go_at_call 29; with_reducible exact isNode_ext B1.out _) | (go_at_call 29; with_reducible exact isNode_ext B2.out _)))
          refine wpQuiet_nil ?_
          rintro _ ⟨d1, rfl⟩
          go_wp2_with fail
          go_ret
          exact ⟨rfl, gV.out.trans d1.gr⟩
      · clear HB
        go_enter Try.func43, Try.ntmps43
        go_upto_region 1 with (fail)
        refine wp_gen (fun V => Hid (ZArr V 66 5 w.heap.size (nwF f o z s d)) ∧ Hid (Gr w V)) ⟨ZArr.new w 66 5 (nwF f o z s d), (Gr.refl _).alloc _⟩ ?_
        rintro V ⟨A, gV⟩
        have k0 : V.cell? ⟨w.heap.size, 0, none⟩ = some (iv f) := A.out.cell (by omega)
        have k2 : V.cell? ⟨w.heap.size, 2, none⟩ = some (iv z) := A.out.cell (by omega)
        have k3 : V.cell? ⟨w.heap.size, 3, none⟩ = some (iv s) := A.out.cell (by omega)
        have k4 : V.cell? ⟨w.heap.size, 4, none⟩ = some (iv d) := A.out.cell (by omega)
        have c0 := (HM.out _ gV.out).me
        have j0 := A.out.lt
        have j1 := (HM.out _ gV.out).lt
        go_wp2_with fail
        refine wp_region_ext (by kernel_rfl) (by kernel_rfl) ?_
        repeat (go_big_quiet_step (first | (go_at_call 29; with_reducible exact isNode_ext B1.out _) | (go_at_call 29; with_reducible exact isNode_ext B2.out _)))
        refine wpQuiet_nil ?_
        rintro _ ⟨d1, rfl⟩
        go_wp2_with fail
        go_ret
        exact ⟨rfl, gV.out.trans d1.gr⟩

set_option maxRecDepth 20000 in
set_option maxHeartbeats 8000000 in
theorem mhear_none {w : World} {p : Nat} {m : Md} (H : MAt w p m) {f z : Nat} {o s d : Int} (hf : f < 6) (hz : z < 6) (hfm : f ≠ m.me) (hc : m.cost f = 0) (hs : 0 ≤ s) (hd : 0 ≤ d) (hd2 : d ≤ 200) :
    Calls Try.prog 43 #[pv p, .agg #[iv f, iv o, iv z, iv s, iv d]] w fun e w' => e = .returned (iv 6) ∧ Gr w w' := by
  have hp := H.lt
  have hfi : (f : Int) < 6 := by omega
  have hzi : (z : Int) < 6 := by omega
  have B1 : Hid (decide (0 ≤ (f : Int) ∧ (f : Int) < 6) = true) := decide_eq_true ⟨by omega, hfi⟩
  have B2 : Hid (decide (0 ≤ (z : Int) ∧ (z : Int) < 6) = true) := decide_eq_true ⟨by omega, hzi⟩
  have g3 : ((f : Int) == (m.me : Int)) = false := by simp; omega
  have g4 : decide (s < 0) = false := decide_eq_false (by omega)
  have g5 : decide (d < 0) = false := decide_eq_false (by omega)
  have g6 : decide (200 < d) = false := decide_eq_false (by omega)
  have g7 : (m.cost f == 0) = true := by simpa using hc
  have HM := hide (fun (X : World) (g : Gr w X) => H.gr g)
  clear H hs hd hd2 hfm hc
  go_enter Try.func43, Try.ntmps43
  go_upto_region 1 with (fail)
  refine wp_gen (fun V => Hid (ZArr V 66 5 w.heap.size (nwF f o z s d)) ∧ Hid (Gr w V)) ⟨ZArr.new w 66 5 (nwF f o z s d), (Gr.refl _).alloc _⟩ ?_
  rintro V ⟨A, gV⟩
  have k0 : V.cell? ⟨w.heap.size, 0, none⟩ = some (iv f) := A.out.cell (by omega)
  have k2 : V.cell? ⟨w.heap.size, 2, none⟩ = some (iv z) := A.out.cell (by omega)
  have k3 : V.cell? ⟨w.heap.size, 3, none⟩ = some (iv s) := A.out.cell (by omega)
  have k4 : V.cell? ⟨w.heap.size, 4, none⟩ = some (iv d) := A.out.cell (by omega)
  have c0 := (HM.out _ gV.out).me
  have c1 := (HM.out _ gV.out).cost hf
  have j0 := A.out.lt
  have j1 := (HM.out _ gV.out).lt
  go_wp2_with fail
  refine wp_region_ext (by kernel_rfl) (by kernel_rfl) ?_
  repeat (go_big_quiet_step (first | (go_at_call 29; with_reducible exact isNode_ext B1.out _) | (go_at_call 29; with_reducible exact isNode_ext B2.out _)))
  refine wpQuiet_nil ?_
  rintro _ ⟨d1, rfl⟩
  go_upto_region 3 with (fail)
  refine wp_region_ext (by kernel_rfl) (by kernel_rfl) ?_
  repeat (go_big_quiet_step (fail))
  refine wpQuiet_nil ?_
  rintro _ ⟨d2, rfl⟩
  go_wp2_with fail
  go_ret
  exact ⟨rfl, (gV.out.trans d1.gr).trans d2.gr⟩

end Go.Proofs.Ythiojjkgodffnae
