import Derived.Test.YthiojjkgodffnaeNe14
/- THE PROGRAM'S Net: Settle. -/
namespace Go.Proofs.Ythiojjkgodffnae
open Go.RowKit
attribute [local go_sem] Ext.all Ext.cell Ext.frozen Ext.lt Ext.lt1 Ext.lt2 Ext.ne Ext.ne'

/-- The news are taken away. -/
theorem Ne.noNews {M : Nat → Prop} {B w : World} {p k : Nat} {q : Nat → Nat} {v : Value} {c : Nat → Nat → Nat} {t : Tn} (h : Ne M B w p k q v c t) : Ne M B (w.setCell ⟨p, 7, none⟩ (.slice none 0 0)) p k q (.slice none 0 0) c { t with news := [] } :=
  h.newsPut (World.grownBy.refl _ _) (NwO.nil _ _) (.inl rfl)
set_option maxRecDepth 20000 in
set_option maxHeartbeats 16000000 in
theorem netSettle_ok {M : Nat → Prop} {B w : World} {p k : Nat} {q : Nat → Nat} {v : Value} {c : Nat → Nat → Nat} {t : Tn} (H : Ne M B w p k q v c t) (A : TnA t c) (hA : ∀ k, k < 6 → agT t k < 4611686018427387904) (R : Int) (hR : R ≤ 4611686018427387904) :
    Calls Try.prog 20 #[pv p, iv R] w fun e w' => e = .returned (.tuple #[]) ∧ Ne M B w' p k q (.slice none 0 0) c (settleT t R.toNat) := by
  have hp := H.blk.lt
  have c2 := H.news
  have fz := H.blk.free
  obtain ⟨ao, cv, hv, _, _, _⟩ := H.nw.shape
  subst hv
  have H0 := hide H.noNews
  have A0 : Hid (TnA { t with news := [] } c) := A.sub (fun x hx => by cases hx)
  have HA := hide hA
  clear H A hA
  have hag : Hid (∀ k, agT { t with news := [] } k = agT t k) := fun _ => rfl
  have HST : Hid (settleT t R.toNat = roundsT (tickTo { t with news := [] } 6) R.toNat) := rfl
  generalize ({ t with news := [] } : Tn) = t0 at *
  go_enter Try.func20, Try.ntmps20
  go_upto_region 2 with (fail)
  refine wp_gen (fun V => Hid (Ne M B V p k q (.slice none 0 0) c t0)) H0 ?_
  clear hp c2 fz H0
  rintro V H0
  have hp := H0.out.blk.lt
  have c0 : V.cell? ⟨p, 1, none⟩ = some (pv (q 0)) := H0.out.node (a := 0) (by omega)
  have c1 : V.cell? ⟨p, 2, none⟩ = some (pv (q 1)) := H0.out.node (a := 1) (by omega)
  have c2 : V.cell? ⟨p, 3, none⟩ = some (pv (q 2)) := H0.out.node (a := 2) (by omega)
  have c3 : V.cell? ⟨p, 4, none⟩ = some (pv (q 3)) := H0.out.node (a := 3) (by omega)
  have c4 : V.cell? ⟨p, 5, none⟩ = some (pv (q 4)) := H0.out.node (a := 4) (by omega)
  have c5 : V.cell? ⟨p, 6, none⟩ = some (pv (q 5)) := H0.out.node (a := 5) (by omega)
  go_wp2_with fail
  clear c0 c1 c2 c3 c4 c5 hp
  generalize hC : (#[pv (q 0), pv (q 1), pv (q 2), pv (q 3), pv (q 4), pv (q 5)] : Array Value) = C
  have HIX := hide (fun (s : Nat) (hs : s < 6) => idx_nodes (g := q) hC hs)
  clear hC
  go_loopw [15] (fun v15 wr => ∃ a : Nat, a ≤ 6 ∧ v15 = .int .i64 (a : Int) ∧ Hid (Ne M B wr p k q (.slice none 0 0) c (tickTo t0 a))) (fun v15 _ => (6 - intOf v15).toNat)
  case atStart => exact ⟨0, by omega, rfl, H0⟩
  case round =>
    clear H0
    obtain ⟨a, ha6, rfl, H0⟩ := hrel
    by_cases ha : a < 6
    · have hai : decide ((a : Int) < 6) = true := decide_eq_true (by omega)
      have ha0 : (a : Int) < 6 := by omega
      have wa : IntKind.i64.wrap ((a : Int) + 1) = (a : Int) + 1 := by rw [IntKind.wrap_i64]; omega
      obtain ⟨T1, T2⟩ := A0.out.ticks a (by omega)
      have hix := HIX.out a ha
      have hage : age ((tickTo t0 a).nd a) < 4611686018427387904 := by
        have e1 : age ((tickTo t0 a).nd a) = agT (tickTo t0 a) a := by unfold age agT; rw [T1.s.tc.me a ha]
        rw [e1, T2 a ha, if_neg (by omega), hag.out]
        exact HA.out a ha
      have HQ : Hid (Calls Try.prog 50 #[pv (q a)] wr fun e w' => e = .returned (.tuple #[]) ∧ Ne M B w' p k q (.slice none 0 0) c (tickTo t0 (a + 1))) := (ntickN (H0.out.six.at_ a ha) (T1.s.z a ha) hage).mono fun e w' ⟨he, hm, hw⟩ => ⟨he, H0.out.put ha hw hm⟩
      clear T1 T2 hage
      go_wp2_with (go_at_call 50; with_reducible refine HQ.out.mono ?_; rintro e V1 ⟨rfl, H1'⟩; have H1 := hide H1'; clear H1')
      go_roundw
      case rel => exact ⟨a + 1, by omega, by congr 1, H1⟩
      case measure => simp [intOf]; omega
    · have hai : decide ((a : Int) < 6) = false := decide_eq_false (by omega)
      have ea : a = 6 := by omega
      rw [ea] at H0
      have A1 := hide (A0.out.ticks 6 (Nat.le_refl _)).1
      clear ea ha ha6 A0 HA hag
      generalize tickTo t0 6 = t1 at *
      have AR := hide (fun r => (A1.out.rounds r).1)
      have STL := hide (fun r h => still_rounds (r := r) A1.out h)
      go_wp2_with fail
      go_loopw [22] (fun v22 wr => ∃ r : Nat, (r : Int) ≤ max R 0 ∧ v22 = .int .i64 (r : Int) ∧ Hid (Ne M B wr p k q (.slice none 0 0) c (roundsT t1 r))) (fun v22 _ => (R - intOf v22).toNat)
      case atStart => exact ⟨0, by omega, rfl, H0⟩
      case round =>
        clear H0
        obtain ⟨r, hr, rfl, H0⟩ := hrel
        by_cases hrR : (r : Int) < R
        · have hri : decide ((r : Int) < R) = true := decide_eq_true hrR
          have wr1 : IntKind.i64.wrap ((r : Int) + 1) = (r : Int) + 1 := by rw [IntKind.wrap_i64]; omega
          have HRD := hide (netRound_ok H0.out (AR.out r))
          have HRS := hide (show roundsT t1 (r + 1) = roundT (roundsT t1 r) 6 from rfl)
          have HE : Hid (roundChg (roundsT t1 r) 6 = false → roundsT t1 R.toNat = roundsT t1 (r + 1)) := fun h => by
            have := STL.out r h (R.toNat - (r + 1))
            rw [show r + 1 + (R.toNat - (r + 1)) = R.toNat by omega] at this
            exact this
          rw [← HRS.out] at HRD
          generalize hch : roundChg (roundsT t1 r) 6 = ch at *
          clear hch
          cases ch
          · have HE2 := hide (HE.out rfl)
            go_wp2_with (go_at_call 51; with_reducible refine HRD.out.mono ?_; rintro e V1 ⟨rfl, H1'⟩; have H1 := hide H1'; clear H1')
            first
              | (refine bodyPost_end (results_none rfl _ _ _) rfl ?_; exact ⟨rfl, by rw [HST.out, HE2.out]; exact H1.out⟩)
              | (refine bodyPost_ret (results_none rfl _ _ _) rfl ?_; exact ⟨rfl, by rw [HST.out, HE2.out]; exact H1.out⟩)
          · go_wp2_with (go_at_call 51; with_reducible refine HRD.out.mono ?_; rintro e V1 ⟨rfl, H1'⟩; have H1 := hide H1'; clear H1')
            go_roundw
            case rel => exact ⟨r + 1, by omega, by congr 1, H1⟩
            case measure => simp [intOf]; omega
        · have hri : decide ((r : Int) < R) = false := decide_eq_false hrR
          have er : r = R.toNat := by omega
          go_wp2_with fail
          refine bodyPost_end (results_none rfl _ _ _) rfl ?_
          exact ⟨rfl, by rw [HST.out, ← er]; exact H0.out⟩

end Go.Proofs.Ythiojjkgodffnae

/- slices.Index, slices.Contains, of numbers of nodes. -/
namespace Go.Proofs.Ythiojjkgodffnae
open Go.RowKit
attribute [local go_sem] Ext.all Ext.cell Ext.frozen Ext.lt Ext.lt1 Ext.lt2 Ext.ne Ext.ne'

set_option maxRecDepth 20000 in
set_option maxHeartbeats 8000000 in
theorem index_any {w : World} {ao : Option Addr} {n cp : Nat} {l : List Nat} (H : NumAt w ao l) (hn : n = l.length) (hm : l.length ≤ 1000) (x : Nat) :
    Calls Try.prog 71 #[.slice ao n cp, iv (x : Int)] w fun e w' => ∃ r : Int, e = .returned (iv r) ∧ w' = w ∧ (0 ≤ r ↔ x ∈ l) := by
  have HN := hide hn
  clear hn
  go_enter Try.func71, Try.ntmps71
  go_wp2_with fail
  go_loopw [8] (fun v8 wr => ∃ k : Nat, k ≤ n ∧ v8 = .int .i64 (k : Int) ∧ Hid (wr = w) ∧ Hid (∀ i (h : i < l.length), i < k → l[i] ≠ x)) (fun v8 _ => (n - intOf v8).toNat)
  case atStart => exact ⟨0, by omega, rfl, rfl, fun i h hi => by omega⟩
  case round =>
    obtain ⟨k, hkn, rfl, hwr, HB⟩ := hrel
    by_cases hk : k < n
    · have hki : decide ((k : Int) < (n : Int)) = true := decide_eq_true (by omega)
      have hk0 : (k : Int) < (n : Int) := by omega
      have hkl : k < l.length := by have := HN.out; omega
      have wk : IntKind.i64.wrap ((k : Int) + 1) = (k : Int) + 1 := by rw [IntKind.wrap_i64]; omega
      rcases H with h0 | ⟨bb, o, rfl, hbb, hc⟩
      · exfalso; rw [h0] at hkl; simp at hkl
      have c0 := hc k hkl
      rw [← hwr.out] at c0 hbb
      have HE : Hid (l[k] = x → x ∈ l) := fun e => by rw [← e]; exact List.getElem_mem hkl
      have HF : Hid (l[k] ≠ x → ∀ i (h : i < l.length), i < k + 1 → l[i] ≠ x) := fun e i h hi => by
        by_cases q : i = k
        · subst q; exact e
        · exact HB.out i h (by omega)
      generalize hlk : l[k] = lk at *
      clear hc hlk HB
      by_cases e : lk = x
      · have HI := hide (HE.out e)
        subst e
        clear HE HF
        go_wp2_with fail
        go_ret
        exact ⟨_, rfl, hwr.out, fun _ => HI.out, fun _ => by omega⟩
      · have e1 : ((x : Int) == (lk : Int)) = false := by simp; omega
        have HF2 := hide (HF.out e)
        clear HE HF e
        go_wp2_with fail
        go_roundw
        case rel => exact ⟨k + 1, by omega, by congr 1, hwr, HF2⟩
        case measure => simp [intOf]; omega
    · have hki : decide ((k : Int) < (n : Int)) = false := decide_eq_false (by omega)
      have HI : Hid (x ∉ l) := fun hm => by
        obtain ⟨i, hi, e⟩ := List.mem_iff_getElem.1 hm
        have := HN.out
        exact HB.out i hi (by omega) e
      go_wp2_with fail
      go_ret
      exact ⟨_, rfl, hwr.out, fun h => by omega, fun h => absurd h HI.out⟩
set_option maxRecDepth 20000 in
theorem contains_is {w : World} {ao : Option Addr} {n cp : Nat} {l : List Nat} (H : NumAt w ao l) (hn : n = l.length) (hm : l.length ≤ 1000) (x : Nat) {b : Bool} (hb : decide (x ∈ l) = b) :
    Calls Try.prog 46 #[.slice ao n cp, iv (x : Int)] w fun e w' => e = .returned (.bool b) ∧ w' = w := by
  have HI := hide (index_any (cp := cp) H hn hm x)
  have HB := hide hb
  clear H hn hb
  go_enter Try.func46, Try.ntmps46
  go_wp2_with (go_at_call 71; with_reducible refine HI.out.mono ?_; rintro e w1 ⟨r, rfl, hw1, hr'⟩; have HR := hide hr'; have hw2 := hw1.symm; clear hw1 hr'; subst hw2)
  go_ret
  refine ⟨?_, rfl⟩
  refine congrArg (fun z => Ending.returned (.bool z)) ?_
  rw [← HB.out]
  exact decide_eq_decide.2 HR.out

end Go.Proofs.Ythiojjkgodffnae

/- WHAT Path TELLS AT ITS END: n: it is at a node (where it was by then); e: that is the node to. -/
namespace Go.Proofs.Ythiojjkgodffnae

def flP (n e : Bool) : Bool := !n || e

end Go.Proofs.Ythiojjkgodffnae

/- THE PROGRAM'S Net: Path. -/
namespace Go.Proofs.Ythiojjkgodffnae
open Go.RowKit
theorem hop_of (a b c : Int) (w : World) : (Instr.field 39 (.agg #[iv a, iv b, iv c]) 2).run Try.prog w = .ok (iv c) w := by kernel_rfl
attribute [local go_sem] Ext.all Ext.cell Ext.frozen Ext.lt Ext.lt1 Ext.lt2 Ext.ne Ext.ne' hop_of

def slLen : Value → Nat
  | .slice _ n _ => n
  | _ => 0
def hopZ (t : Tn) (z : Int) (x : Nat) : Int := (wayOf (t.nd x) z).2.2
/-- The program's Path: as the reference's, what it tells at its end aside. -/
def pathP (hop : Nat → Int) (z : Int) : Nat → Int → List Nat → List Nat × Bool
  | 0, _, out => (out, true)
  | f + 1, p, out => if 0 ≤ p ∧ p < 6 then (if p.toNat ∈ out then (out, flP true (p == z)) else pathP hop z f (hop p.toNat) (out ++ [p.toNat])) else (out, flP false (p == z))

set_option maxRecDepth 20000 in
set_option maxHeartbeats 8000000 in
theorem netPath_any {M : Nat → Prop} {B w : World} {p k : Nat} {q : Nat → Nat} {v : Value} {c : Nat → Nat → Nat} {t : Tn} (H : Ne M B w p k q v c t) (fr z : Int) {l : List Nat} {ok : Bool} (hl : pathP (hopZ t z) z 7 fr [] = (l, ok)) :
    Calls Try.prog 15 #[pv p, iv fr, iv z] w fun e w' => ∃ u, e = .returned (.tuple #[u, .bool ok]) ∧ OwnI w w' u l ∧ Gr w w' := by
  have HW := hide (fun (X : World) (g : Gr w X) (a : Int) => netWay_any (H.ext g) a z)
  have HP := hide hl
  clear H hl
  go_enter Try.func15, Try.ntmps15
  go_wp2_with fail
  go_loopw [8, 9] (fun v8 v9 wr => ∃ (f : Nat) (out : List Nat) (at_ : Int) (u : Value), u = v8 ∧ v9 = iv at_ ∧ Hid (pathP (hopZ t z) z f at_ out = (l, ok)) ∧ Hid (OwnI w wr u out) ∧ Hid (Gr w wr) ∧ Hid ((∀ y ∈ out, y < 6) ∧ out.Nodup ∧ f + out.length = 7)) (fun v8 _ _ => 7 - slLen v8)
  case atStart => exact ⟨7, [], fr, _, rfl, rfl, HP, OwnI.nil _ _, Gr.refl _, ⟨fun y hy => (by cases hy), List.nodup_nil, rfl⟩⟩
  case round =>
    clear HP
    obtain ⟨f, out, at_, u, rfl, rfl, HP, O1, gw, HO⟩ := hrel
    have hlen : out.length ≤ 6 := nodup_len 6 out HO.out.2.1 HO.out.1
    obtain ⟨f, rfl⟩ : ∃ f', f = f' + 1 := ⟨f - 1, by have := HO.out.2.2; omega⟩
    obtain ⟨ao, cp, hu, NA'⟩ := O1.out.shape
    have NA := hide NA'
    clear NA'
    subst hu
    by_cases hn : 0 ≤ at_ ∧ at_ < 6
    · have B1 : Hid (decide (0 ≤ at_ ∧ at_ < 6) = true) := decide_eq_true hn
      obtain ⟨x, rfl⟩ : ∃ x : Nat, at_ = (x : Int) := ⟨at_.toNat, by omega⟩
      have hx : x < 6 := by omega
      by_cases hin : x ∈ out
      · have HI := hide (contains_is (cp := cp) NA.out rfl (by omega) x (decide_eq_true hin))
        have HR : Hid ((out, flP true ((x : Int) == z)) = (l, ok)) := by
          have := HP.out
          rw [pathP, if_pos hn, Int.toNat_natCast, if_pos hin] at this
          exact this
        have h1 := congrArg Prod.fst HR.out
        have h2 := congrArg Prod.snd HR.out
        simp only at h1 h2
        subst h1
        obtain ⟨eb, e1⟩ : ∃ eb, ((x : Int) == z) = eb := ⟨_, rfl⟩
        rw [e1] at h2
        have H2 : Hid (eb = ok) := h2
        clear hn HR h2 HP hin HW HO
        go_wp2_with (first | (go_at_call 45; with_reducible refine (lnode_is B1.out _).mono ?_; rintro e w1 ⟨rfl, hw1⟩; have hw2 := hw1.symm; clear hw1; subst hw2) | (go_at_call 46; with_reducible refine HI.out.mono ?_; rintro e w1 ⟨rfl, hw1⟩; have hw2 := hw1.symm; clear hw1; subst hw2))
        rw [← H2.out]
        go_ret2
        exact ⟨_, rfl, O1.out, gw.out⟩
      · have HI := hide (contains_is (cp := cp) NA.out rfl (by omega) x (decide_eq_false hin))
        have HR : Hid (pathP (hopZ t z) z f (hopZ t z x) (out ++ [x]) = (l, ok)) := by
          have := HP.out
          rw [pathP, if_pos hn, Int.toNat_natCast, if_neg hin] at this
          exact this
        have HO2 : Hid ((∀ y ∈ out ++ [x], y < 6) ∧ (out ++ [x]).Nodup ∧ f + (out ++ [x]).length = 7) := by
          obtain ⟨o1, o2, o3⟩ := HO.out
          refine ⟨fun y hy => ?_, ?_, by rw [List.length_append, List.length_singleton]; omega⟩
          · rcases List.mem_append.1 hy with r | r
            · exact o1 y r
            · rw [List.mem_singleton.1 r]; exact hx
          · rw [List.nodup_append]
            refine ⟨o2, by simp, fun a ha b hb => ?_⟩
            rw [List.mem_singleton.1 hb]
            exact fun e => hin (e ▸ ha)
        have HWX : Hid (∀ X : World, Gr w X → Calls Try.prog 18 #[pv p, iv (x : Int), iv z] X fun e w' => ∃ s d, e = .returned (.agg #[iv s, iv d, iv (hopZ t z x)]) ∧ ∃ d' : Ext X, w' = d'.out) := fun X g => by
          refine (HW.out X g (x : Int)).mono fun e w' ⟨he, d', hd'⟩ => ⟨(wayOf (t.nd x) z).1, (wayOf (t.nd x) z).2.1, ?_, d', hd'⟩
          rw [he]
          unfold wayTn
          rw [if_pos hn, Int.toNat_natCast]
          rfl
        obtain ⟨v', w', hrun, hown, hgr⟩ := OwnI.app 34 O1.out gw.out x (by omega)
        have HRN := hide hrun
        have HOW := hide hown
        have HGR := hide hgr
        clear hrun hown hgr hn hin HP HW HO
        go_wp2_with (first | (go_at_call 45; with_reducible refine (lnode_is B1.out _).mono ?_; rintro e w1 ⟨rfl, hw1⟩; have hw2 := hw1.symm; clear hw1; subst hw2) | (go_at_call 46; with_reducible refine HI.out.mono ?_; rintro e w1 ⟨rfl, hw1⟩; have hw2 := hw1.symm; clear hw1; subst hw2) | (at_builtin; refine Lib.wpList_append_run _ rfl _ _ _ _ rfl _ _ rfl rfl _ _ HRN.out ?_) | (go_at_call 18; with_reducible refine (HWX.out _ HGR.out).mono ?_; rintro e _ ⟨s3, d3, rfl, x3, rfl⟩))
        go_roundw
        case rel => exact ⟨f, out ++ [x], hopZ t z x, _, rfl, rfl, HR, HOW.out.gr x3.gr, HGR.out.trans x3.gr, HO2⟩
        case measure =>
          obtain ⟨ao2, cp2, hv2, _⟩ := HOW.out.shape
          rw [hv2]
          simp [slLen]
          omega
    · have B1 : Hid (decide (0 ≤ at_ ∧ at_ < 6) = false) := decide_eq_false hn
      have HR : Hid ((out, flP false (at_ == z)) = (l, ok)) := by
        have := HP.out
        rw [pathP, if_neg hn] at this
        exact this
      have h1 := congrArg Prod.fst HR.out
      have h2 := congrArg Prod.snd HR.out
      simp only at h1 h2
      subst h1
      obtain ⟨eb, e1⟩ : ∃ eb, (at_ == z) = eb := ⟨_, rfl⟩
      rw [e1] at h2
      have H2 := hide h2
      clear hn HR HP HW HO h2
      go_wp2_with (go_at_call 45; with_reducible refine (lnode_is B1.out _).mono ?_; rintro e w1 ⟨rfl, hw1⟩; have hw2 := hw1.symm; clear hw1; subst hw2)
      rw [← H2.out]
      go_ret2
      exact ⟨_, rfl, O1.out, gw.out⟩

end Go.Proofs.Ythiojjkgodffnae
