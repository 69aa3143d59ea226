import Derived.Test.YtfcknkanbcndjagGreatDoorNe9
import Derived.Test.YtfcknkanbcndjagGreatDoorKPlain2
/- THE PROGRAM'S Net: tick. -/
namespace Go.Proofs.YtfcknkanbcndjagGreatDoor
open Go.RowKit
attribute [local go_sem] Ext.all Ext.cell Ext.frozen Ext.lt Ext.lt1 Ext.lt2 Ext.ne Ext.ne'
section
variable {M : Nat → Prop} {B w w' : World} {p k : Nat} {q : Nat → Nat} {v : Value} {c : Nat → Nat → Nat} {t : Tn}
set_option maxRecDepth 20000 in
theorem netTick_no {a : Int} (h : ¬ isN a) : Calls Tryz.prog 68 #[pv p, iv a] w fun e w' => e = .returned (iv 1) ∧ w' = w := by
  have B1 : Hid (decide (0 ≤ a ∧ a < 6) = false) := decide_eq_false h
  go_enter Tryz.func68, Tryz.ntmps68
  go_wp2_with (go_at_call 33; with_reducible refine (lnode_is B1.out _).mono ?_; rintro e w1 ⟨rfl, hw1⟩; have hw2 := hw1.symm; clear hw1; subst hw2)
  go_ret
  exact ⟨rfl, rfl⟩
/-- Those with whom a is linked, as a list that stays. -/
theorem ofCall (H : Ne M B w p k q v c t) (hc : Lk c) {a : Nat} (ha : a < 6) : Calls Tryz.prog 55 #[pv k, iv (a : Int)] w fun e w' => ∃ ao n cp, e = .returned (.slice ao n cp) ∧ n = (ofTo (fun _ i => c a i) 0 6).length ∧ NumAt w' ao (ofTo (fun _ i => c a i) 0 6) ∧ Gr w w' ∧ ∀ b o, ao = some ⟨b, o, none⟩ → b < w'.heap.size → rest w' p k q v b :=
  (kof_any H.lk hc (a : Int)).mono fun e w' ⟨u, he, ho, hg⟩ => by
    have e1 : ofB c (a : Int) 6 = ofTo (fun _ i => c a i) 0 6 := by
      unfold ofB
      have : ∀ j, j ≤ 6 → ofTo (fun _ i => cst c (a : Int) i) 0 j = ofTo (fun _ i => c a i) 0 j := by
        intro j
        induction j with
        | zero => intro _; rfl
        | succ j ih =>
          intro hj
          have ec : cst c (a : Int) (j : Int) = c a j := by
            unfold cst
            rw [if_pos ⟨node_iff.2 (by omega), node_iff.2 (by omega)⟩, Int.toNat_natCast, Int.toNat_natCast]
          rw [ofTo, ofTo, ih (by omega), ec]
      exact this 6 (Nat.le_refl _)
    obtain ⟨ao, cp, hu, hn⟩ := ho.shape
    have hy := ho.young
    rw [e1] at hu hn
    exact ⟨ao, _, cp, by rw [he, hu], rfl, hn, hg, fun b o e hb => H.notOwn hg (hy b o _ _ (by rw [hu, e])) hb⟩
set_option maxRecDepth 20000 in
set_option maxHeartbeats 8000000 in
theorem netTick_ok (H : Ne M B w p k q v c t) (A : TnA t c) {a : Nat} (ha : a < 6) (hA : agT t a < 4611686018427387904) (hl : t.news.length ≤ 40) :
    Calls Tryz.prog 68 #[pv p, iv (a : Int)] w fun e w' => ∃ v', e = .returned (iv (sayAll (tickT t a) a 6).2) ∧ Ne M B w' p k q v' c (sayAll (tickT t a) a 6).1 := by
  have hp := H.blk.lt
  have hai : (a : Int) < 6 := by omega
  have B1 : Hid (decide (0 ≤ (a : Int) ∧ (a : Int) < 6) = true) := decide_eq_true ⟨by omega, hai⟩
  have c1 := H.node ha
  have hag : age (t.nd a) < 4611686018427387904 := by
    have e1 : age (t.nd a) = agT t a := by unfold age agT; rw [A.s.tc.me a ha]
    rw [e1]; exact hA
  have HT : Hid (Calls Tryz.prog 29 #[pv (q a)] w fun e w' => e = .returned (.tuple #[]) ∧ Ne M B w' p k q v c (tickT t a) ∧ w'.cell? ⟨p, 0, none⟩ = some (pv k) ∧ p < w'.heap.size) := (ntickN (H.six.at_ a ha) (A.s.z a ha) hag).mono fun e w' ⟨he, hm, hw⟩ => by
    have := H.put ha hw hm
    exact ⟨he, this, this.links, this.blk.lt⟩
  have A1 := hide (A.tick ha).1
  have HL := hide (show (tickT t a).news.length ≤ 40 from hl)
  clear H A hA hl hag
  generalize tickT t a = t1 at *
  have HS := hide (sayL_all t1 (a := a) (f := fun _ i => c a i) (fun b hb => by rw [A1.out.s.tc.cst a b ha hb]; omega) 6 (Nat.le_refl _))
  have HLT := hide (ofz_lt (fun _ i => c a i) 6)
  have HLN := hide (ofz_len (fun _ i => c a i) 6)
  have HO := hide (fun (V : World) (h : Ne M B V p k q v c t1) => ofCall h A1.out.s.tc.lk ha)
  have AL := hide (fun L i => sayL_a A1.out a L i)
  have LL := hide (fun L i => sayL_len HL.out a L i)
  clear A1 HL
  generalize ofTo (fun _ i => c a i) 0 6 = L at *
  go_enter Tryz.func68, Tryz.ntmps68
  go_upto_region 5 with (first | (go_at_call 33; with_reducible refine (lnode_is B1.out _).mono ?_; rintro e w1 ⟨rfl, hw1⟩; have hw2 := hw1.symm; clear hw1; subst hw2) | (go_at_call 29; with_reducible refine HT.out.mono ?_; rintro e V ⟨rfl, H1', l0, hp0⟩; have H1 := hide H1'; clear H1') | (go_at_call 55; with_reducible refine (HO.out _ H1.out).mono ?_; rintro e W ⟨ao, n, cp, rfl, hnl', nm', gW', nr'⟩; have HNL := hide hnl'; have NM := hide nm'; have GW := hide gW'; have NR := hide nr'; clear hnl' nm' gW' nr'))
  have HW := hide (H1.out.ext GW.out)
  have HR := hide HW.out.rest
  have UR : Hid (∀ {X : World} {v' : Value} {c' : Nat → Nat → Nat} {t' : Tn}, Ne (rest W p k q v) W X p k q v' c' t' → Ne M B X p k q v' c' t') := fun h => HW.out.unrest h
  clear H1 GW HO HT c1 l0 hp0 hp HW
  go_loopw [25] (fun v25 wr => ∃ (i : Nat) (v1 : Value), i ≤ n ∧ v25 = .int .i64 (i : Int) ∧ Hid ((sayL t1 a L i).2 = 0) ∧ Hid (Ne (rest W p k q v) W wr p k q v1 c (sayL t1 a L i).1)) (fun v25 _ => ((n : Int) - intOf v25).toNat)
  case atStart => exact ⟨0, v, by omega, rfl, rfl, HR⟩
  case round =>
    clear HR
    obtain ⟨i, v1, hin, rfl, h0, T1⟩ := hrel
    by_cases hi : i < n
    · have hii : decide ((i : Int) < (n : Int)) = true := decide_eq_true (by omega)
      have hi0 : (i : Int) < (n : Int) := by omega
      have hiL : i < L.length := by have := HNL.out; omega
      have wi : IntKind.i64.wrap ((i : Int) + 1) = (i : Int) + 1 := by rw [IntKind.wrap_i64]; have := HNL.out; have := HLN.out; omega
      obtain ⟨b, hbL⟩ : ∃ b, b = L[i] := ⟨_, rfl⟩
      have hb6 : b < 6 := by rw [hbL]; exact (HLT.out _ (List.getElem_mem hiL)).1
      obtain ⟨bn, on, rfl, hbn, cb⟩ : ∃ bn on, ao = some ⟨bn, on, none⟩ ∧ bn < wr.heap.size ∧ wr.cell? ⟨bn, on + i, none⟩ = some (iv (b : Int)) := by
        have nk : NumAt wr ao L := NM.out.keep (fun b' o' e hb' => T1.out.kp.block b' hb' (NR.out b' o' e hb'))
        rcases nk with e | ⟨bn, on, e, hbn, hc⟩
        · exfalso; rw [e] at hiL; simp at hiL
        · exact ⟨bn, on, e, hbn, by rw [hbL]; exact hc i hiL⟩
      have HN := hide (sayL_next h0.out hiL)
      rw [← hbL] at HN
      have HT := hide (tell_any T1.out (AL.out L i).s.tc (LL.out L i) (a : Int) (b : Int))
      rw [← HN.out] at HT
      obtain ⟨r, hr⟩ : ∃ r, Hid ((sayL t1 a L (i + 1)).2 = r) := ⟨_, rfl⟩
      rw [hr.out] at HT
      clear HN hbL
      by_cases hrr : r = 0
      · subst hrr
        go_wp2_with (go_at_call 69; with_reducible refine HT.out.mono ?_; rintro e V2 ⟨v2, rfl, T2'⟩; have T2 := hide T2'; clear T2')
        go_roundw
        case rel => exact ⟨i + 1, v2, by omega, by congr 1, hr, T2⟩
        case measure => simp [intOf]; omega
      · have hre : (r == 0) = false := by simpa using hrr
        have hre2 : (r != 0) = true := by simpa using hrr
        have E6 : Hid (sayAll t1 a 6 = sayL t1 a L (i + 1)) := by
          have := sayL_stop (t := t1) (a := a) (i := i + 1) (L := L) (by rw [hr.out]; exact hrr) (L.length - (i + 1))
          rw [show i + 1 + (L.length - (i + 1)) = L.length by omega, HS.out] at this
          exact this
        go_wp2_with (go_at_call 69; with_reducible refine HT.out.mono ?_; rintro e V2 ⟨v2, rfl, T2'⟩; have T2 := hide T2'; clear T2')
        go_ret
        exact ⟨v2, congrArg (fun z => Ending.returned (iv z)) (show r = (sayAll t1 a 6).2 by rw [E6.out, hr.out]), by rw [E6.out]; exact UR.out T2.out⟩
    · have hii : decide ((i : Int) < (n : Int)) = false := decide_eq_false (by omega)
      have E6 : Hid (sayAll t1 a 6 = sayL t1 a L i) := by
        have e : i = L.length := by have := HNL.out; omega
        unfold Hid
        rw [e, HS.out]
      go_wp2_with fail
      go_ret
      exact ⟨v1, congrArg (fun z => Ending.returned (iv z)) (show (0 : Int) = (sayAll t1 a 6).2 by rw [E6.out, h0.out]), by rw [E6.out]; exact UR.out T1.out⟩
end

end Go.Proofs.YtfcknkanbcndjagGreatDoor

/- THE PROGRAM'S Net: link, Do. -/
namespace Go.Proofs.YtfcknkanbcndjagGreatDoor
open Go.RowKit
attribute [local go_sem] Ext.all Ext.cell Ext.frozen Ext.lt Ext.lt1 Ext.lt2 Ext.ne Ext.ne'
section
variable {M : Nat → Prop} {B w w' : World} {p k : Nat} {q : Nat → Nat} {v : Value} {c : Nat → Nat → Nat} {t : Tn}
set_option maxRecDepth 20000 in
theorem netLink_bad (H : Ne M B w p k q v c t) {a b n : Int} (h : ¬ (isN a ∧ isN b ∧ a ≠ b ∧ 0 ≤ n ∧ n ≤ 15)) : Calls Tryz.prog 67 #[pv p, iv a, iv b, iv n] w fun e w' => e = .returned (iv 1) ∧ w' = w := by
  have hp := H.blk.lt
  have c0 := H.links
  have HS := hide (kset_bad (w := w) (p := k) (a := a) (b := b) (v := n) (by
    cases e : setB a b n
    · rfl
    · exact absurd (set_iff.1 e) h))
  clear H h
  go_enter Tryz.func67, Tryz.ntmps67
  go_wp2_with (go_at_call 120; with_reducible refine HS.out.mono ?_; rintro e w1 ⟨rfl, hw1⟩; have hw2 := hw1.symm; clear hw1; subst hw2)
  go_ret
  exact ⟨rfl, rfl⟩
set_option maxRecDepth 20000 in
set_option maxHeartbeats 8000000 in
theorem netLink_ok (H : Ne M B w p k q v c t) (A : TnA t c) {a b n : Nat} (ha : a < 6) (hb : b < 6) (hne : a ≠ b) (h15 : n ≤ 15) :
    Calls Tryz.prog 67 #[pv p, iv (a : Int), iv (b : Int), iv (n : Int)] w fun e w' => e = .returned (iv 0) ∧ Ne M B w' p k q v (setC c a b n) (linkT t a b (n : Int)) := by
  have hp := H.blk.lt
  have c0 := H.links
  have hai : (a : Int) < 6 := by omega
  have hbi : (b : Int) < 6 := by omega
  have ea : lnkM (t.nd a) (b : Int) n = linkM (t.nd a) b n := if_pos ⟨⟨⟨by omega, by omega⟩, by rw [A.s.tc.me a ha]; omega⟩, by omega, by omega⟩
  have eb : lnkM (t.nd b) (a : Int) n = linkM (t.nd b) a n := if_pos ⟨⟨⟨by omega, by omega⟩, by rw [A.s.tc.me b hb]; omega⟩, by omega, by omega⟩
  have za := A.s.z a ha
  have zb := A.s.z b hb
  have HS : Hid (Calls Tryz.prog 120 #[pv k, iv (a : Int), iv (b : Int), iv (n : Int)] w fun e V => e = .returned (iv 0) ∧ Ne M B V p k q v (setC c a b n) { t with cst := cstUp (cstUp t.cst a b n) b a n } ∧ V.cell? ⟨p, 1 + a, none⟩ = some (pv (q a)) ∧ p < V.heap.size) := (kset_ok H.lk ha hb hne h15).mono fun e V ⟨he, j, hV, hk⟩ => by
    subst hV
    have := H.setLk hk (cstUp (cstUp t.cst a b n) b a n)
    exact ⟨he, this, this.node ha, this.blk.lt⟩
  have HA : Hid (∀ V, Ne M B V p k q v (setC c a b n) { t with cst := cstUp (cstUp t.cst a b n) b a n } → Calls Tryz.prog 121 #[pv (q a), iv (b : Int), iv (n : Int)] V fun e W => ∃ r, e = .returned r ∧ Ne M B W p k q v (setC c a b n) { t with cst := cstUp (cstUp t.cst a b n) b a n, nd := updW t.nd a (linkM (t.nd a) b n) } ∧ W.cell? ⟨p, 1 + b, none⟩ = some (pv (q b)) ∧ p < W.heap.size) := fun V h =>
    (nlinkN (h.six.at_ a ha) za (b : Int) n).mono fun e W ⟨he, hm, hw⟩ => by
      rw [ea] at hm
      have := h.put ha hw hm
      exact ⟨_, he, this, this.node hb, this.blk.lt⟩
  have HB : Hid (∀ V, Ne M B V p k q v (setC c a b n) { t with cst := cstUp (cstUp t.cst a b n) b a n, nd := updW t.nd a (linkM (t.nd a) b n) } → Calls Tryz.prog 121 #[pv (q b), iv (a : Int), iv (n : Int)] V fun e W => ∃ r, e = .returned r ∧ Ne M B W p k q v (setC c a b n) (linkT t a b (n : Int))) := fun V h => by
    have hm0 : DAt V (q b) (sel (t.nd b)) := by
      have := h.six.at_ b hb
      dsimp only at this
      rw [updW_ne _ _ (fun e => hne e.symm)] at this
      exact this
    refine (nlinkN hm0 zb (a : Int) n).mono fun e W ⟨he, hm, hw⟩ => ?_
    rw [eb] at hm
    exact ⟨_, he, h.put hb hw hm⟩
  clear H A za zb ea eb
  go_enter Tryz.func67, Tryz.ntmps67
  go_wp2_with (first | (go_at_call 120; with_reducible refine HS.out.mono ?_; rintro e V1 ⟨rfl, T1', n1, p1⟩; have T1 := hide T1'; clear T1') | (go_at_call 121; with_reducible refine (HA.out _ T1.out).mono ?_; rintro e V2 ⟨r2, rfl, T2', n2, p2⟩; have T2 := hide T2'; clear T2') | (go_at_call 121; with_reducible refine (HB.out _ T2.out).mono ?_; rintro e V3 ⟨r3, rfl, T3'⟩; have T3 := hide T3'; clear T3'))
  go_ret
  exact ⟨rfl, T3.out⟩
theorem netLink_any (H : Ne M B w p k q v c t) (A : TnA t c) (a b n : Int) :
    Calls Tryz.prog 67 #[pv p, iv a, iv b, iv n] w fun e w' => e = .returned (iv (linkC t a b n).2) ∧ Ne M B w' p k q v (nextC c ⟨1, a, b, n⟩) (linkC t a b n).1 := by
  unfold linkC nextC
  by_cases h : isN a ∧ isN b ∧ a ≠ b ∧ 0 ≤ n ∧ n ≤ 15
  · rw [if_pos h, if_pos ⟨rfl, h⟩]
    obtain ⟨i, rfl⟩ : ∃ i : Nat, a = (i : Int) := ⟨a.toNat, by omega⟩
    obtain ⟨j, rfl⟩ : ∃ j : Nat, b = (j : Int) := ⟨b.toNat, by omega⟩
    obtain ⟨m, rfl⟩ : ∃ m : Nat, n = (m : Int) := ⟨n.toNat, by omega⟩
    exact netLink_ok H A (by omega) (by omega) (by omega) (by omega)
  · rw [if_neg h, if_neg (fun x => h x.2)]
    exact (netLink_bad H h).mono fun _ w' ⟨h1, h2⟩ => ⟨h1, by rw [h2]; exact H⟩
theorem netTick_any (H : Ne M B w p k q v c t) (A : TnA t c) (hA : ∀ k, k < 6 → agT t k < 4611686018427387904) (hl : t.news.length ≤ 40) (a : Int) :
    Calls Tryz.prog 68 #[pv p, iv a] w fun e w' => ∃ v', e = .returned (iv (if isN a then sayAll (tickT t a.toNat) a.toNat 6 else (t, 1)).2) ∧ Ne M B w' p k q v' c (if isN a then sayAll (tickT t a.toNat) a.toNat 6 else (t, 1)).1 := by
  by_cases h : isN a
  · rw [if_pos h]
    obtain ⟨i, rfl⟩ : ∃ i : Nat, a = (i : Int) := ⟨a.toNat, by omega⟩
    exact netTick_ok H A (by omega) (hA _ (by omega)) hl
  · rw [if_neg h]
    exact (netTick_no h).mono fun _ w' ⟨h1, h2⟩ => ⟨v, h1, by rw [h2]; exact H⟩
theorem netHear_any (H : Ne M B w p k q v c t) (A : TnA t c) (hl : t.news.length ≤ 40) (n : Int) :
    Calls Tryz.prog 70 #[pv p, iv n] w fun e w' => ∃ v', e = .returned (iv (newsC t 4 n).2) ∧ Ne M B w' p k q v' c (newsC t 4 n).1 := by
  unfold newsC
  by_cases h : 0 ≤ n ∧ n.toNat < t.news.length
  · rw [dif_pos h, if_neg (by omega), if_pos rfl]
    obtain ⟨i, rfl⟩ : ∃ i : Nat, n = (i : Int) := ⟨n.toNat, by omega⟩
    exact hear_ok' H A hl (by omega) rfl
  · rw [dif_neg h]
    exact (hear_none H (by omega)).mono fun _ w' ⟨h1, h2⟩ => ⟨v, h1, H.ext h2⟩
theorem netTake_any (H : Ne M B w p k q v c t) (hl : t.news.length ≤ 40) (n : Int) :
    Calls Tryz.prog 71 #[pv p, iv n] w fun e w' => ∃ v' a0 a1 a2 a3 a4, e = .returned (.tuple #[.agg #[iv a0, iv a1, iv a2, iv a3, iv a4], iv (newsC t 5 n).2]) ∧ Ne M B w' p k q v' c (newsC t 5 n).1 := by
  unfold newsC
  by_cases h : 0 ≤ n ∧ n.toNat < t.news.length
  · rw [dif_pos h, if_neg (by omega), if_neg (by omega)]
    obtain ⟨i, rfl⟩ : ∃ i : Nat, n = (i : Int) := ⟨n.toNat, by omega⟩
    exact (take_ok H hl (n := i) (by omega) rfl).mono fun _ w' ⟨v', h1, h2⟩ => ⟨v', _, _, _, _, _, h1, h2⟩
  · rw [dif_neg h]
    exact (take_none H (by omega)).mono fun _ w' ⟨h1, h2⟩ => ⟨v, _, _, _, _, _, h1, H.ext h2⟩
theorem netDouble_any (H : Ne M B w p k q v c t) (hl : t.news.length ≤ 40) (n : Int) :
    Calls Tryz.prog 72 #[pv p, iv n] w fun e w' => ∃ v', e = .returned (iv (newsC t 6 n).2) ∧ Ne M B w' p k q v' c (newsC t 6 n).1 := by
  unfold newsC
  by_cases h : 0 ≤ n ∧ n.toNat < t.news.length
  · rw [dif_pos h, if_pos rfl]
    by_cases h4 : 40 ≤ t.news.length
    · rw [if_pos h4]
      exact (double_no H hl (.inr ⟨by omega, h4, rfl⟩)).mono fun _ w' ⟨h1, h2⟩ => ⟨v, h1, by rw [h2]; exact H⟩
    · rw [if_neg h4]
      obtain ⟨i, rfl⟩ : ∃ i : Nat, n = (i : Int) := ⟨n.toNat, by omega⟩
      exact double_ok H (by omega) (n := i) (by omega) rfl
  · rw [dif_neg h]
    exact (double_no H hl (.inl ⟨by omega, rfl⟩)).mono fun _ w' ⟨h1, h2⟩ => ⟨v, h1, by rw [h2]; exact H⟩
end

end Go.Proofs.YtfcknkanbcndjagGreatDoor

/- THE PROGRAM'S Net: Do. -/
namespace Go.Proofs.YtfcknkanbcndjagGreatDoor
open Go.RowKit
attribute [local go_sem] Ext.all Ext.cell Ext.frozen Ext.lt Ext.lt1 Ext.lt2 Ext.ne Ext.ne'
section
variable {M : Nat → Prop} {B w w' : World} {p k : Nat} {q : Nat → Nat} {v : Value} {c : Nat → Nat → Nat} {t : Tn}
set_option maxRecDepth 20000 in
set_option maxHeartbeats 8000000 in
theorem netDo_any (H : Ne M B w p k q v c t) (A : TnA t c) (hA : ∀ k, k < 6 → agT t k < 4611686018427387904) (hl : t.news.length ≤ 40) (x : Sp) (X Y : Value) :
    Calls Tryz.prog 38 #[pv p, .agg #[iv x.k, iv x.a, iv x.b, iv x.n, X, Y]] w fun e w' => ∃ v', e = .returned (iv (doT t x).2) ∧ Ne M B w' p k q v' (nextC c x) (doT t x).1 := by
  obtain ⟨kd, a, b, n⟩ := x
  dsimp only
  have hp := H.blk.lt
  have HX := H.ext ((Gr.refl w).alloc (.cells #[iv kd, iv a, iv b, iv n, X, Y] 54))
  by_cases e1 : kd = 1
  · subst e1
    have HC := hide (netLink_any HX A a b n)
    have HE : Hid (doT t ⟨1, a, b, n⟩ = linkC t a b n) := by unfold Hid doT; rw [if_pos rfl]
    rw [HE.out]
    clear H HX A hA hl HE
    go_enter Tryz.func38, Tryz.ntmps38
    go_wp2_with (go_at_call 67; with_reducible refine HC.out.mono ?_; rintro e V ⟨rfl, T1'⟩; have T1 := hide T1'; clear T1')
    go_ret
    exact ⟨_, rfl, T1.out⟩
  · have k1 : (kd == 1) = false := by simpa using e1
    have EC : nextC c ⟨kd, a, b, n⟩ = c := by unfold nextC; rw [if_neg (fun x => e1 x.1)]
    rw [EC]
    clear EC
    by_cases e2 : kd = 2
    · subst e2
      have HC := hide (netTick_any HX A hA hl a)
      have HE : Hid (doT t ⟨2, a, b, n⟩ = if isN a then sayAll (tickT t a.toNat) a.toNat 6 else (t, 1)) := by unfold Hid doT; dsimp only; rw [if_neg e1, if_pos rfl]
      rw [HE.out]
      clear H HX A hA hl HE e1
      generalize (if isN a then sayAll (tickT t a.toNat) a.toNat 6 else (t, 1)) = st at *
      go_enter Tryz.func38, Tryz.ntmps38
      go_wp2_with (go_at_call 68; with_reducible refine HC.out.mono ?_; rintro e V ⟨v1, rfl, T1'⟩; have T1 := hide T1'; clear T1')
      go_ret
      exact ⟨_, rfl, T1.out⟩
    · have k2 : (kd == 2) = false := by simpa using e2
      by_cases e3 : kd = 3
      · subst e3
        have HC := hide (tell_any HX A.s.tc hl a b)
        have HE : Hid (doT t ⟨3, a, b, n⟩ = sayC t a b) := by unfold Hid doT; dsimp only; rw [if_neg e1, if_neg e2, if_pos rfl]
        rw [HE.out]
        clear H HX A hA hl HE e1 e2
        generalize sayC t a b = st at *
        go_enter Tryz.func38, Tryz.ntmps38
        go_wp2_with (go_at_call 69; with_reducible refine HC.out.mono ?_; rintro e V ⟨v1, rfl, T1'⟩; have T1 := hide T1'; clear T1')
        go_ret
        exact ⟨_, rfl, T1.out⟩
      · have k3 : (kd == 3) = false := by simpa using e3
        by_cases e4 : kd = 4
        · subst e4
          have HC := hide (netHear_any HX A hl n)
          have HE : Hid (doT t ⟨4, a, b, n⟩ = newsC t 4 n) := by unfold Hid doT; dsimp only; rw [if_neg e1, if_neg e2, if_neg e3, if_pos (.inl rfl)]
          rw [HE.out]
          clear H HX A hA hl HE e1 e2 e3
          generalize newsC t 4 n = st at *
          go_enter Tryz.func38, Tryz.ntmps38
          go_wp2_with (go_at_call 70; with_reducible refine HC.out.mono ?_; rintro e V ⟨v1, rfl, T1'⟩; have T1 := hide T1'; clear T1')
          go_ret
          exact ⟨_, rfl, T1.out⟩
        · have k4 : (kd == 4) = false := by simpa using e4
          by_cases e5 : kd = 5
          · subst e5
            have HC := hide (netTake_any HX hl n)
            have HE : Hid (doT t ⟨5, a, b, n⟩ = newsC t 5 n) := by unfold Hid doT; dsimp only; rw [if_neg e1, if_neg e2, if_neg e3, if_pos (.inr (.inl rfl))]
            rw [HE.out]
            clear H HX A hA hl HE e1 e2 e3 e4
            generalize newsC t 5 n = st at *
            go_enter Tryz.func38, Tryz.ntmps38
            go_wp2_with (go_at_call 71; with_reducible refine HC.out.mono ?_; rintro e V ⟨v1, a0, a1, a2, a3, a4, rfl, T1'⟩; have T1 := hide T1'; clear T1')
            go_ret
            exact ⟨_, rfl, T1.out.ext ((Gr.refl _).alloc _)⟩
          · have k5 : (kd == 5) = false := by simpa using e5
            by_cases e6 : kd = 6
            · subst e6
              have HC := hide (netDouble_any HX hl n)
              have HE : Hid (doT t ⟨6, a, b, n⟩ = newsC t 6 n) := by unfold Hid doT; dsimp only; rw [if_neg e1, if_neg e2, if_neg e3, if_pos (.inr (.inr rfl))]
              rw [HE.out]
              clear H HX A hA hl HE e1 e2 e3 e4 e5
              generalize newsC t 6 n = st at *
              go_enter Tryz.func38, Tryz.ntmps38
              go_wp2_with (go_at_call 72; with_reducible refine HC.out.mono ?_; rintro e V ⟨v1, rfl, T1'⟩; have T1 := hide T1'; clear T1')
              go_ret
              exact ⟨_, rfl, T1.out⟩
            · have k6 : (kd == 6) = false := by simpa using e6
              have HE : Hid (doT t ⟨kd, a, b, n⟩ = (t, 8)) := by unfold Hid doT; dsimp only; rw [if_neg e1, if_neg e2, if_neg e3, if_neg (by omega)]
              rw [HE.out]
              have HF := hide HX
              clear H HX A hA hl HE e1 e2 e3 e4 e5 e6
              go_enter Tryz.func38, Tryz.ntmps38
              go_wp2_with fail
              go_ret
              exact ⟨_, rfl, HF.out⟩
end

end Go.Proofs.YtfcknkanbcndjagGreatDoor

/- A ROUND THAT CHANGES NO WAY: what it leaves, no further round changes. No Go here. -/
namespace Go.Proofs.YtfcknkanbcndjagGreatDoor

theorem TnA.tell' {t : Tn} {c : Nat → Nat → Nat} (H : TnA t c) {a b : Nat} (ha : a < 6) (hb : b < 6) : TnA (YtfcknkanbcndjagGreatDoor.tellTo t a b) c := by
  by_cases e : t.cst a b = 0
  · have : YtfcknkanbcndjagGreatDoor.tellTo t a b = t := if_pos e
    rw [this]; exact H
  · exact (H.tellTo ha hb e).1
theorem TnA.row' {t : Tn} {c : Nat → Nat → Nat} (H : TnA t c) {a : Nat} (ha : a < 6) : ∀ b, b ≤ 6 → TnA (rowT t a b) c
  | 0, _ => H
  | b + 1, hb => (H.row' ha b (by omega)).tell' ha (by omega)
theorem TnA.round' {t : Tn} {c : Nat → Nat → Nat} (H : TnA t c) : ∀ a, a ≤ 6 → TnA (roundT t a) c
  | 0, _ => H
  | a + 1, ha => (H.round' a (by omega)).row' (by omega) 6 (Nat.le_refl _)
/-- What b hears of a's ways, one by one. -/
def partT (t : Tn) (a b j : Nat) : Tn := { t with nd := updW t.nd b (tellAll (t.nd b) a (t.nd a).ways j) }
theorem part_zero (t : Tn) (a b : Nat) : partT t a b 0 = t := by
  unfold partT
  have : updW t.nd b (tellAll (t.nd b) a (t.nd a).ways 0) = t.nd := updW_id _ _ _ rfl
  rw [this]
theorem part_six (t : Tn) {a b : Nat} (h : t.cst a b ≠ 0) : partT t a b 6 = tellTo t a b := (if_neg h).symm

/-- Did it change a way? -/
def tellChg (m : Md) (a : Nat) (w : Nat → Int × Int × Int) : Nat → Bool
  | 0 => false
  | j + 1 => tellChg m a w j || decide ((tellAll m a w (j + 1)).ways j ≠ (tellAll m a w j).ways j)
def rowChg (t : Tn) (a : Nat) : Nat → Bool
  | 0 => false
  | b + 1 => rowChg t a b || (if (rowT t a b).cst a b = 0 then false else tellChg ((rowT t a b).nd b) a ((rowT t a b).nd a).ways 6)
def roundChg (t : Tn) : Nat → Bool
  | 0 => false
  | a + 1 => roundChg t a || rowChg (roundT t a) a 6
theorem hear_all (m : Md) (a z : Nat) (s d : Int) : (hearM m a z s d).heard = updW m.heard a (updW (m.heard a) z (s, d)) := by
  unfold hearM
  rw [look_heard]
theorem tell_quiet (m : Md) (a : Nat) (w : Nat → Int × Int × Int) : ∀ j, tellChg m a w j = false → (tellAll m a w j).ways = m.ways ∧ (∀ z, z < j → (tellAll m a w j).heard a z = ((w z).1, (w z).2.1)) ∧ (∀ x z, x ≠ a → (tellAll m a w j).heard x z = m.heard x z)
  | 0, _ => ⟨rfl, fun z hz => by omega, fun _ _ _ => rfl⟩
  | j + 1, h => by
    rw [tellChg, Bool.or_eq_false_iff] at h
    obtain ⟨h1, h2, h3⟩ := tell_quiet m a w j h.1
    have hj : (tellAll m a w (j + 1)).ways j = (tellAll m a w j).ways j := by
      have := of_decide_eq_false h.2
      exact Classical.byContradiction fun q => this q
    refine ⟨?_, fun z hz => ?_, fun x z hx => ?_⟩
    · funext z
      by_cases e : z = j
      · rw [e, hj, h1]
      · rw [show tellAll m a w (j + 1) = hearM (tellAll m a w j) a j (w j).1 (w j).2.1 from rfl, (hear_far _ e _ _).ways, h1]
    · rw [show tellAll m a w (j + 1) = hearM (tellAll m a w j) a j (w j).1 (w j).2.1 from rfl, hear_all, updW_same]
      by_cases e : z = j
      · rw [e, updW_same]
      · rw [updW_ne _ _ e]; exact h2 z (by omega)
    · rw [show tellAll m a w (j + 1) = hearM (tellAll m a w j) a j (w j).1 (w j).2.1 from rfl, hear_all, updW_ne _ _ hx]
      exact h3 x z hx
theorem row_quiet (t : Tn) (a : Nat) : ∀ b, rowChg t a b = false → (∀ x, ((rowT t a b).nd x).ways = (t.nd x).ways) ∧ (∀ x z, x < b → z < 6 → t.cst a x ≠ 0 → ((rowT t a b).nd x).heard a z = (((t.nd a).ways z).1, ((t.nd a).ways z).2.1)) ∧ (∀ x y z, y ≠ a → ((rowT t a b).nd x).heard y z = (t.nd x).heard y z)
  | 0, _ => ⟨fun _ => rfl, fun x z hx => by omega, fun _ _ _ _ => rfl⟩
  | b + 1, h => by
    rw [rowChg, Bool.or_eq_false_iff, rowT_cst] at h
    obtain ⟨h1, h2, h3⟩ := row_quiet t a b h.1
    by_cases e : t.cst a b = 0
    · have : rowT t a (b + 1) = rowT t a b := by
        show tellTo (rowT t a b) a b = _
        exact if_pos (by rw [rowT_cst]; exact e)
      rw [this]
      refine ⟨h1, fun x z hx hz hc => h2 x z ?_ hz hc, h3⟩
      have : x ≠ b := fun q => hc (by rw [q]; exact e)
      omega
    · have h' := h.2
      rw [if_neg e] at h'
      obtain ⟨k1, k2, k3⟩ := tell_quiet _ _ _ 6 h'
      have en : (rowT t a (b + 1)).nd = updW (rowT t a b).nd b (tellAll ((rowT t a b).nd b) a ((rowT t a b).nd a).ways 6) := tellTo_nd _ _ _ (by rw [rowT_cst]; exact e)
      refine ⟨fun x => ?_, fun x z hx hz hc => ?_, fun x y z hy => ?_⟩
      · rw [en]
        by_cases q : x = b
        · rw [q, updW_same, k1, h1]
        · rw [updW_ne _ _ q, h1]
      · rw [en]
        by_cases q : x = b
        · rw [q, updW_same, k2 z hz, h1]
        · rw [updW_ne _ _ q]; exact h2 x z (by omega) hz hc
      · rw [en]
        by_cases q : x = b
        · rw [q, updW_same, k3 y z hy, h3 b y z hy]
        · rw [updW_ne _ _ q]; exact h3 x y z hy
theorem round_quiet (t : Tn) : ∀ a, roundChg t a = false → (∀ x, ((roundT t a).nd x).ways = (t.nd x).ways) ∧ ∀ y x z, y < a → x < 6 → z < 6 → t.cst y x ≠ 0 → ((roundT t a).nd x).heard y z = (((t.nd y).ways z).1, ((t.nd y).ways z).2.1)
  | 0, _ => ⟨fun _ => rfl, fun y x z hy => by omega⟩
  | a + 1, h => by
    rw [roundChg, Bool.or_eq_false_iff] at h
    obtain ⟨h1, h2⟩ := round_quiet t a h.1
    obtain ⟨k1, k2, k3⟩ := row_quiet _ _ 6 h.2
    refine ⟨fun x => ?_, fun y x z hy hx hz hc => ?_⟩
    · rw [roundT, k1, h1]
    · rw [roundT]
      by_cases e : y = a
      · rw [e, k2 x z hx hz (by rw [roundT_cst, ← e]; exact hc), h1]
      · rw [k3 x y z e]; exact h2 y x z (by omega) hx hz hc
/-- What was heard so already, and looked at, changes nothing. -/
theorem same_hear {m : Md} (hl : Lkd m) {a z : Nat} (hz : z < 6) {s d : Int} (h : m.heard a z = (s, d)) : hearM m a z s d = m := by
  unfold hearM
  have e : ({ m with heard := updW m.heard a (updW (m.heard a) z (s, d)) } : Md) = m := by
    have : updW m.heard a (updW (m.heard a) z (s, d)) = m.heard := updW_id _ _ _ (updW_id _ _ _ h).symm
    rw [this]
  rw [e]
  by_cases q : z = m.me
  · unfold lookM; rw [if_pos q]
  · exact (hl z hz q).look
theorem same_tell {m : Md} (hl : Lkd m) {a : Nat} {w : Nat → Int × Int × Int} (h : ∀ z, z < 6 → m.heard a z = ((w z).1, (w z).2.1)) : ∀ j, j ≤ 6 → tellAll m a w j = m
  | 0, _ => rfl
  | j + 1, hj => by
    rw [show tellAll m a w (j + 1) = hearM (tellAll m a w j) a j (w j).1 (w j).2.1 from rfl, same_tell hl h j (by omega)]
    exact same_hear hl (by omega) (h j (by omega))
theorem same_round {t : Tn} {c : Nat → Nat → Nat} (H : TnA t c) (h : ∀ y x z, y < 6 → x < 6 → z < 6 → t.cst y x ≠ 0 → (t.nd x).heard y z = (((t.nd y).ways z).1, ((t.nd y).ways z).2.1)) : roundT t 6 = t := by
  have one : ∀ a b, a < 6 → b < 6 → tellTo t a b = t := fun a b ha hb => by
    unfold tellTo
    by_cases e : t.cst a b = 0
    · rw [if_pos e]
    · rw [if_neg e, same_tell (H.s.z b hb).l (fun z hz => h a b z ha hb hz e) 6 (Nat.le_refl _), updW_id _ _ _ rfl]
  have row : ∀ a, a < 6 → ∀ b, b ≤ 6 → rowT t a b = t := fun a ha b => by
    induction b with
    | zero => exact fun _ => rfl
    | succ b ih => exact fun hb => by rw [rowT, ih (by omega), one a b ha (by omega)]
  have rnd : ∀ a, a ≤ 6 → roundT t a = t := fun a => by
    induction a with
    | zero => exact fun _ => rfl
    | succ a ih => exact fun ha => by rw [roundT, ih (by omega), row a (by omega) 6 (Nat.le_refl _)]
  exact rnd 6 (Nat.le_refl _)
/-- A round that changed no way: another one changes nothing. -/
theorem still_round {t : Tn} {c : Nat → Nat → Nat} (H : TnA t c) (h : roundChg t 6 = false) : roundT (roundT t 6) 6 = roundT t 6 := by
  obtain ⟨h1, h2⟩ := round_quiet t 6 h
  refine same_round (H.round' 6 (Nat.le_refl _)) fun y x z hy hx hz hc => ?_
  rw [h1, h2 y x z hy hx hz (by rw [roundT_cst] at hc; exact hc)]
theorem still_rounds {t : Tn} {c : Nat → Nat → Nat} (H : TnA t c) {r : Nat} (h : roundChg (roundsT t r) 6 = false) : ∀ k, roundsT t (r + 1 + k) = roundsT t (r + 1)
  | 0 => rfl
  | k + 1 => by
    show roundT (roundsT t (r + 1 + k)) 6 = _
    rw [still_rounds H h k]
    exact still_round (H.rounds r).1 h

end Go.Proofs.YtfcknkanbcndjagGreatDoor

/- THE PROGRAM'S Net: a round: lists of those who are told; ways held against each other. -/
namespace Go.Proofs.YtfcknkanbcndjagGreatDoor
open Go.RowKit

/-- Those of a list are told, one behind the other, and hear it at once; did it change a way? -/
def rowL (t : Tn) (a : Nat) (L : List Nat) : Nat → Tn
  | 0 => t
  | i + 1 => match L[i]? with
    | some b => tellTo (rowL t a L i) a b
    | none => rowL t a L i
def rowLC (t : Tn) (a : Nat) (L : List Nat) : Nat → Bool
  | 0 => false
  | i + 1 => rowLC t a L i || match L[i]? with
    | some b => tellChg ((rowL t a L i).nd b) a ((rowL t a L i).nd a).ways 6
    | none => false
theorem rowL_next (t : Tn) (a : Nat) {L : List Nat} {i : Nat} (hi : i < L.length) : rowL t a L (i + 1) = tellTo (rowL t a L i) a L[i] ∧ rowLC t a L (i + 1) = (rowLC t a L i || tellChg ((rowL t a L i).nd L[i]) a ((rowL t a L i).nd a).ways 6) := by
  rw [rowL, rowLC, List.getElem?_eq_getElem hi]
  exact ⟨rfl, rfl⟩
theorem rowL_app (t : Tn) (a : Nat) (L K : List Nat) : ∀ i, i ≤ L.length → rowL t a (L ++ K) i = rowL t a L i ∧ rowLC t a (L ++ K) i = rowLC t a L i
  | 0, _ => ⟨rfl, rfl⟩
  | i + 1, h => by
    obtain ⟨h1, h2⟩ := rowL_app t a L K i (by omega)
    rw [rowL, rowL, rowLC, rowLC, h1, h2, List.getElem?_append_left (by omega)]
    exact ⟨rfl, rfl⟩
theorem rowL_cst (t : Tn) (a : Nat) (L : List Nat) : ∀ i, (rowL t a L i).cst = t.cst
  | 0 => rfl
  | i + 1 => by
    rw [rowL]
    split
    · rw [tellTo_cst, rowL_cst t a L i]
    · exact rowL_cst t a L i
theorem rowL_all (t : Tn) {a : Nat} {f : Nat → Nat → Nat} (hf : ∀ b, b < 6 → (t.cst a b = 0 ↔ f 0 b = 0)) : ∀ j, j ≤ 6 → rowL t a (ofTo f 0 j) (ofTo f 0 j).length = rowT t a j ∧ rowLC t a (ofTo f 0 j) (ofTo f 0 j).length = rowChg t a j
  | 0, _ => ⟨rfl, rfl⟩
  | j + 1, h => by
    obtain ⟨h1, h2⟩ := rowL_all t hf j (by omega)
    rw [rowT, rowChg, ofTo, rowT_cst]
    by_cases e : f 0 j = 0
    · have e' := (hf j (by omega)).2 e
      rw [if_pos e, List.append_nil, h1, h2, if_pos e', Bool.or_false]
      exact ⟨(if_pos (by rw [rowT_cst]; exact e')).symm, rfl⟩
    · have e' : t.cst a j ≠ 0 := fun q => e ((hf j (by omega)).1 q)
      rw [if_neg e, if_neg e', List.length_append]
      show rowL t a (ofTo f 0 j ++ [j]) ((ofTo f 0 j).length + 1) = _ ∧ rowLC t a (ofTo f 0 j ++ [j]) ((ofTo f 0 j).length + 1) = _
      obtain ⟨k1, k2⟩ := rowL_app t a (ofTo f 0 j) [j] _ (Nat.le_refl _)
      rw [rowL, rowLC, k1, k2, h1, h2]
      simp
theorem rowL_a {t : Tn} {c : Nat → Nat → Nat} (H : TnA t c) {a : Nat} (ha : a < 6) {L : List Nat} (hL : ∀ x ∈ L, x < 6) : ∀ i, TnA (rowL t a L i) c
  | 0 => H
  | i + 1 => by
    have ih := rowL_a H ha hL i
    rw [rowL]
    split
    · rename_i b hb
      exact ih.tell' ha (hL b (List.mem_of_getElem? hb))
    · exact ih
/-- What a tells, as a list that stays. -/
theorem tellCall2 {M : Nat → Prop} {B w : World} {p k : Nat} {q : Nat → Nat} {v : Value} {c : Nat → Nat → Nat} {t : Tn} (H : Ne M B w p k q v c t) (hme : ∀ a, a < 6 → (t.nd a).me = a) {a : Nat} (ha : a < 6) (b : Nat) :
    Calls Tryz.prog 56 #[pv (q a), iv (b : Int)] w fun e w' => ∃ ao cp, e = .returned (.slice ao 6 cp) ∧ NewsAt w' ao (newsL (tellT t a b)) ∧ Gr w w' ∧ ∀ b o, ao = some ⟨b, o, none⟩ → b < w'.heap.size → rest w' p k q v b :=
  (ntell_any (H.six.at_ a ha) (b : Int)).mono fun e w' ⟨v, he, ho, hg⟩ => by
    obtain ⟨ao, c, hv, hn, hy⟩ := OwnN.shape ho
    rw [tell_len] at hv
    exact ⟨ao, c, by rw [he, hv], by rw [tell_news (hme a ha)]; exact hn, hg, fun b o e hb => H.notOwn hg (hy b o e) hb⟩
/-- One of the six pointers of an array. -/
theorem idx_nodes {C : Array Value} {g : Nat → Nat} (hC : #[pv (g 0), pv (g 1), pv (g 2), pv (g 3), pv (g 4), pv (g 5)] = C) {s : Nat} (hs : s < 6) (w : World) :
    (Instr.index 45 (.agg C) (iv s)).run Tryz.prog w = .ok (pv (g s)) w := by
  subst hC
  rcases (show s = 0 ∨ s = 1 ∨ s = 2 ∨ s = 3 ∨ s = 4 ∨ s = 5 by omega) with rfl | rfl | rfl | rfl | rfl | rfl <;> kernel_rfl

end Go.Proofs.YtfcknkanbcndjagGreatDoor
