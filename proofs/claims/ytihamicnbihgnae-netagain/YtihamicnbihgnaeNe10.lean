/- THE PROGRAM'S Net: tick. -/
import Derived.Test.YtihamicnbihgnaeNe9
namespace Go.Proofs.Ytihamicnbihgnae
open Go.RowKit
attribute [local go_sem] Ext.all Ext.cell Ext.frozen Ext.lt Ext.lt1 Ext.lt2 Ext.ne Ext.ne'

section
variable {M : Nat → Prop} {B w w' : World} {p k : Nat} {q : Nat → Nat} {v : Value} {c : Nat → Nat → Nat} {t : Tn}
set_option maxRecDepth 20000 in
theorem netTick_no {a : Int} (h : ¬ isN a) : Calls Try.prog 22 #[pv p, iv a] w fun e w' => e = .returned (iv 1) ∧ w' = w := by
  have B1 : Hid (decide (0 ≤ a ∧ a < 6) = false) := decide_eq_false h
  go_enter Try.func22, Try.ntmps22
  go_wp2_with (go_at_call 28; with_reducible refine (lnode_is B1.out _).mono ?_; rintro e w1 ⟨rfl, hw1⟩; have hw2 := hw1.symm; clear hw1; subst hw2)
  go_ret
  exact ⟨rfl, rfl⟩
/-- Those with whom a is linked, as a list that stays. -/
theorem ofCall (H : Ne M B w p k q v c t) (hc : Lk c) {a : Nat} (ha : a < 6) : Calls Try.prog 35 #[pv k, iv (a : Int)] w fun e w' => ∃ ao n cp, e = .returned (.slice ao n cp) ∧ n = (ofTo (fun _ i => c a i) 0 6).length ∧ NumAt w' ao (ofTo (fun _ i => c a i) 0 6) ∧ Gr w w' ∧ ∀ b o, ao = some ⟨b, o, none⟩ → b < w'.heap.size → rest w' p k q v b :=
  (kof_any H.lk hc (a : Int)).mono fun e w' ⟨u, he, ho, hg⟩ => by
    have e1 : ofB c (a : Int) 6 = ofTo (fun _ i => c a i) 0 6 := by
      unfold ofB
      have : ∀ j, j ≤ 6 → ofTo (fun _ i => cst c (a : Int) i) 0 j = ofTo (fun _ i => c a i) 0 j := by
        intro j
        induction j with
        | zero => intro _; rfl
        | succ j ih =>
          intro hj
          have ec : cst c (a : Int) (j : Int) = c a j := by
            unfold cst
            rw [if_pos ⟨node_iff.2 (by omega), node_iff.2 (by omega)⟩, Int.toNat_natCast, Int.toNat_natCast]
          rw [ofTo, ofTo, ih (by omega), ec]
      exact this 6 (Nat.le_refl _)
    obtain ⟨ao, cp, hu, hn⟩ := ho.shape
    have hy := ho.young
    rw [e1] at hu hn
    exact ⟨ao, _, cp, by rw [he, hu], rfl, hn, hg, fun b o e hb => H.notOwn hg (hy b o _ _ (by rw [hu, e])) hb⟩
set_option maxRecDepth 20000 in
set_option maxHeartbeats 8000000 in
theorem netTick_ok (H : Ne M B w p k q v c t) (A : TnA t c) {a : Nat} (ha : a < 6) (hA : agT t a < 4611686018427387904) (hl : t.news.length ≤ 40) :
    Calls Try.prog 22 #[pv p, iv (a : Int)] w fun e w' => ∃ v', e = .returned (iv (sayAll (tickT t a) a 6).2) ∧ Ne M B w' p k q v' c (sayAll (tickT t a) a 6).1 := by
  have hp := H.blk.lt
  have hai : (a : Int) < 6 := by omega
  have B1 : Hid (decide (0 ≤ (a : Int) ∧ (a : Int) < 6) = true) := decide_eq_true ⟨by omega, hai⟩
  have c1 := H.node ha
  have hag : age (t.nd a) < 4611686018427387904 := by
    have e1 : age (t.nd a) = agT t a := by unfold age agT; rw [A.s.tc.me a ha]
    rw [e1]; exact hA
  have HT : Hid (Calls Try.prog 19 #[pv (q a)] w fun e w' => e = .returned (.tuple #[]) ∧ Ne M B w' p k q v c (tickT t a) ∧ w'.cell? ⟨p, 0, none⟩ = some (pv k) ∧ p < w'.heap.size) := (ntickN (H.six.at_ a ha) (A.s.z a ha) hag).mono fun e w' ⟨he, hm, hw⟩ => by
    have := H.put ha hw hm
    exact ⟨he, this, this.links, this.blk.lt⟩
  have A1 := hide (A.tick ha).1
  have HL := hide (show (tickT t a).news.length ≤ 40 from hl)
  clear H A hA hl hag
  generalize tickT t a = t1 at *
  have HS := hide (sayL_all t1 (a := a) (f := fun _ i => c a i) (fun b hb => by rw [A1.out.s.tc.cst a b ha hb]; omega) 6 (Nat.le_refl _))
  have HLT := hide (ofz_lt (fun _ i => c a i) 6)
  have HLN := hide (ofz_len (fun _ i => c a i) 6)
  have HO := hide (fun (V : World) (h : Ne M B V p k q v c t1) => ofCall h A1.out.s.tc.lk ha)
  have AL := hide (fun L i => sayL_a A1.out a L i)
  have LL := hide (fun L i => sayL_len HL.out a L i)
  clear A1 HL
  generalize ofTo (fun _ i => c a i) 0 6 = L at *
  go_enter Try.func22, Try.ntmps22
  go_upto_region 5 with (first | (go_at_call 28; with_reducible refine (lnode_is B1.out _).mono ?_; rintro e w1 ⟨rfl, hw1⟩; have hw2 := hw1.symm; clear hw1; subst hw2) | (go_at_call 19; with_reducible refine HT.out.mono ?_; rintro e V ⟨rfl, H1', l0, hp0⟩; have H1 := hide H1'; clear H1') | (go_at_call 35; with_reducible refine (HO.out _ H1.out).mono ?_; rintro e W ⟨ao, n, cp, rfl, hnl', nm', gW', nr'⟩; have HNL := hide hnl'; have NM := hide nm'; have GW := hide gW'; have NR := hide nr'; clear hnl' nm' gW' nr'))
  have HW := hide (H1.out.ext GW.out)
  have HR := hide HW.out.rest
  have UR : Hid (∀ {X : World} {v' : Value} {c' : Nat → Nat → Nat} {t' : Tn}, Ne (rest W p k q v) W X p k q v' c' t' → Ne M B X p k q v' c' t') := fun h => HW.out.unrest h
  clear H1 GW HO HT c1 l0 hp0 hp HW
  go_loopw [25] (fun v25 wr => ∃ (i : Nat) (v1 : Value), i ≤ n ∧ v25 = .int .i64 (i : Int) ∧ Hid ((sayL t1 a L i).2 = 0) ∧ Hid (Ne (rest W p k q v) W wr p k q v1 c (sayL t1 a L i).1)) (fun v25 _ => ((n : Int) - intOf v25).toNat)
  case atStart => exact ⟨0, v, by omega, rfl, rfl, HR⟩
  case round =>
    clear HR
    obtain ⟨i, v1, hin, rfl, h0, T1⟩ := hrel
    by_cases hi : i < n
    · have hii : decide ((i : Int) < (n : Int)) = true := decide_eq_true (by omega)
      have hi0 : (i : Int) < (n : Int) := by omega
      have hiL : i < L.length := by have := HNL.out; omega
      have wi : IntKind.i64.wrap ((i : Int) + 1) = (i : Int) + 1 := by rw [IntKind.wrap_i64]; have := HNL.out; have := HLN.out; omega
      obtain ⟨b, hbL⟩ : ∃ b, b = L[i] := ⟨_, rfl⟩
      have hb6 : b < 6 := by rw [hbL]; exact (HLT.out _ (List.getElem_mem hiL)).1
      obtain ⟨bn, on, rfl, hbn, cb⟩ : ∃ bn on, ao = some ⟨bn, on, none⟩ ∧ bn < wr.heap.size ∧ wr.cell? ⟨bn, on + i, none⟩ = some (iv (b : Int)) := by
        have nk : NumAt wr ao L := NM.out.keep (fun b' o' e hb' => T1.out.kp.block b' hb' (NR.out b' o' e hb'))
        rcases nk with e | ⟨bn, on, e, hbn, hc⟩
        · exfalso; rw [e] at hiL; simp at hiL
        · exact ⟨bn, on, e, hbn, by rw [hbL]; exact hc i hiL⟩
      have HN := hide (sayL_next h0.out hiL)
      rw [← hbL] at HN
      have HT := hide (tell_any T1.out (AL.out L i).s.tc (LL.out L i) (a : Int) (b : Int))
      rw [← HN.out] at HT
      obtain ⟨r, hr⟩ : ∃ r, Hid ((sayL t1 a L (i + 1)).2 = r) := ⟨_, rfl⟩
      rw [hr.out] at HT
      clear HN hbL
      by_cases hrr : r = 0
      · subst hrr
        go_wp2_with (go_at_call 23; with_reducible refine HT.out.mono ?_; rintro e V2 ⟨v2, rfl, T2'⟩; have T2 := hide T2'; clear T2')
        go_roundw
        case rel => exact ⟨i + 1, v2, by omega, by congr 1, hr, T2⟩
        case measure => simp [intOf]; omega
      · have hre : (r == 0) = false := by simpa using hrr
        have hre2 : (r != 0) = true := by simpa using hrr
        have E6 : Hid (sayAll t1 a 6 = sayL t1 a L (i + 1)) := by
          have := sayL_stop (t := t1) (a := a) (i := i + 1) (L := L) (by rw [hr.out]; exact hrr) (L.length - (i + 1))
          rw [show i + 1 + (L.length - (i + 1)) = L.length by omega, HS.out] at this
          exact this
        go_wp2_with (go_at_call 23; with_reducible refine HT.out.mono ?_; rintro e V2 ⟨v2, rfl, T2'⟩; have T2 := hide T2'; clear T2')
        go_ret
        exact ⟨v2, congrArg (fun z => Ending.returned (iv z)) (show r = (sayAll t1 a 6).2 by rw [E6.out, hr.out]), by rw [E6.out]; exact UR.out T2.out⟩
    · have hii : decide ((i : Int) < (n : Int)) = false := decide_eq_false (by omega)
      have E6 : Hid (sayAll t1 a 6 = sayL t1 a L i) := by
        have e : i = L.length := by have := HNL.out; omega
        unfold Hid
        rw [e, HS.out]
      go_wp2_with fail
      go_ret
      exact ⟨v1, congrArg (fun z => Ending.returned (iv z)) (show (0 : Int) = (sayAll t1 a 6).2 by rw [E6.out, h0.out]), by rw [E6.out]; exact UR.out T1.out⟩
end

end Go.Proofs.Ytihamicnbihgnae
