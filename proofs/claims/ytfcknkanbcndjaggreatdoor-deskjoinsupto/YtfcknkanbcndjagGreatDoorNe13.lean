import Derived.Test.YtfcknkanbcndjagGreatDoorNe8
import Derived.Test.YtfcknkanbcndjagGreatDoorD2
/- THE PROGRAM'S Net: those with whom a node is linked, told one behind the other; what else stays. -/
namespace Go.Proofs.YtfcknkanbcndjagGreatDoor
open Go.RowKit

/-- Told to the first i of a list, to the first code. -/
def sayL (t : Tn) (a : Nat) (L : List Nat) : Nat → Tn × Int
  | 0 => (t, 0)
  | i + 1 => if (sayL t a L i).2 ≠ 0 then sayL t a L i else match L[i]? with
    | some b => sayC (sayL t a L i).1 (a : Int) (b : Int)
    | none => sayL t a L i
theorem sayL_stop {t : Tn} {a i : Nat} {L : List Nat} (h : (sayL t a L i).2 ≠ 0) : ∀ k, sayL t a L (i + k) = sayL t a L i
  | 0 => rfl
  | k + 1 => by
    have ih := sayL_stop h k
    show (if (sayL t a L (i + k)).2 ≠ 0 then sayL t a L (i + k) else _) = _
    rw [ih, if_pos h]
theorem sayL_next {t : Tn} {a i : Nat} {L : List Nat} (h0 : (sayL t a L i).2 = 0) (hi : i < L.length) : sayL t a L (i + 1) = sayC (sayL t a L i).1 (a : Int) (L[i] : Nat) := by
  rw [sayL, if_neg (fun e => e h0), List.getElem?_eq_getElem hi]
theorem sayL_app (t : Tn) (a : Nat) (L K : List Nat) : ∀ i, i ≤ L.length → sayL t a (L ++ K) i = sayL t a L i
  | 0, _ => rfl
  | i + 1, h => by
    have ih := sayL_app t a L K i (by omega)
    rw [sayL, sayL, ih, List.getElem?_append_left (by omega)]
theorem sayC_cst (t : Tn) (a b : Int) : (sayC t a b).1.cst = t.cst := by
  unfold sayC
  split
  · rfl
  · split
    · rfl
    · split <;> rfl
theorem sayAll_cst (t : Tn) (a : Nat) : ∀ b, (sayAll t a b).1.cst = t.cst
  | 0 => rfl
  | b + 1 => by
    rw [sayAll]
    split
    · exact sayAll_cst t a b
    · split
      · rw [sayC_cst, sayAll_cst t a b]
      · exact sayAll_cst t a b
/-- Those who are linked, told one by one: as all are gone through. -/
theorem sayL_all (t : Tn) {a : Nat} {f : Nat → Nat → Nat} (hf : ∀ b, b < 6 → (0 < t.cst a b ↔ f 0 b ≠ 0)) : ∀ j, j ≤ 6 → sayL t a (ofTo f 0 j) (ofTo f 0 j).length = sayAll t a j
  | 0, _ => rfl
  | j + 1, h => by
    have ih := sayL_all t hf j (by omega)
    rw [sayAll, ofTo]
    by_cases e : f 0 j = 0
    · rw [if_pos e, List.append_nil, ih, sayAll_cst, if_neg (c := 0 < t.cst a j) (fun q => (hf j (by omega)).1 q e)]
      split <;> rfl
    · rw [if_neg e, List.length_append]
      show sayL t a (ofTo f 0 j ++ [j]) ((ofTo f 0 j).length + 1) = _
      rw [sayL, sayL_app t a _ _ _ (Nat.le_refl _), ih, sayAll_cst, if_pos (c := 0 < t.cst a j) ((hf j (by omega)).2 e)]
      simp
theorem sayL_a {t : Tn} {c : Nat → Nat → Nat} (H : TnA t c) (a : Nat) (L : List Nat) : ∀ i, TnA (sayL t a L i).1 c
  | 0 => H
  | i + 1 => by
    have ih := sayL_a H a L i
    rw [sayL]
    split
    · exact ih
    · split
      · exact (say_nx ih _ _).a
      · exact ih
theorem sayC_len {t : Tn} (h : t.news.length ≤ 40) (a b : Int) : (sayC t a b).1.news.length ≤ 40 := by
  unfold sayC
  split
  · exact h
  · split
    · exact h
    · split
      · exact h
      · show (t.news ++ tellT t a.toNat b.toNat).length ≤ 40
        have : (tellT t a.toNat b.toNat).length = 6 := by simp [tellT]
        rw [List.length_append]
        omega
theorem sayAll_len {t : Tn} (h : t.news.length ≤ 40) (a : Nat) : ∀ k, (sayAll t a k).1.news.length ≤ 40
  | 0 => h
  | k + 1 => by
    have ih := sayAll_len h a k
    rw [sayAll]
    split
    · exact ih
    · split
      · exact sayC_len ih _ _
      · exact ih
theorem sayL_len {t : Tn} (h : t.news.length ≤ 40) (a : Nat) (L : List Nat) : ∀ k, (sayL t a L k).1.news.length ≤ 40
  | 0 => h
  | k + 1 => by
    have ih := sayL_len h a L k
    rw [sayL]
    split
    · exact ih
    · split
      · exact sayC_len ih _ _
      · exact ih
/-- All that is not the Net's. -/
def rest (w : World) (p k : Nat) (q : Nat → Nat) (v : Value) : Nat → Prop := fun b => b < w.heap.size ∧ b ≠ p ∧ b ≠ k ∧ (∀ a, a < 6 → b ≠ q a) ∧ v.ownBlock ≠ some b
section
variable {M : Nat → Prop} {B w w' : World} {p k : Nat} {q : Nat → Nat} {v : Value} {c : Nat → Nat → Nat} {t : Tn}
theorem Ne.rest (h : Ne M B w p k q v c t) : Ne (rest w p k q v) w w p k q v c t :=
  h.re (fun _ hb => hb.1) (fun x => x.2.1 rfl) (fun x => x.2.2.1 rfl) (fun a ha x => x.2.2.2.1 a ha rfl) (fun _ e x => x.2.2.2.2 e)
theorem Ne.sub (h : Ne M B w p k q v c t) {b : Nat} (hm : M b) : YtfcknkanbcndjagGreatDoor.rest w p k q v b :=
  ⟨Nat.lt_of_lt_of_le (h.bd b hm) h.kp.size, fun e => h.nop (e ▸ hm), fun e => h.nok (e ▸ hm), fun a ha e => h.noq a ha (e ▸ hm), fun e => h.nov b e hm⟩
theorem Ne.unrest (h : Ne M B w p k q v c t) {v' : Value} {c' : Nat → Nat → Nat} {t' : Tn} (h' : Ne (YtfcknkanbcndjagGreatDoor.rest w p k q v) w w' p k q v' c' t') : Ne M B w' p k q v' c' t' := h.back h' fun _ hm => h.sub hm
/-- What is younger than the Net is not the Net's. -/
theorem Ne.notOwn (h : Ne M B w p k q v c t) (_g : Gr w w') {b : Nat} (hb : w.heap.size ≤ b) (hb' : b < w'.heap.size) : YtfcknkanbcndjagGreatDoor.rest w' p k q v b :=
  ⟨hb', fun e => by have := h.blk.lt; omega, fun e => by have := h.lk.lt; omega, fun a ha e => by have := (h.six.at_ a ha).lt; omega, fun e => by have := h.nw.own_lt e; omega⟩
end
theorem NumAt.keep {w w' : World} {ao : Option Addr} {l : List Nat} (h : NumAt w ao l) (k : ∀ b o, ao = some ⟨b, o, none⟩ → b < w.heap.size → w'.heap[b]? = w.heap[b]?) : NumAt w' ao l := by
  rcases h with h | ⟨b, o, ha, hb, hc⟩
  · exact .inl h
  · have hk := k b o ha hb
    refine .inr ⟨b, o, ha, ?_, fun i hi => ?_⟩
    · have : w.heap[b]? = some w.heap[b] := by simp [hb]
      rw [this] at hk
      exact lt_of_block hk
    · rw [World.cell?_of_block (w := w) (a := ⟨b, o + i, none⟩) hk]
      exact hc i hi
theorem OwnI.young {B w : World} {v : Value} {l : List Nat} (h : OwnI B w v l) : ∀ b o n c, v = .slice (some ⟨b, o, none⟩) n c → B.heap.size ≤ b := by
  intro b o n c e
  rcases h.2 with ⟨rfl, hn⟩ | ⟨g, cap, cur, rfl, hb, _⟩
  · cases e
  · cases e; exact hb
theorem ofz_len (f : Nat → Nat → Nat) : ∀ j, (ofTo f 0 j).length ≤ j
  | 0 => Nat.le_refl _
  | j + 1 => by
    have := ofz_len f j
    rw [ofTo, List.length_append]
    split
    · simp; omega
    · simp; omega
theorem ofz_lt (f : Nat → Nat → Nat) : ∀ j x, x ∈ ofTo f 0 j → x < j ∧ f 0 x ≠ 0
  | 0, x, h => by cases h
  | j + 1, x, h => by
    rw [ofTo] at h
    rcases List.mem_append.1 h with q | q
    · have := ofz_lt f j x q; exact ⟨by omega, this.2⟩
    · split at q
      · cases q
      · rename_i e
        rw [List.mem_singleton.1 q]; exact ⟨by omega, e⟩

end Go.Proofs.YtfcknkanbcndjagGreatDoor

/- THE PROGRAM'S Net: tick. -/
namespace Go.Proofs.YtfcknkanbcndjagGreatDoor
open Go.RowKit
attribute [local go_sem] Ext.all Ext.cell Ext.frozen Ext.lt Ext.lt1 Ext.lt2 Ext.ne Ext.ne'
section
variable {M : Nat → Prop} {B w w' : World} {p k : Nat} {q : Nat → Nat} {v : Value} {c : Nat → Nat → Nat} {t : Tn}
set_option maxRecDepth 20000 in
theorem netTick_no {a : Int} (h : ¬ isN a) : Calls Tryz.prog 68 #[pv p, iv a] w fun e w' => e = .returned (iv 1) ∧ w' = w := by
  have B1 : Hid (decide (0 ≤ a ∧ a < 6) = false) := decide_eq_false h
  go_enter Tryz.func68, Tryz.ntmps68
  go_wp2_with (go_at_call 33; with_reducible refine (lnode_is B1.out _).mono ?_; rintro e w1 ⟨rfl, hw1⟩; have hw2 := hw1.symm; clear hw1; subst hw2)
  go_ret
  exact ⟨rfl, rfl⟩
/-- Those with whom a is linked, as a list that stays. -/
theorem ofCall (H : Ne M B w p k q v c t) (hc : Lk c) {a : Nat} (ha : a < 6) : Calls Tryz.prog 55 #[pv k, iv (a : Int)] w fun e w' => ∃ ao n cp, e = .returned (.slice ao n cp) ∧ n = (ofTo (fun _ i => c a i) 0 6).length ∧ NumAt w' ao (ofTo (fun _ i => c a i) 0 6) ∧ Gr w w' ∧ ∀ b o, ao = some ⟨b, o, none⟩ → b < w'.heap.size → rest w' p k q v b :=
  (kof_any H.lk hc (a : Int)).mono fun e w' ⟨u, he, ho, hg⟩ => by
    have e1 : ofB c (a : Int) 6 = ofTo (fun _ i => c a i) 0 6 := by
      unfold ofB
      have : ∀ j, j ≤ 6 → ofTo (fun _ i => cst c (a : Int) i) 0 j = ofTo (fun _ i => c a i) 0 j := by
        intro j
        induction j with
        | zero => intro _; rfl
        | succ j ih =>
          intro hj
          have ec : cst c (a : Int) (j : Int) = c a j := by
            unfold cst
            rw [if_pos ⟨node_iff.2 (by omega), node_iff.2 (by omega)⟩, Int.toNat_natCast, Int.toNat_natCast]
          rw [ofTo, ofTo, ih (by omega), ec]
      exact this 6 (Nat.le_refl _)
    obtain ⟨ao, cp, hu, hn⟩ := ho.shape
    have hy := ho.young
    rw [e1] at hu hn
    exact ⟨ao, _, cp, by rw [he, hu], rfl, hn, hg, fun b o e hb => H.notOwn hg (hy b o _ _ (by rw [hu, e])) hb⟩
set_option maxRecDepth 20000 in
set_option maxHeartbeats 8000000 in
theorem netTick_ok (H : Ne M B w p k q v c t) (A : TnA t c) {a : Nat} (ha : a < 6) (hA : agT t a < 4611686018427387904) (hl : t.news.length ≤ 40) :
    Calls Tryz.prog 68 #[pv p, iv (a : Int)] w fun e w' => ∃ v', e = .returned (iv (sayAll (tickT t a) a 6).2) ∧ Ne M B w' p k q v' c (sayAll (tickT t a) a 6).1 := by
  have hp := H.blk.lt
  have hai : (a : Int) < 6 := by omega
  have B1 : Hid (decide (0 ≤ (a : Int) ∧ (a : Int) < 6) = true) := decide_eq_true ⟨by omega, hai⟩
  have c1 := H.node ha
  have hag : age (t.nd a) < 4611686018427387904 := by
    have e1 : age (t.nd a) = agT t a := by unfold age agT; rw [A.s.tc.me a ha]
    rw [e1]; exact hA
  have HT : Hid (Calls Tryz.prog 29 #[pv (q a)] w fun e w' => e = .returned (.tuple #[]) ∧ Ne M B w' p k q v c (tickT t a) ∧ w'.cell? ⟨p, 0, none⟩ = some (pv k) ∧ p < w'.heap.size) := (ntickN (H.six.at_ a ha) (A.s.z a ha) hag).mono fun e w' ⟨he, hm, hw⟩ => by
    have := H.put ha hw hm
    exact ⟨he, this, this.links, this.blk.lt⟩
  have A1 := hide (A.tick ha).1
  have HL := hide (show (tickT t a).news.length ≤ 40 from hl)
  clear H A hA hl hag
  generalize tickT t a = t1 at *
  have HS := hide (sayL_all t1 (a := a) (f := fun _ i => c a i) (fun b hb => by rw [A1.out.s.tc.cst a b ha hb]; omega) 6 (Nat.le_refl _))
  have HLT := hide (ofz_lt (fun _ i => c a i) 6)
  have HLN := hide (ofz_len (fun _ i => c a i) 6)
  have HO := hide (fun (V : World) (h : Ne M B V p k q v c t1) => ofCall h A1.out.s.tc.lk ha)
  have AL := hide (fun L i => sayL_a A1.out a L i)
  have LL := hide (fun L i => sayL_len HL.out a L i)
  clear A1 HL
  generalize ofTo (fun _ i => c a i) 0 6 = L at *
  go_enter Tryz.func68, Tryz.ntmps68
  go_upto_region 5 with (first | (go_at_call 33; with_reducible refine (lnode_is B1.out _).mono ?_; rintro e w1 ⟨rfl, hw1⟩; have hw2 := hw1.symm; clear hw1; subst hw2) | (go_at_call 29; with_reducible refine HT.out.mono ?_; rintro e V ⟨rfl, H1', l0, hp0⟩; have H1 := hide H1'; clear H1') | (go_at_call 55; with_reducible refine (HO.out _ H1.out).mono ?_; rintro e W ⟨ao, n, cp, rfl, hnl', nm', gW', nr'⟩; have HNL := hide hnl'; have NM := hide nm'; have GW := hide gW'; have NR := hide nr'; clear hnl' nm' gW' nr'))
  have HW := hide (H1.out.ext GW.out)
  have HR := hide HW.out.rest
  have UR : Hid (∀ {X : World} {v' : Value} {c' : Nat → Nat → Nat} {t' : Tn}, Ne (rest W p k q v) W X p k q v' c' t' → Ne M B X p k q v' c' t') := fun h => HW.out.unrest h
  clear H1 GW HO HT c1 l0 hp0 hp HW
  go_loopw [25] (fun v25 wr => ∃ (i : Nat) (v1 : Value), i ≤ n ∧ v25 = .int .i64 (i : Int) ∧ Hid ((sayL t1 a L i).2 = 0) ∧ Hid (Ne (rest W p k q v) W wr p k q v1 c (sayL t1 a L i).1)) (fun v25 _ => ((n : Int) - intOf v25).toNat)
  case atStart => exact ⟨0, v, by omega, rfl, rfl, HR⟩
  case round =>
    clear HR
    obtain ⟨i, v1, hin, rfl, h0, T1⟩ := hrel
    by_cases hi : i < n
    · have hii : decide ((i : Int) < (n : Int)) = true := decide_eq_true (by omega)
      have hi0 : (i : Int) < (n : Int) := by omega
      have hiL : i < L.length := by have := HNL.out; omega
      have wi : IntKind.i64.wrap ((i : Int) + 1) = (i : Int) + 1 := by rw [IntKind.wrap_i64]; have := HNL.out; have := HLN.out; omega
      obtain ⟨b, hbL⟩ : ∃ b, b = L[i] := ⟨_, rfl⟩
      have hb6 : b < 6 := by rw [hbL]; exact (HLT.out _ (List.getElem_mem hiL)).1
      obtain ⟨bn, on, rfl, hbn, cb⟩ : ∃ bn on, ao = some ⟨bn, on, none⟩ ∧ bn < wr.heap.size ∧ wr.cell? ⟨bn, on + i, none⟩ = some (iv (b : Int)) := by
        have nk : NumAt wr ao L := NM.out.keep (fun b' o' e hb' => T1.out.kp.block b' hb' (NR.out b' o' e hb'))
        rcases nk with e | ⟨bn, on, e, hbn, hc⟩
        · exfalso; rw [e] at hiL; simp at hiL
        · exact ⟨bn, on, e, hbn, by rw [hbL]; exact hc i hiL⟩
      have HN := hide (sayL_next h0.out hiL)
      rw [← hbL] at HN
      have HT := hide (tell_any T1.out (AL.out L i).s.tc (LL.out L i) (a : Int) (b : Int))
      rw [← HN.out] at HT
      obtain ⟨r, hr⟩ : ∃ r, Hid ((sayL t1 a L (i + 1)).2 = r) := ⟨_, rfl⟩
      rw [hr.out] at HT
      clear HN hbL
      by_cases hrr : r = 0
      · subst hrr
        go_wp2_with (go_at_call 69; with_reducible refine HT.out.mono ?_; rintro e V2 ⟨v2, rfl, T2'⟩; have T2 := hide T2'; clear T2')
        go_roundw
        case rel => exact ⟨i + 1, v2, by omega, by congr 1, hr, T2⟩
        case measure => simp [intOf]; omega
      · have hre : (r == 0) = false := by simpa using hrr
        have hre2 : (r != 0) = true := by simpa using hrr
        have E6 : Hid (sayAll t1 a 6 = sayL t1 a L (i + 1)) := by
          have := sayL_stop (t := t1) (a := a) (i := i + 1) (L := L) (by rw [hr.out]; exact hrr) (L.length - (i + 1))
          rw [show i + 1 + (L.length - (i + 1)) = L.length by omega, HS.out] at this
          exact this
        go_wp2_with (go_at_call 69; with_reducible refine HT.out.mono ?_; rintro e V2 ⟨v2, rfl, T2'⟩; have T2 := hide T2'; clear T2')
        go_ret
        exact ⟨v2, congrArg (fun z => Ending.returned (iv z)) (show r = (sayAll t1 a 6).2 by rw [E6.out, hr.out]), by rw [E6.out]; exact UR.out T2.out⟩
    · have hii : decide ((i : Int) < (n : Int)) = false := decide_eq_false (by omega)
      have E6 : Hid (sayAll t1 a 6 = sayL t1 a L i) := by
        have e : i = L.length := by have := HNL.out; omega
        unfold Hid
        rw [e, HS.out]
      go_wp2_with fail
      go_ret
      exact ⟨v1, congrArg (fun z => Ending.returned (iv z)) (show (0 : Int) = (sayAll t1 a 6).2 by rw [E6.out, h0.out]), by rw [E6.out]; exact UR.out T1.out⟩
end

end Go.Proofs.YtfcknkanbcndjagGreatDoor

/- THE PROGRAM'S Net: link, Do. -/
namespace Go.Proofs.YtfcknkanbcndjagGreatDoor
open Go.RowKit
attribute [local go_sem] Ext.all Ext.cell Ext.frozen Ext.lt Ext.lt1 Ext.lt2 Ext.ne Ext.ne'
section
variable {M : Nat → Prop} {B w w' : World} {p k : Nat} {q : Nat → Nat} {v : Value} {c : Nat → Nat → Nat} {t : Tn}
set_option maxRecDepth 20000 in
theorem netLink_bad (H : Ne M B w p k q v c t) {a b n : Int} (h : ¬ (isN a ∧ isN b ∧ a ≠ b ∧ 0 ≤ n ∧ n ≤ 15)) : Calls Tryz.prog 67 #[pv p, iv a, iv b, iv n] w fun e w' => e = .returned (iv 1) ∧ w' = w := by
  have hp := H.blk.lt
  have c0 := H.links
  have HS := hide (kset_bad (w := w) (p := k) (a := a) (b := b) (v := n) (by
    cases e : setB a b n
    · rfl
    · exact absurd (set_iff.1 e) h))
  clear H h
  go_enter Tryz.func67, Tryz.ntmps67
  go_wp2_with (go_at_call 120; with_reducible refine HS.out.mono ?_; rintro e w1 ⟨rfl, hw1⟩; have hw2 := hw1.symm; clear hw1; subst hw2)
  go_ret
  exact ⟨rfl, rfl⟩
set_option maxRecDepth 20000 in
set_option maxHeartbeats 8000000 in
theorem netLink_ok (H : Ne M B w p k q v c t) (A : TnA t c) {a b n : Nat} (ha : a < 6) (hb : b < 6) (hne : a ≠ b) (h15 : n ≤ 15) :
    Calls Tryz.prog 67 #[pv p, iv (a : Int), iv (b : Int), iv (n : Int)] w fun e w' => e = .returned (iv 0) ∧ Ne M B w' p k q v (setC c a b n) (linkT t a b (n : Int)) := by
  have hp := H.blk.lt
  have c0 := H.links
  have hai : (a : Int) < 6 := by omega
  have hbi : (b : Int) < 6 := by omega
  have ea : lnkM (t.nd a) (b : Int) n = linkM (t.nd a) b n := if_pos ⟨⟨⟨by omega, by omega⟩, by rw [A.s.tc.me a ha]; omega⟩, by omega, by omega⟩
  have eb : lnkM (t.nd b) (a : Int) n = linkM (t.nd b) a n := if_pos ⟨⟨⟨by omega, by omega⟩, by rw [A.s.tc.me b hb]; omega⟩, by omega, by omega⟩
  have za := A.s.z a ha
  have zb := A.s.z b hb
  have HS : Hid (Calls Tryz.prog 120 #[pv k, iv (a : Int), iv (b : Int), iv (n : Int)] w fun e V => e = .returned (iv 0) ∧ Ne M B V p k q v (setC c a b n) { t with cst := cstUp (cstUp t.cst a b n) b a n } ∧ V.cell? ⟨p, 1 + a, none⟩ = some (pv (q a)) ∧ p < V.heap.size) := (kset_ok H.lk ha hb hne h15).mono fun e V ⟨he, j, hV, hk⟩ => by
    subst hV
    have := H.setLk hk (cstUp (cstUp t.cst a b n) b a n)
    exact ⟨he, this, this.node ha, this.blk.lt⟩
  have HA : Hid (∀ V, Ne M B V p k q v (setC c a b n) { t with cst := cstUp (cstUp t.cst a b n) b a n } → Calls Tryz.prog 121 #[pv (q a), iv (b : Int), iv (n : Int)] V fun e W => ∃ r, e = .returned r ∧ Ne M B W p k q v (setC c a b n) { t with cst := cstUp (cstUp t.cst a b n) b a n, nd := updW t.nd a (linkM (t.nd a) b n) } ∧ W.cell? ⟨p, 1 + b, none⟩ = some (pv (q b)) ∧ p < W.heap.size) := fun V h =>
    (nlinkN (h.six.at_ a ha) za (b : Int) n).mono fun e W ⟨he, hm, hw⟩ => by
      rw [ea] at hm
      have := h.put ha hw hm
      exact ⟨_, he, this, this.node hb, this.blk.lt⟩
  have HB : Hid (∀ V, Ne M B V p k q v (setC c a b n) { t with cst := cstUp (cstUp t.cst a b n) b a n, nd := updW t.nd a (linkM (t.nd a) b n) } → Calls Tryz.prog 121 #[pv (q b), iv (a : Int), iv (n : Int)] V fun e W => ∃ r, e = .returned r ∧ Ne M B W p k q v (setC c a b n) (linkT t a b (n : Int))) := fun V h => by
    have hm0 : DAt V (q b) (sel (t.nd b)) := by
      have := h.six.at_ b hb
      dsimp only at this
      rw [updW_ne _ _ (fun e => hne e.symm)] at this
      exact this
    refine (nlinkN hm0 zb (a : Int) n).mono fun e W ⟨he, hm, hw⟩ => ?_
    rw [eb] at hm
    exact ⟨_, he, h.put hb hw hm⟩
  clear H A za zb ea eb
  go_enter Tryz.func67, Tryz.ntmps67
  go_wp2_with (first | (go_at_call 120; with_reducible refine HS.out.mono ?_; rintro e V1 ⟨rfl, T1', n1, p1⟩; have T1 := hide T1'; clear T1') | (go_at_call 121; with_reducible refine (HA.out _ T1.out).mono ?_; rintro e V2 ⟨r2, rfl, T2', n2, p2⟩; have T2 := hide T2'; clear T2') | (go_at_call 121; with_reducible refine (HB.out _ T2.out).mono ?_; rintro e V3 ⟨r3, rfl, T3'⟩; have T3 := hide T3'; clear T3'))
  go_ret
  exact ⟨rfl, T3.out⟩
theorem netLink_any (H : Ne M B w p k q v c t) (A : TnA t c) (a b n : Int) :
    Calls Tryz.prog 67 #[pv p, iv a, iv b, iv n] w fun e w' => e = .returned (iv (linkC t a b n).2) ∧ Ne M B w' p k q v (nextC c ⟨1, a, b, n⟩) (linkC t a b n).1 := by
  unfold linkC nextC
  by_cases h : isN a ∧ isN b ∧ a ≠ b ∧ 0 ≤ n ∧ n ≤ 15
  · rw [if_pos h, if_pos ⟨rfl, h⟩]
    obtain ⟨i, rfl⟩ : ∃ i : Nat, a = (i : Int) := ⟨a.toNat, by omega⟩
    obtain ⟨j, rfl⟩ : ∃ j : Nat, b = (j : Int) := ⟨b.toNat, by omega⟩
    obtain ⟨m, rfl⟩ : ∃ m : Nat, n = (m : Int) := ⟨n.toNat, by omega⟩
    exact netLink_ok H A (by omega) (by omega) (by omega) (by omega)
  · rw [if_neg h, if_neg (fun x => h x.2)]
    exact (netLink_bad H h).mono fun _ w' ⟨h1, h2⟩ => ⟨h1, by rw [h2]; exact H⟩
theorem netTick_any (H : Ne M B w p k q v c t) (A : TnA t c) (hA : ∀ k, k < 6 → agT t k < 4611686018427387904) (hl : t.news.length ≤ 40) (a : Int) :
    Calls Tryz.prog 68 #[pv p, iv a] w fun e w' => ∃ v', e = .returned (iv (if isN a then sayAll (tickT t a.toNat) a.toNat 6 else (t, 1)).2) ∧ Ne M B w' p k q v' c (if isN a then sayAll (tickT t a.toNat) a.toNat 6 else (t, 1)).1 := by
  by_cases h : isN a
  · rw [if_pos h]
    obtain ⟨i, rfl⟩ : ∃ i : Nat, a = (i : Int) := ⟨a.toNat, by omega⟩
    exact netTick_ok H A (by omega) (hA _ (by omega)) hl
  · rw [if_neg h]
    exact (netTick_no h).mono fun _ w' ⟨h1, h2⟩ => ⟨v, h1, by rw [h2]; exact H⟩
theorem netHear_any (H : Ne M B w p k q v c t) (A : TnA t c) (hl : t.news.length ≤ 40) (n : Int) :
    Calls Tryz.prog 70 #[pv p, iv n] w fun e w' => ∃ v', e = .returned (iv (newsC t 4 n).2) ∧ Ne M B w' p k q v' c (newsC t 4 n).1 := by
  unfold newsC
  by_cases h : 0 ≤ n ∧ n.toNat < t.news.length
  · rw [dif_pos h, if_neg (by omega), if_pos rfl]
    obtain ⟨i, rfl⟩ : ∃ i : Nat, n = (i : Int) := ⟨n.toNat, by omega⟩
    exact hear_ok' H A hl (by omega) rfl
  · rw [dif_neg h]
    exact (hear_none H (by omega)).mono fun _ w' ⟨h1, h2⟩ => ⟨v, h1, H.ext h2⟩
theorem netTake_any (H : Ne M B w p k q v c t) (hl : t.news.length ≤ 40) (n : Int) :
    Calls Tryz.prog 71 #[pv p, iv n] w fun e w' => ∃ v' a0 a1 a2 a3 a4, e = .returned (.tuple #[.agg #[iv a0, iv a1, iv a2, iv a3, iv a4], iv (newsC t 5 n).2]) ∧ Ne M B w' p k q v' c (newsC t 5 n).1 := by
  unfold newsC
  by_cases h : 0 ≤ n ∧ n.toNat < t.news.length
  · rw [dif_pos h, if_neg (by omega), if_neg (by omega)]
    obtain ⟨i, rfl⟩ : ∃ i : Nat, n = (i : Int) := ⟨n.toNat, by omega⟩
    exact (take_ok H hl (n := i) (by omega) rfl).mono fun _ w' ⟨v', h1, h2⟩ => ⟨v', _, _, _, _, _, h1, h2⟩
  · rw [dif_neg h]
    exact (take_none H (by omega)).mono fun _ w' ⟨h1, h2⟩ => ⟨v, _, _, _, _, _, h1, H.ext h2⟩
theorem netDouble_any (H : Ne M B w p k q v c t) (hl : t.news.length ≤ 40) (n : Int) :
    Calls Tryz.prog 72 #[pv p, iv n] w fun e w' => ∃ v', e = .returned (iv (newsC t 6 n).2) ∧ Ne M B w' p k q v' c (newsC t 6 n).1 := by
  unfold newsC
  by_cases h : 0 ≤ n ∧ n.toNat < t.news.length
  · rw [dif_pos h, if_pos rfl]
    by_cases h4 : 40 ≤ t.news.length
    · rw [if_pos h4]
      exact (double_no H hl (.inr ⟨by omega, h4, rfl⟩)).mono fun _ w' ⟨h1, h2⟩ => ⟨v, h1, by rw [h2]; exact H⟩
    · rw [if_neg h4]
      obtain ⟨i, rfl⟩ : ∃ i : Nat, n = (i : Int) := ⟨n.toNat, by omega⟩
      exact double_ok H (by omega) (n := i) (by omega) rfl
  · rw [dif_neg h]
    exact (double_no H hl (.inl ⟨by omega, rfl⟩)).mono fun _ w' ⟨h1, h2⟩ => ⟨v, h1, by rw [h2]; exact H⟩
end

end Go.Proofs.YtfcknkanbcndjagGreatDoor

/- THE PROGRAM'S Net: Do. -/
namespace Go.Proofs.YtfcknkanbcndjagGreatDoor
open Go.RowKit
attribute [local go_sem] Ext.all Ext.cell Ext.frozen Ext.lt Ext.lt1 Ext.lt2 Ext.ne Ext.ne'
section
variable {M : Nat → Prop} {B w w' : World} {p k : Nat} {q : Nat → Nat} {v : Value} {c : Nat → Nat → Nat} {t : Tn}
set_option maxRecDepth 20000 in
set_option maxHeartbeats 8000000 in
theorem netDo_any (H : Ne M B w p k q v c t) (A : TnA t c) (hA : ∀ k, k < 6 → agT t k < 4611686018427387904) (hl : t.news.length ≤ 40) (x : Sp) (X Y : Value) :
    Calls Tryz.prog 38 #[pv p, .agg #[iv x.k, iv x.a, iv x.b, iv x.n, X, Y]] w fun e w' => ∃ v', e = .returned (iv (doT t x).2) ∧ Ne M B w' p k q v' (nextC c x) (doT t x).1 := by
  obtain ⟨kd, a, b, n⟩ := x
  dsimp only
  have hp := H.blk.lt
  have HX := H.ext ((Gr.refl w).alloc (.cells #[iv kd, iv a, iv b, iv n, X, Y] 54))
  by_cases e1 : kd = 1
  · subst e1
    have HC := hide (netLink_any HX A a b n)
    have HE : Hid (doT t ⟨1, a, b, n⟩ = linkC t a b n) := by unfold Hid doT; rw [if_pos rfl]
    rw [HE.out]
    clear H HX A hA hl HE
    go_enter Tryz.func38, Tryz.ntmps38
    go_wp2_with (go_at_call 67; with_reducible refine HC.out.mono ?_; rintro e V ⟨rfl, T1'⟩; have T1 := hide T1'; clear T1')
    go_ret
    exact ⟨_, rfl, T1.out⟩
  · have k1 : (kd == 1) = false := by simpa using e1
    have EC : nextC c ⟨kd, a, b, n⟩ = c := by unfold nextC; rw [if_neg (fun x => e1 x.1)]
    rw [EC]
    clear EC
    by_cases e2 : kd = 2
    · subst e2
      have HC := hide (netTick_any HX A hA hl a)
      have HE : Hid (doT t ⟨2, a, b, n⟩ = if isN a then sayAll (tickT t a.toNat) a.toNat 6 else (t, 1)) := by unfold Hid doT; dsimp only; rw [if_neg e1, if_pos rfl]
      rw [HE.out]
      clear H HX A hA hl HE e1
      generalize (if isN a then sayAll (tickT t a.toNat) a.toNat 6 else (t, 1)) = st at *
      go_enter Tryz.func38, Tryz.ntmps38
      go_wp2_with (go_at_call 68; with_reducible refine HC.out.mono ?_; rintro e V ⟨v1, rfl, T1'⟩; have T1 := hide T1'; clear T1')
      go_ret
      exact ⟨_, rfl, T1.out⟩
    · have k2 : (kd == 2) = false := by simpa using e2
      by_cases e3 : kd = 3
      · subst e3
        have HC := hide (tell_any HX A.s.tc hl a b)
        have HE : Hid (doT t ⟨3, a, b, n⟩ = sayC t a b) := by unfold Hid doT; dsimp only; rw [if_neg e1, if_neg e2, if_pos rfl]
        rw [HE.out]
        clear H HX A hA hl HE e1 e2
        generalize sayC t a b = st at *
        go_enter Tryz.func38, Tryz.ntmps38
        go_wp2_with (go_at_call 69; with_reducible refine HC.out.mono ?_; rintro e V ⟨v1, rfl, T1'⟩; have T1 := hide T1'; clear T1')
        go_ret
        exact ⟨_, rfl, T1.out⟩
      · have k3 : (kd == 3) = false := by simpa using e3
        by_cases e4 : kd = 4
        · subst e4
          have HC := hide (netHear_any HX A hl n)
          have HE : Hid (doT t ⟨4, a, b, n⟩ = newsC t 4 n) := by unfold Hid doT; dsimp only; rw [if_neg e1, if_neg e2, if_neg e3, if_pos (.inl rfl)]
          rw [HE.out]
          clear H HX A hA hl HE e1 e2 e3
          generalize newsC t 4 n = st at *
          go_enter Tryz.func38, Tryz.ntmps38
          go_wp2_with (go_at_call 70; with_reducible refine HC.out.mono ?_; rintro e V ⟨v1, rfl, T1'⟩; have T1 := hide T1'; clear T1')
          go_ret
          exact ⟨_, rfl, T1.out⟩
        · have k4 : (kd == 4) = false := by simpa using e4
          by_cases e5 : kd = 5
          · subst e5
            have HC := hide (netTake_any HX hl n)
            have HE : Hid (doT t ⟨5, a, b, n⟩ = newsC t 5 n) := by unfold Hid doT; dsimp only; rw [if_neg e1, if_neg e2, if_neg e3, if_pos (.inr (.inl rfl))]
            rw [HE.out]
            clear H HX A hA hl HE e1 e2 e3 e4
            generalize newsC t 5 n = st at *
            go_enter Tryz.func38, Tryz.ntmps38
            go_wp2_with (go_at_call 71; with_reducible refine HC.out.mono ?_; rintro e V ⟨v1, a0, a1, a2, a3, a4, rfl, T1'⟩; have T1 := hide T1'; clear T1')
            go_ret
            exact ⟨_, rfl, T1.out.ext ((Gr.refl _).alloc _)⟩
          · have k5 : (kd == 5) = false := by simpa using e5
            by_cases e6 : kd = 6
            · subst e6
              have HC := hide (netDouble_any HX hl n)
              have HE : Hid (doT t ⟨6, a, b, n⟩ = newsC t 6 n) := by unfold Hid doT; dsimp only; rw [if_neg e1, if_neg e2, if_neg e3, if_pos (.inr (.inr rfl))]
              rw [HE.out]
              clear H HX A hA hl HE e1 e2 e3 e4 e5
              generalize newsC t 6 n = st at *
              go_enter Tryz.func38, Tryz.ntmps38
              go_wp2_with (go_at_call 72; with_reducible refine HC.out.mono ?_; rintro e V ⟨v1, rfl, T1'⟩; have T1 := hide T1'; clear T1')
              go_ret
              exact ⟨_, rfl, T1.out⟩
            · have k6 : (kd == 6) = false := by simpa using e6
              have HE : Hid (doT t ⟨kd, a, b, n⟩ = (t, 8)) := by unfold Hid doT; dsimp only; rw [if_neg e1, if_neg e2, if_neg e3, if_neg (by omega)]
              rw [HE.out]
              have HF := hide HX
              clear H HX A hA hl HE e1 e2 e3 e4 e5 e6
              go_enter Tryz.func38, Tryz.ntmps38
              go_wp2_with fail
              go_ret
              exact ⟨_, rfl, HF.out⟩
end

end Go.Proofs.YtfcknkanbcndjagGreatDoor

/- THE PROGRAM'S Net: a round: lists of those who are told; ways held against each other. -/
namespace Go.Proofs.YtfcknkanbcndjagGreatDoor
open Go.RowKit

end Go.Proofs.YtfcknkanbcndjagGreatDoor
