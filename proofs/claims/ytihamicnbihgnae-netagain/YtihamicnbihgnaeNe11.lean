/- THE PROGRAM'S Net: link, Do. -/
import Derived.Test.YtihamicnbihgnaeNe10
namespace Go.Proofs.Ytihamicnbihgnae
open Go.RowKit
attribute [local go_sem] Ext.all Ext.cell Ext.frozen Ext.lt Ext.lt1 Ext.lt2 Ext.ne Ext.ne'

section
variable {M : Nat → Prop} {B w w' : World} {p k : Nat} {q : Nat → Nat} {v : Value} {c : Nat → Nat → Nat} {t : Tn}
set_option maxRecDepth 20000 in
theorem netLink_bad (H : Ne M B w p k q v c t) {a b n : Int} (h : ¬ (isN a ∧ isN b ∧ a ≠ b ∧ 0 ≤ n ∧ n ≤ 15)) : Calls Try.prog 21 #[pv p, iv a, iv b, iv n] w fun e w' => e = .returned (iv 1) ∧ w' = w := by
  have hp := H.blk.lt
  have c0 := H.links
  have HS := hide (kset_bad (w := w) (p := k) (a := a) (b := b) (v := n) (by
    cases e : setB a b n
    · rfl
    · exact absurd (set_iff.1 e) h))
  clear H h
  go_enter Try.func21, Try.ntmps21
  go_wp2_with (go_at_call 38; with_reducible refine HS.out.mono ?_; rintro e w1 ⟨rfl, hw1⟩; have hw2 := hw1.symm; clear hw1; subst hw2)
  go_ret
  exact ⟨rfl, rfl⟩
set_option maxRecDepth 20000 in
set_option maxHeartbeats 8000000 in
theorem netLink_ok (H : Ne M B w p k q v c t) (A : TnA t c) {a b n : Nat} (ha : a < 6) (hb : b < 6) (hne : a ≠ b) (h15 : n ≤ 15) :
    Calls Try.prog 21 #[pv p, iv (a : Int), iv (b : Int), iv (n : Int)] w fun e w' => e = .returned (iv 0) ∧ Ne M B w' p k q v (setC c a b n) (linkT t a b (n : Int)) := by
  have hp := H.blk.lt
  have c0 := H.links
  have hai : (a : Int) < 6 := by omega
  have hbi : (b : Int) < 6 := by omega
  have ea : lnkM (t.nd a) (b : Int) n = linkM (t.nd a) b n := if_pos ⟨⟨⟨by omega, by omega⟩, by rw [A.s.tc.me a ha]; omega⟩, by omega, by omega⟩
  have eb : lnkM (t.nd b) (a : Int) n = linkM (t.nd b) a n := if_pos ⟨⟨⟨by omega, by omega⟩, by rw [A.s.tc.me b hb]; omega⟩, by omega, by omega⟩
  have za := A.s.z a ha
  have zb := A.s.z b hb
  have HS : Hid (Calls Try.prog 38 #[pv k, iv (a : Int), iv (b : Int), iv (n : Int)] w fun e V => e = .returned (iv 0) ∧ Ne M B V p k q v (setC c a b n) { t with cst := cstUp (cstUp t.cst a b n) b a n } ∧ V.cell? ⟨p, 1 + a, none⟩ = some (pv (q a)) ∧ p < V.heap.size) := (kset_ok H.lk ha hb hne h15).mono fun e V ⟨he, j, hV, hk⟩ => by
    subst hV
    have := H.setLk hk (cstUp (cstUp t.cst a b n) b a n)
    exact ⟨he, this, this.node ha, this.blk.lt⟩
  have HA : Hid (∀ V, Ne M B V p k q v (setC c a b n) { t with cst := cstUp (cstUp t.cst a b n) b a n } → Calls Try.prog 39 #[pv (q a), iv (b : Int), iv (n : Int)] V fun e W => ∃ r, e = .returned r ∧ Ne M B W p k q v (setC c a b n) { t with cst := cstUp (cstUp t.cst a b n) b a n, nd := updW t.nd a (linkM (t.nd a) b n) } ∧ W.cell? ⟨p, 1 + b, none⟩ = some (pv (q b)) ∧ p < W.heap.size) := fun V h =>
    (nlinkN (h.six.at_ a ha) za (b : Int) n).mono fun e W ⟨he, hm, hw⟩ => by
      rw [ea] at hm
      have := h.put ha hw hm
      exact ⟨_, he, this, this.node hb, this.blk.lt⟩
  have HB : Hid (∀ V, Ne M B V p k q v (setC c a b n) { t with cst := cstUp (cstUp t.cst a b n) b a n, nd := updW t.nd a (linkM (t.nd a) b n) } → Calls Try.prog 39 #[pv (q b), iv (a : Int), iv (n : Int)] V fun e W => ∃ r, e = .returned r ∧ Ne M B W p k q v (setC c a b n) (linkT t a b (n : Int))) := fun V h => by
    have hm0 : DAt V (q b) (sel (t.nd b)) := by
      have := h.six.at_ b hb
      dsimp only at this
      rw [updW_ne _ _ (fun e => hne e.symm)] at this
      exact this
    refine (nlinkN hm0 zb (a : Int) n).mono fun e W ⟨he, hm, hw⟩ => ?_
    rw [eb] at hm
    exact ⟨_, he, h.put hb hw hm⟩
  clear H A za zb ea eb
  go_enter Try.func21, Try.ntmps21
  go_wp2_with (first | (go_at_call 38; with_reducible refine HS.out.mono ?_; rintro e V1 ⟨rfl, T1', n1, p1⟩; have T1 := hide T1'; clear T1') | (go_at_call 39; with_reducible refine (HA.out _ T1.out).mono ?_; rintro e V2 ⟨r2, rfl, T2', n2, p2⟩; have T2 := hide T2'; clear T2') | (go_at_call 39; with_reducible refine (HB.out _ T2.out).mono ?_; rintro e V3 ⟨r3, rfl, T3'⟩; have T3 := hide T3'; clear T3'))
  go_ret
  exact ⟨rfl, T3.out⟩
theorem netLink_any (H : Ne M B w p k q v c t) (A : TnA t c) (a b n : Int) :
    Calls Try.prog 21 #[pv p, iv a, iv b, iv n] w fun e w' => e = .returned (iv (linkC t a b n).2) ∧ Ne M B w' p k q v (nextC c ⟨1, a, b, n⟩) (linkC t a b n).1 := by
  unfold linkC nextC
  by_cases h : isN a ∧ isN b ∧ a ≠ b ∧ 0 ≤ n ∧ n ≤ 15
  · rw [if_pos h, if_pos ⟨rfl, h⟩]
    obtain ⟨i, rfl⟩ : ∃ i : Nat, a = (i : Int) := ⟨a.toNat, by omega⟩
    obtain ⟨j, rfl⟩ : ∃ j : Nat, b = (j : Int) := ⟨b.toNat, by omega⟩
    obtain ⟨m, rfl⟩ : ∃ m : Nat, n = (m : Int) := ⟨n.toNat, by omega⟩
    exact netLink_ok H A (by omega) (by omega) (by omega) (by omega)
  · rw [if_neg h, if_neg (fun x => h x.2)]
    exact (netLink_bad H h).mono fun _ w' ⟨h1, h2⟩ => ⟨h1, by rw [h2]; exact H⟩
theorem netTick_any (H : Ne M B w p k q v c t) (A : TnA t c) (hA : ∀ k, k < 6 → agT t k < 4611686018427387904) (hl : t.news.length ≤ 40) (a : Int) :
    Calls Try.prog 22 #[pv p, iv a] w fun e w' => ∃ v', e = .returned (iv (if isN a then sayAll (tickT t a.toNat) a.toNat 6 else (t, 1)).2) ∧ Ne M B w' p k q v' c (if isN a then sayAll (tickT t a.toNat) a.toNat 6 else (t, 1)).1 := by
  by_cases h : isN a
  · rw [if_pos h]
    obtain ⟨i, rfl⟩ : ∃ i : Nat, a = (i : Int) := ⟨a.toNat, by omega⟩
    exact netTick_ok H A (by omega) (hA _ (by omega)) hl
  · rw [if_neg h]
    exact (netTick_no h).mono fun _ w' ⟨h1, h2⟩ => ⟨v, h1, by rw [h2]; exact H⟩
theorem netHear_any (H : Ne M B w p k q v c t) (A : TnA t c) (hl : t.news.length ≤ 40) (n : Int) :
    Calls Try.prog 24 #[pv p, iv n] w fun e w' => ∃ v', e = .returned (iv (newsC t 4 n).2) ∧ Ne M B w' p k q v' c (newsC t 4 n).1 := by
  unfold newsC
  by_cases h : 0 ≤ n ∧ n.toNat < t.news.length
  · rw [dif_pos h, if_neg (by omega), if_pos rfl]
    obtain ⟨i, rfl⟩ : ∃ i : Nat, n = (i : Int) := ⟨n.toNat, by omega⟩
    exact hear_ok' H A hl (by omega) rfl
  · rw [dif_neg h]
    exact (hear_none H (by omega)).mono fun _ w' ⟨h1, h2⟩ => ⟨v, h1, H.ext h2⟩
theorem netTake_any (H : Ne M B w p k q v c t) (hl : t.news.length ≤ 40) (n : Int) :
    Calls Try.prog 25 #[pv p, iv n] w fun e w' => ∃ v' a0 a1 a2 a3 a4, e = .returned (.tuple #[.agg #[iv a0, iv a1, iv a2, iv a3, iv a4], iv (newsC t 5 n).2]) ∧ Ne M B w' p k q v' c (newsC t 5 n).1 := by
  unfold newsC
  by_cases h : 0 ≤ n ∧ n.toNat < t.news.length
  · rw [dif_pos h, if_neg (by omega), if_neg (by omega)]
    obtain ⟨i, rfl⟩ : ∃ i : Nat, n = (i : Int) := ⟨n.toNat, by omega⟩
    exact (take_ok H hl (n := i) (by omega) rfl).mono fun _ w' ⟨v', h1, h2⟩ => ⟨v', _, _, _, _, _, h1, h2⟩
  · rw [dif_neg h]
    exact (take_none H (by omega)).mono fun _ w' ⟨h1, h2⟩ => ⟨v, _, _, _, _, _, h1, H.ext h2⟩
theorem netDouble_any (H : Ne M B w p k q v c t) (hl : t.news.length ≤ 40) (n : Int) :
    Calls Try.prog 26 #[pv p, iv n] w fun e w' => ∃ v', e = .returned (iv (newsC t 6 n).2) ∧ Ne M B w' p k q v' c (newsC t 6 n).1 := by
  unfold newsC
  by_cases h : 0 ≤ n ∧ n.toNat < t.news.length
  · rw [dif_pos h, if_pos rfl]
    by_cases h4 : 40 ≤ t.news.length
    · rw [if_pos h4]
      exact (double_no H hl (.inr ⟨by omega, h4, rfl⟩)).mono fun _ w' ⟨h1, h2⟩ => ⟨v, h1, by rw [h2]; exact H⟩
    · rw [if_neg h4]
      obtain ⟨i, rfl⟩ : ∃ i : Nat, n = (i : Int) := ⟨n.toNat, by omega⟩
      exact double_ok H (by omega) (n := i) (by omega) rfl
  · rw [dif_neg h]
    exact (double_no H hl (.inl ⟨by omega, rfl⟩)).mono fun _ w' ⟨h1, h2⟩ => ⟨v, h1, by rw [h2]; exact H⟩
end

end Go.Proofs.Ytihamicnbihgnae
