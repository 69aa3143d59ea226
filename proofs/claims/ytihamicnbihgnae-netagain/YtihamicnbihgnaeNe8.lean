/- THE PROGRAM'S Net: tell. -/
import Derived.Test.YtihamicnbihgnaeNe7
namespace Go.Proofs.Ytihamicnbihgnae
open Go.RowKit
attribute [local go_sem] Ext.all Ext.cell Ext.frozen Ext.lt Ext.lt1 Ext.lt2 Ext.ne Ext.ne'

section
variable {M : Nat → Prop} {B w w' : World} {p k : Nat} {q : Nat → Nat} {v : Value} {c : Nat → Nat → Nat} {t : Tn}
theorem tell_sel (m : Md) (b : Int) : tellL (sel m) b 6 = tellL m b 6 := rfl
set_option maxRecDepth 20000 in
set_option maxHeartbeats 8000000 in
theorem tell_range {a b : Int} (h : ¬ isN a ∨ ¬ isN b) : Calls Try.prog 23 #[pv p, iv a, iv b] w fun e w' => e = .returned (iv 1) ∧ w' = w := by
  obtain ⟨b1, B1⟩ : ∃ b1, Hid (decide (0 ≤ a ∧ a < 6) = b1) := ⟨_, rfl⟩
  obtain ⟨b2, B2⟩ : ∃ b2, Hid (decide (0 ≤ b ∧ b < 6) = b2) := ⟨_, rfl⟩
  cases b1
  · go_enter Try.func23, Try.ntmps23
    go_wp2_with (go_at_call 28; with_reducible refine (lnode_is B1.out _).mono ?_; rintro e w1 ⟨rfl, hw1⟩; have hw2 := hw1.symm; clear hw1; subst hw2)
    go_ret
    exact ⟨rfl, rfl⟩
  · cases b2
    · go_enter Try.func23, Try.ntmps23
      go_wp2_with (first | (go_at_call 28; with_reducible refine (lnode_is B1.out _).mono ?_; rintro e w1 ⟨rfl, hw1⟩; have hw2 := hw1.symm; clear hw1; subst hw2) | (go_at_call 28; with_reducible refine (lnode_is B2.out _).mono ?_; rintro e w1 ⟨rfl, hw1⟩; have hw2 := hw1.symm; clear hw1; subst hw2))
      go_ret
      exact ⟨rfl, rfl⟩
    · exfalso
      have h1 := of_decide_eq_true B1.out
      have h2 := of_decide_eq_true B2.out
      exact h.elim (fun q => q h1) (fun q => q h2)
set_option maxRecDepth 20000 in
set_option maxHeartbeats 8000000 in
theorem tell_zero (H : Ne M B w p k q v c t) (hc : Lk c) {a b : Nat} (ha : a < 6) (hb : b < 6) (h0 : c a b = 0) :
    Calls Try.prog 23 #[pv p, iv (a : Int), iv (b : Int)] w fun e w' => e = .returned (iv 6) ∧ w' = w := by
  have hp := H.blk.lt
  have B1 : Hid (decide (0 ≤ (a : Int) ∧ (a : Int) < 6) = true) := decide_eq_true ⟨by omega, by omega⟩
  have B2 : Hid (decide (0 ≤ (b : Int) ∧ (b : Int) < 6) = true) := decide_eq_true ⟨by omega, by omega⟩
  have c0 := H.links
  have HC : Hid (Calls Try.prog 40 #[pv k, iv (a : Int), iv (b : Int)] w fun e w' => e = .returned (iv 0) ∧ w' = w) := by
    have := cost_nat H.lk hc ha hb
    rw [h0] at this
    exact this
  clear H hc h0
  go_enter Try.func23, Try.ntmps23
  go_wp2_with (first | (go_at_call 28; with_reducible refine (lnode_is B1.out _).mono ?_; rintro e w1 ⟨rfl, hw1⟩; have hw2 := hw1.symm; clear hw1; subst hw2) | (go_at_call 28; with_reducible refine (lnode_is B2.out _).mono ?_; rintro e w1 ⟨rfl, hw1⟩; have hw2 := hw1.symm; clear hw1; subst hw2) | (go_at_call 40; with_reducible refine HC.out.mono ?_; rintro e w1 ⟨rfl, hw1⟩; have hw2 := hw1.symm; clear hw1; subst hw2))
  go_ret
  exact ⟨rfl, rfl⟩
theorem tellCall (H : Ne M B w p k q v c t) (hme : ∀ a, a < 6 → (t.nd a).me = a) {a : Nat} (ha : a < 6) (b : Nat) :
    Calls Try.prog 36 #[pv (q a), iv (b : Int)] w fun e w' => ∃ ao cp, e = .returned (.slice ao 6 cp) ∧ NewsAt w' ao (newsL (tellT t a b)) ∧ Gr w w' :=
  (ntell_any (H.six.at_ a ha) (b : Int)).mono fun e w' ⟨v, he, ho, hg⟩ => by
    obtain ⟨ao, c, hv, hn, _⟩ := OwnN.shape ho
    rw [tell_len] at hv
    exact ⟨ao, c, by rw [he, hv], by rw [tell_news (hme a ha)]; exact hn, hg⟩
set_option maxRecDepth 20000 in
set_option maxHeartbeats 8000000 in
theorem tell_full (H : Ne M B w p k q v c t) (hme : ∀ a, a < 6 → (t.nd a).me = a) (hc : Lk c) {a b : Nat} (ha : a < 6) (hb : b < 6) (h0 : c a b ≠ 0) (hl : t.news.length ≤ 40) (hf : 40 < t.news.length + 6) :
    Calls Try.prog 23 #[pv p, iv (a : Int), iv (b : Int)] w fun e w' => e = .returned (iv 9) ∧ Gr w w' := by
  have hp := H.blk.lt
  have hai : (a : Int) < 6 := by omega
  have B1 : Hid (decide (0 ≤ (a : Int) ∧ (a : Int) < 6) = true) := decide_eq_true ⟨by omega, by omega⟩
  have B2 : Hid (decide (0 ≤ (b : Int) ∧ (b : Int) < 6) = true) := decide_eq_true ⟨by omega, by omega⟩
  have c0 := H.links
  have c1 := H.node ha
  have HC := hide (cost_nat H.lk hc ha hb)
  have g1 : ((c a b : Int) == 0) = false := by simpa using h0
  have HT := hide (tellCall H hme ha b)
  have HN := hide (fun (V : World) (g : Gr w V) => And.intro (H.ext g).news (H.ext g).blk.lt)
  obtain ⟨ao, cv, hv, _, _, _⟩ := H.nw.shape
  rw [newsL_len] at hv
  subst hv
  have wl : IntKind.i64.wrap (((t.news.length : Nat) : Int) + 6) = ((t.news.length : Nat) : Int) + 6 := by rw [IntKind.wrap_i64]; omega
  have g2 : decide ((40 : Int) < ((t.news.length : Nat) : Int) + 6) = true := decide_eq_true (by omega)
  generalize c a b = cc at *
  clear H hme hc h0 hf
  go_enter Try.func23, Try.ntmps23
  go_wp2_with (first | (go_at_call 28; with_reducible refine (lnode_is B1.out _).mono ?_; rintro e w1 ⟨rfl, hw1⟩; have hw2 := hw1.symm; clear hw1; subst hw2) | (go_at_call 28; with_reducible refine (lnode_is B2.out _).mono ?_; rintro e w1 ⟨rfl, hw1⟩; have hw2 := hw1.symm; clear hw1; subst hw2) | (go_at_call 40; with_reducible refine HC.out.mono ?_; rintro e w1 ⟨rfl, hw1⟩; have hw2 := hw1.symm; clear hw1; subst hw2) | (go_at_call 36; with_reducible refine HT.out.mono ?_; rintro e V ⟨a5, k5, rfl, _, G1'⟩; have G1 := hide G1'; clear G1'; obtain ⟨n1, hp1⟩ := HN.out _ G1.out))
  go_ret
  exact ⟨rfl, G1.out⟩
set_option maxRecDepth 20000 in
set_option maxHeartbeats 8000000 in
theorem tell_ok (H : Ne M B w p k q v c t) (hme : ∀ a, a < 6 → (t.nd a).me = a) (hc : Lk c) {a b : Nat} (ha : a < 6) (hb : b < 6) (h0 : c a b ≠ 0) (hl : t.news.length + 6 ≤ 40) :
    Calls Try.prog 23 #[pv p, iv (a : Int), iv (b : Int)] w fun e w' => ∃ v', e = .returned (iv 0) ∧ Ne M B w' p k q v' c (sayT t a b) := by
  have hp := H.blk.lt
  have hai : (a : Int) < 6 := by omega
  have B1 : Hid (decide (0 ≤ (a : Int) ∧ (a : Int) < 6) = true) := decide_eq_true ⟨by omega, by omega⟩
  have B2 : Hid (decide (0 ≤ (b : Int) ∧ (b : Int) < 6) = true) := decide_eq_true ⟨by omega, by omega⟩
  have c0 := H.links
  have c1 := H.node ha
  have HC := hide (cost_nat H.lk hc ha hb)
  have g1 : ((c a b : Int) == 0) = false := by simpa using h0
  obtain ⟨ao, cv, hv, _, _, _⟩ := H.nw.shape
  rw [newsL_len] at hv
  subst hv
  have htl : (tellT t a b).length = 6 := by simp [tellT]
  have HT : Hid (Calls Try.prog 36 #[pv (q a), iv (b : Int)] w fun e V => ∃ a5 k5 a6 n6 k6 w2, e = .returned (.slice a5 6 k5) ∧ V.cell? ⟨p, 7, none⟩ = some (.slice ao t.news.length cv) ∧ p < V.heap.size ∧ (Builtin.append_ #[37, 37] 37 #[.slice ao t.news.length cv, .slice a5 6 k5]).run Try.prog V = .ok (.slice a6 n6 k6) w2 ∧ (w2.cell? ⟨p, 7, none⟩ = some (.slice ao t.news.length cv) ∧ w2.frozen? ⟨p, 7, none⟩ = false ∧ p < w2.heap.size) ∧ Ne M B (w2.setCell ⟨p, 7, none⟩ (.slice a6 n6 k6)) p k q (.slice a6 n6 k6) c (sayT t a b)) :=
    (tellCall H hme ha b).mono fun e V ⟨a5, k5, he, hn, hg⟩ => by
      have H1 := H.ext hg
      obtain ⟨v', w2, hrun, ⟨sa, sn, sc, hs⟩, hf, HF⟩ := H1.app (cp := k5) 37 hn (by omega) (by omega)
      rw [htl] at hrun
      subst hs
      exact ⟨a5, k5, sa, sn, sc, w2, he, H1.news, H1.blk.lt, hrun, hf, HF⟩
  have g2 : decide ((40 : Int) < ((t.news.length : Nat) : Int) + 6) = false := decide_eq_false (by omega)
  have wl : IntKind.i64.wrap (((t.news.length : Nat) : Int) + 6) = ((t.news.length : Nat) : Int) + 6 := by rw [IntKind.wrap_i64]; omega
  have HL := hide hl
  generalize c a b = cc at *
  clear H hme hc h0 htl
  go_enter Try.func23, Try.ntmps23
  go_wp2_with (first | (go_at_call 28; with_reducible refine (lnode_is B1.out _).mono ?_; rintro e w1 ⟨rfl, hw1⟩; have hw2 := hw1.symm; clear hw1; subst hw2) | (go_at_call 28; with_reducible refine (lnode_is B2.out _).mono ?_; rintro e w1 ⟨rfl, hw1⟩; have hw2 := hw1.symm; clear hw1; subst hw2) | (go_at_call 40; with_reducible refine HC.out.mono ?_; rintro e w1 ⟨rfl, hw1⟩; have hw2 := hw1.symm; clear hw1; subst hw2) | (go_at_call 36; with_reducible refine HT.out.mono ?_; rintro e V ⟨a5, k5, a6, n6, k6, w2, rfl, n1, hp1, hr', ⟨f1, f2, f3⟩, HF'⟩; have HR := hide hr'; have HF := hide HF'; clear hr' HF') | (at_builtin; refine Lib.wpList_append_run _ rfl _ _ _ _ rfl _ _ rfl rfl _ _ HR.out ?_))
  go_ret
  exact ⟨_, rfl, HF.out⟩
theorem tell_any (H : Ne M B w p k q v c t) (C : TnC t c) (hl : t.news.length ≤ 40) (a b : Int) :
    Calls Try.prog 23 #[pv p, iv a, iv b] w fun e w' => ∃ v', e = .returned (iv (sayC t a b).2) ∧ Ne M B w' p k q v' c (sayC t a b).1 := by
  unfold sayC
  by_cases e : ¬ isN a ∨ ¬ isN b
  · rw [if_pos e]
    exact (tell_range e).mono fun _ w' ⟨h1, h2⟩ => ⟨v, h1, by rw [h2]; exact H⟩
  · rw [if_neg e]
    obtain ⟨i, rfl⟩ : ∃ i : Nat, a = (i : Int) := ⟨a.toNat, by omega⟩
    obtain ⟨j, rfl⟩ : ∃ j : Nat, b = (j : Int) := ⟨b.toNat, by omega⟩
    rw [Int.toNat_natCast, Int.toNat_natCast]
    have hi : i < 6 := by omega
    have hj : j < 6 := by omega
    have hcc := C.cst i j hi hj
    by_cases e2 : t.cst i j = 0
    · rw [if_pos e2]
      exact (tell_zero H C.lk hi hj (by omega)).mono fun _ w' ⟨h1, h2⟩ => ⟨v, h1, by rw [h2]; exact H⟩
    · rw [if_neg e2]
      by_cases e3 : 40 < t.news.length + 6
      · rw [if_pos e3]
        exact (tell_full H C.me C.lk hi hj (fun q => e2 (by rw [hcc, q]; rfl)) hl e3).mono fun _ w' ⟨h1, h2⟩ => ⟨v, h1, H.ext h2⟩
      · rw [if_neg e3]
        exact tell_ok H C.me C.lk hi hj (fun q => e2 (by rw [hcc, q]; rfl)) (by omega)
end

end Go.Proofs.Ytihamicnbihgnae
