/- THE PROGRAM'S Net, as the laws use it; netBegun. -/
import Derived.Test.YtihamicnbihgnaeNe17
import Derived.Test.YtihamicnbihgnaeK7
import Derived.Test.YtihamicnbihgnaeNe2
namespace Go.Proofs.Ytihamicnbihgnae
open Go.RowKit
attribute [local go_sem] Ext.all Ext.cell Ext.frozen Ext.lt Ext.lt1 Ext.lt2 Ext.ne Ext.ne'

theorem do_len {t : Tn} (h : t.news.length ≤ 40) (x : Sp) : (doT t x).1.news.length ≤ 40 := by
  unfold doT
  split
  · unfold linkC
    split
    · exact h
    · exact h
  · split
    · split
      · exact sayAll_len (show (tickT t _).news.length ≤ 40 from h) _ _
      · exact h
    · split
      · exact sayC_len h _ _
      · split
        · unfold newsC
          split
          · split
            · split
              · exact h
              · show (t.news ++ [_]).length ≤ 40
                rw [List.length_append, List.length_singleton]; omega
            · have hd : (dropAt t.news x.n.toNat).length ≤ 40 := by
                unfold dropAt
                rw [List.length_append, List.length_take, List.length_drop]; omega
              split
              · unfold hearC
                split
                · exact hd
                · exact hd
              · exact hd
          · exact h
        · exact h
theorem up_le (x : Sp) (k : Nat) : upA x k ≤ 1 := by unfold upA; split <;> omega
/-- A Net behind at most n steps. -/
structure Nl (M : Nat → Prop) (B w : World) (p k : Nat) (q : Nat → Nat) (v : Value) (c : Nat → Nat → Nat) (t : Tn) (n : Nat) : Prop where
  h : Ne M B w p k q v c t
  a : TnA t c
  l : t.news.length ≤ 40
  g : ∀ k, k < 6 → agT t k ≤ (n : Int)
section
variable {M : Nat → Prop} {B w w' : World} {p k : Nat} {q : Nat → Nat} {v : Value} {c : Nat → Nat → Nat} {t : Tn} {n : Nat}
theorem Nl.ext (H : Nl M B w p k q v c t n) (g : Gr w w') : Nl M B w' p k q v c t n := ⟨H.h.ext g, H.a, H.l, H.g⟩
theorem Nl.more (H : Nl M B w p k q v c t n) {m : Nat} (h : n ≤ m) : Nl M B w p k q v c t m := ⟨H.h, H.a, H.l, fun k hk => by have := H.g k hk; omega⟩
theorem Nl.do (H : Nl M B w p k q v c t n) (hn : n ≤ 100000) (x : Sp) (X Y : Value) :
    Calls Try.prog 9 #[pv p, .agg #[iv x.k, iv x.a, iv x.b, iv x.n, X, Y]] w fun e w' => ∃ v', e = .returned (iv (doT t x).2) ∧ Nl M B w' p k q v' (nextC c x) (doT t x).1 (n + 1) :=
  (netDo_any H.h H.a (fun k hk => by have := H.g k hk; omega) H.l x X Y).mono fun _ w' ⟨v', he, hh⟩ => by
    have hx := do_nx H.a x
    exact ⟨v', he, hh, hx.a, do_len H.l x, fun k hk => by have := hx.age k hk; have := up_le x k; have := H.g k hk; omega⟩
theorem settle_age {t : Tn} {c : Nat → Nat → Nat} (A : TnA t c) (r : Nat) {k : Nat} (hk : k < 6) : agT (settleT t r) k = agT t k + 1 := by
  have A0 : TnA { t with news := [] } c := A.sub (fun x hx => by cases hx)
  obtain ⟨h1, h2⟩ := A0.ticks 6 (Nat.le_refl _)
  have := (h1.rounds r).2 k hk
  unfold settleT
  rw [this, h2 k hk, if_pos hk]
  rfl
theorem settle_a {t : Tn} {c : Nat → Nat → Nat} (A : TnA t c) (r : Nat) : TnA (settleT t r) c := by
  have A0 : TnA { t with news := [] } c := A.sub (fun x hx => by cases hx)
  exact ((A0.ticks 6 (Nat.le_refl _)).1.rounds r).1
theorem Nl.settle (H : Nl M B w p k q v c t n) (hn : n ≤ 100000) (R : Int) (hR : R ≤ 1000) :
    Calls Try.prog 8 #[pv p, iv R] w fun e w' => ∃ v', e = .returned (.tuple #[]) ∧ Nl M B w' p k q v' c (settleT t R.toNat) (n + 1) :=
  (netSettle_ok H.h H.a (fun k hk => by have := H.g k hk; omega) R (by omega)).mono fun _ w' ⟨he, hh⟩ =>
    ⟨_, he, hh, settle_a H.a _, by rw [settleT_news]; simp, fun k hk => by rw [settle_age H.a _ hk]; have := H.g k hk; omega⟩
/-- A new one. -/
theorem netNew_nl (w : World) (M : Nat → Prop) (hM : ∀ b, M b → b < w.heap.size) : Calls Try.prog 12 #[] w fun e w' => ∃ p k q v, e = .returned (pv p) ∧ Nl M w w' p k q v (fun _ _ => 0) newT 0 ∧ Gr w w' ∧ w.heap.size ≤ p ∧ w.heap.size ≤ k ∧ (∀ a, a < 6 → w.heap.size ≤ q a) ∧ ∀ b, v.ownBlock = some b → w.heap.size ≤ b :=
  (netNew_ok w M hM).mono fun _ w' ⟨p, k, q, he, hh, hg, h1, h2, h3⟩ => ⟨p, k, q, _, he, ⟨hh, new_a, by show ([] : List Nw).length ≤ 40; simp, fun k hk => by
    show agT newT k ≤ 0
    have : agT newT k = 0 := by rcases (show k = 0 ∨ k = 1 ∨ k = 2 ∨ k = 3 ∨ k = 4 ∨ k = 5 by omega) with rfl | rfl | rfl | rfl | rfl | rfl <;> rfl
    omega⟩, hg, h1, h2, h3, fun b e => by cases e⟩
end
/-- The three steps of netBegun. -/
def bt1 : Tn := (doT newT ⟨1, 0, 1, 3⟩).1
def bt2 : Tn := (doT bt1 ⟨3, 0, 1, 0⟩).1
def bt3 : Tn := (doT bt2 ⟨4, 0, 0, 0⟩).1
theorem bt_codes : (doT newT ⟨1, 0, 1, 3⟩).2 = 0 ∧ (doT bt1 ⟨3, 0, 1, 0⟩).2 = 0 ∧ (doT bt2 ⟨4, 0, 0, 0⟩).2 = 0 := by decide
theorem bt_len : bt3.news.length = 5 := by decide
theorem bt_way : wayTn bt3 1 0 = (0, 3, 0) := by decide
theorem bt_path : pathP (hopZ bt3 0) 0 7 1 [] = ([1, 0], true) := by decide
theorem two_at (X : World) : NumAt (X.alloc (.cells #[iv 1, iv 0] 3)) (some ⟨X.heap.size, 0, none⟩) [1, 0] := .inr ⟨X.heap.size, 0, rfl, by simp, fun i hi => by
  have : i = 0 ∨ i = 1 := by simp at hi; omega
  rcases this with rfl | rfl <;> simp [go_sem]⟩
set_option maxRecDepth 20000 in
set_option maxHeartbeats 8000000 in
theorem netBegun_ok (w : World) : Calls Try.prog 6 #[] w fun e w' => e = .returned (.bool true) ∧ Gr w w' := by
  have HN := hide (netNew_nl w (fun b => b < w.heap.size) (fun _ h => h))
  have D1 : Hid (∀ (V : World) (p k : Nat) (q : Nat → Nat) (v : Value), Nl (fun b => b < w.heap.size) w V p k q v (fun _ _ => 0) newT 0 → Calls Try.prog 9 #[pv p, .agg #[iv 1, iv 0, iv 1, iv 3, iv 0, iv 0]] V fun e w' => ∃ v', e = .returned (iv 0) ∧ Nl (fun b => b < w.heap.size) w w' p k q v' (nextC (fun _ _ => 0) ⟨1, 0, 1, 3⟩) bt1 1) := fun V p k q v h => by
    have := h.do (by omega) ⟨1, 0, 1, 3⟩ (iv 0) (iv 0)
    rw [bt_codes.1] at this
    exact this
  generalize nextC (fun _ _ => 0) ⟨1, 0, 1, 3⟩ = c1 at *
  have D2 : Hid (∀ (V : World) (p k : Nat) (q : Nat → Nat) (v : Value), Nl (fun b => b < w.heap.size) w V p k q v c1 bt1 1 → Calls Try.prog 9 #[pv p, .agg #[iv 3, iv 0, iv 1, iv 0, iv 0, iv 0]] V fun e w' => ∃ v', e = .returned (iv 0) ∧ Nl (fun b => b < w.heap.size) w w' p k q v' (nextC c1 ⟨3, 0, 1, 0⟩) bt2 2) := fun V p k q v h => by
    have := h.do (by omega) ⟨3, 0, 1, 0⟩ (iv 0) (iv 0)
    rw [bt_codes.2.1] at this
    exact this
  generalize nextC c1 ⟨3, 0, 1, 0⟩ = c2 at *
  have D3 : Hid (∀ (V : World) (p k : Nat) (q : Nat → Nat) (v : Value), Nl (fun b => b < w.heap.size) w V p k q v c2 bt2 2 → Calls Try.prog 9 #[pv p, .agg #[iv 4, iv 0, iv 0, iv 0, iv 0, iv 0]] V fun e w' => ∃ v', e = .returned (iv 0) ∧ Nl (fun b => b < w.heap.size) w w' p k q v' (nextC c2 ⟨4, 0, 0, 0⟩) bt3 3) := fun V p k q v h => by
    have := h.do (by omega) ⟨4, 0, 0, 0⟩ (iv 0) (iv 0)
    rw [bt_codes.2.2] at this
    exact this
  generalize nextC c2 ⟨4, 0, 0, 0⟩ = c3 at *
  have P1 : Hid (∀ (V : World) (p k : Nat) (q : Nat → Nat) (v : Value), Nl (fun b => b < w.heap.size) w V p k q v c3 bt3 3 → Calls Try.prog 17 #[pv p, iv 1, iv 0] V fun e w' => ∃ ao cp, e = .returned (.tuple #[.slice ao 2 cp, .bool true]) ∧ NumAt w' ao [1, 0] ∧ Gr V w') := fun V p k q v h => (netPath_any h.h 1 0 bt_path).mono fun e w' ⟨u, he, ho, hg⟩ => by
    obtain ⟨ao, cp, hu, hn⟩ := ho.shape
    exact ⟨ao, cp, by rw [he, hu]; rfl, hn, hg⟩
  have P2 : Hid (∀ (V : World) (p k : Nat) (q : Nat → Nat) (v : Value), Nl (fun b => b < w.heap.size) w V p k q v c3 bt3 3 → Calls Try.prog 13 #[pv p] V fun e w' => ∃ ao cp, e = .returned (.slice ao 5 cp) ∧ Gr V w') := fun V p k q v h => (netNews_any h.h h.l).mono fun e w' ⟨u, he, ho, hg⟩ => by
    obtain ⟨ao, cp, hu, _, _⟩ := OwnN.shape ho
    rw [newsL_len, bt_len] at hu
    exact ⟨ao, cp, by rw [he, hu], hg⟩
  have P3 : Hid (∀ (V : World) (p k : Nat) (q : Nat → Nat) (v : Value), Nl (fun b => b < w.heap.size) w V p k q v c3 bt3 3 → Calls Try.prog 11 #[pv p, iv 1, iv 0] V fun e w' => e = .returned (.agg #[iv 0, iv 3, iv 0]) ∧ Gr V w') := fun V p k q v h => (netWay_any h.h 1 0).mono fun e w' ⟨he, d, hd⟩ => by
    rw [bt_way] at he
    exact ⟨he, by rw [hd]; exact d.gr⟩
  have P4 : Hid (∀ (X : World) (ao : Option Addr) (cp : Nat), NumAt X ao [1, 0] → Calls Try.prog 18 #[.slice ao 2 cp, .slice (some ⟨X.heap.size, 0, none⟩) 2 2] (X.alloc (.cells #[iv 1, iv 0] 3)) fun e w' => e = .returned (.bool true) ∧ Gr X w') := fun X ao cp h => (sameInts_eq _ ao _ 2 cp 2 [1, 0] (h.gr ((Gr.refl _).alloc _)) (two_at X) rfl (by omega)).mono fun e w' ⟨he, hg⟩ => ⟨he, ((Gr.refl X).alloc _).trans hg⟩
  go_enter Try.func6, Try.ntmps6
  go_wp2_with (first
    | (go_at_call 12; with_reducible refine HN.out.mono ?_; rintro e V0 ⟨p, k, q, v0, rfl, H0', _, _⟩; have H0 := hide H0'; clear H0')
    | (go_at_call 9; with_reducible refine (D1.out _ _ _ _ _ H0.out).mono ?_; rintro e V1 ⟨v1, rfl, H1'⟩; have H1 := hide H1'; clear H1')
    | (go_at_call 9; with_reducible refine (D2.out _ _ _ _ _ H1.out).mono ?_; rintro e V2 ⟨v2, rfl, H2'⟩; have H2 := hide H2'; clear H2')
    | (go_at_call 9; with_reducible refine (D3.out _ _ _ _ _ H2.out).mono ?_; rintro e V3 ⟨v3, rfl, H3'⟩; have H3 := hide H3'; clear H3')
    | (go_at_call 17; with_reducible refine (P1.out _ _ _ _ _ H3.out).mono ?_; rintro e V4 ⟨a4, c4, rfl, n4', g4'⟩; have N4 := hide n4'; have G4 := hide g4'; have H4 := hide (H3.out.ext g4'); clear n4' g4')
    | (go_at_call 13; with_reducible refine (P2.out _ _ _ _ _ H4.out).mono ?_; rintro e V5 ⟨a5, c5, rfl, g5'⟩; have G5 := hide g5'; have H5 := hide (H4.out.ext g5'); have N5 := hide (N4.out.gr g5'); clear g5')
    | (go_at_call 11; with_reducible refine (P3.out _ _ _ _ _ H5.out).mono ?_; rintro e V6 ⟨rfl, g6'⟩; have G6 := hide g6'; have H6 := hide (H5.out.ext g6'); have N6 := hide (N5.out.gr g6'); clear g6')
    | (go_at_call 18; with_reducible refine (P4.out _ _ _ N6.out).mono ?_; rintro e V7 ⟨rfl, g7'⟩; have G7 := hide g7'; clear g7'))
  go_ret
  refine ⟨rfl, ?_⟩
  exact ((H6.out.ext G7.out).h.kp).below (Nat.le_refl _) (fun _ h => h)

end Go.Proofs.Ytihamicnbihgnae
