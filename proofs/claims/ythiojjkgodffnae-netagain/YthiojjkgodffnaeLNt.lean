import Derived.Test.YthiojjkgodffnaeNe17
import Derived.Test.YthiojjkgodffnaeRIs
import Derived.Test.YthiojjkgodffnaeNe2
import Derived.Test.YthiojjkgodffnaeD7
/- THE PROGRAM'S Net, as the laws use it; netBegun. -/
namespace Go.Proofs.Ythiojjkgodffnae
open Go.RowKit
attribute [local go_sem] Ext.all Ext.cell Ext.frozen Ext.lt Ext.lt1 Ext.lt2 Ext.ne Ext.ne'

theorem do_len {t : Tn} (h : t.news.length ≤ 40) (x : Sp) : (doT t x).1.news.length ≤ 40 := by
  unfold doT
  split
  · unfold linkC
    split
    · exact h
    · exact h
  · split
    · split
      · exact sayAll_len (show (tickT t _).news.length ≤ 40 from h) _ _
      · exact h
    · split
      · exact sayC_len h _ _
      · split
        · unfold newsC
          split
          · split
            · split
              · exact h
              · show (t.news ++ [_]).length ≤ 40
                rw [List.length_append, List.length_singleton]; omega
            · have hd : (dropAt t.news x.n.toNat).length ≤ 40 := by
                unfold dropAt
                rw [List.length_append, List.length_take, List.length_drop]; omega
              split
              · unfold hearC
                split
                · exact hd
                · exact hd
              · exact hd
          · exact h
        · exact h
theorem up_le (x : Sp) (k : Nat) : upA x k ≤ 1 := by unfold upA; split <;> omega
/-- A Net behind at most n steps. -/
structure Nl (M : Nat → Prop) (B w : World) (p k : Nat) (q : Nat → Nat) (v : Value) (c : Nat → Nat → Nat) (t : Tn) (n : Nat) : Prop where
  h : Ne M B w p k q v c t
  a : TnA t c
  l : t.news.length ≤ 40
  g : ∀ k, k < 6 → agT t k ≤ (n : Int)
section
variable {M : Nat → Prop} {B w w' : World} {p k : Nat} {q : Nat → Nat} {v : Value} {c : Nat → Nat → Nat} {t : Tn} {n : Nat}
theorem Nl.ext (H : Nl M B w p k q v c t n) (g : Gr w w') : Nl M B w' p k q v c t n := ⟨H.h.ext g, H.a, H.l, H.g⟩
theorem Nl.more (H : Nl M B w p k q v c t n) {m : Nat} (h : n ≤ m) : Nl M B w p k q v c t m := ⟨H.h, H.a, H.l, fun k hk => by have := H.g k hk; omega⟩
theorem Nl.do (H : Nl M B w p k q v c t n) (hn : n ≤ 100000) (x : Sp) (X Y : Value) :
    Calls Try.prog 12 #[pv p, .agg #[iv x.k, iv x.a, iv x.b, iv x.n, X, Y]] w fun e w' => ∃ v', e = .returned (iv (doT t x).2) ∧ Nl M B w' p k q v' (nextC c x) (doT t x).1 (n + 1) :=
  (netDo_any H.h H.a (fun k hk => by have := H.g k hk; omega) H.l x X Y).mono fun _ w' ⟨v', he, hh⟩ => by
    have hx := do_nx H.a x
    exact ⟨v', he, hh, hx.a, do_len H.l x, fun k hk => by have := hx.age k hk; have := up_le x k; have := H.g k hk; omega⟩
theorem settle_age {t : Tn} {c : Nat → Nat → Nat} (A : TnA t c) (r : Nat) {k : Nat} (hk : k < 6) : agT (settleT t r) k = agT t k + 1 := by
  have A0 : TnA { t with news := [] } c := A.sub (fun x hx => by cases hx)
  obtain ⟨h1, h2⟩ := A0.ticks 6 (Nat.le_refl _)
  have := (h1.rounds r).2 k hk
  unfold settleT
  rw [this, h2 k hk, if_pos hk]
  rfl
theorem settle_a {t : Tn} {c : Nat → Nat → Nat} (A : TnA t c) (r : Nat) : TnA (settleT t r) c := by
  have A0 : TnA { t with news := [] } c := A.sub (fun x hx => by cases hx)
  exact ((A0.ticks 6 (Nat.le_refl _)).1.rounds r).1
theorem Nl.settle (H : Nl M B w p k q v c t n) (hn : n ≤ 100000) (R : Int) (hR : R ≤ 1000) :
    Calls Try.prog 20 #[pv p, iv R] w fun e w' => ∃ v', e = .returned (.tuple #[]) ∧ Nl M B w' p k q v' c (settleT t R.toNat) (n + 1) :=
  (netSettle_ok H.h H.a (fun k hk => by have := H.g k hk; omega) R (by omega)).mono fun _ w' ⟨he, hh⟩ =>
    ⟨_, he, hh, settle_a H.a _, by rw [settleT_news]; simp, fun k hk => by rw [settle_age H.a _ hk]; have := H.g k hk; omega⟩
/-- A new one. -/
theorem netNew_nl (w : World) (M : Nat → Prop) (hM : ∀ b, M b → b < w.heap.size) : Calls Try.prog 10 #[] w fun e w' => ∃ p k q v, e = .returned (pv p) ∧ Nl M w w' p k q v (fun _ _ => 0) newT 0 ∧ Gr w w' ∧ w.heap.size ≤ p ∧ w.heap.size ≤ k ∧ (∀ a, a < 6 → w.heap.size ≤ q a) ∧ ∀ b, v.ownBlock = some b → w.heap.size ≤ b :=
  (netNew_ok w M hM).mono fun _ w' ⟨p, k, q, he, hh, hg, h1, h2, h3⟩ => ⟨p, k, q, _, he, ⟨hh, new_a, by show ([] : List Nw).length ≤ 40; simp, fun k hk => by
    show agT newT k ≤ 0
    have : agT newT k = 0 := by rcases (show k = 0 ∨ k = 1 ∨ k = 2 ∨ k = 3 ∨ k = 4 ∨ k = 5 by omega) with rfl | rfl | rfl | rfl | rfl | rfl <;> rfl
    omega⟩, hg, h1, h2, h3, fun b e => by cases e⟩
end
/-- The three steps of netBegun. -/
def bt1 : Tn := (doT newT ⟨1, 0, 1, 3⟩).1
def bt2 : Tn := (doT bt1 ⟨3, 0, 1, 0⟩).1
def bt3 : Tn := (doT bt2 ⟨4, 0, 0, 0⟩).1
theorem bt_codes : (doT newT ⟨1, 0, 1, 3⟩).2 = 0 ∧ (doT bt1 ⟨3, 0, 1, 0⟩).2 = 0 ∧ (doT bt2 ⟨4, 0, 0, 0⟩).2 = 0 := by decide
theorem bt_len : bt3.news.length = 5 := by decide
theorem bt_way : wayTn bt3 1 0 = (0, 3, 0) := by decide
theorem bt_path : pathP (hopZ bt3 0) 0 7 1 [] = ([1, 0], true) := by decide
theorem two_at (X : World) : NumAt (X.alloc (.cells #[iv 1, iv 0] 3)) (some ⟨X.heap.size, 0, none⟩) [1, 0] := .inr ⟨X.heap.size, 0, rfl, by simp, fun i hi => by
  have : i = 0 ∨ i = 1 := by simp at hi; omega
  rcases this with rfl | rfl <;> simp [go_sem]⟩
set_option maxRecDepth 20000 in
set_option maxHeartbeats 8000000 in
theorem netBegun_ok (w : World) : Calls Try.prog 9 #[] w fun e w' => e = .returned (.bool true) ∧ Gr w w' := by
  have HN := hide (netNew_nl w (fun b => b < w.heap.size) (fun _ h => h))
  have D1 : Hid (∀ (V : World) (p k : Nat) (q : Nat → Nat) (v : Value), Nl (fun b => b < w.heap.size) w V p k q v (fun _ _ => 0) newT 0 → Calls Try.prog 12 #[pv p, .agg #[iv 1, iv 0, iv 1, iv 3, iv 0, iv 0]] V fun e w' => ∃ v', e = .returned (iv 0) ∧ Nl (fun b => b < w.heap.size) w w' p k q v' (nextC (fun _ _ => 0) ⟨1, 0, 1, 3⟩) bt1 1) := fun V p k q v h => by
    have := h.do (by omega) ⟨1, 0, 1, 3⟩ (iv 0) (iv 0)
    rw [bt_codes.1] at this
    exact this
  generalize nextC (fun _ _ => 0) ⟨1, 0, 1, 3⟩ = c1 at *
  have D2 : Hid (∀ (V : World) (p k : Nat) (q : Nat → Nat) (v : Value), Nl (fun b => b < w.heap.size) w V p k q v c1 bt1 1 → Calls Try.prog 12 #[pv p, .agg #[iv 3, iv 0, iv 1, iv 0, iv 0, iv 0]] V fun e w' => ∃ v', e = .returned (iv 0) ∧ Nl (fun b => b < w.heap.size) w w' p k q v' (nextC c1 ⟨3, 0, 1, 0⟩) bt2 2) := fun V p k q v h => by
    have := h.do (by omega) ⟨3, 0, 1, 0⟩ (iv 0) (iv 0)
    rw [bt_codes.2.1] at this
    exact this
  generalize nextC c1 ⟨3, 0, 1, 0⟩ = c2 at *
  have D3 : Hid (∀ (V : World) (p k : Nat) (q : Nat → Nat) (v : Value), Nl (fun b => b < w.heap.size) w V p k q v c2 bt2 2 → Calls Try.prog 12 #[pv p, .agg #[iv 4, iv 0, iv 0, iv 0, iv 0, iv 0]] V fun e w' => ∃ v', e = .returned (iv 0) ∧ Nl (fun b => b < w.heap.size) w w' p k q v' (nextC c2 ⟨4, 0, 0, 0⟩) bt3 3) := fun V p k q v h => by
    have := h.do (by omega) ⟨4, 0, 0, 0⟩ (iv 0) (iv 0)
    rw [bt_codes.2.2] at this
    exact this
  generalize nextC c2 ⟨4, 0, 0, 0⟩ = c3 at *
  have P1 : Hid (∀ (V : World) (p k : Nat) (q : Nat → Nat) (v : Value), Nl (fun b => b < w.heap.size) w V p k q v c3 bt3 3 → Calls Try.prog 15 #[pv p, iv 1, iv 0] V fun e w' => ∃ ao cp, e = .returned (.tuple #[.slice ao 2 cp, .bool true]) ∧ NumAt w' ao [1, 0] ∧ Gr V w') := fun V p k q v h => (netPath_any h.h 1 0 bt_path).mono fun e w' ⟨u, he, ho, hg⟩ => by
    obtain ⟨ao, cp, hu, hn⟩ := ho.shape
    exact ⟨ao, cp, by rw [he, hu]; rfl, hn, hg⟩
  have P2 : Hid (∀ (V : World) (p k : Nat) (q : Nat → Nat) (v : Value), Nl (fun b => b < w.heap.size) w V p k q v c3 bt3 3 → Calls Try.prog 27 #[pv p] V fun e w' => ∃ ao cp, e = .returned (.slice ao 5 cp) ∧ Gr V w') := fun V p k q v h => (netNews_any h.h h.l).mono fun e w' ⟨u, he, ho, hg⟩ => by
    obtain ⟨ao, cp, hu, _, _⟩ := OwnN.shape ho
    rw [newsL_len, bt_len] at hu
    exact ⟨ao, cp, by rw [he, hu], hg⟩
  have P3 : Hid (∀ (V : World) (p k : Nat) (q : Nat → Nat) (v : Value), Nl (fun b => b < w.heap.size) w V p k q v c3 bt3 3 → Calls Try.prog 18 #[pv p, iv 1, iv 0] V fun e w' => e = .returned (.agg #[iv 0, iv 3, iv 0]) ∧ Gr V w') := fun V p k q v h => (netWay_any h.h 1 0).mono fun e w' ⟨he, d, hd⟩ => by
    rw [bt_way] at he
    exact ⟨he, by rw [hd]; exact d.gr⟩
  have P4 : Hid (∀ (X : World) (ao : Option Addr) (cp : Nat), NumAt X ao [1, 0] → Calls Try.prog 17 #[.slice ao 2 cp, .slice (some ⟨X.heap.size, 0, none⟩) 2 2] (X.alloc (.cells #[iv 1, iv 0] 3)) fun e w' => e = .returned (.bool true) ∧ Gr X w') := fun X ao cp h => (sameInts_eq _ ao _ 2 cp 2 [1, 0] (h.gr ((Gr.refl _).alloc _)) (two_at X) rfl (by omega)).mono fun e w' ⟨he, hg⟩ => ⟨he, ((Gr.refl X).alloc _).trans hg⟩
  go_enter Try.func9, Try.ntmps9
  go_wp2_with (first
    | (go_at_call 10; with_reducible refine HN.out.mono ?_; rintro e V0 ⟨p, k, q, v0, rfl, H0', _, _⟩; have H0 := hide H0'; clear H0')
    | (go_at_call 12; with_reducible refine (D1.out _ _ _ _ _ H0.out).mono ?_; rintro e V1 ⟨v1, rfl, H1'⟩; have H1 := hide H1'; clear H1')
    | (go_at_call 12; with_reducible refine (D2.out _ _ _ _ _ H1.out).mono ?_; rintro e V2 ⟨v2, rfl, H2'⟩; have H2 := hide H2'; clear H2')
    | (go_at_call 12; with_reducible refine (D3.out _ _ _ _ _ H2.out).mono ?_; rintro e V3 ⟨v3, rfl, H3'⟩; have H3 := hide H3'; clear H3')
    | (go_at_call 15; with_reducible refine (P1.out _ _ _ _ _ H3.out).mono ?_; rintro e V4 ⟨a4, c4, rfl, n4', g4'⟩; have N4 := hide n4'; have G4 := hide g4'; have H4 := hide (H3.out.ext g4'); clear n4' g4')
    | (go_at_call 27; with_reducible refine (P2.out _ _ _ _ _ H4.out).mono ?_; rintro e V5 ⟨a5, c5, rfl, g5'⟩; have G5 := hide g5'; have H5 := hide (H4.out.ext g5'); have N5 := hide (N4.out.gr g5'); clear g5')
    | (go_at_call 18; with_reducible refine (P3.out _ _ _ _ _ H5.out).mono ?_; rintro e V6 ⟨rfl, g6'⟩; have G6 := hide g6'; have H6 := hide (H5.out.ext g6'); have N6 := hide (N5.out.gr g6'); clear g6')
    | (go_at_call 17; with_reducible refine (P4.out _ _ _ N6.out).mono ?_; rintro e V7 ⟨rfl, g7'⟩; have G7 := hide g7'; clear g7'))
  go_ret
  refine ⟨rfl, ?_⟩
  exact ((H6.out.ext G7.out).h.kp).below (Nat.le_refl _) (fun _ h => h)

end Go.Proofs.Ythiojjkgodffnae

/- THE BEST OF A NODE, AS Best TELLS IT. -/
namespace Go.Proofs.Ythiojjkgodffnae
open Go.RowKit

theorem best_sel {m : Md} (h : MdOk m) {k : Nat} (hk : k < 6) : bestOf (sel m) (k : Int) = m.bests k := by
  unfold bestOf
  rw [if_pos ⟨by omega, by omega⟩]
  by_cases e : (k : Int) = ((sel m).me : Int)
  · rw [if_pos e]
    have e' : k = m.me := by have : (k : Int) = (m.me : Int) := e; omega
    obtain ⟨s, _, hw, hb⟩ := h.self
    show ((m.ways m.me).1, (m.ways m.me).2.1) = m.bests k
    rw [e', hw, hb]
  · rw [if_neg e, Int.toNat_natCast]
    exact sel_best m (fun q => e (by rw [q]; rfl))

end Go.Proofs.Ythiojjkgodffnae

/- FOR THE LAWS OF A NET: steps in memory; what a Net leaves as it was; ways, bests, costs as the laws ask them. -/
namespace Go.Proofs.Ythiojjkgodffnae
open Go.RowKit
attribute [local go_sem] Ext.all Ext.cell Ext.frozen Ext.lt Ext.lt1 Ext.lt2 Ext.ne Ext.ne'

/-- A step with its prefix. -/
structure Sx where
  s : Sp
  l : Int
  b : Int
def Sx.val (x : Sx) : Value := .agg #[iv x.s.k, iv x.s.a, iv x.s.b, iv x.s.n, iv x.l, iv x.b]
/-- A slice that reads as steps. -/
def SpAt (w : World) (ao : Option Addr) (l : List Sx) : Prop := l = [] ∨ ∃ b o, ao = some ⟨b, o, none⟩ ∧ b < w.heap.size ∧ ∀ i (h : i < l.length),
    w.cell? ⟨b, o + i * 6, none⟩ = some (iv l[i].s.k) ∧ w.cell? ⟨b, o + i * 6 + 1, none⟩ = some (iv l[i].s.a) ∧ w.cell? ⟨b, o + i * 6 + 2, none⟩ = some (iv l[i].s.b) ∧ w.cell? ⟨b, o + i * 6 + 3, none⟩ = some (iv l[i].s.n) ∧ w.cell? ⟨b, o + i * 6 + 4, none⟩ = some (iv l[i].l) ∧ w.cell? ⟨b, o + i * 6 + 5, none⟩ = some (iv l[i].b)
theorem SpAt.gr {w w' : World} {ao : Option Addr} {l : List Sx} (h : SpAt w ao l) (k : Gr w w') : SpAt w' ao l := by
  rcases h with h | ⟨b, o, ha, hb, hc⟩
  · exact .inl h
  · refine .inr ⟨b, o, ha, Nat.lt_of_lt_of_le hb (Below.size k), fun i hi => ?_⟩
    have e : ∀ q, w'.cell? ⟨b, q, none⟩ = w.cell? ⟨b, q, none⟩ := fun q => Below.cell k (p := ⟨b, q, none⟩) hb
    rw [e, e, e, e, e, e]
    exact hc i hi
/-- One of them. -/
theorem SpAt.get {w : World} {ao : Option Addr} {l : List Sx} (h : SpAt w ao l) {i : Nat} (hi : i < l.length) : ∃ b o, ao = some ⟨b, o, none⟩ ∧ b < w.heap.size ∧ w.cell? ⟨b, o + i * 6, none⟩ = some (iv l[i].s.k) ∧ w.cell? ⟨b, o + i * 6 + 1, none⟩ = some (iv l[i].s.a) ∧ w.cell? ⟨b, o + i * 6 + 2, none⟩ = some (iv l[i].s.b) ∧ w.cell? ⟨b, o + i * 6 + 3, none⟩ = some (iv l[i].s.n) ∧ w.cell? ⟨b, o + i * 6 + 4, none⟩ = some (iv l[i].l) ∧ w.cell? ⟨b, o + i * 6 + 5, none⟩ = some (iv l[i].b) := by
  rcases h with h | ⟨b, o, ha, hb, hc⟩
  · exfalso; rw [h] at hi; simp at hi
  · exact ⟨b, o, ha, hb, hc i hi⟩
/-- The steps of a list, without prefixes. -/
def spsOf (l : List Sx) : List Sp := l.map Sx.s
theorem sps_len (l : List Sx) : (spsOf l).length = l.length := List.length_map _
theorem play_next (l : List Sx) {i : Nat} (h : i < l.length) : playT newT (spsOf l) (i + 1) = (doT (playT newT (spsOf l) i) l[i].s).1 := by
  rw [play_succ newT (spsOf l) (by rw [sps_len]; exact h)]
  unfold spsOf
  rw [List.getElem_map]

/-- What is not the Net's is as it was, and still not the Net's. -/
structure Fr (w : World) (p k : Nat) (q : Nat → Nat) (v : Value) (w' : World) (v' : Value) : Prop where
  kp : Kp (rest w p k q v) w w'
  rst : ∀ {b}, rest w p k q v b → rest w' p k q v' b
section
variable {M : Nat → Prop} {B w w' : World} {p k : Nat} {q : Nat → Nat} {v v' : Value} {c c' : Nat → Nat → Nat} {t t' : Tn} {n : Nat}
theorem Ne.fr (h' : Ne (Ythiojjkgodffnae.rest w p k q v) w w' p k q v' c' t') : Fr w p k q v w' v' :=
  ⟨h'.kp, fun {b} hb => ⟨Nat.lt_of_lt_of_le hb.1 h'.kp.size, hb.2.1, hb.2.2.1, hb.2.2.2.1, fun e => h'.nov b e hb⟩⟩
theorem Fr.zarr {t n X : Nat} {g : Nat → Int} (h : Fr w p k q v w' v') (z : ZArr w t n X g) (hX : rest w p k q v X) : ZArr w' t n X g := (h.kp.block X hX.1 hX).trans z
theorem Nl.do' (H : Nl M B w p k q v c t n) (hn : n ≤ 100000) (x : Sp) (X Y : Value) :
    Calls Try.prog 12 #[pv p, .agg #[iv x.k, iv x.a, iv x.b, iv x.n, X, Y]] w fun e w' => ∃ v', e = .returned (iv (doT t x).2) ∧ Nl M B w' p k q v' (nextC c x) (doT t x).1 (n + 1) ∧ Fr w p k q v w' v' :=
  (Nl.do (M := rest w p k q v) (B := w) ⟨H.h.rest, H.a, H.l, H.g⟩ hn x X Y).mono fun _ _ ⟨v', he, hh⟩ =>
    ⟨v', he, ⟨H.h.unrest hh.h, hh.a, hh.l, hh.g⟩, hh.h.fr⟩
theorem Nl.settle' (H : Nl M B w p k q v c t n) (hn : n ≤ 100000) (R : Int) (hR : R ≤ 1000) :
    Calls Try.prog 20 #[pv p, iv R] w fun e w' => ∃ v', e = .returned (.tuple #[]) ∧ Nl M B w' p k q v' c (settleT t R.toNat) (n + 1) ∧ Fr w p k q v w' v' :=
  (Nl.settle (M := rest w p k q v) (B := w) ⟨H.h.rest, H.a, H.l, H.g⟩ hn R hR).mono fun _ _ ⟨v', he, hh⟩ =>
    ⟨v', he, ⟨H.h.unrest hh.h, hh.a, hh.l, hh.g⟩, hh.h.fr⟩
/-- A block that is not the Net's is written. -/
theorem Nl.aside (H : Nl M B w p k q v c t n) {X : Nat} (hX : rest w p k q v X) (hM : ¬ M X) (hw : Wr X w w') : Nl M B w' p k q v c t n :=
  ⟨H.h.aside hw hX.2.1.symm hX.2.2.1.symm (fun a ha => (hX.2.2.2.1 a ha).symm) (fun _ e e2 => hX.2.2.2.2 (e2 ▸ e)) hM, H.a, H.l, H.g⟩
theorem rest_wr {X b : Nat} (hb : rest w p k q v b) (hw : Wr X w w') : rest w' p k q v b := ⟨Nat.lt_of_lt_of_le hb.1 hw.size, hb.2⟩
theorem rest_gr {b : Nat} (hb : rest w p k q v b) (hw : Gr w w') : rest w' p k q v b := ⟨Nat.lt_of_lt_of_le hb.1 (Below.size hw), hb.2⟩
/-- Way and Best of two nodes. -/
theorem Nl.way (H : Nl M B w p k q v c t n) {a b : Nat} (ha : a < 6) (hb : b < 6) : Calls Try.prog 18 #[pv p, iv (a : Int), iv (b : Int)] w fun e w' => e = .returned (.agg #[iv ((t.nd a).ways b).1, iv ((t.nd a).ways b).2.1, iv ((t.nd a).ways b).2.2]) ∧ ∃ d : Ext w, w' = d.out := by
  have := netWay_any H.h (a : Int) (b : Int)
  have e : wayTn t (a : Int) (b : Int) = (t.nd a).ways b := by
    unfold wayTn
    rw [if_pos ⟨by omega, by omega⟩, Int.toNat_natCast, wayOf_nat _ hb]
  rw [e] at this
  exact this
theorem Nl.best (H : Nl M B w p k q v c t n) {a b : Nat} (ha : a < 6) (hb : b < 6) : Calls Try.prog 22 #[pv p, iv (a : Int), iv (b : Int)] w fun e w' => e = .returned (.tuple #[iv ((t.nd a).bests b).1, iv ((t.nd a).bests b).2]) ∧ ∃ d : Ext w, w' = d.out := by
  have := netBest_any H.h (a : Int) (b : Int)
  have e : bestTn t (a : Int) (b : Int) = (t.nd a).bests b := by
    unfold bestTn
    rw [if_pos ⟨by omega, by omega⟩, Int.toNat_natCast, best_sel (H.a.s.z a ha).ok hb]
  rw [e] at this
  exact this
end
/-- The Net's own blocks. -/
def own (p k : Nat) (q : Nat → Nat) (v : Value) (b : Nat) : Prop := b = p ∨ b = k ∨ (∃ a, a < 6 ∧ b = q a) ∨ v.ownBlock = some b
/-- Another Net beside it. -/
def Apart (w : World) (p k : Nat) (q : Nat → Nat) (v : Value) (p' k' : Nat) (q' : Nat → Nat) (v' : Value) : Prop := ∀ b, own p' k' q' v' b → rest w p k q v b
section
variable {M : Nat → Prop} {B w w' : World} {p k p' k' : Nat} {q q' : Nat → Nat} {v v' v1 : Value} {c c' : Nat → Nat → Nat} {t t' : Tn} {n n' : Nat}
theorem Ne.own_lt (h : Ne M B w p k q v c t) {b : Nat} (hb : own p k q v b) : b < w.heap.size := by
  rcases hb with rfl | rfl | ⟨a, ha, rfl⟩ | e
  · exact h.blk.lt
  · exact h.lk.lt
  · exact (h.six.at_ a ha).lt
  · exact h.nw.own_lt e
theorem Apart.symm (h : Apart w p k q v p' k' q' v') (H : Ne M B w p k q v c t) : Apart w p' k' q' v' p k q v := fun b hb => by
  have no : ∀ x, own p' k' q' v' x → ¬ own p k q v x := fun x hx ho => by
    obtain ⟨_, r1, r2, r3, r4⟩ := h x hx
    rcases ho with e | e | ⟨a, ha, e⟩ | e
    · exact r1 e
    · exact r2 e
    · exact r3 a ha e
    · exact r4 e
  refine ⟨H.own_lt hb, fun e => no b (.inl e) hb, fun e => no b (.inr (.inl e)) hb, fun a ha e => no b (.inr (.inr (.inl ⟨a, ha, e⟩))) hb, fun e => no b (.inr (.inr (.inr e))) hb⟩
/-- What was done to the one leaves the other one as it was. -/
theorem Nl.beside (H' : Nl M B w p' k' q' v' c' t' n') (H : Nl M B w p k q v c t n) (ap : Apart w p k q v p' k' q' v') (f : Fr w p k q v w' v1) : Nl M B w' p' k' q' v' c' t' n' ∧ Apart w' p k q v1 p' k' q' v' :=
  ⟨⟨H'.h.keep f.kp (fun _ hm => H.h.sub hm) (ap _ (.inl rfl)) (ap _ (.inr (.inl rfl))) (fun a ha => ap _ (.inr (.inr (.inl ⟨a, ha, rfl⟩)))) (fun _ e => ap _ (.inr (.inr (.inr e)))), H'.a, H'.l, H'.g⟩, fun b hb => f.rst (ap b hb)⟩
theorem Apart.gr (h : Apart w p k q v p' k' q' v') (g : Gr w w') : Apart w' p k q v p' k' q' v' := fun b hb => rest_gr (h b hb) g
end
/-- A field of a way. -/
theorem fld0 (a b c : Int) (w : World) : (Instr.field 39 (.agg #[iv a, iv b, iv c]) 0).run Try.prog w = .ok (iv a) w := by kernel_rfl
theorem fld1 (a b c : Int) (w : World) : (Instr.field 39 (.agg #[iv a, iv b, iv c]) 1).run Try.prog w = .ok (iv b) w := by kernel_rfl

end Go.Proofs.Ythiojjkgodffnae
