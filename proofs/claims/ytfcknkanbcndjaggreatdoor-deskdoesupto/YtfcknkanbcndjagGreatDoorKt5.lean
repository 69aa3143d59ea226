import Derived.Test.YtfcknkanbcndjagGreatDoorDkSay
import Derived.Test.YtfcknkanbcndjagGreatDoorDkText
import Derived.Test.YtfcknkanbcndjagGreatDoorPo0
import Derived.Lib.Builder
import Derived.Lib.AppendStr
import Derived.Lib.UnsafeStr
import Derived.Laws.Externs
import Derived.Maps.AppendAt
import Derived.Deep.RegionHeld3
import Derived.Test.YtfcknkanbcndjagGreatDoorRBt
/- BOUNDS OF ALL THAT A DESK TELLS. No Go here. -/
namespace Go.Proofs.YtfcknkanbcndjagGreatDoor

theorem say_code (t : Tn) (a b : Int) : 0 ≤ (sayC t a b).2 ∧ (sayC t a b).2 ≤ 11 := by
  unfold sayC
  repeat' split
  all_goals (constructor <;> simp)
theorem sayAll_code (t : Tn) (a : Nat) : ∀ b, 0 ≤ (sayAll t a b).2 ∧ (sayAll t a b).2 ≤ 11
  | 0 => by unfold sayAll; constructor <;> simp
  | b + 1 => by
    have ih := sayAll_code t a b
    unfold sayAll
    split
    · exact ih
    · split
      · exact say_code _ _ _
      · exact ih
theorem do_code (t : Tn) (x : Sp) : 0 ≤ (doT t x).2 ∧ (doT t x).2 ≤ 11 := by
  unfold doT
  split
  · unfold linkC; split <;> (constructor <;> simp)
  · split
    · split
      · exact sayAll_code _ _ _
      · (constructor <;> simp)
    · split
      · exact say_code _ _ _
      · split
        · unfold newsC hearC
          repeat' split
          all_goals (constructor <;> simp)
        · (constructor <;> simp)
theorem fdo_code (t : Tn) (rs : List Rt) (x : Sp) (l b : Int) : 0 ≤ (fdoC t rs x l b).2 ∧ (fdoC t rs x l b).2 ≤ 11 := by
  unfold fdoC
  split
  · show 0 ≤ (ownC rs x.a x.n l b).2 ∧ _
    unfold ownC
    split
    · unfold setL
      repeat' split
      all_goals (constructor <;> simp)
    · (constructor <;> simp)
  · exact do_code t x
theorem i64_of {n : Int} (h : -1000000 ≤ n ∧ n ≤ 1000000) : i64B n := ⟨by omega, by omega⟩
section
variable {t : Tn} {c : Nat → Nat → Nat} {n : Nat}
/-- A way's age, length and hop. -/
theorem way_bd (H : TnA t c) (hg : ∀ k, k < 6 → agT t k ≤ (n : Int)) (hn : n ≤ 100000) (a k : Int) : (-1000000 ≤ (wayTn t a k).1 ∧ (wayTn t a k).1 ≤ 1000000) ∧ (-1000000 ≤ (wayTn t a k).2.1 ∧ (wayTn t a k).2.1 ≤ 1000000) ∧ (-1000000 ≤ (wayTn t a k).2.2 ∧ (wayTn t a k).2.2 ≤ 1000000) := by
  unfold wayTn
  split
  · rename_i ha
    unfold wayOf
    split
    · rename_i hk
      have ha6 : a.toNat < 6 := by omega
      have hk6 : k.toNat < 6 := by omega
      have hgk := hg k.toNat hk6
      obtain ⟨hx, hme⟩ := H.ok.node a.toNat ha6
      by_cases hm : k.toNat = a.toNat
      · obtain ⟨h0, hw, _⟩ := H.self ha6
        have hga := hg a.toNat ha6
        rw [hm, hw]
        refine ⟨?_, ?_, ?_⟩ <;> simp only <;> omega
      · by_cases hd : ((t.nd a.toNat).ways k.toNat).2.2 = -1
        · have e := hx.none_ k.toNat hd
          have hb := hx.ok.best k.toNat
          have hA := H.bestA a.toNat k.toNat ha6 hk6
          rw [e]
          refine ⟨?_, ?_, ?_⟩ <;> simp only <;> omega
        · obtain ⟨j, hj, e, _, hlt, _⟩ := (hx.ok.way k.toNat hk6 (by rw [hme]; exact hm)).by_ hd (by rw [hme]; exact hm)
          have hs := hx.ok.said j k.toNat
          have hc := hx.ok.cost j
          have hA := H.heardA a.toNat j k.toNat ha6 hj hk6
          rw [e]
          unfold wayBy
          refine ⟨?_, ?_, ?_⟩ <;> simp only <;> omega
    · refine ⟨?_, ?_, ?_⟩ <;> simp only <;> omega
  · refine ⟨?_, ?_, ?_⟩ <;> simp only <;> omega
theorem news_bd (H : TnA t c) (hg : ∀ k, k < 6 → agT t k ≤ (n : Int)) (hn : n ≤ 100000) : ∀ x ∈ newsL t.news, i64B x.1 ∧ i64B x.2.1 ∧ i64B x.2.2.1 ∧ i64B x.2.2.2.1 ∧ i64B x.2.2.2.2 := by
  intro x hx
  obtain ⟨y, hy, rfl⟩ := List.mem_map.1 hx
  obtain ⟨h1, h2, _, h3, h4, h5, h6, _⟩ := H.ok.news y hy
  have h7 := H.newsA y hy
  have h8 := hg y.to h3
  refine ⟨i64_of ?_, i64_of ?_, i64_of ?_, i64_of ?_, i64_of ?_⟩ <;> simp only <;> omega
end

end Go.Proofs.YtfcknkanbcndjagGreatDoor

/- CONTRACTS OF the reference's Desk: a desk as an object; do. -/
namespace Go.Proofs.YtfcknkanbcndjagGreatDoor
open Go.RowKit
attribute [local go_sem] Ext.all Ext.cell Ext.frozen Ext.lt Ext.lt1 Ext.lt2 Ext.ne Ext.ne'
theorem chg_gr {W w w' : World} {S S' : Nat → Prop} (h : Chg w w' S S') (g : Gr W w) (hS : ∀ b, S b → W.heap.size ≤ b) : Gr W w' ∧ ∀ b, S' b → W.heap.size ≤ b := by
  have hs := Below.size g
  refine ⟨Below.trans g (h.kp.below hs (fun b hb => ⟨by omega, fun k => by have := hS b k; omega⟩)), fun b hb => ?_⟩
  rcases h.nw b hb with q | q
  · exact hS b q
  · omega
/-- A desk of the reference: what it told, its town; all younger than W. -/
structure Dq (W : World) (M : Nat → Prop) (B w : World) (D T : Nat) (S : Nat → Prop) (s : Dk) (n : Nat) (told : Tx) : Prop where
  at' : DkAt w D T told
  town : Tq M B w T S s.c s.t n s.rs
  ows : Ows s.rs
  nS : ¬ S D
  nM : ¬ M D
  gW : Gr W w
  hD : W.heap.size ≤ D
  hS : ∀ b, S b → W.heap.size ≤ b
def ownD (D : Nat) (S : Nat → Prop) (b : Nat) : Prop := b = D ∨ S b
section
variable {W : World} {M : Nat → Prop} {B w w' : World} {D T : Nat} {S S' : Nat → Prop} {s : Dk} {n : Nat} {told told' : Tx}
theorem Dq.tells (H : Dq W M B w D T S s n told) (h : Tells D T w w' told') : Dq W M B w' D T S s n told' :=
  ⟨h.at', H.town.keep h.kp (fun b hb e => H.nM (e ▸ hb)) (fun b hb e => H.nS (e ▸ hb)), H.ows, H.nS, H.nM, kp_gr h.kp H.gW H.hD, H.hD, H.hS⟩
theorem Dq.gr (H : Dq W M B w D T S s n told) (g : Gr w w') : Dq W M B w' D T S s n told := H.tells (.of_gr H.at' g)
theorem Tells.chg (h : Tells D T w w' told') (S : Nat → Prop) : Chg w w' (ownD D S) (ownD D S) :=
  ⟨h.kp.mono fun b _ hb e => hb.2 (.inl e), fun _ h => .inl h⟩
theorem Dq.done (H : Dq W M B w D T S s n told) {s' : Dk} {n' : Nat} (h : Tq M B w' T S' s'.c s'.t n' s'.rs) (o : Ows s'.rs) (k : Chg w w' S S') : Dq W M B w' D T S' s' n' told ∧ Chg w w' (ownD D S) (ownD D S') := by
  have hD := lt_of_block H.at'
  obtain ⟨g, hS⟩ := chg_gr k H.gW H.hS
  refine ⟨⟨(k.kp.block D hD ⟨hD, H.nS⟩).trans H.at', h, o, fun e => ?_, H.nM, g, H.hD, hS⟩, k.kp.mono fun b _ hb => ⟨hb.1, fun e => hb.2 (.inr e)⟩, ?_⟩
  · rcases k.nw D e with q | q
    · exact H.nS q
    · omega
  · rintro b (e | e)
    · exact .inl (.inl e)
    · rcases k.nw b e with q | q
      · exact .inl (.inr q)
      · exact .inr q
theorem Dq.more (H : Dq W M B w D T S s n told) {m : Nat} (h : n ≤ m) : Dq W M B w D T S s m told := by
  refine ⟨H.at', ?_, H.ows, H.nS, H.nM, H.gW, H.hD, H.hS⟩
  obtain ⟨Q, V, ao, cp, k, rest⟩ := H.town
  exact ⟨Q, V, ao, cp, ⟨k.h, k.a, k.l, fun j hj => by have := k.g j hj; omega⟩, rest⟩
theorem fdo_ows {t : Tn} {rs : List Rt} (h : Ows rs) (x : Sp) (l b : Int) : Ows (fdoC t rs x l b).1.2 := by
  unfold fdoC
  split
  · exact h.own x.a x.n l b
  · exact h
set_option maxRecDepth 20000 in
set_option maxHeartbeats 8000000 in
/-- The reference's do. -/
theorem rddo_any (H : Dq W M B w D T S s n told) (hL : Lb W) (hn : n ≤ 100000) (hlen : told.length ≤ 3000000) (x : Sp) (l b : Int) :
    Calls Tryz.prog 94 #[pv D, .agg #[iv x.k, iv x.a, iv x.b, iv x.n, iv l, iv b]] w fun e w' => e = .returned (.tuple #[]) ∧ ∃ S', Dq W M B w' D T S' (doneA s (.step x l b)) (n + 1) (told ++ toldA s (.step x l b)) ∧ Chg w w' (ownD D S) (ownD D S') := by
  have g0 : Gr w (w.alloc (.cells #[iv x.k, iv x.a, iv x.b, iv x.n, iv l, iv b] 54)) := (Gr.refl w).alloc _
  have P0 := hide (H.gr g0)
  have S0 := hide (stC_new w x l b)
  have HL := hide hL
  clear H hL
  obtain ⟨q0, q1⟩ := fdo_code s.t s.rs x l b
  have HO : Hid (∀ V, Dq W M B V D T S s n told → Calls Tryz.prog 28 #[pv T, .agg #[iv x.k, iv x.a, iv x.b, iv x.n, iv l, iv b]] V fun e w' => e = .returned (iv (fdoC s.t s.rs x l b).2) ∧ ∃ S', Dq W M B w' D T S' (doneA s (.step x l b)) (n + 1) told ∧ Chg V w' (ownD D S) (ownD D S')) := fun V h =>
    (h.town.do h.ows.tab hn x l b).mono fun e w' ⟨he, S', ht, hc⟩ => ⟨he, S', h.done (s' := doneA s (.step x l b)) ht (fdo_ows h.ows x l b) hc⟩
  have HT : Hid (toldA s (.step x l b) = codeT (fdoC s.t s.rs x l b).2) := rfl
  rw [HT.out]
  clear HT
  generalize doneA s (.step x l b) = s' at *
  generalize (fdoC s.t s.rs x l b).2 = code at *
  obtain ⟨kd, xa, xb, xn⟩ := x
  simp only at S0 P0 g0 HO
  by_cases hz : code = 0
  · subst hz
    have HT : Hid (codeT 0 = [111, 107] ++ [10]) := rfl
    rw [HT.out]
    clear HT q0 q1
    go_enter Tryz.func94, Tryz.ntmps94
    go_upto_region 1 with (fail)
    refine wp_gen (fun V => Hid (Dq W M B V D T S s n told) ∧ Hid (StC V w.heap.size ⟨kd, xa, xb, xn⟩ l b) ∧ Hid (Gr w V)) ⟨P0.out, S0.out, g0⟩ ?_
    clear P0 S0 g0
    generalize hX0 : w.heap.size = X at *
    clear hX0
    rintro V ⟨P1, S1, gV⟩
    obtain ⟨hX, c0, c1, c2, c3, c4, c5⟩ := S1.out
    obtain ⟨d0, d1, _, hP⟩ := P1.out.at'.cells
    have HC := hide (HO.out _ (P1.out.gr ((Gr.refl V).drew)))
    simp only at c0 c1 c2 c3
    go_region_with (go_at_call 28; refine HC.out.mono ?_; rintro e w2 ⟨rfl, S2, p2', k2'⟩; have P2 := hide p2'; have K2 := hide k2'; clear p2' k2'; have HY := hide (say_any P2.out.at' [111, 107] (by omega) (by simp)))
    all_goals
      go_wp2_with (go_at_call 93; refine HY.out.mono ?_; rintro e w7 ⟨rfl, t7⟩; have T7 := hide t7; clear t7)
      exact bodyPost_end (results_none rfl _ _ _) rfl ⟨rfl, S2, P2.out.tells T7.out, ((gV.out.drew.chg _).trans K2.out).trans (T7.out.chg _)⟩
  · have ez : (code != 0) = true := by simpa using hz
    have ic : i64B code := i64_of ⟨by omega, by omega⟩
    have hil := ito_len ic
    have HT : Hid (codeT code = ([110, 111, 32] ++ ito code) ++ [10]) := by unfold Hid codeT; rw [if_neg hz]; rfl
    have IC := hide ic
    rw [HT.out]
    have HN : Hid (∀ V, Gr W V → Calls Tryz.prog 92 #[iv code] V fun e w' => e = .returned (sv (ito code)) ∧ Gr V w') := fun V g => num_any (HL.out.gr g) IC.out
    clear ic IC HT q0 q1
    generalize ito code = nx at *
    obtain ⟨s1, HE1, e1⟩ := add_run ⟨#[110, 111, 32]⟩ ⟨nx.toArray⟩ (by rw [size_of_list]; simp [ByteArray.size]; omega)
    have HY : Hid (∀ V, DkAt V D T told → Calls Tryz.prog 93 #[pv D, .string s1] V fun e w' => e = .returned (.tuple #[]) ∧ Tells D T V w' (told ++ (([110, 111, 32] ++ nx) ++ [10]))) := fun V g => by
      rw [HE1.out, show (⟨#[110, 111, 32]⟩ : ByteArray) = ⟨[110, 111, 32].toArray⟩ from rfl, cat]
      exact say_any g _ (by omega) (by simp; omega)
    go_enter Tryz.func94, Tryz.ntmps94
    go_upto_region 1 with (fail)
    refine wp_gen (fun V => Hid (Dq W M B V D T S s n told) ∧ Hid (StC V w.heap.size ⟨kd, xa, xb, xn⟩ l b) ∧ Hid (Gr w V)) ⟨P0.out, S0.out, g0⟩ ?_
    clear P0 S0 g0
    generalize hX0 : w.heap.size = X at *
    clear hX0
    rintro V ⟨P1, S1, gV⟩
    obtain ⟨hX, c0, c1, c2, c3, c4, c5⟩ := S1.out
    obtain ⟨d0, d1, _, hP⟩ := P1.out.at'.cells
    have HC := hide (HO.out _ (P1.out.gr ((Gr.refl V).drew)))
    simp only at c0 c1 c2 c3
    go_region_with (go_at_call 28; refine HC.out.mono ?_; rintro e w2 ⟨rfl, S2, p2', k2'⟩; have P2 := hide p2'; have K2 := hide k2'; clear p2' k2')
    all_goals
      go_wp2_with (first
        | (go_at_call 92; with_reducible refine (HN.out _ P2.out.gW).mono ?_; rintro e w6 ⟨rfl, g6⟩; have G6 := hide g6; clear g6)
        | (go_at_call 93; refine (HY.out _ (P2.out.at'.gr G6.out)).mono ?_; rintro e w7 ⟨rfl, t7⟩; have T7 := hide t7; clear t7))
      exact bodyPost_end (results_none rfl _ _ _) rfl ⟨rfl, S2, (P2.out.gr G6.out).tells T7.out, (((gV.out.drew.chg _).trans K2.out).trans (G6.out.chg _)).trans (T7.out.chg _)⟩
end

end Go.Proofs.YtfcknkanbcndjagGreatDoor

/- THE PROGRAM'S DESK: what Do owes; two desks beside each other. -/
namespace Go.Proofs.YtfcknkanbcndjagGreatDoor
open Go.RowKit

/-- What Do does to a desk, and tells. -/
def doK (s : Dk) (ls : List Tx) : Dk := if fltD ls = (0, 0) then (linesD s ls).1 else s
def toldK (s : Dk) (ls : List Tx) : Tx := if fltD ls = (0, 0) then (linesD s ls).2 else []
/-- What Do tells, and leaves. -/
def KdO (M : Nat → Prop) (B w : World) (K : Nat) (S : Nat → Prop) (s : Dk) (n : Nat) (ls : List Tx) (e : Ending) (w' : World) : Prop :=
  e = .returned (.tuple #[sv (toldK s ls), .agg #[iv (fltD ls).1, iv (fltD ls).2]]) ∧ (toldK s ls).length ≤ 2000000 ∧ ∃ S', Kq M B w' K S' (doK s ls) (n + ls.length) ∧ Chg w w' S S'
section
variable {M : Nat → Prop} {W B B2 w w' : World} {K K2 : Nat} {S S' S2 : Nat → Prop} {s s2 : Dk} {n n2 : Nat}
theorem Kq.beside (H : Kq M B w K S s n) (H2 : Kq M B2 w K2 S2 s2 n2) (ap : ∀ b, S b → ¬ S2 b) (k : Chg w w' S2 S') : Kq M B w' K S s n ∧ ∀ b, S b → ¬ S' b := by
  refine ⟨H.keep k.kp (fun b hb => H2.out hb) (fun b hb => ⟨H.lt hb, ap b hb⟩), fun b hb h => ?_⟩
  rcases k.nw b h with q | q
  · exact ap b hb q
  · have := H.lt hb; omega
/-- A fault's place that is no desk's own. -/
def Bx (w : World) (S : Nat → Prop) (q : Nat) (c a : Int) : Prop := w.heap[q]? = some (.cells #[iv c, iv a] 66 (0, 0)) ∧ ¬ S q
theorem Bx.chg {q : Nat} {c a : Int} (h : Bx w S q c a) (k : Chg w w' S S') : Bx w' S' q c a := by
  have hq := lt_of_block h.1
  refine ⟨(k.kp.block q hq ⟨hq, h.2⟩).trans h.1, fun e => ?_⟩
  rcases k.nw q e with r | r
  · exact h.2 r
  · omega
theorem Bx.cells {q : Nat} {c a : Int} (h : Bx w S q c a) : w.cell? ⟨q, 0, none⟩ = some (iv c) ∧ w.cell? ⟨q, 1, none⟩ = some (iv a) ∧ q < w.heap.size := ⟨(cells2 h.1).1, (cells2 h.1).2, lt_of_block h.1⟩
theorem Bx.gr {q : Nat} {c a : Int} (h : Bx w S q c a) (g : Gr w w') : Bx w' S q c a := ⟨(Below.block g q (lt_of_block h.1)).trans h.1, h.2⟩
end
/-- Two desks of the program beside each other, both younger than W. -/
structure TwoK (W w : World) (K : Nat) (S : Nat → Prop) (s : Dk) (n : Nat) (K2 : Nat) (S2 : Nat → Prop) (s2 : Dk) (n2 : Nat) : Prop where
  k1 : ∃ B, Kq (fun b => b < W.heap.size) B w K S s n
  k2 : ∃ B, Kq (fun b => b < W.heap.size) B w K2 S2 s2 n2
  ap : ∀ b, S b → ¬ S2 b
  y1 : ∀ b, S b → W.heap.size ≤ b
  y2 : ∀ b, S2 b → W.heap.size ≤ b
  gW : Gr W w
section
variable {W w w' : World} {K K2 : Nat} {S S' S2 : Nat → Prop} {s s2 : Dk} {n n2 : Nat}
theorem TwoK.gr (H : TwoK W w K S s n K2 S2 s2 n2) (g : Gr w w') : TwoK W w' K S s n K2 S2 s2 n2 :=
  ⟨H.k1.imp fun _ h => h.gr g, H.k2.imp fun _ h => h.gr g, H.ap, H.y1, H.y2, H.gW.trans g⟩
theorem TwoK.swap (H : TwoK W w K S s n K2 S2 s2 n2) : TwoK W w K2 S2 s2 n2 K S s n := ⟨H.k2, H.k1, fun b h2 h1 => H.ap b h1 h2, H.y2, H.y1, H.gW⟩
theorem TwoK.chg1 (H : TwoK W w K S s n K2 S2 s2 n2) {s' : Dk} {n' : Nat} {B : World} (h : Kq (fun b => b < W.heap.size) B w' K S' s' n') (h0 : ∃ s n, Kq (fun b => b < W.heap.size) B w K S s n) (k : Chg w w' S S') : TwoK W w' K S' s' n' K2 S2 s2 n2 ∧ Chg w w' (fun b => S b ∨ S2 b) (fun b => S' b ∨ S2 b) := by
  obtain ⟨s0, n0, h0⟩ := h0
  obtain ⟨B2, h2⟩ := H.k2
  obtain ⟨h2', ap'⟩ := h2.beside h0 (fun b hb h => H.ap b h hb) k
  obtain ⟨g, y⟩ := chg_gr k H.gW H.y1
  refine ⟨⟨⟨B, h⟩, ⟨B2, h2'⟩, fun b h1 h3 => ap' b h3 h1, y, H.y2, g⟩, k.kp.mono fun b _ hb => ⟨hb.1, fun e => hb.2 (.inl e)⟩, ?_⟩
  rintro b (e | e)
  · rcases k.nw b e with q | q
    · exact .inl (.inl q)
    · exact .inr q
  · exact .inl (.inr e)
theorem swap_chg (k : Chg w w' (fun b => S b ∨ S2 b) (fun b => S' b ∨ S2 b)) : Chg w w' (fun b => S2 b ∨ S b) (fun b => S2 b ∨ S' b) :=
  ⟨k.kp.mono fun b _ hb => ⟨hb.1, fun e => hb.2 e.symm⟩, fun b hb => (k.nw b hb.symm).imp Or.symm id⟩
end

end Go.Proofs.YtfcknkanbcndjagGreatDoor

/- THE PROGRAM'S TALK IN MEMORY: a Post's pointer, and a builder of what is told; CONTRACTS OF the builder's copyCheck, WriteString, WriteByte. -/
namespace Go.Proofs.YtfcknkanbcndjagGreatDoor
open Go.RowKit

/-- The talk at t over the Post P: what was told lies in v, which is younger than B. -/
structure Tk (B w : World) (t P : Nat) (v : Value) (told : Tx) : Prop where
  blk : ∃ q, w.heap[t]? = some (.cells #[pv P, q, v] 96 (0, 0)) ∧ (q = .pointer none ∨ q = .pointer (some ⟨t, 1, none⟩))
  own : w.ownsRow B.heap.size 5 1 v told.length (Lib.byteCells told)
/-- Its own blocks. -/
def ownK (t : Nat) (v : Value) (b : Nat) : Prop := b = t ∨ v.ownBlock = some b
theorem Tryz.infoB : (Tryz.prog.info? 5).map (fun i => (i.zero, i.size, i.bytes)) = some (some (.int .u8 0), 1, 1) := by kernel_rfl
section
variable {B w w' : World} {t P : Nat} {v v' : Value} {told : Tx}
theorem Tk.lt (H : Tk B w t P v told) : t < w.heap.size := by
  obtain ⟨q, h, _⟩ := H.blk
  exact lt_of_block h
theorem Tk.ne (H : Tk B w t P v told) : v.ownBlock ≠ some t := by
  obtain ⟨q, h, _⟩ := H.blk
  intro e
  rcases H.own.2 with ⟨hn, _⟩ | ⟨y, cap, cur, hv, _, hgg, _⟩
  · rw [hn] at e; cases e
  · rw [hv] at e
    simp only [Value.ownBlock, Option.some.injEq] at e
    subst e
    exact blk_ne hgg h (by decide) rfl
theorem Tk.own_lt (H : Tk B w t P v told) {b : Nat} (hb : ownK t v b) : b < w.heap.size := by
  rcases hb with rfl | e
  · exact H.lt
  · exact (H.own.lt b e).2
theorem Tk.shape (H : Tk B w t P v told) : ∃ ao c, v = .slice ao told.length c := by
  rcases H.own.2 with ⟨hn, h0⟩ | ⟨y, cap, cur, hv, _⟩
  · exact ⟨none, 0, by rw [hn, h0]⟩
  · exact ⟨_, _, hv⟩
theorem Tk.gr (H : Tk B w t P v told) (g : Gr w w') : Tk B w' t P v told := by
  obtain ⟨q, h, hq⟩ := H.blk
  exact ⟨⟨q, (Below.block g t (lt_of_block h)).trans h, hq⟩, own_gr H.own g⟩
theorem Tk.keep {N : Nat → Prop} (H : Tk B w t P v told) (hk : Kp N w w') (hS : ∀ b, ownK t v b → N b) : Tk B w' t P v told := by
  obtain ⟨q, h, hq⟩ := H.blk
  refine ⟨⟨q, (hk.block t (lt_of_block h) (hS t (.inl rfl))).trans h, hq⟩, H.own.1, ?_⟩
  rcases H.own.2 with h0 | ⟨y, cap, cur, hv, hb, hg, r⟩
  · exact .inl h0
  · exact .inr ⟨y, cap, cur, hv, hb, (hk.block y (lt_of_block hg) (hS y (.inr (by rw [hv]; rfl)))).trans hg, r⟩
set_option maxHeartbeats 1000000 in
set_option maxRecDepth 100000 in
/-- The builder's copyCheck. -/
theorem cc_any (H : Tk B w t P v told) : Calls Tryz.prog 167 #[.pointer (some ⟨t, 1, none⟩)] w fun e w' => e = .returned (.tuple #[]) ∧ w'.heap[t]? = some (.cells #[pv P, .pointer (some ⟨t, 1, none⟩), v] 96 (0, 0)) ∧ Tk B w' t P v told ∧ Chg w w' (ownK t v) (ownK t v) ∧ w'.heap.size = w.heap.size := by
  obtain ⟨q, h, hq⟩ := H.blk
  have hne := H.ne
  have ho := H.own
  obtain ⟨j, hj, hjs⟩ : ∃ j, Tryz.prog.info? 94 = some j ∧ j.size = 2 := Option.map_eq_some_iff.1 (show (Tryz.prog.info? 94).map (·.size) = some 2 by kernel_rfl)
  have hsh : w.shape? t = some (96, 3) := by simp [World.shape?, h]
  have c1 : w.cell? ⟨t, 1, none⟩ = some q := by simp [World.cell?, h]
  have f1 : w.frozen? ⟨t, 1, none⟩ = false := frozen_of_row w t 1 _ _ h
  rcases hq with rfl | rfl
  · have HL : liesAt Tryz.prog Tryz.prog.depth 96 (3 / Tryz.prog.cellsOf 96) 1 94 1 = true := by kernel_rfl
    have hlt := lt_of_block h
    have HB := hide (heap_setCell_same w t 1 _ _ (.pointer (some ⟨t, 1, none⟩)) h)
    have HO : Hid (∀ x, (w.setCell ⟨t, 1, none⟩ x).ownsRow B.heap.size 5 1 v told.length (Lib.byteCells told)) := fun x => ownsRow_setCell_other ho hne x
    clear H h ho
    go_enter Tryz.func167, Tryz.ntmps167
    go_wp2
    rw [Lib.run_to_unsafe w ⟨t, 1, none⟩ Tryz.underlying91 Tryz.underlying251 hj (by rw [hjs]; decide) hsh (show 1 < 3 by decide)]
    simp only [Result.andThen]
    rw [Oper.upon_value]
    go_wp2
    rw [run_callFunc_extern Tryz.func199 (by kernel_rfl) (by kernel_rfl) (by kernel_rfl) (e := Extern.AbiNoEscape.same) (by kernel_rfl)]
    rw [Lib.run_noEscape]
    simp only [Result.andThen]
    rw [Oper.upon_value]
    go_wp2
    rw [Lib.run_from_unsafe w ⟨t, 1, none⟩ Tryz.underlying251 Tryz.underlying91 hj hsh HL]
    simp only [Result.andThen]
    rw [Oper.upon_value]
    go_wp2
    refine bodyPost_end (results_none rfl _ _ _) rfl ⟨rfl, HB.out, ⟨⟨_, HB.out, .inr rfl⟩, HO.out _⟩, ⟨(Kp.refl _ w).set (fun e => e.2 (.inl rfl)) _ _, fun _ h => .inl h⟩, by simp⟩
  · have HH := hide H
    have HB := hide h
    clear H h ho
    go_enter Tryz.func167, Tryz.ntmps167
    go_wp2
    rw [Lib.run_neq_ptr_same w _ Tryz.underlying91 hj]
    go_wp2
    refine bodyPost_end (results_none rfl _ _ _) rfl ⟨rfl, HB.out, HH.out, ⟨Kp.refl _ w, fun _ h => .inl h⟩, rfl⟩
/-- A text put behind what is owned: in its own block, or in a new one. -/
theorem app_str (ty : TypeId) {n : Nat} {xs : List Value} (ho : w.ownsRow B.heap.size 5 1 v n xs) (s : ByteArray) (hm : n + s.size ≤ 100000000) (hB : B.heap.size ≤ w.heap.size) :
    ∃ v' w', (Builtin.append_ #[92, 9] ty #[v, .string s]).run Tryz.prog w = .ok v' w' ∧ w'.ownsRow B.heap.size 5 1 v' (n + s.size) (xs ++ Lib.strCells s) ∧ w.grownBy w' v.ownBlock ∧ ∀ k, v'.ownBlock = some k → v.ownBlock = some k ∨ w.heap.size ≤ k := by
  obtain ⟨i0, hi, hz0, hz1, hz2⟩ := info_parts Tryz.infoB
  have hl : n + s.size ≤ maxLen := by unfold maxLen; omega
  obtain ⟨v', w', hr, h2, h3, _⟩ := Lib.run_append_own_string (P := Tryz.prog) w B.heap.size 92 9 ty 5 i0 Tryz.underlying92 Tryz.underlying9 hi hz0 hz1 hz2 v n xs ho s hl (by omega) hB
  refine ⟨v', w', hr, h2, h3, fun k hk => ?_⟩
  have hxl : xs.length = n := by simpa using ho.1
  rcases ho.2 with ⟨rfl, rfl⟩ | ⟨g, cap, cur, rfl, hbg, hg, hnc, hcm, hcs, htake⟩
  · have hx : xs = [] := List.eq_nil_of_length_eq_zero hxl
    subst hx
    obtain ⟨v2, w2, hr2, o2, _, _⟩ := Lib.run_append_own_string (P := Tryz.prog) w w.heap.size 92 9 ty 5 i0 Tryz.underlying92 Tryz.underlying9 hi hz0 hz1 hz2 (.slice none 0 0) 0 [] (World.ownsRow_nil w _ _ 1) s hl (by omega) (Nat.le_refl _)
    rw [hr] at hr2
    cases hr2
    exact .inr (o2.lt k hk).1
  · by_cases hroom : n + s.size ≤ cap
    · have hcs' : cur.size = cap := by simpa using hcs
      have hr2 := Lib.run_append_room_string (P := Tryz.prog) w 92 9 ty 5 i0 Tryz.underlying92 Tryz.underlying9 hi hz1 g n cap cur hg s hroom (by omega)
      rw [hr] at hr2
      cases hr2
      exact .inl hk
    · have hr2 := Lib.run_append_grow_string (P := Tryz.prog) w 92 9 ty 5 i0 _ Tryz.underlying92 Tryz.underlying9 hi hz0 ⟨g, 0, none⟩ n cap xs (by rw [hz1]; simpa using hxl) (ho.cells (g := g) rfl) s (by omega) (by omega) (by rw [hz2]; exact growslice_fits (by omega) (by omega))
      rw [hr] at hr2
      cases hr2
      simp only [Value.ownBlock, Option.some.injEq] at hk
      exact .inr (by omega)
/-- What the builder's block is behind a text more. -/
theorem Tk.put {s : Tx} {w1 w2 : World} {v' : Value} (h : w1.heap[t]? = some (.cells #[pv P, .pointer (some ⟨t, 1, none⟩), v] 96 (0, 0))) (H : Tk B w1 t P v told) (ho : w2.ownsRow B.heap.size 5 1 v' (told.length + s.length) (Lib.byteCells told ++ Lib.byteCells s)) (hg : w1.grownBy w2 v.ownBlock) (hn : ∀ k, v'.ownBlock = some k → v.ownBlock = some k ∨ w1.heap.size ≤ k) :
    w2.cell? ⟨t, 2, none⟩ = some v ∧ w2.frozen? ⟨t, 2, none⟩ = false ∧ t < w2.heap.size ∧ Tk B (w2.setCell ⟨t, 2, none⟩ v') t P v' (told ++ s) ∧ Chg w1 (w2.setCell ⟨t, 2, none⟩ v') (ownK t v) (ownK t v') := by
  have h2 : w2.heap[t]? = some (.cells #[pv P, .pointer (some ⟨t, 1, none⟩), v] 96 (0, 0)) := (hg.block t (lt_of_block h) (fun e => H.ne e.symm)).trans h
  have hs := heap_setCell_same w2 t 2 _ _ v' h2
  have hne : v'.ownBlock ≠ some t := by
    intro e
    rcases ho.2 with ⟨hn, _⟩ | ⟨y, cap, cur, hv, _, hgg, _⟩
    · rw [hn] at e; cases e
    · rw [hv] at e
      simp only [Value.ownBlock, Option.some.injEq] at e
      subst e
      exact blk_ne hgg h2 (by decide) rfl
  have ho' : (w2.setCell ⟨t, 2, none⟩ v').ownsRow B.heap.size 5 1 v' (told ++ s).length (Lib.byteCells (told ++ s)) := by
    have e : Lib.byteCells (told ++ s) = Lib.byteCells told ++ Lib.byteCells s := by simp [Lib.byteCells]
    rw [e, List.length_append]
    exact ownsRow_setCell_other ho hne v'
  refine ⟨by simp [World.cell?, h2], frozen_of_row w2 t 2 _ _ h2, lt_of_block h2, ⟨⟨_, hs, .inr rfl⟩, ho'⟩, ?_, ?_⟩
  · exact (Kp.grown hg (fun k hk e => e.2 (.inr hk))).set (fun e => e.2 (.inl rfl)) _ _
  · rintro b (e | e)
    · exact .inl (.inl e)
    · rcases hn b e with q | q
      · exact .inl (.inr q)
      · exact .inr q
theorem strC (s : Tx) : Lib.strCells ⟨s.toArray⟩ = Lib.byteCells s := by simp [Lib.strCells, Lib.byteCells]
set_option maxHeartbeats 2000000 in
set_option maxRecDepth 100000 in
/-- The builder's WriteString. -/
theorem ws_any (H : Tk B w t P v told) (hB : Gr B w) (s : Tx) (h1 : told.length ≤ 4000000) (h2 : s.length ≤ 4000000) :
    Calls Tryz.prog 131 #[.pointer (some ⟨t, 1, none⟩), sv s] w fun e w' => (∃ r, e = .returned r) ∧ ∃ v', Tk B w' t P v' (told ++ s) ∧ Chg w w' (ownK t v) (ownK t v') := by
  have HC := hide (cc_any H)
  have HB := hide hB
  have hs := Below.size hB
  clear hB H
  go_enter Tryz.func131, Tryz.ntmps131
  go_wp2_with (go_at_call 167; refine HC.out.mono ?_)
  rintro e w1 ⟨rfl, hb, h3, h4, h5⟩
  have hsz : (⟨s.toArray⟩ : ByteArray).size = s.length := by simp [ByteArray.size]
  obtain ⟨v', w2, hr, ho, hg, hn⟩ := app_str (B := B) 92 h3.own ⟨s.toArray⟩ (by rw [hsz]; omega) (by omega)
  rw [strC, hsz] at ho
  obtain ⟨c2, f2, l2, T2, k2⟩ := Tk.put hb h3 ho hg hn
  have c0 : w1.cell? ⟨t, 2, none⟩ = some v := by simp [World.cell?, hb]
  have l1 := lt_of_block hb
  have HR := hide hr
  have HT := hide T2
  have HK := hide (h4.trans k2)
  obtain ⟨ao, nn, cp, hv'⟩ : ∃ ao n c, v' = .slice ao n c := by
    obtain ⟨a, c, h⟩ := T2.shape
    exact ⟨a, _, c, h⟩
  subst hv'
  clear hr T2 k2 h4 h3 hg hn ho HC
  go_wp2_with (at_builtin; refine Lib.wpList_append_run _ rfl _ _ _ _ rfl _ _ rfl rfl _ _ HR.out ?_)
  go_ret2
  exact ⟨⟨_, rfl⟩, _, HT.out, HK.out⟩
end

end Go.Proofs.YtfcknkanbcndjagGreatDoor

/- CONTRACT OF the builder's WriteByte, in the talk. -/
namespace Go.Proofs.YtfcknkanbcndjagGreatDoor
open Go.RowKit

theorem chg_gr0 {W w w' : World} {S S' : Nat → Prop} (h : Chg w w' S S') (g : Gr W w) (hS : ∀ b, S b → W.heap.size ≤ b) : Gr W w' ∧ ∀ b, S' b → W.heap.size ≤ b := by
  have hs := Below.size g
  refine ⟨Below.trans g (h.kp.below hs (fun b hb => ⟨by omega, fun k => by have := hS b k; omega⟩)), fun b hb => ?_⟩
  rcases h.nw b hb with q | q
  · exact hS b q
  · omega
section
variable {B w w' : World} {t P : Nat} {v v' : Value} {told : Tx}
set_option maxHeartbeats 2000000 in
set_option maxRecDepth 100000 in
/-- The builder's WriteByte. -/
theorem wb_any (H : Tk B w t P v told) (hB : Gr B w) (c : UInt8) (h1 : told.length ≤ 4000000) :
    Calls Tryz.prog 132 #[.pointer (some ⟨t, 1, none⟩), .int .u8 c.toNat] w fun e w' => (∃ r, e = .returned r) ∧ ∃ v', Tk B w' t P v' (told ++ [c]) ∧ Chg w w' (ownK t v) (ownK t v') := by
  have HC := hide (cc_any H)
  have hs := Below.size hB
  have hbc : Lib.byteCells [c] = [.int .u8 (c.toNat : Int)] := rfl
  have hlc : ([c] : Tx).length = 1 := rfl
  clear hB H
  generalize (c.toNat : Int) = n at *
  generalize ([c] : Tx) = s at *
  go_enter Tryz.func132, Tryz.ntmps132
  go_wp2_with (go_at_call 167; refine HC.out.mono ?_)
  rintro e w1 ⟨rfl, hb, h3, h4, h5⟩
  obtain ⟨i0, hi, hz0, hz1, hz2⟩ := info_parts Tryz.infoB
  have g1 : Gr w1 (w1.alloc (.cells #[.int .u8 n] 5)) := (Gr.refl w1).alloc _
  have hb' := (Below.block g1 t (lt_of_block hb)).trans hb
  have h3' := h3.gr g1
  obtain ⟨v', w2, hr, ho, hg, _, hn⟩ := run_append_own_at (P := Tryz.prog) (w1.alloc (.cells #[.int .u8 n] 5)) B.heap.size 92 92 5 i0 _ 1 1 Tryz.underlying92 hi hz0 hz1 hz2 (by rfl) (by decide) v told.length (Lib.byteCells told) h3'.own
      ⟨w1.heap.size, 0, none⟩ 1 1 [.int .u8 n] rfl
      (fun j u hj => by
        have hl : j < 1 := (List.getElem?_eq_some_iff.1 hj).1
        have : j = 0 := by omega
        subst this; simp at hj; subst hj; simp [Addr.add, go_sem])
      (by simp [Value.oneCell']) (by unfold maxLen; omega) (by omega) (by simp; omega)
  obtain ⟨c2, f2, l2, T2, k2⟩ := Tk.put (s := s) hb' h3' (by rw [hlc, hbc]; exact ho) hg (fun k hk => by
    rcases hn with q | q
    · exact .inl (q ▸ hk)
    · rw [q] at hk; cases hk; exact .inr (Nat.le_refl _))
  have c0 : w1.cell? ⟨t, 2, none⟩ = some v := by simp [World.cell?, hb]
  have l1 := lt_of_block hb
  have HR := hide hr
  have HT := hide T2
  have HK := hide ((h4.trans (g1.chg _)).trans k2)
  obtain ⟨ao, nn, cp, hv'⟩ : ∃ ao n c, v' = .slice ao n c := by
    obtain ⟨a, c, h⟩ := T2.shape
    exact ⟨a, _, c, h⟩
  subst hv'
  clear hr T2 k2 h4 h3 h3' hb' hg hn ho HC g1 h5
  go_wp2_with (at_builtin; refine Lib.wpList_append_run _ rfl _ _ _ _ rfl _ _ rfl rfl _ _ HR.out ?_)
  go_ret
  exact ⟨⟨_, rfl⟩, _, HT.out, HK.out⟩
end

end Go.Proofs.YtfcknkanbcndjagGreatDoor

/- THE PROGRAM'S TALK: a Post, and what was told; CONTRACT OF say. -/
namespace Go.Proofs.YtfcknkanbcndjagGreatDoor
open Go.RowKit
attribute [local go_sem] Ext.all Ext.cell Ext.frozen Ext.lt Ext.lt1 Ext.lt2 Ext.ne Ext.ne'
/-- A thing told: a word, and numbers. -/
def sayN (wd : Tx) (ns : List Int) : Tx := (wd ++ ns.flatMap fun n => 32 :: ito n) ++ [10]
theorem sayN_is (wd : Tx) : ∀ ns : List Int, sayN wd ns = sayD (wd :: ns.map ito) := by
  intro ns
  have h : ∀ (ns : List Int) (a : Tx), a ++ ns.flatMap (fun n => 32 :: ito n) = joinT (a :: ns.map ito) := by
    intro ns
    induction ns with
    | nil => intro a; simp [joinT]
    | cons n ns ih =>
      intro a
      simp only [List.flatMap_cons, List.map_cons, joinT]
      rw [← ih (ito n)]
      simp
  unfold sayN sayD
  rw [h]
section
variable {B w w' : World} {t P : Nat} {v v' : Value} {told : Tx}
theorem nums_len' : ∀ {ns : List Int}, (∀ n ∈ ns, i64B n) → (ns.flatMap fun n => 32 :: ito n).length ≤ 22 * ns.length
  | [], _ => by simp
  | n :: ns, h => by
    have h1 := ito_len (h n (by simp))
    have h2 := nums_len' (ns := ns) (fun x hx => h x (by simp [hx]))
    simp only [List.flatMap_cons, List.length_append, List.length_cons]
    omega
theorem nums_succ {ns : List Int} {k : Nat} (hk : k < ns.length) : (ns.take (k + 1)).flatMap (fun n => 32 :: ito n) = (ns.take k).flatMap (fun n => 32 :: ito n) ++ 32 :: ito ns[k] := by
  rw [List.take_succ_eq_append_getElem hk, List.flatMap_append]
  simp
set_option maxRecDepth 20000 in
set_option maxHeartbeats 4000000 in
/-- The program's say. -/
theorem ksay_any (H : Tk B w t P v told) (hB : Gr B w) (hL : Lb B) (hy : ∀ b, ownK t v b → B.heap.size ≤ b) (wd : Tx) {ao : Option Addr} {cp : Nat} {ns : List Int} (hn : ValAt w ao (ns.map iv)) (hnb : ∀ b o, ns ≠ [] → ao = some ⟨b, o, none⟩ → ¬ ownK t v b) (hi : ∀ n ∈ ns, i64B n) (h1 : told.length ≤ 3000000) (h2 : wd.length ≤ 1000) (h3 : ns.length ≤ 100) :
    Calls Tryz.prog 89 #[pv t, sv wd, .slice ao ns.length cp] w fun e w' => e = .returned (.tuple #[]) ∧ ∃ v', Tk B w' t P v' (told ++ sayN wd ns) ∧ Chg w w' (ownK t v) (ownK t v') := by
  have HW := hide (ws_any H hB wd (by omega) (by omega))
  have HH : Hid (∀ V, (∃ u x, Tk B V t P u x ∧ Chg w V (ownK t v) (ownK t u)) → Gr B V) := fun V ⟨u, x, _, k⟩ => (chg_gr0 k hB hy).1
  have HI := hide hi
  have HL := hide (fun V (g : Gr B V) => hL.gr g)
  have HV : Hid (∀ V, (∃ u x, Tk B V t P u x ∧ Chg w V (ownK t v) (ownK t u)) → ∀ k (hk : k < ns.length), ∃ b o, ao = some ⟨b, o, none⟩ ∧ V.cell? ⟨b, o + k, none⟩ = some (iv ns[k])) := fun V ⟨u, x, _, k⟩ j hj => by
    rcases hn with h | ⟨b, o, ha, hb, hc⟩
    · rw [List.map_eq_nil_iff] at h; rw [h] at hj; simp at hj
    · have e := hc j (by simpa using hj)
      rw [List.getElem_map] at e
      refine ⟨b, o, ha, ?_⟩
      rw [World.cell?_of_block (w := w) (k.kp.block b hb ⟨hb, hnb b o (fun e => by rw [e] at hj; simp at hj) ha⟩)]
      exact e
  clear H hB hL hy hn hnb hi
  go_enter Tryz.func89, Tryz.ntmps89
  go_wp2_with (go_at_call 131; refine HW.out.mono ?_; rintro e w1 ⟨⟨r, rfl⟩, v1, t1, k1⟩; have T1 := hide t1; have K1 := hide k1; clear t1 k1)
  go_loopw [15] (fun v15 wr => ∃ (k : Nat) (u : Value), k ≤ ns.length ∧ v15 = .int .i64 k ∧ Hid (Tk B wr t P u ((told ++ wd) ++ (ns.take k).flatMap fun n => 32 :: ito n)) ∧ Hid (Chg w wr (ownK t v) (ownK t u))) (fun v15 _ => ns.length - (intOf v15).toNat)
  case atStart => exact ⟨0, v1, by omega, rfl, by simpa [Hid] using T1.out, K1⟩
  case round =>
    clear T1 K1 HW
    obtain ⟨k, u, hk, rfl, T2, K2⟩ := hrel
    have hbd := nums_len' (ns := ns.take k) (fun n hn => HI.out n (List.mem_of_mem_take hn))
    have hbt : (ns.take k).length ≤ 100 := by rw [List.length_take]; omega
    have hlen : ((told ++ wd) ++ (ns.take k).flatMap fun n => 32 :: ito n).length ≤ 3500000 := by simp only [List.length_append]; omega
    have hG := HH.out wr ⟨_, _, T2.out, K2.out⟩
    by_cases hlt : k < ns.length
    · have hkI : (k : Int) < (ns.length : Int) := by omega
      obtain ⟨b, o, hao, hc⟩ := HV.out wr ⟨_, _, T2.out, K2.out⟩ k hlt
      have HS := hide (nums_succ hlt)
      have hik := HI.out ns[k] (List.getElem_mem hlt)
      have hil := ito_len hik
      have HC := hide (wb_any T2.out hG 32 (by omega))
      have HN := hide (fun V (g : Gr B V) => itoa_any (HL.out V g) hik)
      generalize ns[k] = n at *
      generalize ito n = tn at *
      generalize hA : (told ++ wd) ++ (ns.take k).flatMap (fun n => 32 :: ito n) = A at *
      have HA := hide hA
      subst hao
      clear hA hik hbd hbt hG
      have h1' := Nat.le_trans (Nat.le_of_eq (by rw [← HA.out])) hlen
      go_upto_region 5 with (first | (go_at_call 132; refine HC.out.mono ?_; rintro e w2 ⟨⟨r2, rfl⟩, v2, t2, k2⟩; have T3 := hide t2; have K3 := hide (K2.out.trans k2); have hG2 := HH.out w2 ⟨_, _, T3.out, K3.out⟩; clear t2 k2))
      have gD := hide ((Gr.refl w2).drew)
      have HX : Hid (∀ V, Gr w2 V → Calls Tryz.prog 131 #[.pointer (some ⟨t, 1, none⟩), sv tn] V fun e w' => (∃ r, e = .returned r) ∧ ∃ v', Tk B w' t P v' ((A ++ [32]) ++ tn) ∧ Chg V w' (ownK t v2) (ownK t v')) := fun V g => ws_any (T3.out.gr g) (hG2.trans g) tn (by simp; omega) (by omega)
      have HN2 : Hid (∀ V, Gr w2 V → Calls Tryz.prog 133 #[iv n] V fun e w' => e = .returned (sv tn) ∧ Gr V w') := fun V g => HN.out V (hG2.trans g)
      clear HN HC HI HV h1' hlen hil hG2
      go_region_held3 (fun _ => True) (first | exact trivial) (first
          | (go_at_call 133; with_reducible refine (HN2.out _ gD.out).mono ?_; rintro e w3 ⟨rfl, g3⟩; have G3 := hide (gD.out.trans g3); clear g3)
          | (go_at_call 131; with_reducible refine (HX.out _ G3.out).mono ?_; rintro e w4 ⟨⟨r4, rfl⟩, v4, t4, k4⟩; have T4 := hide t4; have K4 := hide ((K3.out.trans (G3.out.chg _)).trans k4); clear t4 k4)
          | fail)
      all_goals
        go_wp2_with fail
        go_roundw
        case rel => exact ⟨k + 1, v4, by omega, by go_num, by
          unfold Hid
          rw [HS.out, ← List.append_assoc, HA.out]
          have := T4.out
          rwa [List.append_assoc] at this, K4⟩
        case measure => simp [intOf]; omega
    · have hkl : decide ((k : Int) < (ns.length : Int)) = false := decide_eq_false (by omega)
      have HE : Hid (ns.take k = ns) := List.take_of_length_le (by omega)
      have HC := hide (wb_any T2.out hG 10 (by omega))
      clear hG hbd hbt hlen
      go_wp2_with (first | (go_at_call 132; refine HC.out.mono ?_; rintro e w2 ⟨⟨r2, rfl⟩, v2, t2, k2⟩; have T3 := hide t2; have K3 := hide (K2.out.trans k2); clear t2 k2))
      refine bodyPost_end (results_none rfl _ _ _) rfl ⟨rfl, v2, ?_, K3.out⟩
      have := T3.out
      rw [HE.out] at this
      simpa [sayN] using this
end

end Go.Proofs.YtfcknkanbcndjagGreatDoor

/- THE PROGRAM'S TALK over a Post, as one object; CONTRACTS OF code, ways. -/
namespace Go.Proofs.YtfcknkanbcndjagGreatDoor
open Go.RowKit
attribute [local go_sem] Ext.all Ext.cell Ext.frozen Ext.lt Ext.lt1 Ext.lt2 Ext.ne Ext.ne'
/-- A talk at t over the Post P, all younger than W: what the Post knows, what was told. -/
structure Td (W : World) (M : Nat → Prop) (B w : World) (t P : Nat) (S : Nat → Prop) (v : Value) (s : Dk) (n : Nat) (told : Tx) : Prop where
  tk : Tk W w t P v told
  post : Pq M B w P S s.c s.t n s.rs
  ap : ∀ b, S b → ¬ ownK t v b
  nM : ∀ b, M b → ¬ ownK t v b
  gW : Gr W w
  hU : ∀ b, ownK t v b → W.heap.size ≤ b
  hS : ∀ b, S b → W.heap.size ≤ b
section
variable {W : World} {M : Nat → Prop} {B w w' : World} {t P : Nat} {S S' : Nat → Prop} {v v' : Value} {s s' : Dk} {n n' : Nat} {told told' : Tx}
theorem Td.gr (H : Td W M B w t P S v s n told) (g : Gr w w') : Td W M B w' t P S v s n told :=
  ⟨H.tk.gr g, H.post.gr g, H.ap, H.nM, H.gW.trans g, H.hU, H.hS⟩
/-- More is told. -/
theorem Td.says (H : Td W M B w t P S v s n told) (h : Tk W w' t P v' told') (k : Chg w w' (ownK t v) (ownK t v')) : Td W M B w' t P S v' s n told' := by
  obtain ⟨g, y⟩ := chg_gr0 k H.gW H.hU
  refine ⟨h, H.post.keep k.kp (fun b hb => ⟨(H.post.out hb).1, H.nM b hb⟩) (fun b hb => ⟨H.post.lt hb, H.ap b hb⟩), fun b hb e => ?_, fun b hb e => ?_, g, y, H.hS⟩
  · rcases k.nw b e with q | q
    · exact H.ap b hb q
    · have := H.post.lt hb; omega
  · rcases k.nw b e with q | q
    · exact H.nM b hb q
    · have := (H.post.out hb).1; omega
/-- The Post has changed. -/
theorem Td.done (H : Td W M B w t P S v s n told) (h : Pq M B w' P S' s'.c s'.t n' s'.rs) (k : Chg w w' S S') : Td W M B w' t P S' v s' n' told := by
  obtain ⟨g, y⟩ := chg_gr0 k H.gW H.hS
  refine ⟨H.tk.keep k.kp (fun b hb => ⟨H.tk.own_lt hb, fun e => H.ap b e hb⟩), h, fun b hb e => ?_, H.nM, g, H.hU, y⟩
  rcases k.nw b hb with q | q
  · exact H.ap b q e
  · have := H.tk.own_lt e; omega
theorem Td.more (H : Td W M B w t P S v s n told) {m : Nat} (h : n ≤ m) : Td W M B w t P S v s m told := by
  refine ⟨H.tk, ?_, H.ap, H.nM, H.gW, H.hU, H.hS⟩
  obtain ⟨p, k, q, u, tb, z, hp, e⟩ := H.post
  exact ⟨p, k, q, u, tb, z, ⟨hp.blk, ⟨hp.net.h, hp.net.a, hp.net.l, fun j hj => by have := hp.net.g j hj; omega⟩, hp.tab, hp.ows, hp.nop, hp.a1, hp.a2, hp.a3⟩, e⟩
/-- A list that was just made. -/
theorem val_new (w : World) (l : List Value) (T : TypeId) : ValAt (w.alloc (.cells l.toArray T)) (some ⟨w.heap.size, 0, none⟩) l := by
  refine .inr ⟨w.heap.size, 0, rfl, by simp, fun i hi => ?_⟩
  have h := heap_alloc_new w (.cells l.toArray T)
  unfold World.cell?
  simp only [h]
  simp [hi]
/-- The program's say, of a talk. -/
theorem Td.say (H : Td W M B w t P S v s n told) (hL : Lb W) (wd : Tx) {ao : Option Addr} {cp : Nat} {ns : List Int} (hn : ValAt w ao (ns.map iv)) (hnb : ∀ b o, ns ≠ [] → ao = some ⟨b, o, none⟩ → ¬ ownK t v b) (hi : ∀ n ∈ ns, i64B n) (h1 : told.length ≤ 3000000) (h2 : wd.length ≤ 1000) (h3 : ns.length ≤ 100) :
    Calls Tryz.prog 89 #[pv t, sv wd, .slice ao ns.length cp] w fun e w' => e = .returned (.tuple #[]) ∧ ∃ v', Td W M B w' t P S v' s n (told ++ sayN wd ns) ∧ Chg w w' (ownK t v) (ownK t v') :=
  (ksay_any H.tk H.gW hL H.hU wd hn hnb hi h1 h2 h3).mono fun _ _ ⟨he, v', ht, k⟩ => ⟨he, v', H.says ht k, k⟩
/-- .. numbers that were just made. -/
theorem Td.sayNew {w : World} (H : Td W M B w t P S v s n told) (hL : Lb W) (wd : Tx) (ns : List Int) (T : TypeId) (hi : ∀ n ∈ ns, i64B n) (h1 : told.length ≤ 3000000) (h2 : wd.length ≤ 1000) (h3 : ns.length ≤ 100) :
    Calls Tryz.prog 89 #[pv t, sv wd, .slice (some ⟨w.heap.size, 0, none⟩) ns.length ns.length] (w.alloc (.cells (ns.map iv).toArray T)) fun e w' => e = .returned (.tuple #[]) ∧ ∃ v', Td W M B w' t P S v' s n (told ++ sayN wd ns) ∧ Chg w w' (ownK t v) (ownK t v') := by
  have g : Gr w (w.alloc (.cells (ns.map iv).toArray T)) := (Gr.refl w).alloc _
  refine ((H.gr g).say hL wd (cp := ns.length) (val_new w (ns.map iv) T) (fun b o _ e hb => ?_) hi h1 h2 h3).mono fun _ _ ⟨he, v', ht, k⟩ => ⟨he, v', ht, (g.chg _).trans k⟩
  cases e
  have := H.tk.own_lt hb
  omega
theorem Td.sayAt {w : World} (H : Td W M B w t P S v s n told) (hL : Lb W) {q : Nat} (hq : w.heap.size = q) (wd : Tx) (ns : List Int) (T : TypeId) (hi : ∀ n ∈ ns, i64B n) (h1 : told.length ≤ 3000000) (h2 : wd.length ≤ 1000) (h3 : ns.length ≤ 100) :
    Calls Tryz.prog 89 #[pv t, sv wd, .slice (some ⟨q, 0, none⟩) ns.length ns.length] (w.alloc (.cells (ns.map iv).toArray T)) fun e w' => e = .returned (.tuple #[]) ∧ ∃ v', Td W M B w' t P S v' s n (told ++ sayD (wd :: ns.map ito)) ∧ Chg w w' (ownK t v) (ownK t v') := by
  subst hq
  have := H.sayNew hL wd ns T hi h1 h2 h3
  rw [sayN_is] at this
  exact this
/-- .. without numbers. -/
theorem Td.say0 (H : Td W M B w t P S v s n told) (hL : Lb W) (wd : Tx) (h1 : told.length ≤ 3000000) (h2 : wd.length ≤ 1000) :
    Calls Tryz.prog 89 #[pv t, sv wd, .slice none 0 0] w fun e w' => e = .returned (.tuple #[]) ∧ ∃ v', Td W M B w' t P S v' s n (told ++ sayD [wd]) ∧ Chg w w' (ownK t v) (ownK t v') := by
  refine (H.say (ao := none) (cp := 0) (ns := []) hL wd (.inl rfl) (fun b o h _ => absurd rfl h) (by simp) h1 h2 (by simp)).mono ?_
  rintro e w' ⟨he, v', ht, k⟩
  rw [sayN_is] at ht
  exact ⟨he, v', ht, k⟩
/-- The program's code. -/
theorem Td.code (H : Td W M B w t P S v s n told) (hL : Lb W) {c : Int} (hc : i64B c) (h1 : told.length ≤ 2900000) :
    Calls Tryz.prog 77 #[pv t, iv c] w fun e w' => e = .returned (.tuple #[]) ∧ ∃ v', Td W M B w' t P S v' s n (told ++ codeT c) ∧ Chg w w' (ownK t v) (ownK t v') := by
  by_cases hz : c = 0
  · subst hz
    have HS := hide (H.say0 hL [111, 107] (by omega) (by decide))
    have HE : Hid (codeT 0 = sayD [[111, 107]]) := rfl
    rw [HE.out]
    clear HE H hL hc
    generalize sayD [[111, 107]] = x at *
    go_enter Tryz.func77, Tryz.ntmps77
    go_wp2_with (go_at_call 89; refine HS.out.mono ?_; rintro e w1 ⟨rfl, h⟩; have HH := hide h; clear h)
    exact bodyPost_end (results_none rfl _ _ _) rfl ⟨rfl, HH.out⟩
  · have e0 : (c != 0) = true := by simpa using hz
    have HS : Hid (Calls Tryz.prog 89 #[pv t, sv [110, 111], .slice (some ⟨w.heap.size, 0, none⟩) 1 1] (w.alloc (.cells #[iv c] 3)) fun e w' => e = .returned (.tuple #[]) ∧ ∃ v', Td W M B w' t P S v' s n (told ++ codeT c) ∧ Chg w w' (ownK t v) (ownK t v')) := by
      have := H.sayNew hL [110, 111] [c] 3 (by simpa using hc) (by omega) (by decide) (by simp)
      rw [sayN_is] at this
      have e : codeT c = sayD ([110, 111] :: [c].map ito) := by unfold codeT; rw [if_neg hz]; rfl
      unfold Hid
      rw [e]
      exact this
    clear H hL hc
    generalize codeT c = x at *
    go_enter Tryz.func77, Tryz.ntmps77
    go_wp2_with (go_at_call 89; refine HS.out.mono ?_; rintro e w1 ⟨rfl, h⟩; have HH := hide h; clear h)
    exact bodyPost_ret (results_none rfl _ _ _) rfl ⟨rfl, HH.out⟩
theorem flatK_succ {α : Type} (f : α → Tx) {l : List α} {k : Nat} (hk : k < l.length) : (l.take (k + 1)).flatMap f = (l.take k).flatMap f ++ f l[k] := by
  rw [List.take_succ_eq_append_getElem hk, List.flatMap_append]
  simp
theorem flatK_len {α : Type} {f : α → Tx} {N : Nat} : ∀ {l : List α}, (∀ x ∈ l, (f x).length ≤ N) → (l.flatMap f).length ≤ N * l.length
  | [], _ => by simp
  | r :: l, h => by
    have h1 := h r (by simp)
    have h2 := flatK_len (l := l) (fun x hx => h x (by simp [hx]))
    simp only [List.flatMap_cons, List.length_append, List.length_cons]
    rw [Nat.mul_add]
    omega
theorem sayN_len {wd : Tx} {ns : List Int} (hi : ∀ n ∈ ns, i64B n) : (sayN wd ns).length ≤ wd.length + 22 * ns.length + 1 := by
  have := nums_len' hi
  unfold sayN
  simp only [List.length_append, List.length_cons, List.length_nil]
  omega
/-- The embedded Net, asked for a way. -/
theorem Pq.way3 {c : Nat → Nat → Nat} {t : Tn} {rs : List Rt} (H : Pq M B w P S c t n rs) : ∃ p, P < w.heap.size ∧ w.cell? ⟨P, 0, none⟩ = some (pv p) ∧ ∀ X, Gr w X → ∀ a z : Int, Calls Tryz.prog 57 #[pv p, iv a, iv z] X fun e w' => e = .returned (.agg #[iv (wayTn t a z).1, iv (wayTn t a z).2.1, iv (wayTn t a z).2.2]) ∧ Gr X w' := by
  obtain ⟨p, k, q, v, tb, u, h, e⟩ := H
  refine ⟨p, lt_of_block h.blk, (cells2 h.blk).1, fun X g a z => ?_⟩
  exact (netWay_any (h.net.h.ext g) a z).mono fun e w' ⟨he, d', hd'⟩ => ⟨he, by rw [hd']; exact d'.gr⟩
theorem Pq.ways_bd {c : Nat → Nat → Nat} {t : Tn} {rs : List Rt} (H : Pq M B w P S c t n rs) (hn : n ≤ 100000) (a k : Int) : i64B (wayTn t a k).1 ∧ i64B (wayTn t a k).2.1 ∧ i64B (wayTn t a k).2.2 := by
  obtain ⟨p, k', q, v, tb, u, h, e⟩ := H
  obtain ⟨h1, h2, h3⟩ := way_bd h.net.a h.net.g hn a k
  exact ⟨i64_of h1, i64_of h2, i64_of h3⟩
/-- The talk's Post. -/
theorem Td.cell0 (H : Td W M B w t P S v s n told) : w.cell? ⟨t, 0, none⟩ = some (pv P) ∧ t < w.heap.size := by
  obtain ⟨q, h, _⟩ := H.tk.blk
  exact ⟨by simp [World.cell?, h], lt_of_block h⟩
set_option maxRecDepth 20000 in
set_option maxHeartbeats 4000000 in
/-- The program's ways. -/
theorem Td.ways (H : Td W M B w t P S v s n told) (hL : Lb W) (hn : n ≤ 100000) (a : Int) (h1 : told.length ≤ 2900000) :
    Calls Tryz.prog 79 #[pv t, iv a] w fun e w' => e = .returned (.tuple #[]) ∧ ∃ v', Td W M B w' t P S v' s n (told ++ toldA s (.ways a)) ∧ Chg w w' (ownK t v) (ownK t v') := by
  have HH := hide H
  have HL := hide hL
  have HB := hide (fun k => H.post.ways_bd hn a k)
  have HE : Hid (toldA s (.ways a) = (List.range 6).flatMap fun (k : Nat) => wayL (wayTn s.t a (k : Int)) k) := rfl
  clear H hL
  go_enter Tryz.func79, Tryz.ntmps79
  go_wp2_with fail
  go_loopw [6] (fun v6 wr => ∃ (k : Nat) (u : Value), k ≤ 6 ∧ v6 = .int .i64 (k : Int) ∧ Hid (Td W M B wr t P S u s n (told ++ ((List.range 6).take k).flatMap fun (k : Nat) => wayL (wayTn s.t a (k : Int)) k)) ∧ Hid (Chg w wr (ownK t v) (ownK t u))) (fun v6 _ => 6 - (intOf v6).toNat)
  case atStart => exact ⟨0, v, by omega, rfl, by simpa [Hid] using HH.out, (Gr.refl w).chg _⟩
  case round =>
    obtain ⟨k, u, hk, rfl, T2, K2⟩ := hrel
    have hlw : ∀ j : Nat, (wayL (wayTn s.t a (j : Int)) j).length ≤ 200 ∨ 6 ≤ j := fun j => by
      by_cases hj : j < 6
      · obtain ⟨b1, b2, b3⟩ := HB.out (j : Int)
        have b0 : i64B (j : Int) := i64_of ⟨by omega, by omega⟩
        have := sayN_len (wd := wWay) (ns := [(j : Int), (wayTn s.t a j).1, (wayTn s.t a j).2.1, (wayTn s.t a j).2.2]) (by simp; exact ⟨b0, b1, b2, b3⟩)
        rw [sayN_is] at this
        left
        exact Nat.le_trans this (by simp [wWay])
      · exact .inr (by omega)
    have hlen : (told ++ ((List.range 6).take k).flatMap fun (k : Nat) => wayL (wayTn s.t a (k : Int)) k).length ≤ 2950000 := by
      have := flatK_len (f := fun (k : Nat) => wayL (wayTn s.t a (k : Int)) k) (N := 200) (l := (List.range 6).take k) (fun x hx => by
        have hm := List.mem_of_mem_take hx
        rw [List.mem_range] at hm
        rcases hlw x with q | q
        · exact q
        · omega)
      have h2 : ((List.range 6).take k).length ≤ 6 := by rw [List.length_take, List.length_range]; omega
      rw [List.length_append]
      omega
    clear hlw
    by_cases hlt : k < 6
    · have hkI : (k : Int) < 6 := by omega
      obtain ⟨b1, b2, b3⟩ := HB.out (k : Int)
      have b0 : i64B (k : Int) := i64_of ⟨by omega, by omega⟩
      obtain ⟨p, lP, cP, hW⟩ := T2.out.post.way3
      have HW := hide (hW wr (Gr.refl wr) a (k : Int))
      clear hW
      obtain ⟨ct, lt⟩ := T2.out.cell0
      have HF : Hid (((List.range 6).take (k + 1)).flatMap (fun (k : Nat) => wayL (wayTn s.t a (k : Int)) k) = ((List.range 6).take k).flatMap (fun (k : Nat) => wayL (wayTn s.t a (k : Int)) k) ++ wayL (wayTn s.t a (k : Int)) k) := by
        have := flatK_succ (fun (k : Nat) => wayL (wayTn s.t a (k : Int)) k) (l := List.range 6) (k := k) (by simpa using hlt)
        unfold Hid
        rw [this]
        simp
      have HX : Hid (∀ V X, Gr wr V → Calls Tryz.prog 89 #[pv t, sv [119, 97, 121], .slice (some ⟨V.heap.size + 1, 0, none⟩) 4 4] ((V.alloc X).alloc (.cells #[iv (k : Int), iv (wayTn s.t a k).1, iv (wayTn s.t a k).2.1, iv (wayTn s.t a k).2.2] 3)) fun e w' => e = .returned (.tuple #[]) ∧ ∃ v', Td W M B w' t P S v' s n ((told ++ ((List.range 6).take k).flatMap fun (k : Nat) => wayL (wayTn s.t a (k : Int)) k) ++ wayL (wayTn s.t a (k : Int)) k) ∧ Chg (V.alloc X) w' (ownK t u) (ownK t v')) := fun V X g =>
        ((T2.out.gr g).gr ((Gr.refl V).alloc X)).sayAt HL.out (by simp) [119, 97, 121] [(k : Int), (wayTn s.t a k).1, (wayTn s.t a k).2.1, (wayTn s.t a k).2.2] 3 (by simp; exact ⟨b0, b1, b2, b3⟩) (by omega) (by decide) (by simp)
      clear b0 b1 b2 b3 hlen
      generalize hA : told ++ ((List.range 6).take k).flatMap (fun (k : Nat) => wayL (wayTn s.t a (k : Int)) k) = A at *
      have HA := hide hA
      clear hA
      generalize wayL (wayTn s.t a (k : Int)) k = Y at *
      generalize (wayTn s.t a (k : Int)).1 = y1 at *
      generalize (wayTn s.t a (k : Int)).2.1 = y2 at *
      generalize (wayTn s.t a (k : Int)).2.2 = y3 at *
      go_wp2_with (first
        | (go_at_call 57; refine HW.out.mono ?_; rintro e w1 ⟨rfl, g1⟩; have G1 := hide g1; clear g1)
        | (go_at_call 89; refine (HX.out w1 _ G1.out).mono ?_; rintro e w2 ⟨rfl, v2, t2, k2⟩; have T3 := hide t2; have K3 := hide ((K2.out.trans (((G1.out).alloc _).chg _)).trans k2); clear t2 k2))
      go_roundw
      case rel => exact ⟨k + 1, v2, by omega, by go_num, by
        unfold Hid
        rw [HF.out, ← List.append_assoc, HA.out]
        exact T3.out, K3⟩
      case measure => simp [intOf]; omega
    · have hkl : decide ((k : Int) < 6) = false := decide_eq_false (by omega)
      have HT : Hid ((List.range 6).take k = List.range 6) := List.take_of_length_le (by simp; omega)
      go_wp2_with fail
      refine bodyPost_end (results_none rfl _ _ _) rfl ⟨rfl, u, ?_, K2.out⟩
      have := T2.out
      rw [HT.out] at this
      rw [HE.out]
      exact this
end

end Go.Proofs.YtfcknkanbcndjagGreatDoor
