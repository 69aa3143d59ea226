import Derived.Test.YtfcknkanbcndjagGreatDoorPtRparse2
import Derived.Test.YtfcknkanbcndjagGreatDoorDkBd
import Derived.Test.YtfcknkanbcndjagGreatDoorFb2
import Derived.Test.YtfcknkanbcndjagGreatDoorDkMem
/- CONTRACTS OF the reference's Desk: a desk as an object; do. -/
namespace Go.Proofs.YtfcknkanbcndjagGreatDoor
open Go.RowKit
attribute [local go_sem] Ext.all Ext.cell Ext.frozen Ext.lt Ext.lt1 Ext.lt2 Ext.ne Ext.ne'
theorem chg_gr {W w w' : World} {S S' : Nat → Prop} (h : Chg w w' S S') (g : Gr W w) (hS : ∀ b, S b → W.heap.size ≤ b) : Gr W w' ∧ ∀ b, S' b → W.heap.size ≤ b := by
  have hs := Below.size g
  refine ⟨Below.trans g (h.kp.below hs (fun b hb => ⟨by omega, fun k => by have := hS b k; omega⟩)), fun b hb => ?_⟩
  rcases h.nw b hb with q | q
  · exact hS b q
  · omega
/-- A desk of the reference: what it told, its town; all younger than W. -/
structure Dq (W : World) (M : Nat → Prop) (B w : World) (D T : Nat) (S : Nat → Prop) (s : Dk) (n : Nat) (told : Tx) : Prop where
  at' : DkAt w D T told
  town : Tq M B w T S s.c s.t n s.rs
  ows : Ows s.rs
  nS : ¬ S D
  nM : ¬ M D
  gW : Gr W w
  hD : W.heap.size ≤ D
  hS : ∀ b, S b → W.heap.size ≤ b
def ownD (D : Nat) (S : Nat → Prop) (b : Nat) : Prop := b = D ∨ S b
section
variable {W : World} {M : Nat → Prop} {B w w' : World} {D T : Nat} {S S' : Nat → Prop} {s : Dk} {n : Nat} {told told' : Tx}
theorem Dq.tells (H : Dq W M B w D T S s n told) (h : Tells D T w w' told') : Dq W M B w' D T S s n told' :=
  ⟨h.at', H.town.keep h.kp (fun _ hb e => H.nM (e ▸ hb)) (fun _ hb e => H.nS (e ▸ hb)), H.ows, H.nS, H.nM, kp_gr h.kp H.gW H.hD, H.hD, H.hS⟩
theorem Dq.gr (H : Dq W M B w D T S s n told) (g : Gr w w') : Dq W M B w' D T S s n told := H.tells (.of_gr H.at' g)
theorem Tells.chg (h : Tells D T w w' told') (S : Nat → Prop) : Chg w w' (ownD D S) (ownD D S) :=
  ⟨h.kp.mono fun _ _ hb e => hb.2 (.inl e), fun _ h => .inl h⟩
theorem Dq.done (H : Dq W M B w D T S s n told) {s' : Dk} {n' : Nat} (h : Tq M B w' T S' s'.c s'.t n' s'.rs) (o : Ows s'.rs) (k : Chg w w' S S') : Dq W M B w' D T S' s' n' told ∧ Chg w w' (ownD D S) (ownD D S') := by
  have hD := lt_of_block H.at'
  obtain ⟨g, hS⟩ := chg_gr k H.gW H.hS
  refine ⟨⟨(k.kp.block D hD ⟨hD, H.nS⟩).trans H.at', h, o, fun e => ?_, H.nM, g, H.hD, hS⟩, k.kp.mono fun b _ hb => ⟨hb.1, fun e => hb.2 (.inr e)⟩, ?_⟩
  · rcases k.nw D e with q | q
    · exact H.nS q
    · omega
  · rintro b (e | e)
    · exact .inl (.inl e)
    · rcases k.nw b e with q | q
      · exact .inl (.inr q)
      · exact .inr q
theorem Dq.more (H : Dq W M B w D T S s n told) {m : Nat} (h : n ≤ m) : Dq W M B w D T S s m told := by
  refine ⟨H.at', ?_, H.ows, H.nS, H.nM, H.gW, H.hD, H.hS⟩
  obtain ⟨Q, V, ao, cp, k, rest⟩ := H.town
  exact ⟨Q, V, ao, cp, ⟨k.h, k.a, k.l, fun j hj => by have := k.g j hj; omega⟩, rest⟩
theorem fdo_ows {t : Tn} {rs : List Rt} (h : Ows rs) (x : Sp) (l b : Int) : Ows (fdoC t rs x l b).1.2 := by
  unfold fdoC
  split
  · exact h.own x.a x.n l b
  · exact h
set_option maxRecDepth 20000 in
set_option maxHeartbeats 8000000 in
/-- The reference's do. -/
theorem rddo_any (H : Dq W M B w D T S s n told) (hL : Lb W) (hn : n ≤ 100000) (hlen : told.length ≤ 3000000) (x : Sp) (l b : Int) :
    Calls Tryz.prog 94 #[pv D, .agg #[iv x.k, iv x.a, iv x.b, iv x.n, iv l, iv b]] w fun e w' => e = .returned (.tuple #[]) ∧ ∃ S', Dq W M B w' D T S' (doneA s (.step x l b)) (n + 1) (told ++ toldA s (.step x l b)) ∧ Chg w w' (ownD D S) (ownD D S') := by
  have g0 : Gr w (w.alloc (.cells #[iv x.k, iv x.a, iv x.b, iv x.n, iv l, iv b] 54)) := (Gr.refl w).alloc _
  have P0 := hide (H.gr g0)
  have S0 := hide (stC_new w x l b)
  have HL := hide hL
  clear H hL
  obtain ⟨q0, q1⟩ := fdo_code s.t s.rs x l b
  have HO : Hid (∀ V, Dq W M B V D T S s n told → Calls Tryz.prog 28 #[pv T, .agg #[iv x.k, iv x.a, iv x.b, iv x.n, iv l, iv b]] V fun e w' => e = .returned (iv (fdoC s.t s.rs x l b).2) ∧ ∃ S', Dq W M B w' D T S' (doneA s (.step x l b)) (n + 1) told ∧ Chg V w' (ownD D S) (ownD D S')) := fun V h =>
    (h.town.do h.ows.tab hn x l b).mono fun e w' ⟨he, S', ht, hc⟩ => ⟨he, S', h.done (s' := doneA s (.step x l b)) ht (fdo_ows h.ows x l b) hc⟩
  have HT : Hid (toldA s (.step x l b) = codeT (fdoC s.t s.rs x l b).2) := rfl
  rw [HT.out]
  clear HT
  generalize doneA s (.step x l b) = s' at *
  generalize (fdoC s.t s.rs x l b).2 = code at *
  obtain ⟨kd, xa, xb, xn⟩ := x
  simp only at S0 P0 g0 HO
  by_cases hz : code = 0
  · subst hz
    have HT : Hid (codeT 0 = [111, 107] ++ [10]) := rfl
    rw [HT.out]
    clear HT q0 q1
    go_enter Tryz.func94, Tryz.ntmps94
    go_upto_region 1 with (fail)
    refine wp_gen (fun V => Hid (Dq W M B V D T S s n told) ∧ Hid (StC V w.heap.size ⟨kd, xa, xb, xn⟩ l b) ∧ Hid (Gr w V)) ⟨P0.out, S0.out, g0⟩ ?_
    clear P0 S0 g0
    generalize hX0 : w.heap.size = X at *
    clear hX0
    rintro V ⟨P1, S1, gV⟩
    obtain ⟨hX, c0, c1, c2, c3, c4, c5⟩ := S1.out
    obtain ⟨d0, d1, _, hP⟩ := P1.out.at'.cells
    have HC := hide (HO.out _ (P1.out.gr ((Gr.refl V).drew)))
    simp only at c0 c1 c2 c3
    go_region_with (go_at_call 28; refine HC.out.mono ?_; rintro e w2 ⟨rfl, S2, p2', k2'⟩; have P2 := hide p2'; have K2 := hide k2'; clear p2' k2'; have HY := hide (say_any P2.out.at' [111, 107] (by omega) (by simp)))
    all_goals
      go_wp2_with (go_at_call 93; refine HY.out.mono ?_; rintro e w7 ⟨rfl, t7⟩; have T7 := hide t7; clear t7)
      exact bodyPost_end (results_none rfl _ _ _) rfl ⟨rfl, S2, P2.out.tells T7.out, ((gV.out.drew.chg _).trans K2.out).trans (T7.out.chg _)⟩
  · have ez : (code != 0) = true := by simpa using hz
    have ic : i64B code := i64_of ⟨by omega, by omega⟩
    have hil := ito_len ic
    have HT : Hid (codeT code = ([110, 111, 32] ++ ito code) ++ [10]) := by unfold Hid codeT; rw [if_neg hz]; rfl
    have IC := hide ic
    rw [HT.out]
    have HN : Hid (∀ V, Gr W V → Calls Tryz.prog 92 #[iv code] V fun e w' => e = .returned (sv (ito code)) ∧ Gr V w') := fun V g => num_any (HL.out.gr g) IC.out
    clear ic IC HT q0 q1
    generalize ito code = nx at *
    obtain ⟨s1, HE1, e1⟩ := add_run ⟨#[110, 111, 32]⟩ ⟨nx.toArray⟩ (by rw [size_of_list]; simp [ByteArray.size]; omega)
    have HY : Hid (∀ V, DkAt V D T told → Calls Tryz.prog 93 #[pv D, .string s1] V fun e w' => e = .returned (.tuple #[]) ∧ Tells D T V w' (told ++ (([110, 111, 32] ++ nx) ++ [10]))) := fun V g => by
      rw [HE1.out, show (⟨#[110, 111, 32]⟩ : ByteArray) = ⟨[110, 111, 32].toArray⟩ from rfl, cat]
      exact say_any g _ (by omega) (by simp; omega)
    go_enter Tryz.func94, Tryz.ntmps94
    go_upto_region 1 with (fail)
    refine wp_gen (fun V => Hid (Dq W M B V D T S s n told) ∧ Hid (StC V w.heap.size ⟨kd, xa, xb, xn⟩ l b) ∧ Hid (Gr w V)) ⟨P0.out, S0.out, g0⟩ ?_
    clear P0 S0 g0
    generalize hX0 : w.heap.size = X at *
    clear hX0
    rintro V ⟨P1, S1, gV⟩
    obtain ⟨hX, c0, c1, c2, c3, c4, c5⟩ := S1.out
    obtain ⟨d0, d1, _, hP⟩ := P1.out.at'.cells
    have HC := hide (HO.out _ (P1.out.gr ((Gr.refl V).drew)))
    simp only at c0 c1 c2 c3
    go_region_with (go_at_call 28; refine HC.out.mono ?_; rintro e w2 ⟨rfl, S2, p2', k2'⟩; have P2 := hide p2'; have K2 := hide k2'; clear p2' k2')
    all_goals
      go_wp2_with (first
        | (go_at_call 92; with_reducible refine (HN.out _ P2.out.gW).mono ?_; rintro e w6 ⟨rfl, g6⟩; have G6 := hide g6; clear g6)
        | (go_at_call 93; refine (HY.out _ (P2.out.at'.gr G6.out)).mono ?_; rintro e w7 ⟨rfl, t7⟩; have T7 := hide t7; clear t7))
      exact bodyPost_end (results_none rfl _ _ _) rfl ⟨rfl, S2, (P2.out.gr G6.out).tells T7.out, (((gV.out.drew.chg _).trans K2.out).trans (G6.out.chg _)).trans (T7.out.chg _)⟩
end

end Go.Proofs.YtfcknkanbcndjagGreatDoor

/- THE PROGRAM'S DESK as an object with own blocks (LAYOUT OF THE SCRATCH CODE: Desk { *fib.Post }). -/
namespace Go.Proofs.YtfcknkanbcndjagGreatDoor
open Go.RowKit

/-- The program's desk at K whose own blocks are S. -/
def Kq (M : Nat → Prop) (B w : World) (K : Nat) (S : Nat → Prop) (s : Dk) (n : Nat) : Prop :=
  ∃ P S0, w.heap[K]? = some (.cells #[pv P] 87 (0, 0)) ∧ Pq M B w P S0 s.c s.t n s.rs ∧ ¬ S0 K ∧ ¬ M K ∧ S = fun b => b = K ∨ S0 b
section
variable {M N : Nat → Prop} {B w w' : World} {K : Nat} {S S' : Nat → Prop} {s : Dk} {n : Nat}
theorem Kq.gr (H : Kq M B w K S s n) (g : Gr w w') : Kq M B w' K S s n := by
  obtain ⟨P, S0, hb, hp, h1, h2, e⟩ := H
  exact ⟨P, S0, (Below.block g K (lt_of_block hb)).trans hb, hp.gr g, h1, h2, e⟩
theorem Kq.keep (H : Kq M B w K S s n) (hk : Kp N w w') (hMN : ∀ b, M b → N b) (hS : ∀ b, S b → N b) : Kq M B w' K S s n := by
  obtain ⟨P, S0, hb, hp, h1, h2, e⟩ := H
  subst e
  exact ⟨P, S0, (hk.block K (lt_of_block hb) (hS K (.inl rfl))).trans hb, hp.keep hk hMN (fun b h => hS b (.inr h)), h1, h2, rfl⟩
theorem Kq.lt (H : Kq M B w K S s n) {b : Nat} (hb : S b) : b < w.heap.size := by
  obtain ⟨P, S0, hk, hp, h1, h2, e⟩ := H
  subst e
  rcases hb with rfl | hb
  · exact lt_of_block hk
  · exact hp.lt hb
theorem Kq.out (H : Kq M B w K S s n) {b : Nat} (hm : M b) : b < w.heap.size ∧ ¬ S b := by
  obtain ⟨P, S0, hk, hp, h1, h2, e⟩ := H
  subst e
  refine ⟨(hp.out hm).1, ?_⟩
  rintro (rfl | h)
  · exact h2 hm
  · exact (hp.out hm).2 h
end

end Go.Proofs.YtfcknkanbcndjagGreatDoor

/- THE PROGRAM'S DESK: what Do owes; two desks beside each other. -/
namespace Go.Proofs.YtfcknkanbcndjagGreatDoor
open Go.RowKit

/-- What Do does to a desk, and tells. -/
def doK (s : Dk) (ls : List Tx) : Dk := if fltD ls = (0, 0) then (linesD s ls).1 else s
def toldK (s : Dk) (ls : List Tx) : Tx := if fltD ls = (0, 0) then (linesD s ls).2 else []
/-- What Do tells, and leaves. -/
def KdO (M : Nat → Prop) (B w : World) (K : Nat) (S : Nat → Prop) (s : Dk) (n : Nat) (ls : List Tx) (e : Ending) (w' : World) : Prop :=
  e = .returned (.tuple #[sv (toldK s ls), .agg #[iv (fltD ls).1, iv (fltD ls).2]]) ∧ (toldK s ls).length ≤ 2000000 ∧ ∃ S', Kq M B w' K S' (doK s ls) (n + ls.length) ∧ Chg w w' S S'
section
variable {M : Nat → Prop} {W B B2 w w' : World} {K K2 : Nat} {S S' S2 : Nat → Prop} {s s2 : Dk} {n n2 : Nat}
theorem Kq.beside (H : Kq M B w K S s n) (H2 : Kq M B2 w K2 S2 s2 n2) (ap : ∀ b, S b → ¬ S2 b) (k : Chg w w' S2 S') : Kq M B w' K S s n ∧ ∀ b, S b → ¬ S' b := by
  refine ⟨H.keep k.kp (fun b hb => H2.out hb) (fun b hb => ⟨H.lt hb, ap b hb⟩), fun b hb h => ?_⟩
  rcases k.nw b h with q | q
  · exact ap b hb q
  · have := H.lt hb; omega
/-- A fault's place that is no desk's own. -/
def Bx (w : World) (S : Nat → Prop) (q : Nat) (c a : Int) : Prop := w.heap[q]? = some (.cells #[iv c, iv a] 66 (0, 0)) ∧ ¬ S q
theorem Bx.chg {q : Nat} {c a : Int} (h : Bx w S q c a) (k : Chg w w' S S') : Bx w' S' q c a := by
  have hq := lt_of_block h.1
  refine ⟨(k.kp.block q hq ⟨hq, h.2⟩).trans h.1, fun e => ?_⟩
  rcases k.nw q e with r | r
  · exact h.2 r
  · omega
theorem Bx.cells {q : Nat} {c a : Int} (h : Bx w S q c a) : w.cell? ⟨q, 0, none⟩ = some (iv c) ∧ w.cell? ⟨q, 1, none⟩ = some (iv a) ∧ q < w.heap.size := ⟨(cells2 h.1).1, (cells2 h.1).2, lt_of_block h.1⟩
theorem Bx.gr {q : Nat} {c a : Int} (h : Bx w S q c a) (g : Gr w w') : Bx w' S q c a := ⟨(Below.block g q (lt_of_block h.1)).trans h.1, h.2⟩
end
/-- Two desks of the program beside each other, both younger than W. -/
structure TwoK (W w : World) (K : Nat) (S : Nat → Prop) (s : Dk) (n : Nat) (K2 : Nat) (S2 : Nat → Prop) (s2 : Dk) (n2 : Nat) : Prop where
  k1 : ∃ B, Kq (fun b => b < W.heap.size) B w K S s n
  k2 : ∃ B, Kq (fun b => b < W.heap.size) B w K2 S2 s2 n2
  ap : ∀ b, S b → ¬ S2 b
  y1 : ∀ b, S b → W.heap.size ≤ b
  y2 : ∀ b, S2 b → W.heap.size ≤ b
  gW : Gr W w
section
variable {W w w' : World} {K K2 : Nat} {S S' S2 : Nat → Prop} {s s2 : Dk} {n n2 : Nat}
theorem TwoK.gr (H : TwoK W w K S s n K2 S2 s2 n2) (g : Gr w w') : TwoK W w' K S s n K2 S2 s2 n2 :=
  ⟨H.k1.imp fun _ h => h.gr g, H.k2.imp fun _ h => h.gr g, H.ap, H.y1, H.y2, H.gW.trans g⟩
theorem TwoK.swap (H : TwoK W w K S s n K2 S2 s2 n2) : TwoK W w K2 S2 s2 n2 K S s n := ⟨H.k2, H.k1, fun b h2 h1 => H.ap b h1 h2, H.y2, H.y1, H.gW⟩
theorem TwoK.chg1 (H : TwoK W w K S s n K2 S2 s2 n2) {s' : Dk} {n' : Nat} {B : World} (h : Kq (fun b => b < W.heap.size) B w' K S' s' n') (h0 : ∃ s n, Kq (fun b => b < W.heap.size) B w K S s n) (k : Chg w w' S S') : TwoK W w' K S' s' n' K2 S2 s2 n2 ∧ Chg w w' (fun b => S b ∨ S2 b) (fun b => S' b ∨ S2 b) := by
  obtain ⟨s0, n0, h0⟩ := h0
  obtain ⟨B2, h2⟩ := H.k2
  obtain ⟨h2', ap'⟩ := h2.beside h0 (fun b hb h => H.ap b h hb) k
  obtain ⟨g, y⟩ := chg_gr k H.gW H.y1
  refine ⟨⟨⟨B, h⟩, ⟨B2, h2'⟩, fun b h1 h3 => ap' b h3 h1, y, H.y2, g⟩, k.kp.mono fun b _ hb => ⟨hb.1, fun e => hb.2 (.inl e)⟩, ?_⟩
  rintro b (e | e)
  · rcases k.nw b e with q | q
    · exact .inl (.inl q)
    · exact .inr q
  · exact .inl (.inr e)
theorem swap_chg (k : Chg w w' (fun b => S b ∨ S2 b) (fun b => S' b ∨ S2 b)) : Chg w w' (fun b => S2 b ∨ S b) (fun b => S2 b ∨ S' b) :=
  ⟨k.kp.mono fun _ _ hb => ⟨hb.1, fun e => hb.2 e.symm⟩, fun b hb => (k.nw b hb.symm).imp Or.symm id⟩
end

end Go.Proofs.YtfcknkanbcndjagGreatDoor
