import Derived.Test.YtgiifgjjmffphafGreatDoorFw1
import Derived.Test.YtgiifgjjmffphafGreatDoorW8
import Derived.Test.YtgiifgjjmffphafGreatDoorLPlain
import Derived.Test.YtgiifgjjmffphafGreatDoorRInv
import Derived.Test.YtgiifgjjmffphafGreatDoorPo4
import Derived.Test.YtgiifgjjmffphafGreatDoorTw21
import Derived.Test.YtgiifgjjmffphafGreatDoorTw2
import Derived.Deep.RegionHeld3
import Derived.Test.YtgiifgjjmffphafGreatDoorS5
import Derived.ProofKit
import Derived.OpenShut
import Derived.Lib.SmallJoins
import Derived.Deep.Slices
import Derived.Carry
import Derived.Test.YtgiifgjjmffphafGreatDoorL1
import Derived.Test.YtgiifgjjmffphafGreatDoorFwA
import Derived.Deep.Strs
import Derived.LaidMore
import Derived.Lay
import Derived.Stop.Joined
/- THE REFERENCE'S Town: Small. -/
namespace Go.Proofs.YtgiifgjjmffphafGreatDoor
open Go.RowKit
attribute [local go_sem] Ext.all Ext.cell Ext.frozen Ext.lt Ext.lt1 Ext.lt2 Ext.ne Ext.ne'
theorem want_own {B : World} {g : Nat} {rs : List Rt} (hT : Tab rs) (H : Nums B g 0 256 (fun j => lookL rs j)) :
    Calls Tryz.prog 32 #[pfx 0 0, .slice (some ⟨g, 0, none⟩) 256 256, iv (-1)] B fun e w' => ∃ ao c, e = .returned (.slice ao (lstL rs).length c) ∧ Own B w' (.slice ao (lstL rs).length c) (lstL rs) ∧ Gr B w' := by
  refine (leastOf_any (fun j => lookL rs j) (fun j => hT.hops j) g 8 0 0 0 256 256 (-1) B SpT.root rfl (by decide) (by decide) (by decide) H).mono ?_
  rintro e w' ⟨v, rfl, o, g⟩
  obtain ⟨ao, c, rfl, _, _⟩ := o.shape
  exact ⟨ao, c, rfl, o, g⟩
theorem all_num0 {X : World} {g : Nat} {f : Nat → Int} (h : g < X.heap.size) (k : ∀ j : Nat, j < 256 → X.cell? ⟨g, j, none⟩ = some (iv (f j))) : Nums X g 0 256 f := ⟨h, fun j hj => by rw [Nat.zero_add]; exact k j hj⟩
section
variable {M N : Nat → Prop} {B w w' : World} {p : Nat} {q : Nat → Nat} {v o : Value} {t : Tn}
set_option maxRecDepth 20000 in
set_option maxHeartbeats 8000000 in
theorem wsmall_any {c : Nat → Nat → Nat} {ao : Option Addr} {cp : Nat} {rs : List Rt} (H : Tw M B w p q v (.slice ao rs.length cp) t) (A : TnA t c) (hR : RowAt w N ao rs) (hT : Tab rs) (n : Int) :
    Calls Tryz.prog 17 #[pv p, iv n] w fun e w' => ∃ u, e = .returned u ∧ Own w w' u (lstL (fullL t n rs)) ∧ Gr w w' := by
  have hlen := hT.len
  have HF := hide (wfull_any H hR (by omega) n)
  have TF := hide (full_tab A n hT)
  have hsl : (lstL (fullL t n rs)).length ≤ 40 := (lst_tab TF.out).len
  generalize fullL t n rs = fs at *
  have HA := hide (fun (X : World) (ao : Option Addr) (c : Nat) (h : RowAt X (fun k => w.heap.size ≤ k) ao fs) => allOf_any X _ ao fs.length c fs h rfl TF.out.toSrt)
  have HL := hide (fun (X : World) (g : Nat) (h : Nums X g 0 256 (fun j => lookL fs j)) => want_own TF.out h)
  clear H hR
  generalize lstL fs = ss at *
  have hd : decide ((40 : Int) < (ss.length : Int)) = false := decide_eq_false (by omega)
  have hd2 : ¬ (40 : Int) < (ss.length : Int) := by omega
  go_enter Tryz.func17, Tryz.ntmps17
  go_wp2_with (first
    | (go_at_call 16; with_reducible refine HF.out.mono ?_; rintro e w1 ⟨u1, rfl, o1, g1⟩; obtain ⟨ao1, c1, hu1, _, r1⟩ := o1.shape; subst hu1; have R1 := hide r1; have G1 := hide g1; clear o1 r1 g1)
    | (go_at_call 33; refine (HA.out _ _ _ R1.out).mono ?_; rintro e _ ⟨g2, rfl, hl2, hc2, d2, rfl⟩; have N2 := hide (all_num0 (f := fun j => lookL fs j) hl2 hc2); clear hl2 hc2)
    | (go_at_call 32; with_reducible refine (HL.out _ _ N2.out).mono ?_; rintro e w3 ⟨ao3, c3, rfl, o3, g3⟩; have O3 := hide o3; have G3 := hide g3; clear o3 g3)
    | fail)
  go_ret
  exact ⟨_, rfl, O3.out.mono (G1.out.ext d2), (G1.out.ext d2).trans G3.out⟩
end

end Go.Proofs.YtgiifgjjmffphafGreatDoor

/- FOR THE LAWS OF A POST: a Post, and the reference's Town with its owners, as objects with their own blocks. -/
namespace Go.Proofs.YtgiifgjjmffphafGreatDoor
open Go.RowKit

/-- A Post at P whose own blocks are S. -/
def Pq (M : Nat → Prop) (B w : World) (P : Nat) (S : Nat → Prop) (c : Nat → Nat → Nat) (t : Tn) (n : Nat) (rs : List Rt) : Prop :=
  ∃ p k q v tb u, Po M B w P p k q v tb u c t n rs ∧ S = ownP P p k q v tb u
/-- The block of a list that is not empty. -/
def blkL (ao : Option Addr) (rs : List Rt) (b : Nat) : Prop := rs ≠ [] ∧ ∃ o, ao = some ⟨b, o, none⟩
theorem RowAt.blk {w : World} {M : Nat → Prop} {ao : Option Addr} {rs : List Rt} (h : RowAt w M ao rs) : RowAt w (fun b => M b ∧ blkL ao rs b) ao rs := by
  by_cases h0 : rs = []
  · exact .inl h0
  · rcases h with h | ⟨b, o, ha, hb, hm, hc⟩
    · exact absurd h h0
    · exact .inr ⟨b, o, ha, hb, ⟨hm, h0, o, ha⟩, hc⟩
theorem RowAt.lstM {w : World} {M : Nat → Prop} {ao : Option Addr} {rs : List Rt} (h : RowAt w M ao rs) {b : Nat} (hb : blkL ao rs b) : M b ∧ b < w.heap.size := by
  rcases h with h | ⟨b', o', ha, hl, hm, _⟩
  · exact absurd h hb.1
  · obtain ⟨_, o, e⟩ := hb
    rw [ha] at e
    cases e
    exact ⟨hm, hl⟩
/-- The reference's Town at T, with its owners. -/
def Tq (M : Nat → Prop) (B w : World) (T : Nat) (S : Nat → Prop) (c : Nat → Nat → Nat) (t : Tn) (n : Nat) (rs : List Rt) : Prop :=
  ∃ Q V ao cp, Tl M B w T Q V (.slice ao rs.length cp) c t n ∧ rs.length ≤ cp ∧ RowAt w (fun b => ¬ ownT T Q V b ∧ ¬ M b) ao rs ∧ S = fun b => ownT T Q V b ∨ blkL ao rs b
section
variable {M N : Nat → Prop} {B w w' : World} {P T : Nat} {S : Nat → Prop} {c : Nat → Nat → Nat} {t : Tn} {n : Nat} {rs : List Rt}
theorem Pq.gr (H : Pq M B w P S c t n rs) (g : Gr w w') : Pq M B w' P S c t n rs := by
  obtain ⟨p, k, q, v, tb, u, h, e⟩ := H
  exact ⟨p, k, q, v, tb, u, h.gr g, e⟩
theorem Pq.keep (H : Pq M B w P S c t n rs) (hk : Kp N w w') (hMN : ∀ b, M b → N b) (hS : ∀ b, S b → N b) : Pq M B w' P S c t n rs := by
  obtain ⟨p, k, q, v, tb, u, h, e⟩ := H
  subst e
  exact ⟨p, k, q, v, tb, u, h.keep hk hMN hS, rfl⟩
theorem Pq.lt (H : Pq M B w P S c t n rs) {b : Nat} (hb : S b) : b < w.heap.size := by
  obtain ⟨p, k, q, v, tb, u, h, e⟩ := H
  subst e
  exact h.lt hb
theorem Pq.out (H : Pq M B w P S c t n rs) {b : Nat} (hm : M b) : b < w.heap.size ∧ ¬ S b := by
  obtain ⟨p, k, q, v, tb, u, h, e⟩ := H
  subst e
  exact h.out hm
theorem Pq.ows (H : Pq M B w P S c t n rs) : Ows rs := by
  obtain ⟨p, k, q, v, tb, u, h, e⟩ := H
  exact h.ows
theorem Pq.a (H : Pq M B w P S c t n rs) : TnA t c := by
  obtain ⟨p, k, q, v, tb, u, h, e⟩ := H
  exact h.net.a
theorem Pq.kp (H : Pq M B w P S c t n rs) : Kp M B w := by
  obtain ⟨p, k, q, v, tb, u, h, e⟩ := H
  exact h.net.h.kp
theorem Pq.do (H : Pq M B w P S c t n rs) (hn : n ≤ 100000) (x : Sp) (l b : Int) :
    Calls Tryz.prog 22 #[pv P, .agg #[iv x.k, iv x.a, iv x.b, iv x.n, iv l, iv b]] w fun e w' => e = .returned (iv (fdoC t rs x l b).2) ∧ ∃ S', Pq M B w' P S' (nextC c x) (fdoC t rs x l b).1.1 (n + 1) (fdoC t rs x l b).1.2 ∧ Chg w w' S S' := by
  obtain ⟨p, k, q, v, tb, u, h, e⟩ := H
  subst e
  refine (fibDo_po h hn x l b).mono ?_
  rintro e w' ⟨he, v', u', h', ch⟩
  exact ⟨he, _, ⟨p, k, q, v', tb, u', h', rfl⟩, ch⟩
theorem Pq.owners (H : Pq M B w P S c t n rs) : Calls Tryz.prog 9 #[pv P] w fun e w' => ∃ ao cp, e = .returned (.slice ao rs.length cp) ∧ RowAt w' (fun k => w.heap.size ≤ k) ao rs ∧ Gr w w' := by
  obtain ⟨p, k, q, v, tb, u, h, e⟩ := H
  exact fibOwners_po h
theorem Pq.owner (H : Pq M B w P S c t n rs) (a : Int) : Calls Tryz.prog 10 #[pv P, iv a] w fun e w' => e = .returned (iv (lookL rs a)) ∧ Gr w w' := by
  obtain ⟨p, k, q, v, tb, u, h, e⟩ := H
  exact fibOwner_po h a
theorem Pq.full (H : Pq M B w P S c t n rs) {x : Int} (hx : isN x) : Calls Tryz.prog 12 #[pv P, iv x] w fun e w' => ∃ ub, e = .returned (pv ub) ∧ Is w' ub (fullL t x rs) ∧ Gr w w' := by
  obtain ⟨p, k, q, v, tb, u, h, e⟩ := H
  exact (fibFull_po h hx).mono fun _ _ ⟨ub, z, he, ht, hg⟩ => ⟨ub, he, ⟨_, z, ht⟩, hg⟩
theorem Pq.full_no (H : Pq M B w P S c t n rs) {x : Int} (hx : ¬ isN x) : Calls Tryz.prog 12 #[pv P, iv x] w fun e w' => e = .returned (.pointer none) ∧ Gr w w' := by
  obtain ⟨p, k, q, v, tb, u, h, e⟩ := H
  exact fibFull_no h hx
theorem Pq.small (H : Pq M B w P S c t n rs) (h64 : Tab64 w) {x : Int} (hx : isN x) : Calls Tryz.prog 13 #[pv P, iv x] w fun e w' => ∃ ub, e = .returned (pv ub) ∧ Is w' ub (lstL (fullL t x rs)) ∧ Gr w w' := by
  obtain ⟨p, k, q, v, tb, u, h, e⟩ := H
  exact (fibSmall_po h h64 hx).mono fun _ _ ⟨ub, z, he, ht, hg⟩ => ⟨ub, he, ⟨_, z, ht⟩, hg⟩
theorem Pq.small_no (H : Pq M B w P S c t n rs) {x : Int} (hx : ¬ isN x) : Calls Tryz.prog 13 #[pv P, iv x] w fun e w' => e = .returned (.pointer none) ∧ Gr w w' := by
  obtain ⟨p, k, q, v, tb, u, h, e⟩ := H
  exact fibSmall_no h hx
/-- The embedded Net, asked for a way. -/
theorem Pq.way (H : Pq M B w P S c t n rs) : ∃ p, P < w.heap.size ∧ w.cell? ⟨P, 0, none⟩ = some (pv p) ∧ ∀ X, Gr w X → ∀ a z : Int, Calls Tryz.prog 28 #[pv p, iv a, iv z] X fun e w' => ∃ s d, e = .returned (.agg #[iv s, iv d, iv (hpT t a z)]) ∧ Gr X w' := by
  obtain ⟨p, k, q, v, tb, u, h, e⟩ := H
  refine ⟨p, lt_of_block h.blk, (cells2 h.blk).1, fun X g a z => ?_⟩
  exact (netWay_any (h.net.h.ext g) a z).mono fun e w' ⟨he, d', hd'⟩ => ⟨(wayTn t a z).1, (wayTn t a z).2.1, by rw [he, ← hp_way]; rfl, by rw [hd']; exact d'.gr⟩
theorem Tq.gr (H : Tq M B w T S c t n rs) (g : Gr w w') : Tq M B w' T S c t n rs := by
  obtain ⟨Q, V, ao, cp, h, hc, hr, e⟩ := H
  exact ⟨Q, V, ao, cp, h.ext g, hc, hr.gr g, e⟩
theorem Tq.keep (H : Tq M B w T S c t n rs) (hk : Kp N w w') (hMN : ∀ b, M b → N b) (hS : ∀ b, S b → N b) : Tq M B w' T S c t n rs := by
  obtain ⟨Q, V, ao, cp, h, hc, hr, e⟩ := H
  subst e
  refine ⟨Q, V, ao, cp, ⟨h.h.keep hk hMN (hS _ (.inl (.inl rfl))) (fun a ha => hS _ (.inl (.inr (.inl ⟨a, ha, rfl⟩)))) (fun b e => hS b (.inl (.inr (.inr e)))), h.a, h.l, h.g⟩, hc, ?_, rfl⟩
  exact (hr.blk.kept (hk.mono fun b _ hb => hS b (.inr hb.2))).mono fun b _ hb => hb.1
theorem Tq.lt (H : Tq M B w T S c t n rs) {b : Nat} (hb : S b) : b < w.heap.size := by
  obtain ⟨Q, V, ao, cp, h, hc, hr, e⟩ := H
  subst e
  rcases hb with hb | hb
  · exact h.h.own_lt hb
  · exact (hr.lstM hb).2
theorem restT_not {Q : Nat → Nat} {V : Value} {b : Nat} (hb : restT w T Q V b) : ¬ ownT T Q V b := by
  rintro (e | ⟨a, ha, e⟩ | e)
  · exact hb.2.1 e
  · exact hb.2.2.1 a ha e
  · exact hb.2.2.2 e
theorem restT_of {Q : Nat → Nat} {V : Value} {b : Nat} (hb : b < w.heap.size) (h : ¬ ownT T Q V b) : restT w T Q V b :=
  ⟨hb, fun e => h (.inl e), fun a ha e => h (.inr (.inl ⟨a, ha, e⟩)), fun e => h (.inr (.inr e))⟩
theorem Tq.out (H : Tq M B w T S c t n rs) {b : Nat} (hm : M b) : b < w.heap.size ∧ ¬ S b := by
  obtain ⟨Q, V, ao, cp, h, hc, hr, e⟩ := H
  subst e
  refine ⟨(h.h.sub hm).1, ?_⟩
  rintro (hb | hb)
  · exact restT_not (h.h.sub hm) hb
  · exact (hr.lstM hb).1.2 hm
theorem FrW.nw {Q : Nat → Nat} {V V' : Value} (f : FrW w T Q V w' V') {b : Nat} (hb : ownT T Q V' b) : ownT T Q V b ∨ w.heap.size ≤ b := by
  by_cases h : ownT T Q V b
  · exact .inl h
  · by_cases hl : b < w.heap.size
    · exact absurd hb (restT_not (f.rst (restT_of hl h)))
    · exact .inr (by omega)
theorem Tq.do (H : Tq M B w T S c t n rs) (hT : Tab rs) (hn : n ≤ 100000) (x : Sp) (l b : Int) :
    Calls Tryz.prog 26 #[pv T, .agg #[iv x.k, iv x.a, iv x.b, iv x.n, iv l, iv b]] w fun e w' => e = .returned (iv (fdoC t rs x l b).2) ∧ ∃ S', Tq M B w' T S' (nextC c x) (fdoC t rs x l b).1.1 (n + 1) (fdoC t rs x l b).1.2 ∧ Chg w w' S S' := by
  obtain ⟨Q, V, ao, cp, h, hc, hr, e⟩ := H
  subst e
  by_cases h7 : x.k = 7
  · obtain ⟨ss, code, hs⟩ : ∃ ss code, ownC rs x.a x.n l b = (ss, code) := ⟨_, _, rfl⟩
    have e1 : fdoC t rs x l b = ((t, ss), code) := by unfold fdoC; rw [if_pos h7, hs]
    have e2 : nextC c x = c := by unfold nextC; rw [if_neg (by omega)]
    rw [e1, e2]
    obtain ⟨kd, xa, xb, xn⟩ := x
    simp only at h7 hs
    subst h7
    refine (wdo_own (N := fun k => (¬ ownT T Q V k ∧ ¬ M k) ∧ blkL ao rs k) h.h hc hr.blk (fun e => e.1.1 (.inl rfl)) hT xa xb xn l b hs).mono ?_
    rintro e w' ⟨he, ao', cp', hTw, hcp, hrow, hk⟩
    have hsz := hk.size
    have hrow' : RowAt w' (fun b => ¬ ownT T Q V b ∧ ¬ M b) ao' ss := hrow.mono fun k _ hk => by
      rcases hk with q | q
      · exact q.1
      · exact ⟨fun ho => by have := h.h.own_lt ho; omega, fun hm => by have := (h.h.sub hm).1; omega⟩
    refine ⟨he, _, ⟨Q, V, ao', cp', ⟨hTw, h.a, h.l, fun k hk => by have := h.g k hk; show agT t k ≤ _; omega⟩, hcp, hrow', rfl⟩, ⟨hk.mono fun b _ hb e => hb.2 (.inl (.inl e)), ?_⟩⟩
    rintro b' (hb | hb)
    · exact .inl (.inl hb)
    · rcases (hrow.lstM hb).1 with q | q
      · exact .inl (.inr q.2)
      · exact .inr q
  · have e1 : fdoC t rs x l b = (((doT t x).1, rs), (doT t x).2) := by unfold fdoC; rw [if_neg h7]
    rw [e1]
    refine (h.do' hn x h7 (iv l) (iv b)).mono ?_
    rintro e w' ⟨V', he, h', f⟩
    have hrow' : RowAt w' (fun b => ¬ ownT T Q V' b ∧ ¬ M b) ao rs := by
      have h1 : RowAt w (fun b => restT w T Q V b ∧ ¬ M b) ao rs := hr.mono fun k hk hh => ⟨restT_of hk hh.1, hh.2⟩
      exact (h1.kept (f.kp.mono fun _ _ hb => hb.1)).mono fun k _ hk => ⟨restT_not (f.rst hk.1), hk.2⟩
    refine ⟨he, _, ⟨Q, V', ao, cp, h', hc, hrow', rfl⟩, ⟨f.kp.mono fun b _ hb => restT_of hb.1 (fun ho => hb.2 (.inl ho)), ?_⟩⟩
    rintro b' (hb | hb)
    · rcases f.nw hb with q | q
      · exact .inl (.inl q)
      · exact .inr q
    · exact .inl (.inr hb)
/-- What is done to one object leaves another one. -/
theorem Pq.beside {S1 S2 S2' : Nat → Prop} (H : Pq M B w P S1 c t n rs) (hM : ∀ b, M b → b < w.heap.size ∧ ¬ S2 b) (ap : ∀ b, S1 b → ¬ S2 b) (k : Chg w w' S2 S2') : Pq M B w' P S1 c t n rs ∧ ∀ b, S1 b → ¬ S2' b :=
  ⟨H.keep k.kp hM (fun b hb => ⟨H.lt hb, ap b hb⟩), fun b hb h2 => by
    rcases k.nw b h2 with q | q
    · exact ap b hb q
    · have := H.lt hb; omega⟩
theorem Tq.beside {S1 S2 S2' : Nat → Prop} (H : Tq M B w T S1 c t n rs) (hM : ∀ b, M b → b < w.heap.size ∧ ¬ S2 b) (ap : ∀ b, S1 b → ¬ S2 b) (k : Chg w w' S2 S2') : Tq M B w' T S1 c t n rs ∧ ∀ b, S1 b → ¬ S2' b :=
  ⟨H.keep k.kp hM (fun b hb => ⟨H.lt hb, ap b hb⟩), fun b hb h2 => by
    rcases k.nw b h2 with q | q
    · exact ap b hb q
    · have := H.lt hb; omega⟩
theorem Tq.wfull (H : Tq M B w T S c t n rs) (hm : rs.length ≤ 1000) (x : Int) : Calls Tryz.prog 16 #[pv T, iv x] w fun e w' => ∃ u, e = .returned u ∧ Own w w' u (fullL t x rs) ∧ Gr w w' := by
  obtain ⟨Q, V, ao, cp, h, hc, hr, e⟩ := H
  exact wfull_any h.h hr hm x
theorem Tq.wsmall (H : Tq M B w T S c t n rs) (hT : Tab rs) (x : Int) : Calls Tryz.prog 17 #[pv T, iv x] w fun e w' => ∃ u, e = .returned u ∧ Own w w' u (lstL (fullL t x rs)) ∧ Gr w w' := by
  obtain ⟨Q, V, ao, cp, h, hc, hr, e⟩ := H
  exact wsmall_any h.h h.a hr hT x
/-- The owners' list, as the law reads it. -/
theorem Tq.owns (H : Tq M B w T S c t n rs) : ∃ ao cp, T < w.heap.size ∧ w.cell? ⟨T, 43, none⟩ = some (.slice ao rs.length cp) ∧ RowAt w (fun _ => True) ao rs := by
  obtain ⟨Q, V, ao, cp, h, hc, hr, e⟩ := H
  exact ⟨ao, cp, h.h.blk.lt, h.h.ownCell, hr.mono fun _ _ _ => trivial⟩
end

end Go.Proofs.YtgiifgjjmffphafGreatDoor

/- FOR THE LAWS OF A POST: lists that the reference makes. -/
namespace Go.Proofs.YtgiifgjjmffphafGreatDoor
open Go.RowKit

section
variable {w w1 w' : World} {P T n n' : Nat} {c c' : Nat → Nat → Nat} {t t' : Tn} {rs rs' : List Rt}
/-- A list that the reference made: where it stands. -/
theorem Own.row {B : World} {u : Value} (h : Own B w u rs) : ∃ ao cp, u = .slice ao rs.length cp ∧ RowAt w (fun _ => True) ao rs := by
  obtain ⟨ao, cp, e, _, hr⟩ := h.shape
  exact ⟨ao, cp, e, hr.mono fun _ _ _ => trivial⟩
theorem Tq.full' {M : Nat → Prop} {B : World} {S : Nat → Prop} (H : Tq M B w1 T S c t n rs) (hm : rs.length ≤ 1000) (x : Int) {fs : List Rt} (e : fullL t x rs = fs) : Calls Tryz.prog 16 #[pv T, iv x] w1 fun e w' => ∃ ao cp, e = .returned (.slice ao fs.length cp) ∧ RowAt w' (fun _ => True) ao fs ∧ Gr w1 w' := by
  subst e
  refine (H.wfull hm x).mono ?_
  rintro e w' ⟨u, rfl, o, g⟩
  obtain ⟨ao, cp, rfl, hr⟩ := o.row
  exact ⟨ao, cp, rfl, hr, g⟩
theorem Tq.small' {M : Nat → Prop} {B : World} {S : Nat → Prop} (H : Tq M B w1 T S c t n rs) (hT : Tab rs) (x : Int) {fs : List Rt} (e : lstL (fullL t x rs) = fs) : Calls Tryz.prog 17 #[pv T, iv x] w1 fun e w' => ∃ ao cp, e = .returned (.slice ao fs.length cp) ∧ RowAt w' (fun _ => True) ao fs ∧ Gr w1 w' := by
  subst e
  refine (H.wsmall hT x).mono ?_
  rintro e w' ⟨u, rfl, o, g⟩
  obtain ⟨ao, cp, rfl, hr⟩ := o.row
  exact ⟨ao, cp, rfl, hr, g⟩
end

end Go.Proofs.YtgiifgjjmffphafGreatDoor

/- FOR THE LAWS OF A POST: handpostlaw.posts. -/
namespace Go.Proofs.YtgiifgjjmffphafGreatDoor
open Go.RowKit
attribute [local go_sem] Ext.all Ext.cell Ext.frozen Ext.lt Ext.lt1 Ext.lt2 Ext.ne Ext.ne'
/-- A Post and a Town beside each other, in a world that has left all that was in w. -/
def Pt (w w' : World) (P T : Nat) (n : Nat) (c : Nat → Nat → Nat) (t : Tn) (rs : List Rt) (n' : Nat) (c' : Nat → Nat → Nat) (t' : Tn) (rs' : List Rt) : Prop :=
  ∃ S1 S2, Pq (fun b => b < w.heap.size) w w' P S1 c t n rs ∧ Tq (fun b => b < w.heap.size) w w' T S2 c' t' n' rs' ∧ ∀ b, S1 b → ¬ S2 b
section
variable {w w1 w' : World} {P T n n' : Nat} {c c' : Nat → Nat → Nat} {t t' : Tn} {rs rs' : List Rt}
theorem Pt.grw (H : Pt w w1 P T n c t rs n' c' t' rs') : Gr w w1 := by
  obtain ⟨S1, S2, h1, h2, ap⟩ := H
  exact h1.kp.below (Nat.le_refl _) (fun _ h => h)
theorem Pt.gr (H : Pt w w1 P T n c t rs n' c' t' rs') (g : Gr w1 w') : Pt w w' P T n c t rs n' c' t' rs' := by
  obtain ⟨S1, S2, h1, h2, ap⟩ := H
  exact ⟨S1, S2, h1.gr g, h2.gr g, ap⟩
theorem Pt.doP (H : Pt w w1 P T n c t rs n' c' t' rs') (hn : n ≤ 100000) (x : Sp) (l b : Int) :
    Calls Tryz.prog 22 #[pv P, .agg #[iv x.k, iv x.a, iv x.b, iv x.n, iv l, iv b]] w1 fun e w' => e = .returned (iv (fdoC t rs x l b).2) ∧ Pt w w' P T (n + 1) (nextC c x) (fdoC t rs x l b).1.1 (fdoC t rs x l b).1.2 n' c' t' rs' := by
  obtain ⟨S1, S2, h1, h2, ap⟩ := H
  refine (h1.do hn x l b).mono ?_
  rintro e w' ⟨he, S1', h1', ch⟩
  obtain ⟨h2', ap'⟩ := h2.beside (fun b hb => h1.out hb) (fun b hb hs => ap b hs hb) ch
  exact ⟨he, S1', S2, h1', h2', fun b hb hs => ap' b hs hb⟩
theorem Pt.doT (H : Pt w w1 P T n c t rs n' c' t' rs') (hT : Tab rs') (hn : n' ≤ 100000) (x : Sp) (l b : Int) :
    Calls Tryz.prog 26 #[pv T, .agg #[iv x.k, iv x.a, iv x.b, iv x.n, iv l, iv b]] w1 fun e w' => e = .returned (iv (fdoC t' rs' x l b).2) ∧ Pt w w' P T n c t rs (n' + 1) (nextC c' x) (fdoC t' rs' x l b).1.1 (fdoC t' rs' x l b).1.2 := by
  obtain ⟨S1, S2, h1, h2, ap⟩ := H
  refine (h2.do hT hn x l b).mono ?_
  rintro e w' ⟨he, S2', h2', ch⟩
  obtain ⟨h1', ap'⟩ := h1.beside (fun b hb => h2.out hb) ap ch
  exact ⟨he, S1, S2', h1', h2', ap'⟩
theorem Pt.ows (H : Pt w w1 P T n c t rs n' c' t' rs') : Ows rs := by
  obtain ⟨S1, S2, h1, h2, ap⟩ := H
  exact h1.ows
theorem Pt.a (H : Pt w w1 P T n c t rs n' c' t' rs') : TnA t c := by
  obtain ⟨S1, S2, h1, h2, ap⟩ := H
  exact h1.a
theorem fibNew_pq (w : World) : Calls Tryz.prog 24 #[] w fun e w' => ∃ P S, e = .returned (pv P) ∧ Pq (fun b => b < w.heap.size) w w' P S (fun _ _ => 0) newT 0 [] ∧ Gr w w' :=
  (fibNew_po w _ (fun _ h => h)).mono fun _ _ ⟨P, p, k, q, v, tb, u, he, h, g, _⟩ => ⟨P, _, he, ⟨p, k, q, v, tb, u, h, rfl⟩, g⟩
theorem newTown_pt {S : Nat → Prop} (H : Pq (fun b => b < w.heap.size) w w1 P S c t n rs) : Calls Tryz.prog 25 #[] w1 fun e w' => ∃ T, e = .returned (pv T) ∧ Pt w w' P T n c t rs 0 (fun _ _ => 0) newT [] := by
  have hk := H.kp
  refine (newTown_ok w1 (fun b => b < w.heap.size) (fun b hb => Nat.lt_of_lt_of_le hb hk.size)).mono ?_
  rintro e w' ⟨q, he, hT, g, hq⟩
  have hT' : Tw (fun b => b < w.heap.size) w w' w1.heap.size q (.slice none 0 0) (.slice none 0 0) newT := ⟨hk.trans hT.kp, fun _ h => h, hT.blk, hT.six, hT.nw, hT.nop, hT.noq, hT.nov⟩
  refine ⟨_, he, S, _, H.gr g, ⟨q, .slice none 0 0, none, 0, ⟨hT', new_a, by show ([] : List Nw).length ≤ 40; simp, fun k hk => ?_⟩, Nat.le_refl _, .inl rfl, rfl⟩, ?_⟩
  · have : agT newT k = 0 := by rcases (show k = 0 ∨ k = 1 ∨ k = 2 ∨ k = 3 ∨ k = 4 ∨ k = 5 by omega) with rfl | rfl | rfl | rfl | rfl | rfl <;> rfl
    omega
  · rintro b hb ((e | ⟨a, ha, e⟩ | e) | h)
    · have := H.lt hb; omega
    · have := H.lt hb; have := hq a ha; omega
    · cases e
    · exact h.1 rfl
end
set_option maxRecDepth 20000 in
set_option maxHeartbeats 8000000 in
theorem posts_any (w : World) (ao : Option Addr) (n cp : Nat) (l : List Sx) (H : SpAt w ao l) (hn : l.length = n) (h150 : n ≤ 150) :
    Calls Tryz.prog 7 #[.slice ao n cp] w fun e w' => ∃ P T c t rs, e = .returned (.tuple #[pv P, pv T, .bool true]) ∧ Pt w w' P T n c t rs n c t rs := by
  have HS := hide (fun (X : World) (g : Gr w X) => H.gr g)
  have HNL := hide hn
  clear H hn
  go_enter Tryz.func7, Tryz.ntmps7
  go_wp2_with (first
    | (go_at_call 24; with_reducible refine (fibNew_pq _).mono ?_; rintro e V1 ⟨P, S, rfl, h1', g1'⟩; have H1 := hide h1'; clear h1' g1')
    | (go_at_call 25; with_reducible refine (newTown_pt H1.out).mono ?_; rintro e V2 ⟨T, rfl, h2'⟩; have H2 := hide h2'; clear h2')
    | fail)
  clear H1
  go_loopw [7, 8] (fun v7 v8 wr => ∃ (i : Nat) (c : Nat → Nat → Nat) (t : Tn) (rs : List Rt), i ≤ n ∧ v7 = .bool true ∧ v8 = .int .i64 (i : Int) ∧ Hid (Pt w wr P T i c t rs i c t rs)) (fun _ v8 _ => (n - intOf v8).toNat)
  case atStart => exact ⟨0, _, newT, [], by omega, rfl, rfl, H2⟩
  case round =>
    clear H2
    obtain ⟨i, c, t, rs, hin, rfl, rfl, H1⟩ := hrel
    by_cases hi : i < n
    · have hii : decide ((i : Int) < (n : Int)) = true := decide_eq_true (by omega)
      have hi0 : (i : Int) < (n : Int) := by omega
      have hil : i < l.length := by have := HNL.out; omega
      have wi : IntKind.i64.wrap ((i : Int) + 1) = (i : Int) + 1 := by rw [IntKind.wrap_i64]; omega
      obtain ⟨bn, on, hao, hbn, s0, s1, s2, s3, s4, s5⟩ := (HS.out _ H1.out.grw).get hil
      have HG := hide (fun (X : World) (g : Gr w X) => (HS.out X g).get hil)
      subst hao
      generalize l[i] = x at *
      obtain ⟨⟨kd, xa, xb, xn⟩, xl, xt⟩ := x
      simp only at s0 s1 s2 s3 s4 s5 HG
      have SC : Hid (∀ W, Gr w W → W.cell? ⟨bn, on + i * 6, none⟩ = some (iv kd) ∧ W.cell? ⟨bn, on + i * 6 + 1, none⟩ = some (iv xa) ∧ W.cell? ⟨bn, on + i * 6 + 2, none⟩ = some (iv xb) ∧ W.cell? ⟨bn, on + i * 6 + 3, none⟩ = some (iv xn) ∧ W.cell? ⟨bn, on + i * 6 + 4, none⟩ = some (iv xl) ∧ W.cell? ⟨bn, on + i * 6 + 5, none⟩ = some (iv xt)) := fun W g => by
        obtain ⟨b', o', hbo, _, r⟩ := HG.out W g
        simp only [Option.some.injEq, Addr.mk.injEq] at hbo
        obtain ⟨rfl, rfl, _⟩ := hbo
        exact r
      have HDn := hide (Pt.doP (H1.out.gr (Gr.refl wr).drew) (by omega) ⟨kd, xa, xb, xn⟩ xl xt)
      have HDt : Hid (∀ (W : World) (c1 : Nat → Nat → Nat) (t1 : Tn) (rs1 : List Rt), Pt w W P T (i + 1) c1 t1 rs1 i c t rs → Calls Tryz.prog 26 #[pv T, .agg #[iv kd, iv xa, iv xb, iv xn, iv xl, iv xt]] W fun e W' => e = .returned (iv (fdoC t rs ⟨kd, xa, xb, xn⟩ xl xt).2) ∧ Pt w W' P T (i + 1) c1 t1 rs1 (i + 1) (nextC c ⟨kd, xa, xb, xn⟩) (fdoC t rs ⟨kd, xa, xb, xn⟩ xl xt).1.1 (fdoC t rs ⟨kd, xa, xb, xn⟩ xl xt).1.2) := fun W c1 t1 rs1 h => Pt.doT h H1.out.ows.tab (by omega) ⟨kd, xa, xb, xn⟩ xl xt
      have H1g := hide H1.out.grw
      simp only at HDn
      generalize nextC c ⟨kd, xa, xb, xn⟩ = c1 at *
      generalize (fdoC t rs ⟨kd, xa, xb, xn⟩ xl xt).1.1 = t1 at *
      generalize (fdoC t rs ⟨kd, xa, xb, xn⟩ xl xt).1.2 = rs1 at *
      generalize (fdoC t rs ⟨kd, xa, xb, xn⟩ xl xt).2 = rc at *
      have erc : (rc == rc) = true := by simp
      clear H1
      go_upto_region 6 with (fail)
      go_region_held3 (fun W => W.cell? ⟨bn, on + i * 6, none⟩ = some (iv kd) ∧ W.cell? ⟨bn, on + i * 6 + 1, none⟩ = some (iv xa) ∧ W.cell? ⟨bn, on + i * 6 + 2, none⟩ = some (iv xb) ∧ W.cell? ⟨bn, on + i * 6 + 3, none⟩ = some (iv xn) ∧ W.cell? ⟨bn, on + i * 6 + 4, none⟩ = some (iv xl) ∧ W.cell? ⟨bn, on + i * 6 + 5, none⟩ = some (iv xt)) (first | exact ⟨s0, s1, s2, s3, s4, s5⟩ | exact SC.out _ C1.out.grw | exact SC.out _ A1.out.grw | go_keep) (first | (go_at_call 22; with_reducible refine HDn.out.mono ?_; rintro e V3 ⟨rfl, a1'⟩; have A1 := hide a1'; clear a1') | (go_at_call 26; with_reducible refine (HDt.out _ _ _ _ A1.out).mono ?_; rintro e V4 ⟨rfl, c1'⟩; have C1 := hide c1'; clear c1') | fail)
      all_goals
        clear HDn HDt A1 SC HG s0 s1 s2 s3 s4 s5 hbn
        go_wp2_with fail
        go_roundw
        case rel => exact ⟨i + 1, c1, t1, rs1, by omega, rfl, by congr 1, C1⟩
        case measure => simp [intOf]; omega
    · have hii : decide ((i : Int) < (n : Int)) = false := decide_eq_false (by omega)
      have e : i = n := by omega
      subst e
      go_wp2_with fail
      go_ret3
      exact ⟨P, T, c, t, rs, rfl, H1.out⟩

end Go.Proofs.YtgiifgjjmffphafGreatDoor

/- handpostlaw.fibBegun ANSWERS true. -/
namespace Go.Proofs.YtgiifgjjmffphafGreatDoor
open Go.RowKit
attribute [local go_sem] Ext.all Ext.cell Ext.frozen Ext.lt Ext.lt1 Ext.lt2 Ext.ne Ext.ne'
theorem fbg_do : fdoC newT [] ⟨7, 2, 0, 1⟩ 1 1 = ((newT, [(1, 1, 2)]), 0) := by
  have e : ownC [] 2 1 1 1 = ([(1, 1, 2)], 0) := by decide +kernel
  unfold fdoC
  rw [if_pos rfl, e]
theorem fbg_hop : hpT newT 2 2 = 2 ∧ hpT newT 0 2 = -1 := by decide +kernel
theorem fbg_look : lookL [(1, 1, 2)] 200 = 2 ∧ lookL [(1, 1, -1)] 200 = -1 := by decide +kernel
theorem fbg_full2 : fullL newT 2 [(1, 1, 2)] = [(1, 1, 2)] := by unfold fullL; rw [List.map_cons, List.map_nil]; show [((1 : Int), (1 : Int), hpT newT 2 2)] = _; rw [fbg_hop.1]
theorem fbg_full0 : fullL newT 0 [(1, 1, 2)] = [(1, 1, -1)] := by unfold fullL; rw [List.map_cons, List.map_nil]; show [((1 : Int), (1 : Int), hpT newT 0 2)] = _; rw [fbg_hop.2]
theorem Pq.grw {w w1 : World} {P : Nat} {S : Nat → Prop} {c : Nat → Nat → Nat} {t : Tn} {n : Nat} {rs : List Rt} (H : Pq (fun b => b < w.heap.size) w w1 P S c t n rs) : Gr w w1 := H.kp.below (Nat.le_refl _) (fun _ h => h)
set_option maxRecDepth 20000 in
set_option maxHeartbeats 8000000 in
theorem fibBegun_ok (w : World) : Calls Tryz.prog 6 #[] w fun e w' => e = .returned (.bool true) ∧ Gr w w' := by
  have HD : Hid (∀ (X : World) (P : Nat) (S : Nat → Prop), Pq (fun b => b < w.heap.size) w X P S (fun _ _ => 0) newT 0 [] → Calls Tryz.prog 22 #[pv P, .agg #[iv 7, iv 2, iv 0, iv 1, iv 1, iv 1]] X fun e w' => e = .returned (iv 0) ∧ ∃ S' c n, Pq (fun b => b < w.heap.size) w w' P S' c newT n [(1, 1, 2)]) := fun X P S h => by
    have := h.do (by omega) ⟨7, 2, 0, 1⟩ 1 1
    rw [fbg_do] at this
    exact this.mono fun e w' ⟨he, S', h', _⟩ => ⟨he, S', _, _, h'⟩
  have HF2 : Hid (∀ (X : World) (P : Nat) (S : Nat → Prop) (c : Nat → Nat → Nat) (n : Nat), Pq (fun b => b < w.heap.size) w X P S c newT n [(1, 1, 2)] → Calls Tryz.prog 12 #[pv P, iv 2] X fun e w' => ∃ ub, e = .returned (pv ub) ∧ Is w' ub [(1, 1, 2)] ∧ Gr X w') := fun X P S c n h => by
    have := h.full (x := 2) (by decide)
    rw [fbg_full2] at this
    exact this
  have HF0 : Hid (∀ (X : World) (P : Nat) (S : Nat → Prop) (c : Nat → Nat → Nat) (n : Nat), Pq (fun b => b < w.heap.size) w X P S c newT n [(1, 1, 2)] → Calls Tryz.prog 12 #[pv P, iv 0] X fun e w' => ∃ ub, e = .returned (pv ub) ∧ Is w' ub [(1, 1, -1)] ∧ Gr X w') := fun X P S c n h => by
    have := h.full (x := 0) (by decide)
    rw [fbg_full0] at this
    exact this
  have TB2 : Hid (Tab [(1, 1, 2)]) := ⟨fun r hr => by rw [List.mem_singleton.1 hr]; decide, by simp, by decide⟩
  have TB0 : Hid (Tab [(1, 1, -1)]) := ⟨fun r hr => by rw [List.mem_singleton.1 hr]; decide, by simp, by decide⟩
  have L2 := hide fbg_look.1
  have L0 := hide fbg_look.2
  go_enter Tryz.func6, Tryz.ntmps6
  go_wp2_with (first
    | (go_at_call 24; with_reducible refine (fibNew_pq _).mono ?_; rintro e V1 ⟨P, S, rfl, h1', g1'⟩; have H1 := hide h1'; clear h1' g1')
    | (go_at_call 22; with_reducible refine (HD.out _ _ _ H1.out).mono ?_; rintro e V2 ⟨rfl, S2, c2, n2, h2'⟩; have H2 := hide h2'; clear h2')
    | (go_at_call 12; with_reducible refine (HF2.out _ _ _ _ _ H2.out).mono ?_; rintro e V3 ⟨ub, rfl, i3', g3'⟩; have I3 := hide i3'; have H3 := hide (H2.out.gr g3'); clear i3' g3')
    | (go_at_call 12; with_reducible refine (HF0.out _ _ _ _ _ H3.out).mono ?_; rintro e V4 ⟨vb, rfl, i4', g4'⟩; have J4 := hide i4'; have I4 := hide (I3.out.gr g4'); have H4 := hide (H3.out.gr g4'); clear i4' g4')
    | (go_at_call 19; with_reducible refine (I4.out.look TB2.out L2.out).mono ?_; rintro e V5 ⟨rfl, g5'⟩; have J5 := hide (J4.out.gr g5'); have H5 := hide (H4.out.gr g5'); clear g5')
    | (go_at_call 19; with_reducible refine (J5.out.look TB0.out L0.out).mono ?_; rintro e V6 ⟨rfl, g6'⟩; have H6 := hide (H5.out.gr g6'); clear g6')
    | (go_at_call 10; with_reducible refine (H6.out.owner 200).mono ?_; rintro e V7 ⟨he7, g7'⟩; rw [L2.out] at he7; subst he7; have H7 := hide (H6.out.gr g7'); clear g7')
    | (go_at_call 9; with_reducible refine (H7.out.owners).mono ?_; rintro e V8 ⟨ao8, cp8, rfl, r8', g8'⟩; have H8 := hide (H7.out.gr g8'); clear r8' g8')
    | (go_at_call 13; with_reducible refine (H8.out.small_no (x := 6) (by decide)).mono ?_; rintro e V9 ⟨rfl, g9'⟩; have H9 := hide (H8.out.gr g9'); clear g9')
    | fail)
  go_ret
  exact ⟨rfl, H9.out.grw⟩

end Go.Proofs.YtgiifgjjmffphafGreatDoor

/- FOR THE ROWS: what all frames name. -/
namespace Go.Proofs.YtgiifgjjmffphafGreatDoor
open Go.ChangeShapes Go.WideShapes Go.ChangeAt Go.RowKit Go.Joins Go.Deep

set_option maxRecDepth 20000

theorem Tryz.own : ownKnob Tryz.prog.godebug = none := by kernel_rfl
theorem Tryz.laidOutB : laidOutB Tryz.prog = true := by kernel_rfl
theorem Tryz.cells3 : Tryz.prog.cellsOf 3 = 1 := by kernel_rfl
theorem Tryz.cells48 : Tryz.prog.cellsOf 48 = 2 := by kernel_rfl

end Go.Proofs.YtgiifgjjmffphafGreatDoor

/- FOR THE ROWS: a prefix that comes in, opened; shut again. -/
namespace Go.Proofs.YtgiifgjjmffphafGreatDoor
open Go.ChangeShapes Go.WideShapes Go.ChangeAt Go.RowKit Go.Joins Go.Deep

set_option maxRecDepth 20000

section
variable {H : Type} {enc : TypeId × Value → H}

/-- A prefix as a datum. -/
abbrev pfxD (l b : Int) : DataW H := .agg [.lit (.int .i64 l), .lit (.int .i64 b)]

theorem open_pfx {W : World} {base : Nat} {v : Value} {d : DataW H} {p : List MemPlace} (hval : Value.okWide Tryz.prog W .any base 48 v) (h : DataW.Trod enc Tryz.prog W 0 (fun _ => true) true 48 v d p) :
    ∃ l b : Int, v = pfx l b ∧ d = pfxD l b ∧ p = [] ∧ (Lit.int .i64 l).wf = true ∧ (Lit.int .i64 b).wf = true := by
  obtain ⟨c0, c1, y0, y1, m, rfl, rfl, rfl, hy0, hy1⟩ := open_agg2 Tryz.underlying48 (by kernel_rfl) Tryz.cells48 hval h
  obtain ⟨a, e0, rfl, wa⟩ := DataW.trod_int Tryz.underlying3 hy0
  obtain ⟨b, e1, rfl, wb⟩ := DataW.trod_int Tryz.underlying3 hy1
  simp at e0 e1
  subst e0 e1
  exact ⟨a, b, rfl, rfl, rfl, wa, wb⟩

theorem shut_pfx {l b : Int} (wl : (Lit.int .i64 l).wf = true) (wb : (Lit.int .i64 b).wf = true) (W' : World) (k : Nat) (sp : Nat → Bool) (hd : Bool) :
    DataW.Trod enc Tryz.prog W' k sp hd 48 (pfx l b) (pfxD l b) [] :=
  shut_agg2 (y0 := (.lit (.int .i64 l), [])) (y1 := (.lit (.int .i64 b), [])) Tryz.underlying48 (by kernel_rfl) Tryz.cells48 ⟨1, by simp [DataW.trod, Tryz.underlying3, wl]⟩ ⟨1, by simp [DataW.trod, Tryz.underlying3, wb]⟩
end

end Go.Proofs.YtgiifgjjmffphafGreatDoor

/- FOR THE ROWS: a list of a net's steps that comes in, opened. -/
namespace Go.Proofs.YtgiifgjjmffphafGreatDoor
open Go.ChangeShapes Go.WideShapes Go.ChangeAt Go.RowKit Go.Joins Go.Deep

set_option maxRecDepth 20000

instance : Inhabited Sx := ⟨⟨⟨0, 0, 0, 0⟩, 0, 0⟩⟩
theorem Tryz.cells54 : Tryz.prog.cellsOf 54 = 6 := by kernel_rfl

section
variable {H : Type} {enc : TypeId × Value → H} {P : Program} {w : World} {base : Nat} {spare : Nat → Bool} {held : Bool}

theorem trod_struct5 {t : TypeId} {f0 f1 f2 f3 f4 : Field} {fuel : Nat} {cs : List Value} {x : DataW H × List MemPlace} (ht : P.underlying t = some (.struct #[f0, f1, f2, f3, f4])) (h : DataW.trod enc P w base spare held fuel t cs = some x) :
    ∃ y0 y1 y2 y3 y4 n, x = (.agg [y0.1, y1.1, y2.1, y3.1, y4.1], y0.2 ++ (y1.2 ++ (y2.2 ++ (y3.2 ++ y4.2)))) ∧ cs.length = P.cellsOf t ∧ DataW.trod enc P w base spare held n f0.type ((cs.drop f0.offset).take (P.cellsOf f0.type)) = some y0 ∧
      DataW.trod enc P w base spare held n f1.type ((cs.drop f1.offset).take (P.cellsOf f1.type)) = some y1 ∧ DataW.trod enc P w base spare held n f2.type ((cs.drop f2.offset).take (P.cellsOf f2.type)) = some y2 ∧
      DataW.trod enc P w base spare held n f3.type ((cs.drop f3.offset).take (P.cellsOf f3.type)) = some y3 ∧ DataW.trod enc P w base spare held n f4.type ((cs.drop f4.offset).take (P.cellsOf f4.type)) = some y4 := by
  obtain ⟨xs, n, _, rfl, hl, hlen, hf⟩ := DataW.trod_struct ht h
  match xs, hlen with
  | [y0, y1, y2, y3, y4], _ => exact ⟨y0, y1, y2, y3, y4, n, by simp, hl, by simpa using hf 0 f0 rfl, by simpa using hf 1 f1 rfl, by simpa using hf 2 f2 rfl, by simpa using hf 3 f3 rfl, by simpa using hf 4 f4 rfl⟩
end

section
variable {H : Type} {enc : TypeId × Value → H}

theorem step_cells {W : World} {base n : Nat} {sp : Nat → Bool} {hd : Bool} {cs : List Value} {x : DataW H × List MemPlace} (h : DataW.trod enc Tryz.prog W base sp hd n 54 cs = some x) : ∃ y : Sx, cs = [iv y.s.k, iv y.s.a, iv y.s.b, iv y.s.n, iv y.l, iv y.b] := by
  obtain ⟨y0, y1, y2, y3, y4, m, rfl, hl, h0, h1, h2, h3, h4⟩ := trod_struct5 Tryz.underlying54 h
  rw [Tryz.cells54] at hl
  obtain ⟨c0, c1, c2, c3, c4, c5, rfl⟩ : ∃ c0 c1 c2 c3 c4 c5, cs = [c0, c1, c2, c3, c4, c5] := by
    match cs, hl with
    | [c0, c1, c2, c3, c4, c5], _ => exact ⟨c0, c1, c2, c3, c4, c5, rfl⟩
  have e0 : DataW.trod enc Tryz.prog W base sp hd m 3 [c0] = some y0 := by simpa [Tryz.cells3] using h0
  have e1 : DataW.trod enc Tryz.prog W base sp hd m 3 [c1] = some y1 := by simpa [Tryz.cells3] using h1
  have e2 : DataW.trod enc Tryz.prog W base sp hd m 3 [c2] = some y2 := by simpa [Tryz.cells3] using h2
  have e3 : DataW.trod enc Tryz.prog W base sp hd m 3 [c3] = some y3 := by simpa [Tryz.cells3] using h3
  have e4 : DataW.trod enc Tryz.prog W base sp hd m 48 [c4, c5] = some y4 := by simpa [Tryz.cells48] using h4
  obtain ⟨z0, z1, k, _, _, i0, i1⟩ := trod_struct2 Tryz.underlying48 e4
  have f0 : DataW.trod enc Tryz.prog W base sp hd k 3 [c4] = some z0 := by simpa [Tryz.cells3] using i0
  have f1 : DataW.trod enc Tryz.prog W base sp hd k 3 [c5] = some z1 := by simpa [Tryz.cells3] using i1
  obtain ⟨a0, q0, _, _⟩ := DataW.trod_int Tryz.underlying3 e0
  obtain ⟨a1, q1, _, _⟩ := DataW.trod_int Tryz.underlying3 e1
  obtain ⟨a2, q2, _, _⟩ := DataW.trod_int Tryz.underlying3 e2
  obtain ⟨a3, q3, _, _⟩ := DataW.trod_int Tryz.underlying3 e3
  obtain ⟨a4, q4, _, _⟩ := DataW.trod_int Tryz.underlying3 f0
  obtain ⟨a5, q5, _, _⟩ := DataW.trod_int Tryz.underlying3 f1
  simp at q0 q1 q2 q3 q4 q5
  subst q0 q1 q2 q3 q4 q5
  exact ⟨⟨⟨a0, a1, a2, a3⟩, a4, a5⟩, rfl⟩

theorem open_steps {W : World} {base : Nat} {v : Value} {d : DataW H} {p : List MemPlace} (hval : Value.okWide Tryz.prog W .any base 22 v) (h : DataW.Trod enc Tryz.prog W 0 (fun _ => true) true 22 v d p) :
    ∃ ao n c, v = .slice ao n c ∧ ∃ ls : List Sx, SpAt W ao ls ∧ ls.length = n := by
  obtain ⟨a0, len, cap, rfl⟩ := okWide_slice Tryz.underlying22 hval
  refine ⟨a0, len, cap, rfl, ?_⟩
  obtain ⟨fuel, hf⟩ := h
  rcases open_slice Tryz.underlying22 hf with ⟨hcs, _⟩ | ⟨a, len', cap', m, n, D, Pl, hcs, _, hl, hm, hmm, _, hx⟩
  · simp [Value.cells] at hcs
    obtain ⟨rfl, rfl, rfl⟩ := hcs
    exact ⟨[], .inl rfl, rfl⟩
  · simp [Value.cells] at hcs
    obtain ⟨rfl, rfl, rfl⟩ := hcs
    simp only [if_true] at hmm
    subst hmm
    have each : ∀ i, i < len → ∃ r : Sx, W.cell? (a.add (i * 6)) = some (iv r.s.k) ∧ W.cell? ((a.add (i * 6)).add 1) = some (iv r.s.a) ∧ W.cell? ((a.add (i * 6)).add 2) = some (iv r.s.b) ∧ W.cell? ((a.add (i * 6)).add 3) = some (iv r.s.n) ∧ W.cell? ((a.add (i * 6)).add 4) = some (iv r.l) ∧ W.cell? ((a.add (i * 6)).add 5) = some (iv r.b) := by
      intro i hi
      obtain ⟨cs', h1, h2⟩ := hx i (by omega)
      rw [Tryz.cells54] at h1
      obtain ⟨_, hlen, hcell⟩ := World.cells?_some h1
      obtain ⟨y, rfl⟩ := step_cells h2
      refine ⟨y, ?_, ?_, ?_, ?_, ?_, ?_⟩
      · have := hcell 0 (by omega)
        simpa [Addr.add] using this
      · have := hcell 1 (by omega)
        simpa using this
      · have := hcell 2 (by omega)
        simpa using this
      · have := hcell 3 (by omega)
        simpa using this
      · have := hcell 4 (by omega)
        simpa using this
      · have := hcell 5 (by omega)
        simpa using this
    obtain ⟨f, hfn⟩ := choose_lt each
    refine ⟨(List.range len).map f, ?_, by simp⟩
    by_cases h0 : len = 0
    · subst h0; exact .inl rfl
    · right
      obtain ⟨b, o, sp⟩ := a
      have z := (hfn 0 (by omega)).1
      have hsp : sp = none := by
        cases sp with
        | none => rfl
        | some q => simp [Addr.add, World.cell?] at z; split at z <;> simp at z
      subst hsp
      refine ⟨b, o, rfl, World.block_lt_of_cell? W _ z, fun i hi => ?_⟩
      have hi' : i < len := by simpa using hi
      obtain ⟨k1, k2, k3, k4, k5, k6⟩ := hfn i hi'
      rw [Addr.add_lit] at k1
      rw [Addr.add_lit, Addr.add_lit] at k2 k3 k4 k5 k6
      simp only [List.getElem_map, List.getElem_range]
      exact ⟨k1, k2, k3, k4, k5, k6⟩
end

end Go.Proofs.YtgiifgjjmffphafGreatDoor

/- FOR THE ROWS OF LAYER 4: the library's table, as the rows list it. -/
namespace Go.Proofs.YtgiifgjjmffphafGreatDoor
open Go.ChangeShapes Go.WideShapes Go.ChangeAt Go.RowKit

theorem laid64_is : (Rows.laid_math_bits_deBruijn64tab : DataW Unit) = .agg (Lib.deBruijn64tab.map fun n : Nat => .lit (.int .u8 (n : Int))) := by kernel_rfl
theorem len64 : Lib.deBruijn64tab.length = 64 := by kernel_rfl
/-- What the condition gives: the table's cells. -/
theorem tab64_of {W : World} (h : laidMetH Tryz.prog [("math/bits.deBruijn32tab", Rows.laid_math_bits_deBruijn32tab), ("math/bits.deBruijn64tab", Rows.laid_math_bits_deBruijn64tab)] W) : Tab64 W := fun r hr => by
  rw [len64] at hr
  rw [MakeChecks.laidMetH_plain _ _ _ (by kernel_rfl)] at h
  obtain ⟨ps, ⟨g0, t0, cs0, f0, p0, q0, hg0, ht0, hv0, hd0, ⟨g, t, cs, fuel, p, q, hg, ht, hv, hd, _, _⟩, _⟩, _, _⟩ := h
  obtain rfl := Option.some.inj ((show Tryz.prog.globalNamed "math/bits.deBruijn64tab" = some 1 by kernel_rfl).symm.trans hg)
  obtain rfl := Option.some.inj ((show (Tryz.prog.globals[1]?).map (·.type) = some 155 by kernel_rfl).symm.trans ht)
  obtain ⟨xs, m, _, ex, _, hl, hel⟩ := DataW.trod_array Tryz.underlying155 hd
  have c5 : Tryz.prog.cellsOf 5 = 1 := by kernel_rfl
  have hE := hel r hr
  rw [c5, Nat.mul_one, List.getElem?_eq_getElem (by omega)] at hE
  obtain ⟨z, e1, e2, _⟩ := DataW.trod_int Tryz.underlying5 hE
  have hlen := len64
  have e3 : (xs.map (·.1)) = Lib.deBruijn64tab.map fun n : Nat => .lit (.int .u8 (n : Int)) := (DataW.agg.inj (laid64_is.symm.trans (Prod.mk.inj ex).1)).symm
  have e4 : (xs.map (·.1))[r]? = (Lib.deBruijn64tab.map fun n : Nat => (DataW.lit (.int .u8 (n : Int)) : DataW Unit))[r]? := by rw [e3]
  rw [List.getElem?_map, List.getElem?_map, List.getElem?_eq_getElem (by omega : r < xs.length), List.getElem?_eq_getElem (by omega : r < Lib.deBruijn64tab.length), e2] at e4
  have hz : z = ((Lib.deBruijn64tab.getD r 0 : Nat) : Int) := by
    simp only [Option.map_some, Option.some.injEq, DataW.lit.injEq, Lit.int.injEq, true_and] at e4
    rw [e4, List.getD, List.getElem?_eq_getElem (by omega : r < Lib.deBruijn64tab.length)]; rfl
  rw [World.var?_cell hg hv r, ← hz]
  have : cs.toList[r]? = some (.int .u8 z) := by
    have h0 : ((cs.toList.drop r).take 1)[0]? = some (.int .u8 z) := by rw [e1]; rfl
    simpa using h0
  simpa using this

end Go.Proofs.YtgiifgjjmffphafGreatDoor
