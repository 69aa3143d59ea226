import Derived.Test.YtcgflhjgllpohafGreatDoorFw1
import Derived.Test.YtcgflhjgllpohafGreatDoorW8
import Derived.Test.YtcgflhjgllpohafGreatDoorLPlain2
import Derived.Test.YtcgflhjgllpohafGreatDoorRInv
import Derived.Test.YtcgflhjgllpohafGreatDoorPo4
import Derived.Test.YtcgflhjgllpohafGreatDoorTw21
import Derived.Test.YtcgflhjgllpohafGreatDoorTw2
import Derived.Deep.RegionHeld3
import Derived.Test.YtcgflhjgllpohafGreatDoorS5
import Derived.ProofKit
import Derived.OpenShut
import Derived.Lib.SmallJoins
import Derived.Deep.Slices
import Derived.Carry
import Derived.Test.YtcgflhjgllpohafGreatDoorPo0
import Derived.Deep.Strs
import Derived.Test.YtcgflhjgllpohafGreatDoorW2
import Derived.LaidMore
import Derived.Lay
import Derived.Stop.Joined
import Derived.Test.YtcgflhjgllpohafGreatDoorNtPlain6
/- THE REFERENCE'S Town: Small. -/
namespace Go.Proofs.YtcgflhjgllpohafGreatDoor
open Go.RowKit
attribute [local go_sem] Ext.all Ext.cell Ext.frozen Ext.lt Ext.lt1 Ext.lt2 Ext.ne Ext.ne'
theorem want_own {B : World} {g : Nat} {rs : List Rt} (hT : Tab rs) (H : Nums B g 0 256 (fun j => lookL rs j)) :
    Calls Tryz.prog 40 #[pfx 0 0, .slice (some ⟨g, 0, none⟩) 256 256, iv (-1)] B fun e w' => ∃ ao c, e = .returned (.slice ao (lstL rs).length c) ∧ Own B w' (.slice ao (lstL rs).length c) (lstL rs) ∧ Gr B w' := by
  refine (leastOf_any (fun j => lookL rs j) (fun j => hT.hops j) g 8 0 0 0 256 256 (-1) B SpT.root rfl (by decide) (by decide) (by decide) H).mono ?_
  rintro e w' ⟨v, rfl, o, g⟩
  obtain ⟨ao, c, rfl, _, _⟩ := o.shape
  exact ⟨ao, c, rfl, o, g⟩
theorem all_num0 {X : World} {g : Nat} {f : Nat → Int} (h : g < X.heap.size) (k : ∀ j : Nat, j < 256 → X.cell? ⟨g, j, none⟩ = some (iv (f j))) : Nums X g 0 256 f := ⟨h, fun j hj => by rw [Nat.zero_add]; exact k j hj⟩
section
variable {M N : Nat → Prop} {B w w' : World} {p : Nat} {q : Nat → Nat} {v o : Value} {t : Tn}
set_option maxRecDepth 20000 in
set_option maxHeartbeats 8000000 in
theorem wsmall_any {c : Nat → Nat → Nat} {ao : Option Addr} {cp : Nat} {rs : List Rt} (H : Tw M B w p q v (.slice ao rs.length cp) t) (A : TnA t c) (hR : RowAt w N ao rs) (hT : Tab rs) (n : Int) :
    Calls Tryz.prog 19 #[pv p, iv n] w fun e w' => ∃ u, e = .returned u ∧ Own w w' u (lstL (fullL t n rs)) ∧ Gr w w' := by
  have hlen := hT.len
  have HF := hide (wfull_any H hR (by omega) n)
  have TF := hide (full_tab A n hT)
  have hsl : (lstL (fullL t n rs)).length ≤ 40 := (lst_tab TF.out).len
  generalize fullL t n rs = fs at *
  have HA := hide (fun (X : World) (ao : Option Addr) (c : Nat) (h : RowAt X (fun k => w.heap.size ≤ k) ao fs) => allOf_any X _ ao fs.length c fs h rfl TF.out.toSrt)
  have HL := hide (fun (X : World) (g : Nat) (h : Nums X g 0 256 (fun j => lookL fs j)) => want_own TF.out h)
  clear H hR
  generalize lstL fs = ss at *
  have hd : decide ((40 : Int) < (ss.length : Int)) = false := decide_eq_false (by omega)
  have hd2 : ¬ (40 : Int) < (ss.length : Int) := by omega
  go_enter Tryz.func19, Tryz.ntmps19
  go_wp2_with (first
    | (go_at_call 18; with_reducible refine HF.out.mono ?_; rintro e w1 ⟨u1, rfl, o1, g1⟩; obtain ⟨ao1, c1, hu1, _, r1⟩ := o1.shape; subst hu1; have R1 := hide r1; have G1 := hide g1; clear o1 r1 g1)
    | (go_at_call 41; refine (HA.out _ _ _ R1.out).mono ?_; rintro e _ ⟨g2, rfl, hl2, hc2, d2, rfl⟩; have N2 := hide (all_num0 (f := fun j => lookL fs j) hl2 hc2); clear hl2 hc2)
    | (go_at_call 40; with_reducible refine (HL.out _ _ N2.out).mono ?_; rintro e w3 ⟨ao3, c3, rfl, o3, g3⟩; have O3 := hide o3; have G3 := hide g3; clear o3 g3)
    | fail)
  go_ret
  exact ⟨_, rfl, O3.out.mono (G1.out.ext d2), (G1.out.ext d2).trans G3.out⟩
end

end Go.Proofs.YtcgflhjgllpohafGreatDoor

/- FOR THE LAWS OF A POST: a Post, and the reference's Town with its owners, as objects with their own blocks. -/
namespace Go.Proofs.YtcgflhjgllpohafGreatDoor
open Go.RowKit

/-- A Post at P whose own blocks are S. -/
def Pq (M : Nat → Prop) (B w : World) (P : Nat) (S : Nat → Prop) (c : Nat → Nat → Nat) (t : Tn) (n : Nat) (rs : List Rt) : Prop :=
  ∃ p k q v tb u, Po M B w P p k q v tb u c t n rs ∧ S = ownP P p k q v tb u
/-- The block of a list that is not empty. -/
def blkL (ao : Option Addr) (rs : List Rt) (b : Nat) : Prop := rs ≠ [] ∧ ∃ o, ao = some ⟨b, o, none⟩
theorem RowAt.blk {w : World} {M : Nat → Prop} {ao : Option Addr} {rs : List Rt} (h : RowAt w M ao rs) : RowAt w (fun b => M b ∧ blkL ao rs b) ao rs := by
  by_cases h0 : rs = []
  · exact .inl h0
  · rcases h with h | ⟨b, o, ha, hb, hm, hc⟩
    · exact absurd h h0
    · exact .inr ⟨b, o, ha, hb, ⟨hm, h0, o, ha⟩, hc⟩
theorem RowAt.lstM {w : World} {M : Nat → Prop} {ao : Option Addr} {rs : List Rt} (h : RowAt w M ao rs) {b : Nat} (hb : blkL ao rs b) : M b ∧ b < w.heap.size := by
  rcases h with h | ⟨b', o', ha, hl, hm, _⟩
  · exact absurd h hb.1
  · obtain ⟨_, o, e⟩ := hb
    rw [ha] at e
    cases e
    exact ⟨hm, hl⟩
/-- The reference's Town at T, with its owners. -/
def Tq (M : Nat → Prop) (B w : World) (T : Nat) (S : Nat → Prop) (c : Nat → Nat → Nat) (t : Tn) (n : Nat) (rs : List Rt) : Prop :=
  ∃ Q V ao cp, Tl M B w T Q V (.slice ao rs.length cp) c t n ∧ rs.length ≤ cp ∧ RowAt w (fun b => ¬ ownT T Q V b ∧ ¬ M b) ao rs ∧ S = fun b => ownT T Q V b ∨ blkL ao rs b
section
variable {M N : Nat → Prop} {B w w' : World} {P T : Nat} {S : Nat → Prop} {c : Nat → Nat → Nat} {t : Tn} {n : Nat} {rs : List Rt}
theorem Pq.gr (H : Pq M B w P S c t n rs) (g : Gr w w') : Pq M B w' P S c t n rs := by
  obtain ⟨p, k, q, v, tb, u, h, e⟩ := H
  exact ⟨p, k, q, v, tb, u, h.gr g, e⟩
theorem Pq.keep (H : Pq M B w P S c t n rs) (hk : Kp N w w') (hMN : ∀ b, M b → N b) (hS : ∀ b, S b → N b) : Pq M B w' P S c t n rs := by
  obtain ⟨p, k, q, v, tb, u, h, e⟩ := H
  subst e
  exact ⟨p, k, q, v, tb, u, h.keep hk hMN hS, rfl⟩
theorem Pq.lt (H : Pq M B w P S c t n rs) {b : Nat} (hb : S b) : b < w.heap.size := by
  obtain ⟨p, k, q, v, tb, u, h, e⟩ := H
  subst e
  exact h.lt hb
theorem Pq.out (H : Pq M B w P S c t n rs) {b : Nat} (hm : M b) : b < w.heap.size ∧ ¬ S b := by
  obtain ⟨p, k, q, v, tb, u, h, e⟩ := H
  subst e
  exact h.out hm
theorem Pq.ows (H : Pq M B w P S c t n rs) : Ows rs := by
  obtain ⟨p, k, q, v, tb, u, h, e⟩ := H
  exact h.ows
theorem Pq.a (H : Pq M B w P S c t n rs) : TnA t c := by
  obtain ⟨p, k, q, v, tb, u, h, e⟩ := H
  exact h.net.a
theorem Pq.kp (H : Pq M B w P S c t n rs) : Kp M B w := by
  obtain ⟨p, k, q, v, tb, u, h, e⟩ := H
  exact h.net.h.kp
theorem Pq.do (H : Pq M B w P S c t n rs) (hn : n ≤ 100000) (x : Sp) (l b : Int) :
    Calls Tryz.prog 24 #[pv P, .agg #[iv x.k, iv x.a, iv x.b, iv x.n, iv l, iv b]] w fun e w' => e = .returned (iv (fdoC t rs x l b).2) ∧ ∃ S', Pq M B w' P S' (nextC c x) (fdoC t rs x l b).1.1 (n + 1) (fdoC t rs x l b).1.2 ∧ Chg w w' S S' := by
  obtain ⟨p, k, q, v, tb, u, h, e⟩ := H
  subst e
  refine (fibDo_po h hn x l b).mono ?_
  rintro e w' ⟨he, v', u', h', ch⟩
  exact ⟨he, _, ⟨p, k, q, v', tb, u', h', rfl⟩, ch⟩
theorem Pq.owners (H : Pq M B w P S c t n rs) : Calls Tryz.prog 11 #[pv P] w fun e w' => ∃ ao cp, e = .returned (.slice ao rs.length cp) ∧ RowAt w' (fun k => w.heap.size ≤ k) ao rs ∧ Gr w w' := by
  obtain ⟨p, k, q, v, tb, u, h, e⟩ := H
  exact fibOwners_po h
theorem Pq.owner (H : Pq M B w P S c t n rs) (a : Int) : Calls Tryz.prog 12 #[pv P, iv a] w fun e w' => e = .returned (iv (lookL rs a)) ∧ Gr w w' := by
  obtain ⟨p, k, q, v, tb, u, h, e⟩ := H
  exact fibOwner_po h a
theorem Pq.full (H : Pq M B w P S c t n rs) {x : Int} (hx : isN x) : Calls Tryz.prog 14 #[pv P, iv x] w fun e w' => ∃ ub, e = .returned (pv ub) ∧ Is w' ub (fullL t x rs) ∧ Gr w w' := by
  obtain ⟨p, k, q, v, tb, u, h, e⟩ := H
  exact (fibFull_po h hx).mono fun _ _ ⟨ub, z, he, ht, hg⟩ => ⟨ub, he, ⟨_, z, ht⟩, hg⟩
theorem Pq.full_no (H : Pq M B w P S c t n rs) {x : Int} (hx : ¬ isN x) : Calls Tryz.prog 14 #[pv P, iv x] w fun e w' => e = .returned (.pointer none) ∧ Gr w w' := by
  obtain ⟨p, k, q, v, tb, u, h, e⟩ := H
  exact fibFull_no h hx
theorem Pq.small (H : Pq M B w P S c t n rs) (h64 : Tab64 w) {x : Int} (hx : isN x) : Calls Tryz.prog 15 #[pv P, iv x] w fun e w' => ∃ ub, e = .returned (pv ub) ∧ Is w' ub (lstL (fullL t x rs)) ∧ Gr w w' := by
  obtain ⟨p, k, q, v, tb, u, h, e⟩ := H
  exact (fibSmall_po h h64 hx).mono fun _ _ ⟨ub, z, he, ht, hg⟩ => ⟨ub, he, ⟨_, z, ht⟩, hg⟩
theorem Pq.small_no (H : Pq M B w P S c t n rs) {x : Int} (hx : ¬ isN x) : Calls Tryz.prog 15 #[pv P, iv x] w fun e w' => e = .returned (.pointer none) ∧ Gr w w' := by
  obtain ⟨p, k, q, v, tb, u, h, e⟩ := H
  exact fibSmall_no h hx
/-- The embedded Net, asked for a way. -/
theorem Pq.way (H : Pq M B w P S c t n rs) : ∃ p, P < w.heap.size ∧ w.cell? ⟨P, 0, none⟩ = some (pv p) ∧ ∀ X, Gr w X → ∀ a z : Int, Calls Tryz.prog 36 #[pv p, iv a, iv z] X fun e w' => ∃ s d, e = .returned (.agg #[iv s, iv d, iv (hpT t a z)]) ∧ Gr X w' := by
  obtain ⟨p, k, q, v, tb, u, h, e⟩ := H
  refine ⟨p, lt_of_block h.blk, (cells2 h.blk).1, fun X g a z => ?_⟩
  exact (netWay_any (h.net.h.ext g) a z).mono fun e w' ⟨he, d', hd'⟩ => ⟨(wayTn t a z).1, (wayTn t a z).2.1, by rw [he, ← hp_way]; rfl, by rw [hd']; exact d'.gr⟩
theorem Tq.gr (H : Tq M B w T S c t n rs) (g : Gr w w') : Tq M B w' T S c t n rs := by
  obtain ⟨Q, V, ao, cp, h, hc, hr, e⟩ := H
  exact ⟨Q, V, ao, cp, h.ext g, hc, hr.gr g, e⟩
theorem Tq.keep (H : Tq M B w T S c t n rs) (hk : Kp N w w') (hMN : ∀ b, M b → N b) (hS : ∀ b, S b → N b) : Tq M B w' T S c t n rs := by
  obtain ⟨Q, V, ao, cp, h, hc, hr, e⟩ := H
  subst e
  refine ⟨Q, V, ao, cp, ⟨h.h.keep hk hMN (hS _ (.inl (.inl rfl))) (fun a ha => hS _ (.inl (.inr (.inl ⟨a, ha, rfl⟩)))) (fun b e => hS b (.inl (.inr (.inr e)))), h.a, h.l, h.g⟩, hc, ?_, rfl⟩
  exact (hr.blk.kept (hk.mono fun b _ hb => hS b (.inr hb.2))).mono fun b _ hb => hb.1
theorem Tq.lt (H : Tq M B w T S c t n rs) {b : Nat} (hb : S b) : b < w.heap.size := by
  obtain ⟨Q, V, ao, cp, h, hc, hr, e⟩ := H
  subst e
  rcases hb with hb | hb
  · exact h.h.own_lt hb
  · exact (hr.lstM hb).2
theorem restT_not {Q : Nat → Nat} {V : Value} {b : Nat} (hb : restT w T Q V b) : ¬ ownT T Q V b := by
  rintro (e | ⟨a, ha, e⟩ | e)
  · exact hb.2.1 e
  · exact hb.2.2.1 a ha e
  · exact hb.2.2.2 e
theorem restT_of {Q : Nat → Nat} {V : Value} {b : Nat} (hb : b < w.heap.size) (h : ¬ ownT T Q V b) : restT w T Q V b :=
  ⟨hb, fun e => h (.inl e), fun a ha e => h (.inr (.inl ⟨a, ha, e⟩)), fun e => h (.inr (.inr e))⟩
theorem Tq.out (H : Tq M B w T S c t n rs) {b : Nat} (hm : M b) : b < w.heap.size ∧ ¬ S b := by
  obtain ⟨Q, V, ao, cp, h, hc, hr, e⟩ := H
  subst e
  refine ⟨(h.h.sub hm).1, ?_⟩
  rintro (hb | hb)
  · exact restT_not (h.h.sub hm) hb
  · exact (hr.lstM hb).1.2 hm
theorem FrW.nw {Q : Nat → Nat} {V V' : Value} (f : FrW w T Q V w' V') {b : Nat} (hb : ownT T Q V' b) : ownT T Q V b ∨ w.heap.size ≤ b := by
  by_cases h : ownT T Q V b
  · exact .inl h
  · by_cases hl : b < w.heap.size
    · exact absurd hb (restT_not (f.rst (restT_of hl h)))
    · exact .inr (by omega)
theorem Tq.do (H : Tq M B w T S c t n rs) (hT : Tab rs) (hn : n ≤ 100000) (x : Sp) (l b : Int) :
    Calls Tryz.prog 34 #[pv T, .agg #[iv x.k, iv x.a, iv x.b, iv x.n, iv l, iv b]] w fun e w' => e = .returned (iv (fdoC t rs x l b).2) ∧ ∃ S', Tq M B w' T S' (nextC c x) (fdoC t rs x l b).1.1 (n + 1) (fdoC t rs x l b).1.2 ∧ Chg w w' S S' := by
  obtain ⟨Q, V, ao, cp, h, hc, hr, e⟩ := H
  subst e
  by_cases h7 : x.k = 7
  · obtain ⟨ss, code, hs⟩ : ∃ ss code, ownC rs x.a x.n l b = (ss, code) := ⟨_, _, rfl⟩
    have e1 : fdoC t rs x l b = ((t, ss), code) := by unfold fdoC; rw [if_pos h7, hs]
    have e2 : nextC c x = c := by unfold nextC; rw [if_neg (by omega)]
    rw [e1, e2]
    obtain ⟨kd, xa, xb, xn⟩ := x
    simp only at h7 hs
    subst h7
    refine (wdo_own (N := fun k => (¬ ownT T Q V k ∧ ¬ M k) ∧ blkL ao rs k) h.h hc hr.blk (fun e => e.1.1 (.inl rfl)) hT xa xb xn l b hs).mono ?_
    rintro e w' ⟨he, ao', cp', hTw, hcp, hrow, hk⟩
    have hsz := hk.size
    have hrow' : RowAt w' (fun b => ¬ ownT T Q V b ∧ ¬ M b) ao' ss := hrow.mono fun k _ hk => by
      rcases hk with q | q
      · exact q.1
      · exact ⟨fun ho => by have := h.h.own_lt ho; omega, fun hm => by have := (h.h.sub hm).1; omega⟩
    refine ⟨he, _, ⟨Q, V, ao', cp', ⟨hTw, h.a, h.l, fun k hk => by have := h.g k hk; show agT t k ≤ _; omega⟩, hcp, hrow', rfl⟩, ⟨hk.mono fun b _ hb e => hb.2 (.inl (.inl e)), ?_⟩⟩
    rintro b' (hb | hb)
    · exact .inl (.inl hb)
    · rcases (hrow.lstM hb).1 with q | q
      · exact .inl (.inr q.2)
      · exact .inr q
  · have e1 : fdoC t rs x l b = (((doT t x).1, rs), (doT t x).2) := by unfold fdoC; rw [if_neg h7]
    rw [e1]
    refine (h.do' hn x h7 (iv l) (iv b)).mono ?_
    rintro e w' ⟨V', he, h', f⟩
    have hrow' : RowAt w' (fun b => ¬ ownT T Q V' b ∧ ¬ M b) ao rs := by
      have h1 : RowAt w (fun b => restT w T Q V b ∧ ¬ M b) ao rs := hr.mono fun k hk hh => ⟨restT_of hk hh.1, hh.2⟩
      exact (h1.kept (f.kp.mono fun _ _ hb => hb.1)).mono fun k _ hk => ⟨restT_not (f.rst hk.1), hk.2⟩
    refine ⟨he, _, ⟨Q, V', ao, cp, h', hc, hrow', rfl⟩, ⟨f.kp.mono fun b _ hb => restT_of hb.1 (fun ho => hb.2 (.inl ho)), ?_⟩⟩
    rintro b' (hb | hb)
    · rcases f.nw hb with q | q
      · exact .inl (.inl q)
      · exact .inr q
    · exact .inl (.inr hb)
/-- What is done to one object leaves another one. -/
theorem Pq.beside {S1 S2 S2' : Nat → Prop} (H : Pq M B w P S1 c t n rs) (hM : ∀ b, M b → b < w.heap.size ∧ ¬ S2 b) (ap : ∀ b, S1 b → ¬ S2 b) (k : Chg w w' S2 S2') : Pq M B w' P S1 c t n rs ∧ ∀ b, S1 b → ¬ S2' b :=
  ⟨H.keep k.kp hM (fun b hb => ⟨H.lt hb, ap b hb⟩), fun b hb h2 => by
    rcases k.nw b h2 with q | q
    · exact ap b hb q
    · have := H.lt hb; omega⟩
theorem Tq.beside {S1 S2 S2' : Nat → Prop} (H : Tq M B w T S1 c t n rs) (hM : ∀ b, M b → b < w.heap.size ∧ ¬ S2 b) (ap : ∀ b, S1 b → ¬ S2 b) (k : Chg w w' S2 S2') : Tq M B w' T S1 c t n rs ∧ ∀ b, S1 b → ¬ S2' b :=
  ⟨H.keep k.kp hM (fun b hb => ⟨H.lt hb, ap b hb⟩), fun b hb h2 => by
    rcases k.nw b h2 with q | q
    · exact ap b hb q
    · have := H.lt hb; omega⟩
theorem Tq.wfull (H : Tq M B w T S c t n rs) (hm : rs.length ≤ 1000) (x : Int) : Calls Tryz.prog 18 #[pv T, iv x] w fun e w' => ∃ u, e = .returned u ∧ Own w w' u (fullL t x rs) ∧ Gr w w' := by
  obtain ⟨Q, V, ao, cp, h, hc, hr, e⟩ := H
  exact wfull_any h.h hr hm x
theorem Tq.wsmall (H : Tq M B w T S c t n rs) (hT : Tab rs) (x : Int) : Calls Tryz.prog 19 #[pv T, iv x] w fun e w' => ∃ u, e = .returned u ∧ Own w w' u (lstL (fullL t x rs)) ∧ Gr w w' := by
  obtain ⟨Q, V, ao, cp, h, hc, hr, e⟩ := H
  exact wsmall_any h.h h.a hr hT x
/-- The owners' list, as the law reads it. -/
theorem Tq.owns (H : Tq M B w T S c t n rs) : ∃ ao cp, T < w.heap.size ∧ w.cell? ⟨T, 43, none⟩ = some (.slice ao rs.length cp) ∧ RowAt w (fun _ => True) ao rs := by
  obtain ⟨Q, V, ao, cp, h, hc, hr, e⟩ := H
  exact ⟨ao, cp, h.h.blk.lt, h.h.ownCell, hr.mono fun _ _ _ => trivial⟩
end

end Go.Proofs.YtcgflhjgllpohafGreatDoor

/- FOR THE LAWS OF A POST: handpostlaw.posts. -/
namespace Go.Proofs.YtcgflhjgllpohafGreatDoor
open Go.RowKit
attribute [local go_sem] Ext.all Ext.cell Ext.frozen Ext.lt Ext.lt1 Ext.lt2 Ext.ne Ext.ne'
/-- A Post and a Town beside each other, in a world that has left all that was in w. -/
def Pt (w w' : World) (P T : Nat) (n : Nat) (c : Nat → Nat → Nat) (t : Tn) (rs : List Rt) (n' : Nat) (c' : Nat → Nat → Nat) (t' : Tn) (rs' : List Rt) : Prop :=
  ∃ S1 S2, Pq (fun b => b < w.heap.size) w w' P S1 c t n rs ∧ Tq (fun b => b < w.heap.size) w w' T S2 c' t' n' rs' ∧ ∀ b, S1 b → ¬ S2 b
section
variable {w w1 w' : World} {P T n n' : Nat} {c c' : Nat → Nat → Nat} {t t' : Tn} {rs rs' : List Rt}
theorem Pt.grw (H : Pt w w1 P T n c t rs n' c' t' rs') : Gr w w1 := by
  obtain ⟨S1, S2, h1, h2, ap⟩ := H
  exact h1.kp.below (Nat.le_refl _) (fun _ h => h)
theorem Pt.gr (H : Pt w w1 P T n c t rs n' c' t' rs') (g : Gr w1 w') : Pt w w' P T n c t rs n' c' t' rs' := by
  obtain ⟨S1, S2, h1, h2, ap⟩ := H
  exact ⟨S1, S2, h1.gr g, h2.gr g, ap⟩
theorem Pt.doP (H : Pt w w1 P T n c t rs n' c' t' rs') (hn : n ≤ 100000) (x : Sp) (l b : Int) :
    Calls Tryz.prog 24 #[pv P, .agg #[iv x.k, iv x.a, iv x.b, iv x.n, iv l, iv b]] w1 fun e w' => e = .returned (iv (fdoC t rs x l b).2) ∧ Pt w w' P T (n + 1) (nextC c x) (fdoC t rs x l b).1.1 (fdoC t rs x l b).1.2 n' c' t' rs' := by
  obtain ⟨S1, S2, h1, h2, ap⟩ := H
  refine (h1.do hn x l b).mono ?_
  rintro e w' ⟨he, S1', h1', ch⟩
  obtain ⟨h2', ap'⟩ := h2.beside (fun b hb => h1.out hb) (fun b hb hs => ap b hs hb) ch
  exact ⟨he, S1', S2, h1', h2', fun b hb hs => ap' b hs hb⟩
theorem Pt.doT (H : Pt w w1 P T n c t rs n' c' t' rs') (hT : Tab rs') (hn : n' ≤ 100000) (x : Sp) (l b : Int) :
    Calls Tryz.prog 34 #[pv T, .agg #[iv x.k, iv x.a, iv x.b, iv x.n, iv l, iv b]] w1 fun e w' => e = .returned (iv (fdoC t' rs' x l b).2) ∧ Pt w w' P T n c t rs (n' + 1) (nextC c' x) (fdoC t' rs' x l b).1.1 (fdoC t' rs' x l b).1.2 := by
  obtain ⟨S1, S2, h1, h2, ap⟩ := H
  refine (h2.do hT hn x l b).mono ?_
  rintro e w' ⟨he, S2', h2', ch⟩
  obtain ⟨h1', ap'⟩ := h1.beside (fun b hb => h2.out hb) ap ch
  exact ⟨he, S1, S2', h1', h2', ap'⟩
theorem Pt.ows (H : Pt w w1 P T n c t rs n' c' t' rs') : Ows rs := by
  obtain ⟨S1, S2, h1, h2, ap⟩ := H
  exact h1.ows
theorem Pt.a (H : Pt w w1 P T n c t rs n' c' t' rs') : TnA t c := by
  obtain ⟨S1, S2, h1, h2, ap⟩ := H
  exact h1.a
theorem fibNew_pq (w : World) : Calls Tryz.prog 32 #[] w fun e w' => ∃ P S, e = .returned (pv P) ∧ Pq (fun b => b < w.heap.size) w w' P S (fun _ _ => 0) newT 0 [] ∧ Gr w w' :=
  (fibNew_po w _ (fun _ h => h)).mono fun _ _ ⟨P, p, k, q, v, tb, u, he, h, g, _⟩ => ⟨P, _, he, ⟨p, k, q, v, tb, u, h, rfl⟩, g⟩
theorem newTown_pt {S : Nat → Prop} (H : Pq (fun b => b < w.heap.size) w w1 P S c t n rs) : Calls Tryz.prog 33 #[] w1 fun e w' => ∃ T, e = .returned (pv T) ∧ Pt w w' P T n c t rs 0 (fun _ _ => 0) newT [] := by
  have hk := H.kp
  refine (newTown_ok w1 (fun b => b < w.heap.size) (fun b hb => Nat.lt_of_lt_of_le hb hk.size)).mono ?_
  rintro e w' ⟨q, he, hT, g, hq⟩
  have hT' : Tw (fun b => b < w.heap.size) w w' w1.heap.size q (.slice none 0 0) (.slice none 0 0) newT := ⟨hk.trans hT.kp, fun _ h => h, hT.blk, hT.six, hT.nw, hT.nop, hT.noq, hT.nov⟩
  refine ⟨_, he, S, _, H.gr g, ⟨q, .slice none 0 0, none, 0, ⟨hT', new_a, by show ([] : List Nw).length ≤ 40; simp, fun k hk => ?_⟩, Nat.le_refl _, .inl rfl, rfl⟩, ?_⟩
  · have : agT newT k = 0 := by rcases (show k = 0 ∨ k = 1 ∨ k = 2 ∨ k = 3 ∨ k = 4 ∨ k = 5 by omega) with rfl | rfl | rfl | rfl | rfl | rfl <;> rfl
    omega
  · rintro b hb ((e | ⟨a, ha, e⟩ | e) | h)
    · have := H.lt hb; omega
    · have := H.lt hb; have := hq a ha; omega
    · cases e
    · exact h.1 rfl
end
set_option maxRecDepth 20000 in
set_option maxHeartbeats 8000000 in
theorem posts_any (w : World) (ao : Option Addr) (n cp : Nat) (l : List Sx) (H : SpAt w ao l) (hn : l.length = n) (h150 : n ≤ 150) :
    Calls Tryz.prog 9 #[.slice ao n cp] w fun e w' => ∃ P T c t rs, e = .returned (.tuple #[pv P, pv T, .bool true]) ∧ Pt w w' P T n c t rs n c t rs := by
  have HS := hide (fun (X : World) (g : Gr w X) => H.gr g)
  have HNL := hide hn
  clear H hn
  go_enter Tryz.func9, Tryz.ntmps9
  go_wp2_with (first
    | (go_at_call 32; with_reducible refine (fibNew_pq _).mono ?_; rintro e V1 ⟨P, S, rfl, h1', g1'⟩; have H1 := hide h1'; clear h1' g1')
    | (go_at_call 33; with_reducible refine (newTown_pt H1.out).mono ?_; rintro e V2 ⟨T, rfl, h2'⟩; have H2 := hide h2'; clear h2')
    | fail)
  clear H1
  go_loopw [7, 8] (fun v7 v8 wr => ∃ (i : Nat) (c : Nat → Nat → Nat) (t : Tn) (rs : List Rt), i ≤ n ∧ v7 = .bool true ∧ v8 = .int .i64 (i : Int) ∧ Hid (Pt w wr P T i c t rs i c t rs)) (fun _ v8 _ => (n - intOf v8).toNat)
  case atStart => exact ⟨0, _, newT, [], by omega, rfl, rfl, H2⟩
  case round =>
    clear H2
    obtain ⟨i, c, t, rs, hin, rfl, rfl, H1⟩ := hrel
    by_cases hi : i < n
    · have hii : decide ((i : Int) < (n : Int)) = true := decide_eq_true (by omega)
      have hi0 : (i : Int) < (n : Int) := by omega
      have hil : i < l.length := by have := HNL.out; omega
      have wi : IntKind.i64.wrap ((i : Int) + 1) = (i : Int) + 1 := by rw [IntKind.wrap_i64]; omega
      obtain ⟨bn, on, hao, hbn, s0, s1, s2, s3, s4, s5⟩ := (HS.out _ H1.out.grw).get hil
      have HG := hide (fun (X : World) (g : Gr w X) => (HS.out X g).get hil)
      subst hao
      generalize l[i] = x at *
      obtain ⟨⟨kd, xa, xb, xn⟩, xl, xt⟩ := x
      simp only at s0 s1 s2 s3 s4 s5 HG
      have SC : Hid (∀ W, Gr w W → W.cell? ⟨bn, on + i * 6, none⟩ = some (iv kd) ∧ W.cell? ⟨bn, on + i * 6 + 1, none⟩ = some (iv xa) ∧ W.cell? ⟨bn, on + i * 6 + 2, none⟩ = some (iv xb) ∧ W.cell? ⟨bn, on + i * 6 + 3, none⟩ = some (iv xn) ∧ W.cell? ⟨bn, on + i * 6 + 4, none⟩ = some (iv xl) ∧ W.cell? ⟨bn, on + i * 6 + 5, none⟩ = some (iv xt)) := fun W g => by
        obtain ⟨b', o', hbo, _, r⟩ := HG.out W g
        simp only [Option.some.injEq, Addr.mk.injEq] at hbo
        obtain ⟨rfl, rfl, _⟩ := hbo
        exact r
      have HDn := hide (Pt.doP (H1.out.gr (Gr.refl wr).drew) (by omega) ⟨kd, xa, xb, xn⟩ xl xt)
      have HDt : Hid (∀ (W : World) (c1 : Nat → Nat → Nat) (t1 : Tn) (rs1 : List Rt), Pt w W P T (i + 1) c1 t1 rs1 i c t rs → Calls Tryz.prog 34 #[pv T, .agg #[iv kd, iv xa, iv xb, iv xn, iv xl, iv xt]] W fun e W' => e = .returned (iv (fdoC t rs ⟨kd, xa, xb, xn⟩ xl xt).2) ∧ Pt w W' P T (i + 1) c1 t1 rs1 (i + 1) (nextC c ⟨kd, xa, xb, xn⟩) (fdoC t rs ⟨kd, xa, xb, xn⟩ xl xt).1.1 (fdoC t rs ⟨kd, xa, xb, xn⟩ xl xt).1.2) := fun W c1 t1 rs1 h => Pt.doT h H1.out.ows.tab (by omega) ⟨kd, xa, xb, xn⟩ xl xt
      have H1g := hide H1.out.grw
      simp only at HDn
      generalize nextC c ⟨kd, xa, xb, xn⟩ = c1 at *
      generalize (fdoC t rs ⟨kd, xa, xb, xn⟩ xl xt).1.1 = t1 at *
      generalize (fdoC t rs ⟨kd, xa, xb, xn⟩ xl xt).1.2 = rs1 at *
      generalize (fdoC t rs ⟨kd, xa, xb, xn⟩ xl xt).2 = rc at *
      have erc : (rc == rc) = true := by simp
      clear H1
      go_upto_region 6 with (fail)
      go_region_held3 (fun W => W.cell? ⟨bn, on + i * 6, none⟩ = some (iv kd) ∧ W.cell? ⟨bn, on + i * 6 + 1, none⟩ = some (iv xa) ∧ W.cell? ⟨bn, on + i * 6 + 2, none⟩ = some (iv xb) ∧ W.cell? ⟨bn, on + i * 6 + 3, none⟩ = some (iv xn) ∧ W.cell? ⟨bn, on + i * 6 + 4, none⟩ = some (iv xl) ∧ W.cell? ⟨bn, on + i * 6 + 5, none⟩ = some (iv xt)) (first | exact ⟨s0, s1, s2, s3, s4, s5⟩ | exact SC.out _ C1.out.grw | exact SC.out _ A1.out.grw | go_keep) (first | (go_at_call 24; with_reducible refine HDn.out.mono ?_; rintro e V3 ⟨rfl, a1'⟩; have A1 := hide a1'; clear a1') | (go_at_call 34; with_reducible refine (HDt.out _ _ _ _ A1.out).mono ?_; rintro e V4 ⟨rfl, c1'⟩; have C1 := hide c1'; clear c1') | fail)
      all_goals
        clear HDn HDt A1 SC HG s0 s1 s2 s3 s4 s5 hbn
        go_wp2_with fail
        go_roundw
        case rel => exact ⟨i + 1, c1, t1, rs1, by omega, rfl, by congr 1, C1⟩
        case measure => simp [intOf]; omega
    · have hii : decide ((i : Int) < (n : Int)) = false := decide_eq_false (by omega)
      have e : i = n := by omega
      subst e
      go_wp2_with fail
      go_ret3
      exact ⟨P, T, c, t, rs, rfl, H1.out⟩

end Go.Proofs.YtcgflhjgllpohafGreatDoor

/- FOR THE ROWS: what all frames name. -/
namespace Go.Proofs.YtcgflhjgllpohafGreatDoor
open Go.ChangeShapes Go.WideShapes Go.ChangeAt Go.RowKit Go.Joins Go.Deep

set_option maxRecDepth 20000

theorem Tryz.own : ownKnob Tryz.prog.godebug = none := by kernel_rfl
theorem Tryz.laidOutB : laidOutB Tryz.prog = true := by kernel_rfl
theorem Tryz.cells3 : Tryz.prog.cellsOf 3 = 1 := by kernel_rfl
theorem Tryz.cells48 : Tryz.prog.cellsOf 48 = 2 := by kernel_rfl

end Go.Proofs.YtcgflhjgllpohafGreatDoor

/- FOR THE ROWS: a list of a net's steps that comes in, opened. -/
namespace Go.Proofs.YtcgflhjgllpohafGreatDoor
open Go.ChangeShapes Go.WideShapes Go.ChangeAt Go.RowKit Go.Joins Go.Deep

set_option maxRecDepth 20000

instance : Inhabited Sx := ⟨⟨⟨0, 0, 0, 0⟩, 0, 0⟩⟩
theorem Tryz.cells54 : Tryz.prog.cellsOf 54 = 6 := by kernel_rfl

section
variable {H : Type} {enc : TypeId × Value → H} {P : Program} {w : World} {base : Nat} {spare : Nat → Bool} {held : Bool}

theorem trod_struct5 {t : TypeId} {f0 f1 f2 f3 f4 : Field} {fuel : Nat} {cs : List Value} {x : DataW H × List MemPlace} (ht : P.underlying t = some (.struct #[f0, f1, f2, f3, f4])) (h : DataW.trod enc P w base spare held fuel t cs = some x) :
    ∃ y0 y1 y2 y3 y4 n, x = (.agg [y0.1, y1.1, y2.1, y3.1, y4.1], y0.2 ++ (y1.2 ++ (y2.2 ++ (y3.2 ++ y4.2)))) ∧ cs.length = P.cellsOf t ∧ DataW.trod enc P w base spare held n f0.type ((cs.drop f0.offset).take (P.cellsOf f0.type)) = some y0 ∧
      DataW.trod enc P w base spare held n f1.type ((cs.drop f1.offset).take (P.cellsOf f1.type)) = some y1 ∧ DataW.trod enc P w base spare held n f2.type ((cs.drop f2.offset).take (P.cellsOf f2.type)) = some y2 ∧
      DataW.trod enc P w base spare held n f3.type ((cs.drop f3.offset).take (P.cellsOf f3.type)) = some y3 ∧ DataW.trod enc P w base spare held n f4.type ((cs.drop f4.offset).take (P.cellsOf f4.type)) = some y4 := by
  obtain ⟨xs, n, _, rfl, hl, hlen, hf⟩ := DataW.trod_struct ht h
  match xs, hlen with
  | [y0, y1, y2, y3, y4], _ => exact ⟨y0, y1, y2, y3, y4, n, by simp, hl, by simpa using hf 0 f0 rfl, by simpa using hf 1 f1 rfl, by simpa using hf 2 f2 rfl, by simpa using hf 3 f3 rfl, by simpa using hf 4 f4 rfl⟩
end

section
variable {H : Type} {enc : TypeId × Value → H}

theorem step_cells {W : World} {base n : Nat} {sp : Nat → Bool} {hd : Bool} {cs : List Value} {x : DataW H × List MemPlace} (h : DataW.trod enc Tryz.prog W base sp hd n 54 cs = some x) : ∃ y : Sx, cs = [iv y.s.k, iv y.s.a, iv y.s.b, iv y.s.n, iv y.l, iv y.b] := by
  obtain ⟨y0, y1, y2, y3, y4, m, rfl, hl, h0, h1, h2, h3, h4⟩ := trod_struct5 Tryz.underlying54 h
  rw [Tryz.cells54] at hl
  obtain ⟨c0, c1, c2, c3, c4, c5, rfl⟩ : ∃ c0 c1 c2 c3 c4 c5, cs = [c0, c1, c2, c3, c4, c5] := by
    match cs, hl with
    | [c0, c1, c2, c3, c4, c5], _ => exact ⟨c0, c1, c2, c3, c4, c5, rfl⟩
  have e0 : DataW.trod enc Tryz.prog W base sp hd m 3 [c0] = some y0 := by simpa [Tryz.cells3] using h0
  have e1 : DataW.trod enc Tryz.prog W base sp hd m 3 [c1] = some y1 := by simpa [Tryz.cells3] using h1
  have e2 : DataW.trod enc Tryz.prog W base sp hd m 3 [c2] = some y2 := by simpa [Tryz.cells3] using h2
  have e3 : DataW.trod enc Tryz.prog W base sp hd m 3 [c3] = some y3 := by simpa [Tryz.cells3] using h3
  have e4 : DataW.trod enc Tryz.prog W base sp hd m 48 [c4, c5] = some y4 := by simpa [Tryz.cells48] using h4
  obtain ⟨z0, z1, k, _, _, i0, i1⟩ := trod_struct2 Tryz.underlying48 e4
  have f0 : DataW.trod enc Tryz.prog W base sp hd k 3 [c4] = some z0 := by simpa [Tryz.cells3] using i0
  have f1 : DataW.trod enc Tryz.prog W base sp hd k 3 [c5] = some z1 := by simpa [Tryz.cells3] using i1
  obtain ⟨a0, q0, _, _⟩ := DataW.trod_int Tryz.underlying3 e0
  obtain ⟨a1, q1, _, _⟩ := DataW.trod_int Tryz.underlying3 e1
  obtain ⟨a2, q2, _, _⟩ := DataW.trod_int Tryz.underlying3 e2
  obtain ⟨a3, q3, _, _⟩ := DataW.trod_int Tryz.underlying3 e3
  obtain ⟨a4, q4, _, _⟩ := DataW.trod_int Tryz.underlying3 f0
  obtain ⟨a5, q5, _, _⟩ := DataW.trod_int Tryz.underlying3 f1
  simp at q0 q1 q2 q3 q4 q5
  subst q0 q1 q2 q3 q4 q5
  exact ⟨⟨⟨a0, a1, a2, a3⟩, a4, a5⟩, rfl⟩

theorem open_steps {W : World} {base : Nat} {v : Value} {d : DataW H} {p : List MemPlace} (hval : Value.okWide Tryz.prog W .any base 22 v) (h : DataW.Trod enc Tryz.prog W 0 (fun _ => true) true 22 v d p) :
    ∃ ao n c, v = .slice ao n c ∧ ∃ ls : List Sx, SpAt W ao ls ∧ ls.length = n := by
  obtain ⟨a0, len, cap, rfl⟩ := okWide_slice Tryz.underlying22 hval
  refine ⟨a0, len, cap, rfl, ?_⟩
  obtain ⟨fuel, hf⟩ := h
  rcases open_slice Tryz.underlying22 hf with ⟨hcs, _⟩ | ⟨a, len', cap', m, n, D, Pl, hcs, _, hl, hm, hmm, _, hx⟩
  · simp [Value.cells] at hcs
    obtain ⟨rfl, rfl, rfl⟩ := hcs
    exact ⟨[], .inl rfl, rfl⟩
  · simp [Value.cells] at hcs
    obtain ⟨rfl, rfl, rfl⟩ := hcs
    simp only [if_true] at hmm
    subst hmm
    have each : ∀ i, i < len → ∃ r : Sx, W.cell? (a.add (i * 6)) = some (iv r.s.k) ∧ W.cell? ((a.add (i * 6)).add 1) = some (iv r.s.a) ∧ W.cell? ((a.add (i * 6)).add 2) = some (iv r.s.b) ∧ W.cell? ((a.add (i * 6)).add 3) = some (iv r.s.n) ∧ W.cell? ((a.add (i * 6)).add 4) = some (iv r.l) ∧ W.cell? ((a.add (i * 6)).add 5) = some (iv r.b) := by
      intro i hi
      obtain ⟨cs', h1, h2⟩ := hx i (by omega)
      rw [Tryz.cells54] at h1
      obtain ⟨_, hlen, hcell⟩ := World.cells?_some h1
      obtain ⟨y, rfl⟩ := step_cells h2
      refine ⟨y, ?_, ?_, ?_, ?_, ?_, ?_⟩
      · have := hcell 0 (by omega)
        simpa [Addr.add] using this
      · have := hcell 1 (by omega)
        simpa using this
      · have := hcell 2 (by omega)
        simpa using this
      · have := hcell 3 (by omega)
        simpa using this
      · have := hcell 4 (by omega)
        simpa using this
      · have := hcell 5 (by omega)
        simpa using this
    obtain ⟨f, hfn⟩ := choose_lt each
    refine ⟨(List.range len).map f, ?_, by simp⟩
    by_cases h0 : len = 0
    · subst h0; exact .inl rfl
    · right
      obtain ⟨b, o, sp⟩ := a
      have z := (hfn 0 (by omega)).1
      have hsp : sp = none := by
        cases sp with
        | none => rfl
        | some q => simp [Addr.add, World.cell?] at z; split at z <;> simp at z
      subst hsp
      refine ⟨b, o, rfl, World.block_lt_of_cell? W _ z, fun i hi => ?_⟩
      have hi' : i < len := by simpa using hi
      obtain ⟨k1, k2, k3, k4, k5, k6⟩ := hfn i hi'
      rw [Addr.add_lit] at k1
      rw [Addr.add_lit, Addr.add_lit] at k2 k3 k4 k5 k6
      simp only [List.getElem_map, List.getElem_range]
      exact ⟨k1, k2, k3, k4, k5, k6⟩
end

end Go.Proofs.YtcgflhjgllpohafGreatDoor

/- FOR THE ROWS OF LAYER 4: the library's table, as the rows list it. -/
namespace Go.Proofs.YtcgflhjgllpohafGreatDoor
open Go.ChangeShapes Go.WideShapes Go.ChangeAt Go.RowKit

theorem laid64_is : (Rows.laid_math_bits_deBruijn64tab : DataW Unit) = .agg (Lib.deBruijn64tab.map fun n : Nat => .lit (.int .u8 (n : Int))) := by kernel_rfl
theorem len64 : Lib.deBruijn64tab.length = 64 := by kernel_rfl
/-- What the condition gives: the table's cells. -/
theorem tab64_of {W : World} (h : laidMetH Tryz.prog [("math/bits.deBruijn32tab", Rows.laid_math_bits_deBruijn32tab), ("math/bits.deBruijn64tab", Rows.laid_math_bits_deBruijn64tab)] W) : Tab64 W := fun r hr => by
  rw [len64] at hr
  rw [MakeChecks.laidMetH_plain _ _ _ (by kernel_rfl)] at h
  obtain ⟨ps, ⟨g0, t0, cs0, f0, p0, q0, hg0, ht0, hv0, hd0, ⟨g, t, cs, fuel, p, q, hg, ht, hv, hd, _, _⟩, _⟩, _, _⟩ := h
  obtain rfl := Option.some.inj ((show Tryz.prog.globalNamed "math/bits.deBruijn64tab" = some 1 by kernel_rfl).symm.trans hg)
  obtain rfl := Option.some.inj ((show (Tryz.prog.globals[1]?).map (·.type) = some 170 by kernel_rfl).symm.trans ht)
  obtain ⟨xs, m, _, ex, _, hl, hel⟩ := DataW.trod_array Tryz.underlying170 hd
  have c5 : Tryz.prog.cellsOf 5 = 1 := by kernel_rfl
  have hE := hel r hr
  rw [c5, Nat.mul_one, List.getElem?_eq_getElem (by omega)] at hE
  obtain ⟨z, e1, e2, _⟩ := DataW.trod_int Tryz.underlying5 hE
  have hlen := len64
  have e3 : (xs.map (·.1)) = Lib.deBruijn64tab.map fun n : Nat => .lit (.int .u8 (n : Int)) := (DataW.agg.inj (laid64_is.symm.trans (Prod.mk.inj ex).1)).symm
  have e4 : (xs.map (·.1))[r]? = (Lib.deBruijn64tab.map fun n : Nat => (DataW.lit (.int .u8 (n : Int)) : DataW Unit))[r]? := by rw [e3]
  rw [List.getElem?_map, List.getElem?_map, List.getElem?_eq_getElem (by omega : r < xs.length), List.getElem?_eq_getElem (by omega : r < Lib.deBruijn64tab.length), e2] at e4
  have hz : z = ((Lib.deBruijn64tab.getD r 0 : Nat) : Int) := by
    simp only [Option.map_some, Option.some.injEq, DataW.lit.injEq, Lit.int.injEq, true_and] at e4
    rw [e4, List.getD, List.getElem?_eq_getElem (by omega : r < Lib.deBruijn64tab.length)]; rfl
  rw [World.var?_cell hg hv r, ← hz]
  have : cs.toList[r]? = some (.int .u8 z) := by
    have h0 : ((cs.toList.drop r).take 1)[0]? = some (.int .u8 z) := by rw [e1]; rfl
    simpa using h0
  simpa using this

end Go.Proofs.YtcgflhjgllpohafGreatDoor

/- LETTERS, as numbers: where a letter goes, what it costs, where it ends. No Go here. -/
namespace Go.Proofs.YtcgflhjgllpohafGreatDoor

/-- A letter that comes to p, behind these nodes, for so much: as the document says. -/
def goN (h : Nat → Int) (cs : Nat → Nat → Int) : Nat → Int → List Nat → Int → List Nat × Int × Int
  | 0, _, out, k => (out, k, -1)
  | f + 1, p, out, k => if isN p then (if p.toNat ∈ out then (out, k, -2) else if h p.toNat = p then (out ++ [p.toNat], k, p) else goN h cs f (h p.toNat) (out ++ [p.toNat]) (k + if isN (h p.toNat) then cs p.toNat (h p.toNat).toNat else 0)) else (out, k, -1)
/-- It is at x, the last of these. -/
def goS (h : Nat → Int) (cs : Nat → Nat → Int) (f x : Nat) (out : List Nat) (k : Int) : List Nat × Int × Int :=
  if h x = (x : Int) then (out, k, (x : Int)) else goN h cs f (h x) out (k + if isN (h x) then cs x (h x).toNat else 0)
theorem goN_new {h : Nat → Int} {cs : Nat → Nat → Int} {f x : Nat} {out : List Nat} {k : Int} (hx : x < 6) (hn : x ∉ out) : goN h cs (f + 1) (x : Int) out k = goS h cs f x (out ++ [x]) k := by
  rw [goN, if_pos ⟨by omega, by omega⟩, Int.toNat_natCast, if_neg hn]
  rfl
theorem go_chain {h : Nat → Int} {c : Nat → Nat → Nat} {R : Nat → Nat → Prop} {a : Nat} (hR : ∀ x y, R x y → h x = (y : Int)) {l : List Nat} {x : Nat} (hc : ChL R a l x) :
    l.Nodup → (∀ y ∈ l, y < 6) → ∀ f, goN h (fun u v => (c u v : Int)) (f + l.length) (a : Int) [] 0 = goS h (fun u v => (c u v : Int)) f x l (sumC c l (l.length - 1) : Nat) := by
  induction hc with
  | one =>
    intro _ h6 f
    show goN _ _ (f + 1) _ _ _ = _
    rw [goN_new (h6 a (by simp)) (by simp)]
    simp [sumC]
  | @snoc l x y h1 h2 ih =>
    intro hn h6 f
    rw [List.nodup_append] at hn
    have hy : y ∉ l := fun hm => hn.2.2 y hm y (by simp) rfl
    have hxy : (y : Int) ≠ (x : Int) := fun e => by
      have q : y = x := by omega
      exact hy (q ▸ h1.mem)
    have e0 : f + (l ++ [y]).length = f + 1 + l.length := by rw [List.length_append, List.length_singleton]; omega
    have hy6 : y < 6 := h6 y (by simp)
    rw [e0, ih hn.1 (fun u hu => h6 u (by simp [hu])) (f + 1)]
    unfold goS
    rw [hR x y h2, if_neg hxy, goN_new hy6 hy]
    unfold goS
    have hp := h1.pos
    obtain ⟨n, hnl⟩ : ∃ n, l.length = n + 1 := ⟨l.length - 1, by omega⟩
    have e1 : (l ++ [y]).length - 1 = n + 1 := by rw [List.length_append, List.length_singleton]; omega
    have e2 : (l ++ [y])[n]'(by rw [List.length_append]; omega) = x := by
      rw [List.getElem_append_left (by omega)]
      have := h1.last (by omega)
      rw [← this]; congr 1; omega
    have e3 : (l ++ [y])[n + 1]'(by rw [List.length_append, List.length_singleton]; omega) = y := by
      rw [List.getElem_append_right (by omega)]; simp [hnl]
    have e4 : sumC c (l ++ [y]) ((l ++ [y]).length - 1) = sumC c l (l.length - 1) + c x y := by
      rw [e1, sumC, sumC_app c l y n (by omega), dif_pos (by rw [List.length_append, List.length_singleton]; omega), e2, e3]
      rw [show l.length - 1 = n by omega]
    rw [e4, if_pos (show isN (y : Int) from ⟨by omega, by omega⟩), Int.toNat_natCast]
    rw [show ((sumC c l (l.length - 1) + c x y : Nat) : Int) = ((sumC c l (l.length - 1) : Nat) : Int) + (c x y : Int) by omega]
theorem goS_end {h : Nat → Int} {cs : Nat → Nat → Int} {f x : Nat} {l : List Nat} {k : Int} (hx : h x = (x : Int)) : goS h cs f x l k = (l, k, (x : Int)) := by unfold goS; rw [if_pos hx]
theorem goS_drop {h : Nat → Int} {cs : Nat → Nat → Int} {f x : Nat} {l : List Nat} {k : Int} (hx : h x = -1) : goS h cs (f + 1) x l k = (l, k, -1) := by
  unfold goS
  rw [hx, if_neg (by omega), if_neg (by omega), goN, if_neg (by omega)]
  simp
/-- The part of a chain from its k-th on. -/
theorem ChL.drop {R : Nat → Nat → Prop} {a : Nat} {l : List Nat} {x : Nat} (h : ChL R a l x) : ∀ k (hk : k < l.length), ChL R l[k] (l.drop k) x := by
  induction h with
  | one =>
    intro k hk
    have : k = 0 := by simpa using hk
    subst this
    exact .one
  | @snoc l x y h1 h2 ih =>
    intro k hk
    by_cases e : k < l.length
    · have e1 : (l ++ [y])[k] = l[k] := List.getElem_append_left e
      have e2 : (l ++ [y]).drop k = l.drop k ++ [y] := List.drop_append_of_le_length (by omega)
      rw [e1, e2]
      exact (ih k e).snoc h2
    · have ek : k = l.length := by rw [List.length_append, List.length_singleton] at hk; omega
      subst ek
      have e1 : (l ++ [y])[l.length] = y := by rw [List.getElem_append_right (by omega)]; simp
      have e2 : (l ++ [y]).drop l.length = [y] := by simp
      rw [e1, e2]
      exact .one
/-- What a letter's trip is: nodes, cost, end. -/
structure Trip (t : Tn) (c : Nat → Nat → Nat) (z a : Nat) (l : List Nat) (e : Nat) : Prop where
  ch : ChL (StepR t z) a l e
  lt : ∀ y ∈ l, y < 6
  nd : l.Nodup
  pos : 0 < l.length
  len : l.length ≤ 6
  fin : e = z ∨ hopT t z e = -1
section
variable {t : Tn} {c : Nat → Nat → Nat} {z a : Nat} {l : List Nat} {e : Nat}
theorem Trip.go (h : Trip t c z a l e) (H : TnA t c) (hz : z < 6) : goN (hopT t z) (fun u v => (c u v : Int)) 7 (a : Int) [] 0 = (l, ((sumC c l (l.length - 1) : Nat) : Int), if e = z then (z : Int) else -1) := by
  have hl := h.len
  obtain ⟨f, hf⟩ : ∃ f, 7 = f + 1 + l.length := ⟨6 - l.length, by omega⟩
  rw [hf, go_chain (c := c) (fun x y r => r.2.2) h.ch h.nd h.lt (f + 1)]
  by_cases q : e = z
  · subst q
    rw [if_pos rfl, goS_end (by unfold hopT; rw [(H.self hz).2.1])]
  · rw [if_neg q]
    rcases h.fin with r | r
    · exact absurd r q
    · exact goS_drop r
theorem Trip.part (h : Trip t c z a l e) {k : Nat} (hk : k < l.length) : Trip t c z l[k] (l.drop k) e :=
  ⟨h.ch.drop k hk, fun y hy => h.lt y (List.mem_of_mem_drop hy), List.Nodup.sublist (List.drop_sublist _ _) h.nd, by rw [List.length_drop]; omega, by rw [List.length_drop]; have := h.len; omega, h.fin⟩
theorem trip_of (H : TnA t c) (ha : a < 6) (hz : z < 6) : ∃ l e, Trip t c z a l e := by
  obtain ⟨l, e, _, h2, h3, h4, h5, h6⟩ := straight H ha hz
  exact ⟨l, e, h2, h3, h4, h2.pos, h5, h6⟩
end
theorem go_none (cs : Nat → Nat → Int) {h : Nat → Int} {a : Nat} (ha : a < 6) (hh : h a = -1) : goN h cs 7 (a : Int) [] 0 = ([a], 0, -1) := by
  rw [goN_new ha (by simp)]
  exact goS_drop hh
theorem go_out (h : Nat → Int) (cs : Nat → Nat → Int) {p : Int} (hp : ¬ isN p) : goN h cs 7 p [] 0 = ([], 0, -1) := by rw [goN, if_neg hp]
/-- Where a letter to an address goes, from node to node. -/
def letH (t : Tn) (rs : List Rt) (a : Int) (x : Nat) : Int := lookL (fullL t (x : Int) rs) a
theorem let_none {t : Tn} {rs : List Rt} (h : Ows rs) {a : Int} (hl : lookL rs a = -1) (x : Nat) : letH t rs a x = -1 := by
  unfold letH
  rw [full_look _ _ h.hop, if_pos hl]
theorem let_own {t : Tn} {rs : List Rt} (h : Ows rs) {a : Int} {z : Nat} (hz : z < 6) (hl : lookL rs a = (z : Int)) {x : Nat} (hx : x < 6) : letH t rs a x = hopT t z x := by
  unfold letH
  rw [full_look _ _ h.hop, hl, if_neg (by omega)]
  unfold hpT hopT
  rw [if_pos ⟨by omega, by omega⟩, if_pos ⟨by omega, by omega⟩, Int.toNat_natCast, Int.toNat_natCast]
/-- Where it goes hangs on the nodes alone. -/
theorem goN_congr {h g : Nat → Int} {cs : Nat → Nat → Int} (e : ∀ x, x < 6 → h x = g x) : ∀ f p out k, goN h cs f p out k = goN g cs f p out k
  | 0, _, _, _ => rfl
  | f + 1, p, out, k => by
    rw [goN, goN]
    by_cases hp : isN p
    · rw [if_pos hp, if_pos hp, e p.toNat (by have := hp.1; have := hp.2; omega), goN_congr e f]
    · rw [if_neg hp, if_neg hp]
theorem goN_cost {h : Nat → Int} {cs ds : Nat → Nat → Int} (e : ∀ x y, x < 6 → y < 6 → cs x y = ds x y) : ∀ f p out k, goN h cs f p out k = goN h ds f p out k
  | 0, _, _, _ => rfl
  | f + 1, p, out, k => by
    rw [goN, goN]
    by_cases hp : isN p
    · rw [if_pos hp, if_pos hp]
      have : (if isN (h p.toNat) then cs p.toNat (h p.toNat).toNat else 0) = (if isN (h p.toNat) then ds p.toNat (h p.toNat).toNat else 0) := by
        by_cases q : isN (h p.toNat)
        · rw [if_pos q, if_pos q, e _ _ (by have := hp.1; have := hp.2; omega) (by have := q.1; have := q.2; omega)]
        · rw [if_neg q, if_neg q]
      rw [this, goN_cost e f]
    · rw [if_neg hp, if_neg hp]
/-- Nodes and end do not hang on what links cost. -/
theorem goN_free {h : Nat → Int} {cs ds : Nat → Nat → Int} : ∀ f p out k m, (goN h cs f p out k).1 = (goN h ds f p out m).1 ∧ (goN h cs f p out k).2.2 = (goN h ds f p out m).2.2
  | 0, _, _, _, _ => ⟨rfl, rfl⟩
  | f + 1, p, out, k, m => by
    rw [goN, goN]
    by_cases hp : isN p
    · rw [if_pos hp, if_pos hp]
      by_cases q : p.toNat ∈ out
      · rw [if_pos q, if_pos q]; exact ⟨rfl, rfl⟩
      · rw [if_neg q, if_neg q]
        by_cases r : h p.toNat = p
        · rw [if_pos r, if_pos r]; exact ⟨rfl, rfl⟩
        · rw [if_neg r, if_neg r]; exact goN_free f _ _ _ _
    · rw [if_neg hp, if_neg hp]; exact ⟨rfl, rfl⟩

end Go.Proofs.YtcgflhjgllpohafGreatDoor

/- LETTERS, as numbers: settled, a letter comes home by the least cost. No Go here. -/
namespace Go.Proofs.YtcgflhjgllpohafGreatDoor

theorem ChL.first {R : Nat → Nat → Prop} {a : Nat} {l : List Nat} {x : Nat} (h : ChL R a l x) : ∀ (hl : 0 < l.length), l[0] = a := by
  induction h with
  | one => intro _; rfl
  | @snoc l x y h1 h2 ih =>
    intro _
    rw [List.getElem_append_left h1.pos]
    exact ih h1.pos
theorem trip_home {T : Tn} {c : Nat → Nat → Nat} {z : Nat} {S : Int} (h : Stl T c z S) (H : TnA T c) (hz : z < 6) {a : Nat} (ha : a < 6) :
    ∃ l e, Trip T c z a l e ∧ (dst c z a < 200 → e = z ∧ sumC c l (l.length - 1) = dst c z a) ∧ (dst c z a = 200 → e ≠ z) := by
  obtain ⟨l, e, p1, h2, h3, h4, h5, h6⟩ := straight H ha hz
  obtain ⟨l', e', q1, q2, _, _, _, q6⟩ := settled_path h H hz ha
  have el : l' = l := by rw [p1] at q1; exact (Prod.mk.inj q1).1.symm
  subst el
  have ee : e' = e := by
    have a1 := h2.last (by have := h2.pos; omega)
    have a2 := q2.last (by have := h2.pos; omega)
    rw [← a1, ← a2]
  subst ee
  refine ⟨l', e', ⟨h2, h3, h4, h2.pos, h5, h6⟩, q6, fun hd he => ?_⟩
  have hne : a ≠ z := fun q => by rw [q, dst_self c hz] at hd; omega
  have hop : hopT T z a = -1 := (h.way H hz ha).2.1.2 hd
  have hp := h2.pos
  by_cases e1 : l'.length = 1
  · have a1 := h2.last (by omega)
    have a2 := h2.first hp
    have a3 : l'[l'.length - 1]'(by omega) = l'[0] := by congr 1; omega
    exact hne (by rw [← a2, ← a3, a1, he])
  · have st := h2.step 0 (by omega)
    rw [h2.first hp] at st
    have := st.2.2
    rw [hop] at this
    omega

end Go.Proofs.YtcgflhjgllpohafGreatDoor

/- LETTERS, as numbers: what walkBegun asks. No Go here. -/
namespace Go.Proofs.YtcgflhjgllpohafGreatDoor

def wb1 : Tn := (doT newT ⟨1, 0, 1, 4⟩).1
def wc1 : Nat → Nat → Nat := nextC (fun _ _ => 0) ⟨1, 0, 1, 4⟩
theorem wb_own : fdoC newT [] ⟨7, 1, 0, 1⟩ 0 0 = ((newT, [(0, 0, 1)]), 0) := by
  have e : ownC [] 1 1 0 0 = ([(0, 0, 1)], 0) := by decide +kernel
  unfold fdoC
  rw [if_pos rfl, e]
theorem wb_link : fdoC newT [(0, 0, 1)] ⟨1, 0, 1, 4⟩ 0 0 = ((wb1, [(0, 0, 1)]), 0) := by
  have e : (doT newT ⟨1, 0, 1, 4⟩).2 = 0 := by decide +kernel
  unfold fdoC
  rw [if_neg (by decide), e]
  rfl
theorem wb_ows : Ows [(0, 0, 1)] := ⟨⟨fun r hr => by rw [List.mem_singleton.1 hr]; decide, by simp, by decide⟩, fun r hr => by rw [List.mem_singleton.1 hr]; decide⟩
theorem wb_look : lookL [(0, 0, 1)] 7 = ((1 : Nat) : Int) := by decide +kernel
theorem wb_a : TnA wb1 wc1 := (do_nx new_a ⟨1, 0, 1, 4⟩).a
/-- Nothing was told: the letter stays. -/
theorem wb_go1 : goN (letH wb1 [(0, 0, 1)] 7) (fun u v => (wc1 u v : Int)) 7 0 [] 0 = ([0], 0, -1) := by
  have h : letH wb1 [(0, 0, 1)] 7 0 = -1 := by
    rw [let_own wb_ows (by decide) wb_look (by decide)]
    decide +kernel
  exact go_none _ (a := 0) (by decide) h
theorem wb_dst : wk wc1 1 3 0 = 4 ∧ dst wc1 1 0 = 4 ∧ (∀ k, k < 6 → 0 < wc1 k 0 → k = 1) := by
  refine ⟨by decide +kernel, by decide +kernel, fun k hk h => ?_⟩
  rcases (show k = 0 ∨ k = 1 ∨ k = 2 ∨ k = 3 ∨ k = 4 ∨ k = 5 by omega) with rfl | rfl | rfl | rfl | rfl | rfl
  all_goals first | rfl | (exact absurd h (by decide))
/-- Behind three rounds it comes home. -/
theorem wb_go2 : goN (letH (settleT wb1 3) [(0, 0, 1)] 7) (fun u v => (wc1 u v : Int)) 7 0 [] 0 = ([0, 1], 4, 1) := by
  have H0 : TnA { wb1 with news := [] } wc1 := wb_a.sub (fun x hx => by cases hx)
  obtain ⟨H1, _⟩ := H0.ticks 6 (Nat.le_refl _)
  have L := ticks_low H0 (z := 1) (by decide)
  have s0 : Sd (tickTo { wb1 with news := [] } 6) wc1 1 (agT wb1 1 + 1) (fun x => x = 1) := ⟨H1.s.tc, L, ⟨rfl, fun x _ hG hne => absurd hG hne⟩⟩
  obtain ⟨G, hG, hall⟩ := s0.rounds (by decide) 3
  obtain ⟨d1, d2, d3⟩ := wb_dst
  have g0 : G 0 := hall 0 (by decide) (d1.trans d2.symm) (by rw [show dst wc1 ((1 : Nat) : Int) 0 = 4 from d2]; decide)
  obtain ⟨_, ⟨k, hk, hw, hc, _⟩, _⟩ := hG.gd.ok 0 (by decide) g0 (by decide)
  have ek : k = 1 := d3 k hk hc
  subst ek
  have h0 : letH (settleT wb1 3) [(0, 0, 1)] 7 0 = ((1 : Nat) : Int) := by
    rw [let_own wb_ows (by decide) wb_look (by decide)]
    unfold hopT settleT
    rw [hw]
  have h1 : letH (settleT wb1 3) [(0, 0, 1)] 7 1 = ((1 : Nat) : Int) := by
    rw [let_own wb_ows (by decide) wb_look (by decide)]
    unfold hopT settleT
    rw [hG.low.self]
  have ec : wc1 0 1 = 4 := by decide +kernel
  show goN _ _ (5 + 1 + 1) ((0 : Nat) : Int) [] 0 = _
  rw [goN_new (by decide) (by simp)]
  unfold goS
  rw [h0, if_neg (by decide), goN_new (by decide) (by simp)]
  unfold goS
  rw [h1, if_pos rfl, if_pos (by decide)]
  show ([0, 1], (0 : Int) + (wc1 0 1 : Int), ((1 : Nat) : Int)) = _
  rw [ec]
  rfl

end Go.Proofs.YtcgflhjgllpohafGreatDoor

/- A WALK IN MEMORY: a Post's pointer and six tables. -/
namespace Go.Proofs.YtcgflhjgllpohafGreatDoor
open Go.RowKit

/-- The cells of a Walk: its Post, its tables. -/
def wkF (P : Nat) (tb : Nat → Nat) : Nat → Value := fun i => if i = 0 then pv P else pv (tb (i - 1))
/-- The own blocks of a Walk. -/
def ownW (X : Nat) (tb : Nat → Nat) (z : Nat → Value) (b : Nat) : Prop := b = X ∨ ∃ x, x < 6 ∧ ownB (tb x) (z x) b
/-- A Walk at X over the Post P, whose own blocks are S: the routes of each node's table are fs. -/
def Wq (w : World) (X P : Nat) (S : Nat → Prop) (fs : Nat → List Rt) : Prop :=
  ∃ tb z, VArr w 93 7 X (wkF P tb) ∧ (∀ x, x < 6 → TabS w (fun _ => False) (tb x) (z x) (fs x)) ∧ S = ownW X tb z
section
variable {w w' : World} {X P : Nat} {S : Nat → Prop} {fs : Nat → List Rt} {N : Nat → Prop}
theorem Wq.gr (H : Wq w X P S fs) (g : Gr w w') : Wq w' X P S fs := by
  obtain ⟨tb, z, h1, h2, e⟩ := H
  exact ⟨tb, z, h1.gr g, fun x hx => (h2 x hx).gr g, e⟩
theorem Wq.lt (H : Wq w X P S fs) {b : Nat} (hb : S b) : b < w.heap.size := by
  obtain ⟨tb, z, h1, h2, e⟩ := H
  subst e
  rcases hb with rfl | ⟨x, hx, hb⟩
  · exact h1.lt
  · exact (h2 x hx).own_lt hb
theorem Wq.keep (H : Wq w X P S fs) (hk : Kp N w w') (hS : ∀ b, S b → N b) : Wq w' X P S fs := by
  obtain ⟨tb, z, h1, h2, e⟩ := H
  subst e
  exact ⟨tb, z, (hk.block X h1.lt (hS X (.inl rfl))).trans h1, fun x hx => (h2 x hx).kept hk (hS _ (.inr ⟨x, hx, .inl rfl⟩)) (fun g hg => hS g (.inr ⟨x, hx, .inr hg⟩)), rfl⟩
/-- What is done to another object leaves it. -/
theorem Wq.beside {S2 S2' : Nat → Prop} (H : Wq w X P S fs) (ap : ∀ b, S b → ¬ S2 b) (k : Chg w w' S2 S2') : Wq w' X P S fs ∧ ∀ b, S b → ¬ S2' b :=
  ⟨H.keep k.kp (fun b hb => ⟨H.lt hb, ap b hb⟩), fun b hb h2 => by
    rcases k.nw b h2 with q | q
    · exact ap b hb q
    · have := H.lt hb; omega⟩
/-- Its Post's place. -/
theorem Wq.post (H : Wq w X P S fs) : w.cell? ⟨X, 0, none⟩ = some (pv P) ∧ X < w.heap.size := by
  obtain ⟨tb, z, h1, h2, e⟩ := H
  exact ⟨h1.cell (j := 0) (by omega), h1.lt⟩
/-- One of its tables, asked for an address. -/
theorem Wq.look (H : Wq w X P S fs) {x : Nat} (hx : x < 6) (hT : Tab (fs x)) (a : Int) : ∃ tb, w.cell? ⟨X, 1 + x, none⟩ = some (pv tb) ∧ ∀ Y, Gr w Y → Calls Tryz.prog 21 #[pv tb, iv a] Y fun e w' => e = .returned (iv (lookL (fs x) a)) ∧ Gr Y w' := by
  obtain ⟨tb, z, h1, h2, e⟩ := H
  refine ⟨tb x, ?_, fun Y g => ?_⟩
  · have := h1.cell (j := 1 + x) (by omega)
    unfold wkF at this
    rw [if_neg (by omega), show 1 + x - 1 = x by omega] at this
    exact this
  · exact (look_is ((h2 x hx).gr g) (by have := hT.len; omega) rfl ⟨Y, Gr.refl Y⟩).mono fun _ _ ⟨he, d, hd⟩ => ⟨he, by rw [hd]; exact d.gr⟩
end
section
variable {M : Nat → Prop} {B w : World} {P : Nat} {S : Nat → Prop} {c : Nat → Nat → Nat} {t : Tn} {n : Nat} {rs : List Rt}
/-- The links of a Post's Net: three pointers away. -/
theorem Pq.links (H : Pq M B w P S c t n rs) : ∃ p k, P < w.heap.size ∧ p < w.heap.size ∧ k < w.heap.size ∧ w.cell? ⟨P, 0, none⟩ = some (pv p) ∧ w.cell? ⟨p, 0, none⟩ = some (pv k) ∧ ∀ Y, Gr w Y → KL Y k c := by
  obtain ⟨p, k, q, v, tb, u, h, e⟩ := H
  exact ⟨p, k, lt_of_block h.blk, h.net.h.blk.lt, h.net.h.lk.lt, (cells2 h.blk).1, h.net.h.links, fun Y g => h.net.h.lk.gr g⟩
end

end Go.Proofs.YtcgflhjgllpohafGreatDoor

/- CONTRACT OF package walk: New. -/
namespace Go.Proofs.YtcgflhjgllpohafGreatDoor
open Go.RowKit
attribute [local go_sem] Ext.all Ext.cell Ext.frozen Ext.lt Ext.lt1 Ext.lt2 Ext.ne Ext.ne'
/-- A node's table, small or full. -/
def tabL (t : Tn) (rs : List Rt) (sm : Bool) (x : Nat) : List Rt := if sm then lstL (fullL t (x : Int) rs) else fullL t (x : Int) rs
theorem tabL_look {t : Tn} {c : Nat → Nat → Nat} (A : TnA t c) {rs : List Rt} (h : Tab rs) (sm : Bool) (x : Nat) (a : Int) : Tab (tabL t rs sm x) ∧ lookL (tabL t rs sm x) a = letH t rs a x := by
  unfold tabL letH
  cases sm
  · exact ⟨full_tab A x h, rfl⟩
  · exact ⟨lst_tab (full_tab A x h), lst_lookI (full_tab A x h) a⟩
/-- The walk's cells as far as they are set. -/
def wkG (P : Nat) (tb : Nat → Nat) (n : Nat) : Nat → Value := fun i => if i = 0 then pv P else if i ≤ n then pv (tb (i - 1)) else .pointer none
section
variable {M : Nat → Prop} {B w w' : World} {P : Nat} {S : Nat → Prop} {c : Nat → Nat → Nat} {t : Tn} {n : Nat} {rs : List Rt}
theorem Pq.tab (H : Pq M B w P S c t n rs) (h64 : Tab64 w) (sm : Bool) {x : Nat} (hx : x < 6) : Calls Tryz.prog (if sm then 15 else 14) #[pv P, iv (x : Int)] w fun e w' => ∃ ub z, e = .returned (pv ub) ∧ TabS w' (fun k => k < w.heap.size) ub z (tabL t rs sm x) ∧ Gr w w' := by
  obtain ⟨p, k, q, v, tb, u, h, e⟩ := H
  have hn : isN (x : Int) := ⟨by omega, by omega⟩
  cases sm
  · exact fibFull_po h hn
  · exact fibSmall_po h h64 hn
set_option maxRecDepth 20000 in
set_option maxHeartbeats 16000000 in
theorem walkNew_any (H : Pq M B w P S c t n rs) (h64 : Tab64 w) (sm : Bool) : Calls Tryz.prog 28 #[pv P, .bool sm] w fun e w' => ∃ X SW, e = .returned (pv X) ∧ Wq w' X P SW (tabL t rs sm) ∧ Gr w w' ∧ ∀ b, SW b → w.heap.size ≤ b := by
  have HT := hide (fun (V : World) (g : Gr w V) (x : Nat) (hx : x < 6) => (H.gr g).tab (h64.gr g) sm hx)
  clear H h64
  generalize tabL t rs sm = fs at *
  have B0 : Hid (VArr (w.alloc (.cells #[pv P, .pointer none, .pointer none, .pointer none, .pointer none, .pointer none, .pointer none] 93)) 93 7 w.heap.size (wkG P (fun _ => 0) 0)) := heap_alloc_new w _
  cases sm
  all_goals
    simp only [if_true, if_false, Bool.false_eq_true] at HT
    go_enter Tryz.func28, Tryz.ntmps28
    go_wp2_with fail
    go_loopw [13, 6] (fun v10 _ wr => ∃ (i : Nat) (tb : Nat → Nat) (z : Nat → Value), i ≤ 6 ∧ v10 = .int .i64 (i : Int) ∧ Hid (VArr wr 93 7 w.heap.size (wkG P tb i)) ∧ Hid (∀ x, x < i → TabS wr (fun b => b ≤ w.heap.size) (tb x) (z x) (fs x)) ∧ Hid (Gr w wr)) (fun v10 _ _ => (6 - intOf v10).toNat)
    case atStart => exact ⟨0, fun _ => 0, fun _ => .pointer none, by omega, rfl, B0, fun x hx => absurd hx (by omega), (Gr.refl w).alloc _⟩
    case round =>
      clear B0
      obtain ⟨i, tb, z, hi6, rfl, BX, TS, GW⟩ := hrel
      have hX := BX.out.lt
      by_cases hi : i < 6
      · have hii : decide ((i : Int) < 6) = true := decide_eq_true (by omega)
        have hi0 : (i : Int) < 6 := by omega
        have wi : IntKind.i64.wrap ((i : Int) + 1) = (i : Int) + 1 := by rw [IntKind.wrap_i64]; omega
        have HC := hide (HT.out wr.drew GW.out.drew i hi)
        have HST : Hid (∀ (V : World) (ub : Nat) (y : Value), Gr wr V → TabS V (fun k => k < wr.heap.size) ub y (fs i) → (V.cell? ⟨w.heap.size, 1 + i, none⟩ = some (.pointer none) ∧ V.frozen? ⟨w.heap.size, 1 + i, none⟩ = false ∧ w.heap.size < V.heap.size) ∧ VArr (V.setCell ⟨w.heap.size, 1 + i, none⟩ (pv ub)) 93 7 w.heap.size (wkG P (fun x => if x = i then ub else tb x) (i + 1)) ∧ (∀ x, x < i + 1 → TabS (V.setCell ⟨w.heap.size, 1 + i, none⟩ (pv ub)) (fun b => b ≤ w.heap.size) (if x = i then ub else tb x) (if x = i then y else z x) (fs x)) ∧ Gr w (V.setCell ⟨w.heap.size, 1 + i, none⟩ (pv ub))) := fun V ub y g hU => by
          have hV := BX.out.gr g
          have hs := Below.size g
          have c0 := hV.cell (j := 1 + i) (by omega)
          have e0 : wkG P tb i (1 + i) = .pointer none := by unfold wkG; rw [if_neg (by omega), if_neg (by omega)]
          rw [e0] at c0
          have hk : Kp (fun b => b ≠ w.heap.size) V (V.setCell ⟨w.heap.size, 1 + i, none⟩ (pv ub)) := (Kp.refl _ _).set (fun h => h rfl) _ _
          refine ⟨⟨c0, hV.free _, hV.lt⟩, hV.set (fun j hj => ?_), fun x hx => ?_, (GW.out.trans g).setCell (Nat.le_refl _) _⟩
          · unfold wkG
            by_cases e1 : j = 0
            · rw [if_pos e1, if_pos e1, if_neg (by omega)]
            · rw [if_neg e1, if_neg e1]
              by_cases e2 : j = 1 + i
              · rw [if_pos e2, if_pos (by omega)]
                show pv (if j - 1 = i then ub else tb (j - 1)) = _
                rw [if_pos (by omega)]
              · rw [if_neg e2]
                by_cases e3 : j ≤ i
                · rw [if_pos (by omega), if_pos e3]
                  show pv (if j - 1 = i then ub else tb (j - 1)) = _
                  rw [if_neg (by omega)]
                · rw [if_neg (by omega), if_neg e3]
          · by_cases e : x = i
            · subst e
              rw [if_pos rfl, if_pos rfl]
              have h1 := hU.kept hk (fun e => hU.notTb (by omega)) (fun g hg e => hU.notRow g hg (by omega))
              exact ⟨h1.cell, h1.own, fun e => h1.notTb (by omega), fun g hg e => h1.notRow g hg (by omega), fun b hb => h1.bd b (by omega)⟩
            · rw [if_neg e, if_neg e]
              have h0 := (TS.out x (by omega)).gr g
              exact h0.kept hk (fun e => h0.notTb (by omega)) (fun g hg e => h0.notRow g hg (by omega))
        first
          | (go_upto_region 8 with (fail)
             go_region_with (go_at_call 15; refine HC.out.mono ?_; rintro e w2 ⟨ub, y, rfl, t2, g2'⟩; obtain ⟨⟨q0, q1, q2⟩, v2, ts2, gr2⟩ := HST.out w2 ub y (((Gr.refl wr).drew).trans g2') t2; have V2 := hide v2; have TS2 := hide ts2; have GR2 := hide gr2; clear v2 ts2 gr2 t2 g2'))
          | (go_upto_region 9 with (fail)
             go_region_with (go_at_call 14; refine HC.out.mono ?_; rintro e w2 ⟨ub, y, rfl, t2, g2'⟩; obtain ⟨⟨q0, q1, q2⟩, v2, ts2, gr2⟩ := HST.out w2 ub y (((Gr.refl wr).drew).trans g2') t2; have V2 := hide v2; have TS2 := hide ts2; have GR2 := hide gr2; clear v2 ts2 gr2 t2 g2'))
        all_goals
          go_wp2_with fail
          go_roundw
          case rel => exact ⟨i + 1, _, _, by omega, by congr 1, V2, TS2, GR2⟩
          case measure => simp [intOf]; omega
      · have hii : decide ((i : Int) < 6) = false := decide_eq_false (by omega)
        have e6 : i = 6 := by omega
        have HE : Hid (∃ SW, Wq wr w.heap.size P SW fs ∧ ∀ b, SW b → w.heap.size ≤ b) := by
          subst e6
          refine ⟨_, ⟨tb, z, BX.out.congr (fun j hj => ?_), fun x hx => ?_, rfl⟩, ?_⟩
          · unfold wkG wkF
            by_cases e1 : j = 0
            · rw [if_pos e1, if_pos e1]
            · rw [if_neg e1, if_neg e1, if_pos (by omega)]
          · have h0 := TS.out x hx
            exact ⟨h0.cell, h0.own, fun e => e, fun _ _ e => e, fun _ e => absurd e id⟩
          · rintro b (rfl | ⟨x, hx, hb⟩)
            · exact Nat.le_refl _
            · have h0 := TS.out x hx
              rcases hb with rfl | hb
              · have := h0.notTb; omega
              · have := h0.notRow b hb; omega
        go_wp2_with fail
        go_ret
        obtain ⟨SW, h1, h2⟩ := HE.out
        exact ⟨_, SW, rfl, h1, GW.out, h2⟩
end

end Go.Proofs.YtcgflhjgllpohafGreatDoor
