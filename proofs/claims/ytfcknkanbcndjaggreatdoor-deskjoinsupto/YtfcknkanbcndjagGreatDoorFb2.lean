import Derived.Test.YtfcknkanbcndjagGreatDoorFw1
import Derived.Test.YtfcknkanbcndjagGreatDoorW8
import Derived.Test.YtfcknkanbcndjagGreatDoorLPlain2
import Derived.Test.YtfcknkanbcndjagGreatDoorRInv
import Derived.Test.YtfcknkanbcndjagGreatDoorFb1p
import Derived.Test.YtfcknkanbcndjagGreatDoorTw21
import Derived.Test.YtfcknkanbcndjagGreatDoorTw2
import Derived.Deep.RegionHeld3
/- THE REFERENCE'S Town: Small. -/
namespace Go.Proofs.YtfcknkanbcndjagGreatDoor
open Go.RowKit
attribute [local go_sem] Ext.all Ext.cell Ext.frozen Ext.lt Ext.lt1 Ext.lt2 Ext.ne Ext.ne'
theorem want_own {B : World} {g : Nat} {rs : List Rt} (hT : Tab rs) (H : Nums B g 0 256 (fun j => lookL rs j)) :
    Calls Tryz.prog 138 #[pfx 0 0, .slice (some ⟨g, 0, none⟩) 256 256, iv (-1)] B fun e w' => ∃ ao c, e = .returned (.slice ao (lstL rs).length c) ∧ Own B w' (.slice ao (lstL rs).length c) (lstL rs) ∧ Gr B w' := by
  refine (leastOf_any (fun j => lookL rs j) (fun j => hT.hops j) g 8 0 0 0 256 256 (-1) B SpT.root rfl (by decide) (by decide) (by decide) H).mono ?_
  rintro e w' ⟨v, rfl, o, g⟩
  obtain ⟨ao, c, rfl, _, _⟩ := o.shape
  exact ⟨ao, c, rfl, o, g⟩
theorem all_num0 {X : World} {g : Nat} {f : Nat → Int} (h : g < X.heap.size) (k : ∀ j : Nat, j < 256 → X.cell? ⟨g, j, none⟩ = some (iv (f j))) : Nums X g 0 256 f := ⟨h, fun j hj => by rw [Nat.zero_add]; exact k j hj⟩
section
variable {M N : Nat → Prop} {B w w' : World} {p : Nat} {q : Nat → Nat} {v o : Value} {t : Tn}
set_option maxRecDepth 20000 in
set_option maxHeartbeats 8000000 in
theorem wsmall_any {c : Nat → Nat → Nat} {ao : Option Addr} {cp : Nat} {rs : List Rt} (H : Tw M B w p q v (.slice ao rs.length cp) t) (A : TnA t c) (hR : RowAt w N ao rs) (hT : Tab rs) (n : Int) :
    Calls Tryz.prog 98 #[pv p, iv n] w fun e w' => ∃ u, e = .returned u ∧ Own w w' u (lstL (fullL t n rs)) ∧ Gr w w' := by
  have hlen := hT.len
  have HF := hide (wfull_any H hR (by omega) n)
  have TF := hide (full_tab A n hT)
  have hsl : (lstL (fullL t n rs)).length ≤ 40 := (lst_tab TF.out).len
  generalize fullL t n rs = fs at *
  have HA := hide (fun (X : World) (ao : Option Addr) (c : Nat) (h : RowAt X (fun k => w.heap.size ≤ k) ao fs) => allOf_any X _ ao fs.length c fs h rfl TF.out.toSrt)
  have HL := hide (fun (X : World) (g : Nat) (h : Nums X g 0 256 (fun j => lookL fs j)) => want_own TF.out h)
  clear H hR
  generalize lstL fs = ss at *
  have hd : decide ((40 : Int) < (ss.length : Int)) = false := decide_eq_false (by omega)
  have hd2 : ¬ (40 : Int) < (ss.length : Int) := by omega
  go_enter Tryz.func98, Tryz.ntmps98
  go_wp2_with (first
    | (go_at_call 97; with_reducible refine HF.out.mono ?_; rintro e w1 ⟨u1, rfl, o1, g1⟩; obtain ⟨ao1, c1, hu1, _, r1⟩ := o1.shape; subst hu1; have R1 := hide r1; have G1 := hide g1; clear o1 r1 g1)
    | (go_at_call 139; refine (HA.out _ _ _ R1.out).mono ?_; rintro e _ ⟨g2, rfl, hl2, hc2, d2, rfl⟩; have N2 := hide (all_num0 (f := fun j => lookL fs j) hl2 hc2); clear hl2 hc2)
    | (go_at_call 138; with_reducible refine (HL.out _ _ N2.out).mono ?_; rintro e w3 ⟨ao3, c3, rfl, o3, g3⟩; have O3 := hide o3; have G3 := hide g3; clear o3 g3)
    | fail)
  go_ret
  exact ⟨_, rfl, O3.out.mono (G1.out.ext d2), (G1.out.ext d2).trans G3.out⟩
end

end Go.Proofs.YtfcknkanbcndjagGreatDoor

/- FOR THE LAWS OF A POST: a Post, and the reference's Town with its owners, as objects with their own blocks. -/
namespace Go.Proofs.YtfcknkanbcndjagGreatDoor
open Go.RowKit

/-- The block of a list that is not empty. -/
def blkL (ao : Option Addr) (rs : List Rt) (b : Nat) : Prop := rs ≠ [] ∧ ∃ o, ao = some ⟨b, o, none⟩
theorem RowAt.blk {w : World} {M : Nat → Prop} {ao : Option Addr} {rs : List Rt} (h : RowAt w M ao rs) : RowAt w (fun b => M b ∧ blkL ao rs b) ao rs := by
  by_cases h0 : rs = []
  · exact .inl h0
  · rcases h with h | ⟨b, o, ha, hb, hm, hc⟩
    · exact absurd h h0
    · exact .inr ⟨b, o, ha, hb, ⟨hm, h0, o, ha⟩, hc⟩
theorem RowAt.lstM {w : World} {M : Nat → Prop} {ao : Option Addr} {rs : List Rt} (h : RowAt w M ao rs) {b : Nat} (hb : blkL ao rs b) : M b ∧ b < w.heap.size := by
  rcases h with h | ⟨b', o', ha, hl, hm, _⟩
  · exact absurd h hb.1
  · obtain ⟨_, o, e⟩ := hb
    rw [ha] at e
    cases e
    exact ⟨hm, hl⟩
/-- The reference's Town at T, with its owners. -/
def Tq (M : Nat → Prop) (B w : World) (T : Nat) (S : Nat → Prop) (c : Nat → Nat → Nat) (t : Tn) (n : Nat) (rs : List Rt) : Prop :=
  ∃ Q V ao cp, Tl M B w T Q V (.slice ao rs.length cp) c t n ∧ rs.length ≤ cp ∧ RowAt w (fun b => ¬ ownT T Q V b ∧ ¬ M b) ao rs ∧ S = fun b => ownT T Q V b ∨ blkL ao rs b
section
variable {M N : Nat → Prop} {B w w' : World} {P T : Nat} {S : Nat → Prop} {c : Nat → Nat → Nat} {t : Tn} {n : Nat} {rs : List Rt}
theorem Tq.gr (H : Tq M B w T S c t n rs) (g : Gr w w') : Tq M B w' T S c t n rs := by
  obtain ⟨Q, V, ao, cp, h, hc, hr, e⟩ := H
  exact ⟨Q, V, ao, cp, h.ext g, hc, hr.gr g, e⟩
theorem Tq.keep (H : Tq M B w T S c t n rs) (hk : Kp N w w') (hMN : ∀ b, M b → N b) (hS : ∀ b, S b → N b) : Tq M B w' T S c t n rs := by
  obtain ⟨Q, V, ao, cp, h, hc, hr, e⟩ := H
  subst e
  refine ⟨Q, V, ao, cp, ⟨h.h.keep hk hMN (hS _ (.inl (.inl rfl))) (fun a ha => hS _ (.inl (.inr (.inl ⟨a, ha, rfl⟩)))) (fun b e => hS b (.inl (.inr (.inr e)))), h.a, h.l, h.g⟩, hc, ?_, rfl⟩
  exact (hr.blk.kept (hk.mono fun b _ hb => hS b (.inr hb.2))).mono fun b _ hb => hb.1
theorem Tq.lt (H : Tq M B w T S c t n rs) {b : Nat} (hb : S b) : b < w.heap.size := by
  obtain ⟨Q, V, ao, cp, h, hc, hr, e⟩ := H
  subst e
  rcases hb with hb | hb
  · exact h.h.own_lt hb
  · exact (hr.lstM hb).2
theorem restT_not {Q : Nat → Nat} {V : Value} {b : Nat} (hb : restT w T Q V b) : ¬ ownT T Q V b := by
  rintro (e | ⟨a, ha, e⟩ | e)
  · exact hb.2.1 e
  · exact hb.2.2.1 a ha e
  · exact hb.2.2.2 e
theorem restT_of {Q : Nat → Nat} {V : Value} {b : Nat} (hb : b < w.heap.size) (h : ¬ ownT T Q V b) : restT w T Q V b :=
  ⟨hb, fun e => h (.inl e), fun a ha e => h (.inr (.inl ⟨a, ha, e⟩)), fun e => h (.inr (.inr e))⟩
theorem FrW.nw {Q : Nat → Nat} {V V' : Value} (f : FrW w T Q V w' V') {b : Nat} (hb : ownT T Q V' b) : ownT T Q V b ∨ w.heap.size ≤ b := by
  by_cases h : ownT T Q V b
  · exact .inl h
  · by_cases hl : b < w.heap.size
    · exact absurd hb (restT_not (f.rst (restT_of hl h)))
    · exact .inr (by omega)
theorem Tq.do (H : Tq M B w T S c t n rs) (hT : Tab rs) (hn : n ≤ 100000) (x : Sp) (l b : Int) :
    Calls Tryz.prog 28 #[pv T, .agg #[iv x.k, iv x.a, iv x.b, iv x.n, iv l, iv b]] w fun e w' => e = .returned (iv (fdoC t rs x l b).2) ∧ ∃ S', Tq M B w' T S' (nextC c x) (fdoC t rs x l b).1.1 (n + 1) (fdoC t rs x l b).1.2 ∧ Chg w w' S S' := by
  obtain ⟨Q, V, ao, cp, h, hc, hr, e⟩ := H
  subst e
  by_cases h7 : x.k = 7
  · obtain ⟨ss, code, hs⟩ : ∃ ss code, ownC rs x.a x.n l b = (ss, code) := ⟨_, _, rfl⟩
    have e1 : fdoC t rs x l b = ((t, ss), code) := by unfold fdoC; rw [if_pos h7, hs]
    have e2 : nextC c x = c := by unfold nextC; rw [if_neg (by omega)]
    rw [e1, e2]
    obtain ⟨kd, xa, xb, xn⟩ := x
    simp only at h7 hs
    subst h7
    refine (wdo_own (N := fun k => (¬ ownT T Q V k ∧ ¬ M k) ∧ blkL ao rs k) h.h hc hr.blk (fun e => e.1.1 (.inl rfl)) hT xa xb xn l b hs).mono ?_
    rintro e w' ⟨he, ao', cp', hTw, hcp, hrow, hk⟩
    have hsz := hk.size
    have hrow' : RowAt w' (fun b => ¬ ownT T Q V b ∧ ¬ M b) ao' ss := hrow.mono fun k _ hk => by
      rcases hk with q | q
      · exact q.1
      · exact ⟨fun ho => by have := h.h.own_lt ho; omega, fun hm => by have := (h.h.sub hm).1; omega⟩
    refine ⟨he, _, ⟨Q, V, ao', cp', ⟨hTw, h.a, h.l, fun k hk => by have := h.g k hk; show agT t k ≤ _; omega⟩, hcp, hrow', rfl⟩, ⟨hk.mono fun b _ hb e => hb.2 (.inl (.inl e)), ?_⟩⟩
    rintro b' (hb | hb)
    · exact .inl (.inl hb)
    · rcases (hrow.lstM hb).1 with q | q
      · exact .inl (.inr q.2)
      · exact .inr q
  · have e1 : fdoC t rs x l b = (((doT t x).1, rs), (doT t x).2) := by unfold fdoC; rw [if_neg h7]
    rw [e1]
    refine (h.do' hn x h7 (iv l) (iv b)).mono ?_
    rintro e w' ⟨V', he, h', f⟩
    have hrow' : RowAt w' (fun b => ¬ ownT T Q V' b ∧ ¬ M b) ao rs := by
      have h1 : RowAt w (fun b => restT w T Q V b ∧ ¬ M b) ao rs := hr.mono fun k hk hh => ⟨restT_of hk hh.1, hh.2⟩
      exact (h1.kept (f.kp.mono fun _ _ hb => hb.1)).mono fun k _ hk => ⟨restT_not (f.rst hk.1), hk.2⟩
    refine ⟨he, _, ⟨Q, V', ao, cp, h', hc, hrow', rfl⟩, ⟨f.kp.mono fun b _ hb => restT_of hb.1 (fun ho => hb.2 (.inl ho)), ?_⟩⟩
    rintro b' (hb | hb)
    · rcases f.nw hb with q | q
      · exact .inl (.inl q)
      · exact .inr q
    · exact .inl (.inr hb)
theorem Tq.wfull (H : Tq M B w T S c t n rs) (hm : rs.length ≤ 1000) (x : Int) : Calls Tryz.prog 97 #[pv T, iv x] w fun e w' => ∃ u, e = .returned u ∧ Own w w' u (fullL t x rs) ∧ Gr w w' := by
  obtain ⟨Q, V, ao, cp, h, hc, hr, e⟩ := H
  exact wfull_any h.h hr hm x
theorem Tq.wsmall (H : Tq M B w T S c t n rs) (hT : Tab rs) (x : Int) : Calls Tryz.prog 98 #[pv T, iv x] w fun e w' => ∃ u, e = .returned u ∧ Own w w' u (lstL (fullL t x rs)) ∧ Gr w w' := by
  obtain ⟨Q, V, ao, cp, h, hc, hr, e⟩ := H
  exact wsmall_any h.h h.a hr hT x
end

end Go.Proofs.YtfcknkanbcndjagGreatDoor

/- FOR THE LAWS OF A POST: handpostlaw.posts. -/
namespace Go.Proofs.YtfcknkanbcndjagGreatDoor
open Go.RowKit
attribute [local go_sem] Ext.all Ext.cell Ext.frozen Ext.lt Ext.lt1 Ext.lt2 Ext.ne Ext.ne'
section
variable {w w1 w' : World} {P T n n' : Nat} {c c' : Nat → Nat → Nat} {t t' : Tn} {rs rs' : List Rt}
end
end Go.Proofs.YtfcknkanbcndjagGreatDoor
