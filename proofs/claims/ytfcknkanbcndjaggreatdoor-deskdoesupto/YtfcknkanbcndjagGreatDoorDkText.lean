import Derived.Test.YtfcknkanbcndjagGreatDoorTw17
import Derived.Test.YtfcknkanbcndjagGreatDoorTw18
import Derived.Test.YtfcknkanbcndjagGreatDoorTw19
import Derived.Test.YtfcknkanbcndjagGreatDoorTw20
import Derived.Test.YtfcknkanbcndjagGreatDoorRBt
import Derived.Test.YtfcknkanbcndjagGreatDoorFw2
import Derived.Test.YtfcknkanbcndjagGreatDoorL1
import Derived.Test.YtfcknkanbcndjagGreatDoorKPlain2
import Derived.Lib.AtoiAll
import Derived.Lib.ItoaNum
/- THE REFERENCE'S Town: Do, of whatever is handed in but whose is what. -/
namespace Go.Proofs.YtfcknkanbcndjagGreatDoor
open Go.RowKit

section
variable {M : Nat → Prop} {B w w' : World} {p : Nat} {q : Nat → Nat} {v o : Value} {c : Nat → Nat → Nat} {t : Tn} {n : Nat}
theorem wdo_any (H : Tw M B w p q v o t) (A : TnA t c) (hA : ∀ k, k < 6 → agT t k < 4611686018427387904) (hl : t.news.length ≤ 40) (x : Sp) (h7 : x.k ≠ 7) (X Y : Value) :
    Calls Tryz.prog 28 #[pv p, .agg #[iv x.k, iv x.a, iv x.b, iv x.n, X, Y]] w fun e w' => ∃ v', e = .returned (iv (doT t x).2) ∧ Tw M B w' p q v' o (doT t x).1 := by
  obtain ⟨kd, a, b, n⟩ := x
  dsimp only at h7 ⊢
  unfold doT
  dsimp only
  by_cases e1 : kd = 1
  · subst e1
    rw [if_pos rfl]
    unfold linkC
    by_cases h : isN a ∧ isN b ∧ a ≠ b ∧ 0 ≤ n ∧ n ≤ 15
    · rw [if_pos h]
      obtain ⟨i, rfl⟩ : ∃ i : Nat, a = (i : Int) := ⟨a.toNat, by omega⟩
      obtain ⟨j, rfl⟩ : ∃ j : Nat, b = (j : Int) := ⟨b.toNat, by omega⟩
      exact (wdo_link H A (by omega) (by omega) (by omega) h.2.2.2.1 h.2.2.2.2 X Y).mono fun _ _ ⟨h1, h2⟩ => ⟨v, h1, h2⟩
    · rw [if_neg h]
      exact (wdo_unlink H h X Y).mono fun _ _ ⟨h1, h2⟩ => ⟨v, h1, h2⟩
  · rw [if_neg e1]
    by_cases e2 : kd = 2
    · subst e2
      rw [if_pos rfl]
      by_cases h : isN a
      · rw [if_pos h]
        obtain ⟨i, rfl⟩ : ∃ i : Nat, a = (i : Int) := ⟨a.toNat, by omega⟩
        exact wdo_tick H A (by omega) (hA _ (by omega)) hl b n X Y
      · rw [if_neg h]
        exact (wdo_tick_no H h X Y).mono fun _ _ ⟨h1, h2⟩ => ⟨v, h1, h2⟩
    · rw [if_neg e2]
      by_cases e3 : kd = 3
      · subst e3
        rw [if_pos rfl]
        exact wdo_tell H A.s.tc.me hl a b n X Y
      · rw [if_neg e3]
        by_cases e4 : kd = 4 ∨ kd = 5 ∨ kd = 6
        · rw [if_pos e4]
          unfold newsC
          by_cases h : 0 ≤ n ∧ n.toNat < t.news.length
          · rw [dif_pos h]
            obtain ⟨i, rfl⟩ : ∃ i : Nat, n = (i : Int) := ⟨n.toNat, by omega⟩
            rcases e4 with rfl | rfl | rfl
            · rw [if_neg (by omega), if_pos rfl]
              exact wdo_hear H A hl (by omega) rfl X Y
            · rw [if_neg (by omega), if_neg (by omega)]
              exact wdo_lose H hl (by omega) X Y
            · rw [if_pos rfl]
              by_cases h4 : 40 ≤ t.news.length
              · rw [if_pos h4]
                exact wdo_full H h4 (n := i) (by omega) rfl X Y
              · rw [if_neg h4]
                exact wdo_double H (by omega) (n := i) (by omega) rfl X Y
          · rw [dif_neg h]
            exact (wdo_none H e4 (by omega) X Y).mono fun _ _ ⟨h1, h2⟩ => ⟨v, h1, H.ext h2⟩
        · rw [if_neg e4]
          exact (wdo_kind (by omega) a b n X Y).mono fun _ _ ⟨h1, h2⟩ => ⟨v, h1, H.ext h2⟩
theorem Tl.do' (H : Tl M B w p q v o c t n) (hn : n ≤ 100000) (x : Sp) (h7 : x.k ≠ 7) (X Y : Value) :
    Calls Tryz.prog 28 #[pv p, .agg #[iv x.k, iv x.a, iv x.b, iv x.n, X, Y]] w fun e w' => ∃ v', e = .returned (iv (doT t x).2) ∧ Tl M B w' p q v' o (nextC c x) (doT t x).1 (n + 1) ∧ FrW w p q v w' v' :=
  (wdo_any H.h.rest H.a (fun k hk => by have := H.g k hk; omega) H.l x h7 X Y).mono fun _ _ ⟨v', he, hh⟩ => by
    have hx := do_nx H.a x
    exact ⟨v', he, ⟨H.h.unrest hh, hx.a, do_len H.l x, fun k hk => by have := hx.age k hk; have := up_le x k; have := H.g k hk; omega⟩, hh.fr⟩
end

end Go.Proofs.YtfcknkanbcndjagGreatDoor

/- THE REFERENCE'S Town: NewTown. -/
namespace Go.Proofs.YtfcknkanbcndjagGreatDoor
open Go.RowKit
attribute [local go_sem] Ext.all Ext.cell Ext.frozen Ext.lt Ext.lt1 Ext.lt2 Ext.ne Ext.ne'
/-- The cells of a Town that is being made: the first k nodes are there. -/
def nwF2 (q : Nat → Nat) (k : Nat) : Nat → Value := fun i => if i < 36 then iv 0 else if i < 42 then (if i - 36 < k then pv (q (i - 36)) else .pointer none) else .slice none 0 0
theorem zero_town (w : World) : (zeroValue 110).run Tryz.prog w = .ok (.agg (vcells 44 (nwF2 (fun _ => 0) 0))) w := by kernel_rfl

set_option maxRecDepth 20000 in
set_option maxHeartbeats 8000000 in
theorem newTown_ok (w : World) (M : Nat → Prop) (hM : ∀ b, M b → b < w.heap.size) : Calls Tryz.prog 27 #[] w fun e w' => ∃ q, e = .returned (pv w.heap.size) ∧ Tw M w w' w.heap.size q (.slice none 0 0) (.slice none 0 0) newT ∧ Gr w w' ∧ ∀ a, a < 6 → w.heap.size ≤ q a := by
  have HM := hide hM
  clear hM
  have M0 : Hid (VArr (w.alloc (.cells (vcells 44 (nwF2 (fun _ => 0) 0)) 110)) 110 44 w.heap.size (nwF2 (fun _ => 0) 0)) := VArr.new w 110 44 _
  have hz := zero_town
  generalize vcells 44 (nwF2 (fun _ => 0) 0) = Z at hz M0
  go_enter Tryz.func27, Tryz.ntmps27
  go_upto_region 2 with (fail)
  refine wp_gen (fun V => Hid (VArr V 110 44 w.heap.size (nwF2 (fun _ => 0) 0)) ∧ Hid (Gr w V)) ⟨M0.out, (Gr.refl _).alloc _⟩ ?_
  clear M0 hz
  generalize hp : w.heap.size = p at *
  have hpw : w.heap.size ≤ p := by omega
  have HP := hide hp
  clear hp
  rintro V ⟨M0, g0⟩
  go_wp2_with fail
  go_loopw [2] (fun v2 wr => ∃ (k : Nat) (q : Nat → Nat), k ≤ 6 ∧ v2 = .int .i64 (k : Int) ∧ Hid (VArr wr 110 44 p (nwF2 q k)) ∧ Hid (∀ a, a < k → MAt wr (q a) (newM a) ∧ w.heap.size ≤ q a ∧ q a ≠ p ∧ ∀ b, b < k → a ≠ b → q a ≠ q b) ∧ Hid (Gr w wr)) (fun v2 _ => (6 - intOf v2).toNat)
  case atStart => exact ⟨0, fun _ => 0, by omega, rfl, M0, fun a ha => by omega, g0⟩
  case round =>
    clear M0 g0
    obtain ⟨k, q, hk6, rfl, M0, Q0, g0⟩ := hrel
    by_cases hk : k < 6
    · have hki : decide ((k : Int) < 6) = true := decide_eq_true (by omega)
      have hk0 : (k : Int) < 6 := by omega
      have wk : IntKind.i64.wrap ((k : Int) + 1) = (k : Int) + 1 := by rw [IntKind.wrap_i64]; omega
      have HN := hide (newMind_ok hk wr.drew)
      have fz := VArr.free M0.out
      have q0 := VArr.cell M0.out (j := 36 + k) (by omega)
      have hp := VArr.lt M0.out
      go_upto_region 5 with (fail)
      go_region_with (go_at_call 48; with_reducible refine HN.out.mono ?_; rintro e V1 ⟨rfl, N1', g1'⟩; have N1 := hide N1'; have G1 := hide ((Gr.refl wr).drewTo g1'); clear N1' g1'; have hp2 := VArr.lt (M0.out.gr G1.out); have fz2 := VArr.free (M0.out.gr G1.out); have r0 := VArr.cell (M0.out.gr G1.out) (j := 36 + k) (by omega))
      all_goals
        have SM : Hid (VArr (V1.setCell ⟨p, 36 + k, none⟩ (pv wr.heap.size)) 110 44 p (nwF2 (updW q k wr.heap.size) (k + 1))) := (M0.out.gr G1.out).set (fun i hi => by
          unfold nwF2
          by_cases e1 : i < 36
          · rw [if_pos e1, if_pos e1, if_neg (by omega)]
          · rw [if_neg e1, if_neg e1]
            by_cases e2 : i < 42
            · rw [if_pos e2, if_pos e2]
              by_cases e3 : i = 36 + k
              · rw [if_pos e3, if_pos (by omega), show i - 36 = k by omega, updW_same]
              · rw [if_neg e3]
                by_cases e4 : i - 36 < k
                · rw [if_pos e4, if_pos (by omega), updW_ne _ _ (by omega)]
                · rw [if_neg e4, if_neg (by omega)]
            · rw [if_neg e2, if_neg e2, if_neg (by omega)])
        have hkp : wr.heap.size ≠ p := by omega
        have SQ : Hid (∀ a, a < k + 1 → MAt (V1.setCell ⟨p, 36 + k, none⟩ (pv wr.heap.size)) (updW q k wr.heap.size a) (newM a) ∧ w.heap.size ≤ updW q k wr.heap.size a ∧ updW q k wr.heap.size a ≠ p ∧ ∀ b, b < k + 1 → a ≠ b → updW q k wr.heap.size a ≠ updW q k wr.heap.size b) := fun a ha => by
          have lt : ∀ b, b < k → q b < wr.heap.size := fun b hb => (Q0.out b hb).1.lt
          have hs := Below.size g0.out
          by_cases e : a = k
          · subst e
            rw [updW_same]
            refine ⟨ZArr.other (N1.out) hkp _ _, by omega, hkp, fun b hb hne => ?_⟩
            rw [updW_ne _ _ (fun x => hne x.symm)]
            have := lt b (by omega)
            omega
          · rw [updW_ne _ _ e]
            obtain ⟨h1, h2, h3, h4⟩ := Q0.out a (by omega)
            refine ⟨ZArr.other (h1.gr G1.out) h3 _ _, h2, h3, fun b hb hne => ?_⟩
            by_cases e2 : b = k
            · subst e2
              rw [updW_same]
              have := lt a (by omega)
              omega
            · rw [updW_ne _ _ e2]; exact h4 b (by omega) hne
        have SG := hide ((g0.out.trans G1.out).setCell (p := ⟨p, 36 + k, none⟩) hpw (pv wr.heap.size))
        go_wp2_with fail
        go_roundw
        case rel => exact ⟨k + 1, _, by omega, by congr 1, SM, SQ, SG⟩
        case measure => simp [intOf]; omega
    · have hki : decide ((k : Int) < 6) = false := decide_eq_false (by omega)
      have ek : k = 6 := by omega
      subst ek
      have SB : Hid (VArr wr 110 44 p (twF (fun _ _ => 0) q (.slice none 0 0) (.slice none 0 0))) := M0.out.congr (fun j hj => by
        unfold nwF2 twF
        by_cases e1 : j < 36
        · rw [if_pos e1, if_pos e1]
        · rw [if_neg e1, if_neg e1]
          by_cases e2 : j < 42
          · rw [if_pos e2, if_pos e2, if_pos (by omega)]
          · rw [if_neg e2, if_neg e2]; split <;> rfl)
      go_wp2_with fail
      have hpe := HP.out
      clear HP
      subst hpe
      go_ret
      have no : ∀ b, w.heap.size ≤ b → ¬ M b := fun b hb hm => by have := HM.out b hm; omega
      exact ⟨q, rfl, ⟨g0.out.kp M, HM.out, SB.out, ⟨fun a ha => (Q0.out a ha).1, fun a b ha hb hne => (Q0.out a ha).2.2.2 b hb hne⟩, NwO.nil _ _, no _ (Nat.le_refl _), fun a ha => no _ (Q0.out a ha).2.1, fun b e => by cases e⟩, g0.out, fun a ha => (Q0.out a ha).2.1⟩

end Go.Proofs.YtfcknkanbcndjagGreatDoor

/- FOR THE LAWS OF A POST: a Post, and the reference's Town with its owners, as objects with their own blocks. -/
namespace Go.Proofs.YtfcknkanbcndjagGreatDoor
open Go.RowKit

/-- The block of a list that is not empty. -/
def blkL (ao : Option Addr) (rs : List Rt) (b : Nat) : Prop := rs ≠ [] ∧ ∃ o, ao = some ⟨b, o, none⟩
theorem RowAt.blk {w : World} {M : Nat → Prop} {ao : Option Addr} {rs : List Rt} (h : RowAt w M ao rs) : RowAt w (fun b => M b ∧ blkL ao rs b) ao rs := by
  by_cases h0 : rs = []
  · exact .inl h0
  · rcases h with h | ⟨b, o, ha, hb, hm, hc⟩
    · exact absurd h h0
    · exact .inr ⟨b, o, ha, hb, ⟨hm, h0, o, ha⟩, hc⟩
theorem RowAt.lstM {w : World} {M : Nat → Prop} {ao : Option Addr} {rs : List Rt} (h : RowAt w M ao rs) {b : Nat} (hb : blkL ao rs b) : M b ∧ b < w.heap.size := by
  rcases h with h | ⟨b', o', ha, hl, hm, _⟩
  · exact absurd h hb.1
  · obtain ⟨_, o, e⟩ := hb
    rw [ha] at e
    cases e
    exact ⟨hm, hl⟩
/-- The reference's Town at T, with its owners. -/
def Tq (M : Nat → Prop) (B w : World) (T : Nat) (S : Nat → Prop) (c : Nat → Nat → Nat) (t : Tn) (n : Nat) (rs : List Rt) : Prop :=
  ∃ Q V ao cp, Tl M B w T Q V (.slice ao rs.length cp) c t n ∧ rs.length ≤ cp ∧ RowAt w (fun b => ¬ ownT T Q V b ∧ ¬ M b) ao rs ∧ S = fun b => ownT T Q V b ∨ blkL ao rs b
section
variable {M N : Nat → Prop} {B w w' : World} {P T : Nat} {S : Nat → Prop} {c : Nat → Nat → Nat} {t : Tn} {n : Nat} {rs : List Rt}
theorem Tq.gr (H : Tq M B w T S c t n rs) (g : Gr w w') : Tq M B w' T S c t n rs := by
  obtain ⟨Q, V, ao, cp, h, hc, hr, e⟩ := H
  exact ⟨Q, V, ao, cp, h.ext g, hc, hr.gr g, e⟩
theorem Tq.keep (H : Tq M B w T S c t n rs) (hk : Kp N w w') (hMN : ∀ b, M b → N b) (hS : ∀ b, S b → N b) : Tq M B w' T S c t n rs := by
  obtain ⟨Q, V, ao, cp, h, hc, hr, e⟩ := H
  subst e
  refine ⟨Q, V, ao, cp, ⟨h.h.keep hk hMN (hS _ (.inl (.inl rfl))) (fun a ha => hS _ (.inl (.inr (.inl ⟨a, ha, rfl⟩)))) (fun b e => hS b (.inl (.inr (.inr e)))), h.a, h.l, h.g⟩, hc, ?_, rfl⟩
  exact (hr.blk.kept (hk.mono fun b _ hb => hS b (.inr hb.2))).mono fun b _ hb => hb.1
theorem Tq.lt (H : Tq M B w T S c t n rs) {b : Nat} (hb : S b) : b < w.heap.size := by
  obtain ⟨Q, V, ao, cp, h, hc, hr, e⟩ := H
  subst e
  rcases hb with hb | hb
  · exact h.h.own_lt hb
  · exact (hr.lstM hb).2
theorem restT_not {Q : Nat → Nat} {V : Value} {b : Nat} (hb : restT w T Q V b) : ¬ ownT T Q V b := by
  rintro (e | ⟨a, ha, e⟩ | e)
  · exact hb.2.1 e
  · exact hb.2.2.1 a ha e
  · exact hb.2.2.2 e
theorem restT_of {Q : Nat → Nat} {V : Value} {b : Nat} (hb : b < w.heap.size) (h : ¬ ownT T Q V b) : restT w T Q V b :=
  ⟨hb, fun e => h (.inl e), fun a ha e => h (.inr (.inl ⟨a, ha, e⟩)), fun e => h (.inr (.inr e))⟩
theorem Tq.out (H : Tq M B w T S c t n rs) {b : Nat} (hm : M b) : b < w.heap.size ∧ ¬ S b := by
  obtain ⟨Q, V, ao, cp, h, hc, hr, e⟩ := H
  subst e
  refine ⟨(h.h.sub hm).1, ?_⟩
  rintro (hb | hb)
  · exact restT_not (h.h.sub hm) hb
  · exact (hr.lstM hb).1.2 hm
theorem FrW.nw {Q : Nat → Nat} {V V' : Value} (f : FrW w T Q V w' V') {b : Nat} (hb : ownT T Q V' b) : ownT T Q V b ∨ w.heap.size ≤ b := by
  by_cases h : ownT T Q V b
  · exact .inl h
  · by_cases hl : b < w.heap.size
    · exact absurd hb (restT_not (f.rst (restT_of hl h)))
    · exact .inr (by omega)
theorem Tq.do (H : Tq M B w T S c t n rs) (hT : Tab rs) (hn : n ≤ 100000) (x : Sp) (l b : Int) :
    Calls Tryz.prog 28 #[pv T, .agg #[iv x.k, iv x.a, iv x.b, iv x.n, iv l, iv b]] w fun e w' => e = .returned (iv (fdoC t rs x l b).2) ∧ ∃ S', Tq M B w' T S' (nextC c x) (fdoC t rs x l b).1.1 (n + 1) (fdoC t rs x l b).1.2 ∧ Chg w w' S S' := by
  obtain ⟨Q, V, ao, cp, h, hc, hr, e⟩ := H
  subst e
  by_cases h7 : x.k = 7
  · obtain ⟨ss, code, hs⟩ : ∃ ss code, ownC rs x.a x.n l b = (ss, code) := ⟨_, _, rfl⟩
    have e1 : fdoC t rs x l b = ((t, ss), code) := by unfold fdoC; rw [if_pos h7, hs]
    have e2 : nextC c x = c := by unfold nextC; rw [if_neg (by omega)]
    rw [e1, e2]
    obtain ⟨kd, xa, xb, xn⟩ := x
    simp only at h7 hs
    subst h7
    refine (wdo_own (N := fun k => (¬ ownT T Q V k ∧ ¬ M k) ∧ blkL ao rs k) h.h hc hr.blk (fun e => e.1.1 (.inl rfl)) hT xa xb xn l b hs).mono ?_
    rintro e w' ⟨he, ao', cp', hTw, hcp, hrow, hk⟩
    have hsz := hk.size
    have hrow' : RowAt w' (fun b => ¬ ownT T Q V b ∧ ¬ M b) ao' ss := hrow.mono fun k _ hk => by
      rcases hk with q | q
      · exact q.1
      · exact ⟨fun ho => by have := h.h.own_lt ho; omega, fun hm => by have := (h.h.sub hm).1; omega⟩
    refine ⟨he, _, ⟨Q, V, ao', cp', ⟨hTw, h.a, h.l, fun k hk => by have := h.g k hk; show agT t k ≤ _; omega⟩, hcp, hrow', rfl⟩, ⟨hk.mono fun b _ hb e => hb.2 (.inl (.inl e)), ?_⟩⟩
    rintro b' (hb | hb)
    · exact .inl (.inl hb)
    · rcases (hrow.lstM hb).1 with q | q
      · exact .inl (.inr q.2)
      · exact .inr q
  · have e1 : fdoC t rs x l b = (((doT t x).1, rs), (doT t x).2) := by unfold fdoC; rw [if_neg h7]
    rw [e1]
    refine (h.do' hn x h7 (iv l) (iv b)).mono ?_
    rintro e w' ⟨V', he, h', f⟩
    have hrow' : RowAt w' (fun b => ¬ ownT T Q V' b ∧ ¬ M b) ao rs := by
      have h1 : RowAt w (fun b => restT w T Q V b ∧ ¬ M b) ao rs := hr.mono fun k hk hh => ⟨restT_of hk hh.1, hh.2⟩
      exact (h1.kept (f.kp.mono fun _ _ hb => hb.1)).mono fun k _ hk => ⟨restT_not (f.rst hk.1), hk.2⟩
    refine ⟨he, _, ⟨Q, V', ao, cp, h', hc, hrow', rfl⟩, ⟨f.kp.mono fun b _ hb => restT_of hb.1 (fun ho => hb.2 (.inl ho)), ?_⟩⟩
    rintro b' (hb | hb)
    · rcases f.nw hb with q | q
      · exact .inl (.inl q)
      · exact .inr q
    · exact .inl (.inr hb)
/-- What is done to one object leaves another one. -/
theorem Tq.beside {S1 S2 S2' : Nat → Prop} (H : Tq M B w T S1 c t n rs) (hM : ∀ b, M b → b < w.heap.size ∧ ¬ S2 b) (ap : ∀ b, S1 b → ¬ S2 b) (k : Chg w w' S2 S2') : Tq M B w' T S1 c t n rs ∧ ∀ b, S1 b → ¬ S2' b :=
  ⟨H.keep k.kp hM (fun b hb => ⟨H.lt hb, ap b hb⟩), fun b hb h2 => by
    rcases k.nw b h2 with q | q
    · exact ap b hb q
    · have := H.lt hb; omega⟩
theorem Tq.wfull (H : Tq M B w T S c t n rs) (hm : rs.length ≤ 1000) (x : Int) : Calls Tryz.prog 97 #[pv T, iv x] w fun e w' => ∃ u, e = .returned u ∧ Own w w' u (fullL t x rs) ∧ Gr w w' := by
  obtain ⟨Q, V, ao, cp, h, hc, hr, e⟩ := H
  exact wfull_any h.h hr hm x
theorem Tq.wsmall (H : Tq M B w T S c t n rs) (hT : Tab rs) (x : Int) : Calls Tryz.prog 98 #[pv T, iv x] w fun e w' => ∃ u, e = .returned u ∧ Own w w' u (lstL (fullL t x rs)) ∧ Gr w w' := by
  obtain ⟨Q, V, ao, cp, h, hc, hr, e⟩ := H
  exact wsmall_any h.h h.a hr hT x
end

end Go.Proofs.YtfcknkanbcndjagGreatDoor

/- CONTRACT OF package prefix: Text. -/
namespace Go.Proofs.YtfcknkanbcndjagGreatDoor
open Go.RowKit
attribute [local go_sem] Ext.all Ext.cell Ext.frozen Ext.lt Ext.lt1 Ext.lt2 Ext.ne Ext.ne'
theorem Tryz.info5 : (Tryz.prog.info? 5).map (fun i => (i.zero, i.size, i.bytes)) = some (some (.int .u8 0), 1, 1) := by kernel_rfl

theorem or_0 (b : Int) (h0 : 0 ≤ b) (h : b < 256) : bits .or .i64 (b * 2) 0 = b * 2 := by
  have : ∀ n : Fin 256, bits .or .i64 ((n.val : Int) * 2) 0 = (n.val : Int) * 2 := by decide +kernel
  have h1 := this ⟨b.toNat, by omega⟩
  simpa [Int.toNat_of_nonneg h0] using h1
theorem or_1 (b : Int) (h0 : 0 ≤ b) (h : b < 256) : bits .or .i64 (b * 2) 1 = b * 2 + 1 := by
  have : ∀ n : Fin 256, bits .or .i64 ((n.val : Int) * 2) 1 = (n.val : Int) * 2 + 1 := by decide +kernel
  have h1 := this ⟨b.toNat, by omega⟩
  simpa [Int.toNat_of_nonneg h0] using h1

theorem and_1 (x : Int) (h0 : 0 ≤ x) (h : x < 256) : bits .and .i64 x 1 = x % 2 := by
  have : ∀ n : Fin 256, bits .and .i64 (n.val : Int) 1 = (n.val : Int) % 2 := by decide +kernel
  have h1 := this ⟨x.toNat, by omega⟩
  simpa [Int.toNat_of_nonneg h0] using h1

theorem div_bd (b : Int) (k : Nat) (h0 : 0 ≤ b) (h : b < 256) : 0 ≤ b / 2 ^ k ∧ b / 2 ^ k < 256 := by
  have hp : (0 : Int) < 2 ^ k := Int.pow_pos (by decide)
  exact ⟨Int.ediv_nonneg h0 (Int.le_of_lt hp), Int.lt_of_le_of_lt (Int.ediv_le_self _ h0) h⟩

abbrev ub (u : UInt8) : Value := .int .u8 u.toNat

/-- 'string(b)' of bytes that the call itself has gathered. -/
theorem own_string {w : World} {base n : Nat} {v : Value} {l : List UInt8} (h : w.ownsRow base 5 1 v n (l.map ub)) :
    (convert 92 9 v).run Tryz.prog w = .ok (.string ⟨l.toArray⟩) w := by
  obtain ⟨hlen, h | ⟨g, cap, cur, rfl, hg, hh, hn, hc, hs, ht⟩⟩ := h
  · obtain ⟨rfl, rfl⟩ := h
    have : l = [] := by simpa using hlen
    subst this
    rw [run_convert_bytes_string w 92 9 5 none 0 0 Tryz.underlying92 Tryz.underlying5 Tryz.underlying9]; rfl
  · have hl : l.length = n := by simpa using hlen
    subst hl
    refine run_convert_bytes_back (P := Tryz.prog) w 92 9 5 ⟨g, 0, none⟩ cap l Tryz.underlying92 Tryz.underlying5 Tryz.underlying9 (fun j hj => ?_)
    have hc : w.cell? ⟨g, j, none⟩ = (l.map ub)[j]? := by
      have hown : w.ownsRow base 5 1 (.slice (some ⟨g, 0, none⟩) l.length cap) l.length (l.map ub) := ⟨hlen, .inr ⟨g, cap, cur, rfl, hg, hh, hn, hc, hs, ht⟩⟩
      exact hown.cellAt j (by omega)
    rw [Addr.add_lit, Nat.zero_add, hc]
    simp [hj]

theorem text_no (l b : Int) (ho : okB l b = false) (w : World) :
    Calls Tryz.prog 126 #[pfx l b] w fun e w' => e = .returned (.string ⟨#[]⟩) ∧ ∃ d : Ext w, w' = d.out := by
  go_enter Tryz.func126, Tryz.ntmps126
  go_wp2_with (go_at_call 114; refine (check_is ho _).mono ?_; rintro e _ ⟨rfl, d1, rfl⟩)
  go_ret
  exact ⟨rfl, ext_mk (((Gr.refl _).alloc _).ext d1)⟩

set_option maxRecDepth 20000 in
set_option maxHeartbeats 800000 in
theorem text_yes (n : Nat) (b : Int) (ho : okB n b = true) (w : World) :
    Calls Tryz.prog 126 #[pfx n b] w fun e w' => e = .returned (.string ⟨(textL n b).toArray⟩) ∧ ∃ d : Ext w, w' = d.out := by
  obtain ⟨h0, h8, hb, hl, g1, g2⟩ := ok_pows ho
  obtain ⟨p1, p2⟩ := pw_bd n (by omega)
  have hb8 : b < 256 := by omega
  obtain ⟨i0, hi, hz0, hz1, hz2⟩ := info_parts Tryz.info5
  go_enter Tryz.func126, Tryz.ntmps126
  go_wp2_with (first | (go_at_call 114; refine (check_is ho _).mono ?_; rintro e _ ⟨rfl, d1, rfl⟩) | (at_make; refine wpList_make_own _ rfl _ _ 92 rfl d1.out.heap.size 5 i0 (.int .u8 0) 1 Tryz.underlying92 hi hz0 hz1 _ _ _ 8 rfl rfl rfl ?b2 ?b3 (Nat.le_refl _) ?_))
  case b2 => rw [hz2]; decide
  case b3 => unfold maxLen; decide
  intro w0 hown0 hgrow0
  have gr0 : Gr d1.out w0 := (Gr.refl _).grown hgrow0 (fun k h => by cases h)
  obtain ⟨d0, rfl⟩ := ext_mk gr0
  clear hgrow0 gr0
  go_wp2
  go_loopw [3, 4] (fun v i wr => ∃ (m : Nat) (j : Int), (m : Int) - 1 ≤ j ∧ j ≤ (m : Int) - 1 ∧ m ≤ n ∧ i = .int .i64 j ∧ wr.ownsRow d1.out.heap.size 5 1 v (n - m) ((bitsL (n - m) (b / 2 ^ m)).map ub) ∧ Gr d1.out wr) (fun _ i _ => (intOf i + 1).toNat)
  case atStart => exact ⟨n, n - 1, by omega, by omega, by omega, rfl, by simpa [bitsL] using hown0, d0.gr⟩
  case round =>
    clear hown0
    obtain ⟨m, j, j1, j2, hm, rfl, hown, hgr⟩ := hrel
    obtain ⟨dr, rfl⟩ := ext_mk hgr
    clear hgr d0
    cases m with
    | zero =>
      have hj : ¬ 0 ≤ j := by omega
      by_cases h7 : n < 8
      · go_wp2_with (at_builtin; refine wpList_append_own _ rfl (.tmp 29) (.tmp 30) 92 rfl d1.out.heap.size 5 i0 (.int .u8 0) 1 1 Tryz.underlying92 hi hz0 hz1 hz2 rfl (by decide) _ _ _ rfl (hown.alloc _) ⟨dr.out.heap.size, 0, none⟩ 1 1 [.int .u8 42] rfl rfl (cell_one_new _ _ _) ?c2 ?c3 ?c4 ?c5 ?_)
        case c2 => first | rfl | (intro u hu; simp at hu; subst hu; rfl)
        case c3 => unfold maxLen; omega
        case c4 => omega
        case c5 => have := Below.size dr.gr; simp; omega
        intro v' w1 hown' hgrow _
        have hl := hown.lt
        have gr1 : Gr d1.out w1 := (dr.gr.alloc _).grown hgrow (fun k hk => (hl k hk).1)
        have hcv := own_string (l := bitsL n b ++ [42]) (w := w1) (by simpa [ub] using hown')
        have ht : textL n b = bitsL n b ++ [42] := by simp [textL, ho]; omega
        have HT : Hid _ := ht
        obtain ⟨d2, rfl⟩ := ext_mk gr1
        clear hown' hgrow hown hl gr1 ht
        go_wp2
        go_ret
        exact ⟨by rw [HT.out]; rfl, ext_mk ((((Gr.refl _).alloc _).ext d1).ext d2)⟩
      · have ht : textL n b = bitsL n b := by simp [textL, ho]; omega
        have HT : Hid _ := ht
        have hcv := own_string (l := bitsL n b) (w := dr.out) (by simpa [ub] using hown)
        clear hown ht
        go_wp2
        go_ret
        exact ⟨by rw [HT.out]; rfl, ext_mk ((((Gr.refl _).alloc _).ext d1).ext dr)⟩
    | succ m =>
      have hj : 0 ≤ j := by omega
      have hjm : j.toNat = m := by omega
      obtain ⟨q0, q1⟩ := div_bd b j.toNat hb hb8
      have hand := and_1 _ q0 q1
      by_cases hbit : b / 2 ^ m % 2 = 1
      · have hand1 : bits .and .i64 (b / 2 ^ j.toNat) 1 = 1 := by rw [hand, hjm]; exact hbit
        have hnx := bitsL_next n m b 49 (by omega) (by simp [hbit])
        have HN : Hid _ := hnx
        clear hand hjm hbit hnx
        go_wp2_with (at_builtin; refine wpList_append_own _ rfl (.tmp 16) (.tmp 24) 92 rfl d1.out.heap.size 5 i0 (.int .u8 0) 1 1 Tryz.underlying92 hi hz0 hz1 hz2 rfl (by decide) _ _ _ rfl (hown.alloc _) ⟨dr.out.heap.size, 0, none⟩ 1 1 [.int .u8 49] rfl rfl (cell_one_new _ _ _) ?e2 ?e3 ?e4 ?e5 ?_)
        case e2 => first | rfl | (intro u hu; simp at hu; subst hu; rfl)
        case e3 => unfold maxLen; omega
        case e4 => omega
        case e5 => have := Below.size dr.gr; simp; omega
        intro v' w1 hown' hgrow _
        have hl := hown.lt
        have gr1 : Gr d1.out w1 := (dr.gr.alloc _).grown hgrow (fun k hk => (hl k hk).1)
        have hown2 : w1.ownsRow d1.out.heap.size 5 1 v' (n - m) ((bitsL (n - m) (b / 2 ^ m)).map ub) := by
          rw [HN.out, show n - m = n - (m + 1) + 1 by omega]; simpa [ub] using hown'
        obtain ⟨d2, rfl⟩ := ext_mk gr1
        clear hown' hgrow hown hl gr1
        go_wp2
        go_roundw
        case rel => exact ⟨m, j - 1, by omega, by omega, by omega, rfl, hown2, d2.gr⟩
        case measure => simp [intOf]; omega
      · have hand1 : bits .and .i64 (b / 2 ^ j.toNat) 1 = 0 := by rw [hand, hjm]; omega
        have hnx := bitsL_next n m b 48 (by omega) (by simp [hbit])
        have HN : Hid _ := hnx
        clear hand hjm hbit hnx
        go_wp2_with (at_builtin; refine wpList_append_own _ rfl (.tmp 16) (.tmp 24) 92 rfl d1.out.heap.size 5 i0 (.int .u8 0) 1 1 Tryz.underlying92 hi hz0 hz1 hz2 rfl (by decide) _ _ _ rfl (hown.alloc _) ⟨dr.out.heap.size, 0, none⟩ 1 1 [.int .u8 48] rfl rfl (cell_one_new _ _ _) ?g2 ?g3 ?g4 ?g5 ?_)
        case g2 => first | rfl | (intro u hu; simp at hu; subst hu; rfl)
        case g3 => unfold maxLen; omega
        case g4 => omega
        case g5 => have := Below.size dr.gr; simp; omega
        intro v' w1 hown' hgrow _
        have hl := hown.lt
        have gr1 : Gr d1.out w1 := (dr.gr.alloc _).grown hgrow (fun k hk => (hl k hk).1)
        have hown2 : w1.ownsRow d1.out.heap.size 5 1 v' (n - m) ((bitsL (n - m) (b / 2 ^ m)).map ub) := by
          rw [HN.out, show n - m = n - (m + 1) + 1 by omega]; simpa [ub] using hown'
        obtain ⟨d2, rfl⟩ := ext_mk gr1
        clear hown' hgrow hown hl gr1
        go_wp2
        go_roundw
        case rel => exact ⟨m, j - 1, by omega, by omega, by omega, rfl, hown2, d2.gr⟩
        case measure => simp [intOf]; omega

theorem text_any (l b : Int) (w : World) :
    Calls Tryz.prog 126 #[pfx l b] w fun e w' => e = .returned (.string ⟨(textL l b).toArray⟩) ∧ ∃ d : Ext w, w' = d.out := by
  cases ho : okB l b
  · have ht : textL l b = [] := by simp [textL, ho]
    rw [ht]
    exact text_no l b ho w
  · obtain ⟨n, rfl⟩ := Int.eq_ofNat_of_zero_le (ok_pows ho).1
    exact text_yes n b ho w

end Go.Proofs.YtfcknkanbcndjagGreatDoor

/- CONTRACTS OF package prefix: bitCount, Parse. -/
namespace Go.Proofs.YtfcknkanbcndjagGreatDoor
open Go.RowKit
attribute [local go_sem] Ext.all Ext.cell Ext.frozen Ext.lt Ext.lt1 Ext.lt2 Ext.ne Ext.ne'
theorem count_full (s : ByteArray) (b1 : s.size ≤ 8) (b2 : 8 ≤ s.size) (hl : ((s[s.size - 1]'(by omega)).toNat : Int) ≠ 42) (w : World) :
    Calls Tryz.prog 198 #[.string s] w fun e w' => e = .returned (.tuple #[.int .i64 8, .bool true]) ∧ w' = w := by
  have e8 : ((s.size : Int) == 8) = true := by simp; omega
  have el : (((s[s.size - 1]'(by omega)).toNat : Int) != 42) = true := by simpa using hl
  clear hl
  go_enter Tryz.func198, Tryz.ntmps198
  go_wp2
  go_ret2
  exact ⟨rfl, rfl⟩

theorem count_star (s : ByteArray) (h0 : 0 < s.size) (h8 : s.size ≤ 8) (hl : ((s[s.size - 1]'(by omega)).toNat : Int) = 42) (w : World) :
    Calls Tryz.prog 198 #[.string s] w fun e w' => e = .returned (.tuple #[.int .i64 (s.size - 1), .bool true]) ∧ w' = w := by
  have el : (((s[s.size - 1]'(by omega)).toNat : Int) != 42) = false := by simpa using hl
  have el2 : (((s[s.size - 1]'(by omega)).toNat : Int) == 42) = true := by simpa using hl
  have d1 : decide ((s.size : Int) ≤ 8) = true := by simp; omega
  have d2 : decide (0 < (s.size : Int)) = true := by simp; omega
  clear hl
  by_cases e : s.size = 8
  · have e8 : ((s.size : Int) == 8) = true := by simp; omega
    have b2 : 8 ≤ s.size := by omega
    clear e
    go_enter Tryz.func198, Tryz.ntmps198
    go_wp2
    go_ret2
    exact ⟨rfl, rfl⟩
  · have e8 : ((s.size : Int) == 8) = false := by simp; omega
    go_enter Tryz.func198, Tryz.ntmps198
    go_wp2
    go_ret2
    exact ⟨rfl, rfl⟩

theorem count_none (s : ByteArray) (hz : s.size = 0 ∨ 8 < s.size) (w : World) (hs : s.size ≤ maxLen) :
    Calls Tryz.prog 198 #[.string s] w fun e w' => e = .returned (.tuple #[.int .i64 0, .bool false]) ∧ w' = w := by
  unfold maxLen at hs
  have e8 : ((s.size : Int) == 8) = false := by simp; omega
  by_cases e : 8 < s.size
  · have d1 : decide ((s.size : Int) ≤ 8) = false := by simp; omega
    have d2 : decide (0 < (s.size : Int)) = true := by simp; omega
    clear hz
    go_enter Tryz.func198, Tryz.ntmps198
    go_wp2
    go_ret2
    exact ⟨rfl, rfl⟩
  · have d2 : decide (0 < (s.size : Int)) = false := decide_eq_false (by omega)
    have d3 : s.size ≤ 0 := by omega
    clear hz
    go_enter Tryz.func198, Tryz.ntmps198
    go_wp2
    go_ret2
    exact ⟨rfl, rfl⟩

theorem count_short (s : ByteArray) (h0 : 0 < s.size) (h8 : s.size < 8) (hl : ((s[s.size - 1]'(by omega)).toNat : Int) ≠ 42) (w : World) :
    Calls Tryz.prog 198 #[.string s] w fun e w' => e = .returned (.tuple #[.int .i64 0, .bool false]) ∧ w' = w := by
  have el2 : (((s[s.size - 1]'(by omega)).toNat : Int) == 42) = false := by simpa using hl
  have d1 : decide ((s.size : Int) ≤ 8) = true := by simp; omega
  have d2 : decide (0 < (s.size : Int)) = true := by simp; omega
  have e8 : ((s.size : Int) == 8) = false := by simp; omega
  clear hl
  go_enter Tryz.func198, Tryz.ntmps198
  go_wp2
  go_ret2
  exact ⟨rfl, rfl⟩

/-- What the first k bytes of a text tell, as bits. -/
def valL : List UInt8 → Int
  | [] => 0
  | c :: t => (if c = 49 then 2 ^ t.length else 0) + valL t

theorem valL_snoc : ∀ (l : List UInt8) (c : UInt8), valL (l ++ [c]) = valL l * 2 + if c = 49 then 1 else 0
  | [], c => by simp [valL]
  | d :: t, c => by
    simp only [List.cons_append, valL, valL_snoc t c, List.length_append, List.length_singleton]
    split <;> split <;> simp [Int.pow_succ] <;> omega

theorem valL_bd : ∀ l : List UInt8, 0 ≤ valL l ∧ valL l < 2 ^ l.length
  | [] => by simp [valL]
  | c :: t => by
    have h := valL_bd t
    have hp : (0 : Int) < 2 ^ t.length := Int.pow_pos (by decide)
    simp only [valL, List.length_cons, Int.pow_succ]
    split <;> omega

def bitB (c : UInt8) : Bool := c = 48 || c = 49

theorem take_snoc (s : ByteArray) (k : Nat) (h : k < s.size) : s.data.toList.take (k + 1) = s.data.toList.take k ++ [s[k]] := by
  rw [List.take_succ_eq_append_getElem (by simpa using h)]; rfl

theorem val_bd (s : ByteArray) (k : Nat) (hk : k < 8) : 0 ≤ valL (s.data.toList.take k) ∧ valL (s.data.toList.take k) < 256 := by
  obtain ⟨h0, h1⟩ := valL_bd (s.data.toList.take k)
  refine ⟨h0, Int.lt_of_lt_of_le h1 ?_⟩
  have hl : (s.data.toList.take k).length ≤ 8 := by simp; omega
  have := (pw_bd ((s.data.toList.take k).length : Nat) (by omega)).2
  simpa using this

theorem bit_cases {c : UInt8} (h : bitB c = true) : (c = 48 ∧ (c.toNat : Int) = 48) ∨ (c = 49 ∧ (c.toNat : Int) = 49) := by
  simp [bitB] at h
  rcases h with rfl | rfl
  · left; decide
  · right; decide

/-- The second field of the newest struct is stored into, behind some draws. -/
theorem put_2 (X : World) (x y u : Value) (q z : Nat) (hz : z = X.heap.size) : ((X.alloc (.cells #[x, y] 52)).drewN q).setCell ⟨z, 1, none⟩ u = (X.alloc (.cells #[x, u] 52)).drewN q := by
  subst hz
  have h := World.setCell_alloc_at (w := X) #[x, y] 52 X.heap.size 1 u rfl
  show ((X.alloc (.cells #[x, y] 52)).setCell ⟨X.heap.size, 1, none⟩ u).drewN q = _
  rw [h]; rfl

set_option maxRecDepth 20000 in
set_option maxHeartbeats 1000000 in
theorem parse_bits (s : ByteArray) (n : Nat) (hn : n ≤ s.size) (h8 : n ≤ 8) (hct : ∀ w, Calls Tryz.prog 198 #[.string s] w fun e w' => e = .returned (.tuple #[.int .i64 n, .bool true]) ∧ w' = w) 
    (hall : ∀ k (h : k < n), bitB s[k] = true) (w : World) :
    Calls Tryz.prog 166 #[.string s] w fun e w' => e = .returned (.tuple #[pfx n (valL (s.data.toList.take n)), .bool true]) ∧ ∃ d : Ext w, w' = d.out := by
  have HC : Hid _ := hct
  have HA : Hid _ := hall
  clear hct hall
  go_enter Tryz.func166, Tryz.ntmps166
  go_wp2_with (go_at_call 198; refine (HC.out _).mono ?_; rintro e w' ⟨rfl, hw⟩; subst hw)
  go_loopw [19] (fun i wr => ∃ (k q : Nat) (v : Int), k ≤ n ∧ Hid (v = valL (s.data.toList.take k)) ∧ i = .int .i64 k ∧ wr = ((w.alloc (.cells #[.int .i64 0, .int .i64 0] 52)).alloc (.cells #[.int .i64 n, .int .i64 v] 52)).drewN q) (fun i _ => n - (intOf i).toNat)
  case atStart => exact ⟨0, 0, 0, by omega, (by simp [valL, Hid]), rfl, rfl⟩
  case round =>
    obtain ⟨k, q, v, hk, HV, rfl, rfl⟩ := hrel
    by_cases hlt : k < n
    · obtain ⟨v0, v1⟩ : 0 ≤ v ∧ v < 256 := by rw [HV.out]; exact val_bd s k (by omega)
      have hks : k < s.size := by omega
      have htk := take_snoc s k hks
      rcases bit_cases (HA.out k hlt) with ⟨hc, hb⟩ | ⟨hc, hb⟩
      · have hv' : valL (s.data.toList.take (k + 1)) = v * 2 := by rw [htk, valL_snoc, ← HV.out, hc]; simp
        have HV' : Hid _ := hv'
        have o0 := or_0 v v0 v1
        clear hv' htk hc
        go_wp2
        go_region
        go_wp2
        go_roundw
        case rel => exact ⟨k + 1, _, v * 2, by omega, HV'.out.symm, by go_num, put_2 _ _ _ _ _ _ (by simp)⟩
        case measure => simp [intOf]; omega
      · have hv' : valL (s.data.toList.take (k + 1)) = v * 2 + 1 := by rw [htk, valL_snoc, ← HV.out, hc]; simp
        have HV' : Hid _ := hv'
        have o1 := or_1 v v0 v1
        clear hv' htk hc
        go_wp2
        go_region
        go_wp2
        go_roundw
        case rel => exact ⟨k + 1, _, v * 2 + 1, by omega, HV'.out.symm, by go_num, put_2 _ _ _ _ _ _ (by simp)⟩
        case measure => simp [intOf]; omega
    · have hkn : k = n := by omega
      have HK : Hid _ := hkn
      clear hkn
      go_wp2
      refine bodyPost_ret (v := .tuple #[pfx n v, .bool true]) (by simp [results, Tryz.results166, go_sem]) rfl ⟨by rw [HV.out, HK.out], ext_mk ?_⟩
      exact (((((Gr.refl _).alloc _).alloc _).drewN _).setCell (by simp) _).setCell (by simp) _

set_option maxRecDepth 20000 in
set_option maxHeartbeats 1000000 in
theorem parse_bad (s : ByteArray) (n m : Nat) (hn : n ≤ s.size) (h8 : n ≤ 8) (hct : ∀ w, Calls Tryz.prog 198 #[.string s] w fun e w' => e = .returned (.tuple #[.int .i64 n, .bool true]) ∧ w' = w) 
    (hm : m < n) (hall : ∀ k (h : k < m), bitB s[k] = true) (hbad : bitB s[m] = false) (w : World) :
    Calls Tryz.prog 166 #[.string s] w fun e w' => e = .returned (.tuple #[pfx 0 0, .bool false]) ∧ ∃ d : Ext w, w' = d.out := by
  have HC : Hid _ := hct
  have HA : Hid _ := hall
  have HB : Hid _ := hbad
  clear hct hall hbad
  go_enter Tryz.func166, Tryz.ntmps166
  go_wp2_with (go_at_call 198; refine (HC.out _).mono ?_; rintro e w' ⟨rfl, hw⟩; subst hw)
  go_loopw [19] (fun i wr => ∃ (k q : Nat) (v : Int), k ≤ m ∧ Hid (v = valL (s.data.toList.take k)) ∧ i = .int .i64 k ∧ wr = ((w.alloc (.cells #[.int .i64 0, .int .i64 0] 52)).alloc (.cells #[.int .i64 n, .int .i64 v] 52)).drewN q) (fun i _ => n - (intOf i).toNat)
  case atStart => exact ⟨0, 0, 0, by omega, (by simp [valL, Hid]), rfl, rfl⟩
  case round =>
    obtain ⟨k, q, v, hk, HV, rfl, rfl⟩ := hrel
    have hks : k < s.size := by omega
    by_cases hlt : k < m
    · obtain ⟨v0, v1⟩ : 0 ≤ v ∧ v < 256 := by rw [HV.out]; exact val_bd s k (by omega)
      have htk := take_snoc s k hks
      rcases bit_cases (HA.out k hlt) with ⟨hc, hb⟩ | ⟨hc, hb⟩
      · have hv' : valL (s.data.toList.take (k + 1)) = v * 2 := by rw [htk, valL_snoc, ← HV.out, hc]; simp
        have HV' : Hid _ := hv'
        have o0 := or_0 v v0 v1
        clear hv' htk hc
        go_wp2
        go_region
        go_wp2
        go_roundw
        case rel => exact ⟨k + 1, _, v * 2, by omega, HV'.out.symm, by go_num, put_2 _ _ _ _ _ _ (by simp)⟩
        case measure => simp [intOf]; omega
      · have hv' : valL (s.data.toList.take (k + 1)) = v * 2 + 1 := by rw [htk, valL_snoc, ← HV.out, hc]; simp
        have HV' : Hid _ := hv'
        have o1 := or_1 v v0 v1
        clear hv' htk hc
        go_wp2
        go_region
        go_wp2
        go_roundw
        case rel => exact ⟨k + 1, _, v * 2 + 1, by omega, HV'.out.symm, by go_num, put_2 _ _ _ _ _ _ (by simp)⟩
        case measure => simp [intOf]; omega
    · have hkm : k = m := by omega
      subst hkm
      have hb : s[k] ≠ 48 ∧ s[k] ≠ 49 := by have := HB.out; simpa [bitB] using this
      have e1 : ((s[k].toNat : Int) != 48) = true := by
        simp only [bne_iff_ne, ne_eq]; intro h; exact hb.1 (UInt8.toNat_inj.1 (by simpa using (by omega : s[k].toNat = 48)))
      have e2 : ((s[k].toNat : Int) != 49) = true := by
        simp only [bne_iff_ne, ne_eq]; intro h; exact hb.2 (UInt8.toNat_inj.1 (by simpa using (by omega : s[k].toNat = 49)))
      clear hb
      go_wp2
      refine bodyPost_ret (v := .tuple #[pfx 0 0, .bool false]) (by simp [results, Tryz.results166, go_sem]) rfl ⟨rfl, ext_mk ?_⟩
      exact (((((Gr.refl _).alloc _).alloc _).drewN _).setCell (by simp) _).setCell (by simp) _

theorem parse_none (s : ByteArray) (hct : ∀ w, Calls Tryz.prog 198 #[.string s] w fun e w' => e = .returned (.tuple #[.int .i64 0, .bool false]) ∧ w' = w) (w : World) :
    Calls Tryz.prog 166 #[.string s] w fun e w' => e = .returned (.tuple #[pfx 0 0, .bool false]) ∧ ∃ d : Ext w, w' = d.out := by
  have HC : Hid _ := hct
  clear hct
  go_enter Tryz.func166, Tryz.ntmps166
  go_wp2_with (go_at_call 198; refine (HC.out _).mono ?_; rintro e w' ⟨rfl, hw⟩; subst hw)
  refine bodyPost_ret (v := .tuple #[pfx 0 0, .bool false]) (by simp [results, Tryz.results166, go_sem]) rfl ⟨rfl, ext_mk ?_⟩
  exact ((Gr.refl _).alloc _)

/-- How many bytes are to be bits. -/
def pcntL (l : List UInt8) : Option Nat :=
  if l.length = 8 ∧ l.getLast? ≠ some 42 then some 8 else if 0 < l.length ∧ l.length ≤ 8 ∧ l.getLast? = some 42 then some (l.length - 1) else none
/-- The prefix that has that text. -/
def parseL (l : List UInt8) : Option (Nat × Int) :=
  match pcntL l with
  | none => none
  | some n => if (l.take n).all bitB then some (n, valL (l.take n)) else none

theorem last_at (s : ByteArray) (h : 0 < s.size) : s.data.toList.getLast? = some (s[s.size - 1]'(by omega)) := by
  rw [List.getLast?_eq_getElem?]
  have : s.data.toList.length = s.size := by simp
  rw [this, List.getElem?_eq_getElem (by rw [this]; omega)]
  rfl

theorem last_42 (s : ByteArray) (h : 0 < s.size) : (s.data.toList.getLast? = some 42) ↔ ((s[s.size - 1]'(by omega)).toNat : Int) = 42 := by
  rw [last_at s h]
  simp only [Option.some.injEq]
  constructor
  · intro h; rw [h]; rfl
  · intro h; exact UInt8.toNat_inj.1 (by simpa using (by omega : (s[s.size - 1]'(by omega)).toNat = 42))

/-- bitCount, whatever the text. -/
theorem count_some (s : ByteArray) (n : Nat) (h : pcntL s.data.toList = some n) : n ≤ s.size ∧ n ≤ 8 ∧ ∀ w, Calls Tryz.prog 198 #[.string s] w fun e w' => e = .returned (.tuple #[.int .i64 n, .bool true]) ∧ w' = w := by
  have hl : s.data.toList.length = s.size := by simp
  unfold pcntL at h
  rw [hl] at h
  split at h
  · rename_i hc
    cases h
    have h42 := last_42 s (by omega)
    refine ⟨by omega, by omega, fun w => ?_⟩
    exact count_full s (by omega) (by omega) (fun e => hc.2 (h42.2 e)) w
  · split at h
    · rename_i hc
      cases h
      have h42 := last_42 s (by omega)
      refine ⟨by omega, by omega, fun w => ?_⟩
      have := count_star s hc.1 hc.2.1 (h42.1 hc.2.2) w
      have e : ((s.size : Int) - 1) = ((s.size - 1 : Nat) : Int) := by omega
      rw [e] at this
      exact this
    · cases h

theorem count_no (s : ByteArray) (hs : s.size ≤ maxLen) (h : pcntL s.data.toList = none) : ∀ w, Calls Tryz.prog 198 #[.string s] w fun e w' => e = .returned (.tuple #[.int .i64 0, .bool false]) ∧ w' = w := by
  have hl : s.data.toList.length = s.size := by simp
  intro w
  unfold pcntL at h
  rw [hl] at h
  split at h
  · cases h
  · split at h
    · cases h
    · rename_i h1 h2
      by_cases hz : s.size = 0 ∨ 8 < s.size
      · exact count_none s hz w hs
      · have h42 := last_42 s (by omega)
        have h3 : ¬ s.data.toList.getLast? = some 42 := fun e => h2 ⟨by omega, by omega, e⟩
        have h4 : s.size ≠ 8 := fun e => h1 ⟨e, h3⟩
        exact count_short s (by omega) (by omega) (fun e => h3 (h42.2 e)) w

theorem parse_some (s : ByteArray) (n : Nat) (v : Int) (h : parseL s.data.toList = some (n, v)) (w : World) :
    Calls Tryz.prog 166 #[.string s] w fun e w' => e = .returned (.tuple #[pfx n v, .bool true]) ∧ ∃ d : Ext w, w' = d.out := by
  unfold parseL at h
  split at h
  · cases h
  · rename_i m hm
    obtain ⟨c1, c2, c3⟩ := count_some s m hm
    split at h
    · rename_i hall
      simp only [Option.some.injEq, Prod.mk.injEq] at h
      obtain ⟨rfl, rfl⟩ := h
      refine parse_bits s m c1 c2 c3 (fun k hk => ?_) w
      rw [List.all_eq_true] at hall
      apply hall
      rw [List.mem_take_iff_getElem]
      exact ⟨k, by simp; omega, rfl⟩
    · cases h

/-- The first place at which a text of bits is none. -/
theorem first_bad (f : UInt8 → Bool) : ∀ l : List UInt8, l.all f = false → ∃ m, ∃ h : m < l.length, f l[m] = false ∧ ∀ k (hk : k < m), f (l[k]'(by omega)) = true
  | [], h => by cases h
  | c :: t, h => by
    by_cases hc : f c = true
    · simp [hc] at h
      obtain ⟨m, h1, h2, h3⟩ := first_bad f t (by simpa using h)
      refine ⟨m + 1, by simpa using h1, by simpa using h2, fun k hk => ?_⟩
      cases k with
      | zero => simpa using hc
      | succ k => simpa using h3 k (by omega)
    · exact ⟨0, by simp, by simpa using hc, fun k hk => by omega⟩

theorem parse_nil (s : ByteArray) (hs : s.size ≤ maxLen) (h : parseL s.data.toList = none) (w : World) :
    Calls Tryz.prog 166 #[.string s] w fun e w' => e = .returned (.tuple #[pfx 0 0, .bool false]) ∧ ∃ d : Ext w, w' = d.out := by
  have hl : s.data.toList.length = s.size := by simp
  unfold parseL at h
  split at h
  · rename_i hc
    exact parse_none s (count_no s hs hc) w
  · rename_i n hn
    obtain ⟨c1, c2, c3⟩ := count_some s n hn
    split at h
    · cases h
    · rename_i hall
      obtain ⟨m, h1, h2, h3⟩ := first_bad bitB _ (by simpa using hall)
      have hm : m < n := by simp at h1; omega
      refine parse_bad s n m c1 c2 c3 hm (fun k hk => ?_) ?_ w
      · have := h3 k hk
        rw [List.getElem_take] at this
        exact this
      · rw [List.getElem_take] at h2
        exact h2

end Go.Proofs.YtfcknkanbcndjagGreatDoor

/- PLAIN FACTS for PrefixBack: a prefix has a text that tells it, and a text that tells a prefix is its. -/
namespace Go.Proofs.YtfcknkanbcndjagGreatDoor

theorem bitsL_bits : ∀ (n : Nat) (b : Int), (bitsL n b).all bitB = true
  | 0, _ => rfl
  | n + 1, b => by
    simp only [bitsL, List.all_append, bitsL_bits n, Bool.true_and, List.all_cons, List.all_nil, Bool.and_true]
    split <;> rfl

theorem valL_bitsL : ∀ (n : Nat) (b : Int), 0 ≤ b → b < 2 ^ n → valL (bitsL n b) = b
  | 0, b, h0, h1 => by simp at h1; simp [bitsL, valL]; omega
  | n + 1, b, h0, h1 => by
    rw [Int.pow_succ] at h1
    simp only [bitsL, valL_snoc, valL_bitsL n (b / 2) (by omega) (by omega)]
    by_cases h : b % 2 = 1 <;> simp [h] <;> omega

theorem bitsL_valL : ∀ (n : Nat) (l : List UInt8), l.length = n → l.all bitB = true → bitsL n (valL l) = l
  | 0, l, hl, _ => by
    have : l = [] := by simpa using hl
    subst this; rfl
  | n + 1, l, hl, hb => by
    have hne : l ≠ [] := by intro e; subst e; simp at hl
    have e := List.dropLast_concat_getLast hne
    generalize l.dropLast = t at e
    generalize l.getLast hne = c at e
    subst e
    simp only [List.all_append, Bool.and_eq_true, List.all_cons, List.all_nil, Bool.and_true] at hb
    have ht : t.length = n := by simpa using hl
    have ih := bitsL_valL n t ht hb.1
    rw [valL_snoc, bitsL]
    rcases bit_cases hb.2 with ⟨rfl, _⟩ | ⟨rfl, _⟩
    · have e1 : (valL t * 2 + if (48 : UInt8) = 49 then 1 else 0) / 2 = valL t := by simp
      have e2 : (valL t * 2 + if (48 : UInt8) = 49 then 1 else 0) % 2 = 0 := by simp
      rw [e1, e2, ih]; rfl
    · have e1 : (valL t * 2 + if (49 : UInt8) = 49 then 1 else 0) / 2 = valL t := by simp; omega
      have e2 : (valL t * 2 + if (49 : UInt8) = 49 then 1 else 0) % 2 = 1 := by simp
      rw [e1, e2, ih]; rfl

theorem last_bit {l : List UInt8} (h : l.all bitB = true) : l.getLast? ≠ some 42 := by
  intro e
  have hm := List.mem_of_getLast? e
  rw [List.all_eq_true] at h
  have := h 42 hm
  simp [bitB] at this

/-- There and back. -/
theorem parse_text (n : Nat) (b : Int) (h : okB n b = true) : parseL (textL n b) = some (n, b) := by
  obtain ⟨h0, h8, hb, hl⟩ := ok_iff.1 h
  have hl' : b < 2 ^ n := by simpa using hl
  have h8' : n ≤ 8 := by omega
  have ht : textL n b = bitsL n b ++ (if (n : Int) < 8 then [42] else []) := by simp [textL, h]
  have hbits := bitsL_bits n b
  have hlen := bitsL_length n b
  have hval := valL_bitsL n b hb hl'
  have hlast := last_bit hbits
  by_cases e : n = 8
  · have ht' : textL n b = bitsL n b := by rw [ht, if_neg (by omega), List.append_nil]
    have hc : pcntL (bitsL n b) = some n := by
      unfold pcntL
      rw [if_pos ⟨by omega, hlast⟩, e]
    unfold parseL
    rw [ht', hc]
    simp only
    have htk : (bitsL n b).take n = bitsL n b := List.take_of_length_le (by omega)
    rw [htk, if_pos hbits, hval]
  · have ht' : textL n b = bitsL n b ++ [42] := by rw [ht, if_pos (by omega)]
    have hc : pcntL (bitsL n b ++ [42]) = some n := by
      unfold pcntL
      rw [if_neg (by simp), if_pos ⟨by simp, by simp [hlen]; omega, by simp⟩]
      simp [hlen]
    unfold parseL
    rw [ht', hc]
    simp only
    have htk : (bitsL n b ++ [42]).take n = bitsL n b := by rw [List.take_append_of_le_length (by omega), List.take_of_length_le (by omega)]
    rw [htk, if_pos hbits, hval]

/-- A text that tells a prefix is its. -/
theorem text_parse (l : List UInt8) (n : Nat) (v : Int) (h : parseL l = some (n, v)) : okB n v = true ∧ textL n v = l := by
  unfold parseL at h
  split at h
  · cases h
  · rename_i m hm
    split at h
    · rename_i hall
      simp only [Option.some.injEq, Prod.mk.injEq] at h
      obtain ⟨rfl, rfl⟩ := h
      obtain ⟨v0, v1⟩ := valL_bd (l.take m)
      unfold pcntL at hm
      split at hm
      · rename_i hc
        cases hm
        have htk : l.take 8 = l := List.take_of_length_le (by omega)
        rw [htk] at hall v0 v1 ⊢
        rw [hc.1] at v1
        have ok : okB ((8 : Nat) : Int) (valL l) = true := ok_iff.2 ⟨by omega, by omega, v0, by simpa using v1⟩
        refine ⟨ok, ?_⟩
        have hb := bitsL_valL 8 l hc.1 hall
        simp only [textL, ok, if_true]
        rw [if_neg (by omega), List.append_nil]
        exact hb
      · split at hm
        · rename_i hc
          cases hm
          obtain ⟨hc0, hc8, hc42⟩ := hc
          have hlen : (l.take (l.length - 1)).length = l.length - 1 := by simp
          rw [hlen] at v1
          have ok : okB ((l.length - 1 : Nat) : Int) (valL (l.take (l.length - 1))) = true := ok_iff.2 ⟨by omega, by omega, v0, by simpa using v1⟩
          refine ⟨ok, ?_⟩
          have hb := bitsL_valL (l.length - 1) _ hlen hall
          simp only [textL, ok, if_true]
          rw [if_pos (by omega)]
          have e2 : l.take (l.length - 1) ++ [42] = l := by
            have hne : l ≠ [] := by intro e; subst e; simp at hc0
            have e3 := List.dropLast_concat_getLast hne
            rw [List.getLast?_eq_some_getLast hne] at hc42
            rw [Option.some.inj hc42] at e3
            rw [← List.dropLast_eq_take]
            exact e3
          rw [show ((l.length - 1 : Nat) : Int).toNat = l.length - 1 from by simp, hb]
          exact e2
        · cases hm
    · cases h

end Go.Proofs.YtfcknkanbcndjagGreatDoor

/- THE DESK AS TEXTS: what a line asks. No Go here. -/
namespace Go.Proofs.YtfcknkanbcndjagGreatDoor

abbrev Tx := List UInt8
/-- Words: parted by blanks; cur: the word that was begun. -/
def wgo : Tx → Tx → List Tx
  | [], cur => if cur = [] then [] else [cur]
  | c :: s, cur => if c = 32 then (if cur = [] then wgo s [] else cur :: wgo s []) else wgo s (cur ++ [c])
def wordsT (s : Tx) : List Tx := wgo s []
/-- A number, as short as can be. -/
def numT (s : Tx) : Option Int := match Go.Lib.atoiAll s with
  | .ok v => if Go.Lib.itoa v = s then some v else none
  | _ => none
def numsT : List Tx → Option (List Int)
  | [] => some []
  | s :: r => match numT s with
    | none => none
    | some v => (numsT r).map (v :: ·)
theorem nums_len : ∀ {r : List Tx} {n : List Int}, numsT r = some n → n.length = r.length
  | [], n, h => by cases h; rfl
  | s :: r, n, h => by
    unfold numsT at h
    cases e : numT s with
    | none => rw [e] at h; cases h
    | some v =>
      rw [e] at h
      simp only [Option.map_eq_some_iff] at h
      obtain ⟨m, hm, rfl⟩ := h
      simp [nums_len hm]

def wLink : Tx := [108, 105, 110, 107]
def wTick : Tx := [116, 105, 99, 107]
def wTell : Tx := [116, 101, 108, 108]
def wHear : Tx := [104, 101, 97, 114]
def wLose : Tx := [108, 111, 115, 101]
def wDouble : Tx := [100, 111, 117, 98, 108, 101]
def wOwn : Tx := [111, 119, 110]
def wFree : Tx := [102, 114, 101, 101]
def wWays : Tx := [119, 97, 121, 115]
def wNews : Tx := [110, 101, 119, 115]
def wFull : Tx := [102, 117, 108, 108]
def wSmall : Tx := [115, 109, 97, 108, 108]
def wLetter : Tx := [108, 101, 116, 116, 101, 114]
def wWhat : Tx := [119, 104, 97, 116]
def wOk : Tx := [111, 107]
def wNo : Tx := [110, 111]
def wWay : Tx := [119, 97, 121]
def wRoute : Tx := [114, 111, 117, 116, 101]
def wEnd : Tx := [101, 110, 100]
def wTrip : Tx := [116, 114, 105, 112]
/-- The words of the table, and how many numbers stand behind each. -/
def wdL : List Tx := [wLink, wTick, wTell, wHear, wLose, wDouble, wOwn, wFree, wWays, wNews, wFull, wSmall, wLetter]
def mnL : List Nat := [3, 1, 2, 1, 1, 1, 1, 1, 1, 0, 1, 1, 2]
/-- Which of the first k words it is, with m numbers: the last such; -1: none. -/
def atK (w : Tx) (m : Nat) : Nat → Int
  | 0 => -1
  | k + 1 => if wdL[k]? = some w ∧ mnL[k]? = some m then (k : Int) else atK w m k
inductive Ask where
  | nil | what | news
  | step (x : Sp) (l b : Int)
  | ways (a : Int) | full (a : Int) | small (a : Int)
  | letter (a x : Int)
def nth (n : List Int) (i : Nat) : Int := n.getD i 0
/-- What the word in the place i asks, with its numbers and its prefix. -/
def askI (i : Int) (n : List Int) (l b : Int) : Ask :=
  if i = 0 then .step ⟨1, nth n 0, nth n 1, nth n 2⟩ 0 0
  else if i = 1 then .step ⟨2, nth n 0, 0, 0⟩ 0 0
  else if i = 2 then .step ⟨3, nth n 0, nth n 1, 0⟩ 0 0
  else if i = 3 then .step ⟨4, 0, 0, nth n 0⟩ 0 0
  else if i = 4 then .step ⟨5, 0, 0, nth n 0⟩ 0 0
  else if i = 5 then .step ⟨6, 0, 0, nth n 0⟩ 0 0
  else if i = 6 then .step ⟨7, nth n 0, 0, 1⟩ l b
  else if i = 7 then .step ⟨7, nth n 0, 0, 0⟩ l b
  else if i = 8 then .ways (nth n 0)
  else if i = 9 then .news
  else if i = 10 then .full (nth n 0)
  else if i = 11 then .small (nth n 0)
  else if i = 12 then .letter (nth n 0) (nth n 1)
  else .what
/-- The prefix of a line, and its words behind it. -/
def headT (w : Tx) (r : List Tx) : Option (Int × Int × List Tx) :=
  if w = wOwn ∨ w = wFree then
    match r with
    | [p, x] => (parseL p).map fun q => ((q.1 : Int), q.2, [x])
    | _ => none
  else some (0, 0, r)
def askW : List Tx → Ask
  | [] => .nil
  | w :: r => match headT w r with
    | none => .what
    | some (l, b, r) => match numsT r with
      | none => .what
      | some n => askI (atK w n.length 13) n l b
def askT (s : Tx) : Ask := askW (wordsT s)

def joinT : List Tx → Tx
  | [] => []
  | [a] => a
  | a :: b :: r => a ++ 32 :: joinT (b :: r)
/-- A thing told. -/
def sayD (ws : List Tx) : Tx := joinT ws ++ [10]
abbrev ito (n : Int) : Tx := Go.Lib.itoa n

end Go.Proofs.YtfcknkanbcndjagGreatDoor
