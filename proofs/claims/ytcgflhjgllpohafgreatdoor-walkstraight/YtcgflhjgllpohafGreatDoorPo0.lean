import Derived.Test.YtcgflhjgllpohafGreatDoorNe14
import Derived.Test.YtcgflhjgllpohafGreatDoorNe1
import Derived.Test.YtcgflhjgllpohafGreatDoorNe8
import Derived.Test.YtcgflhjgllpohafGreatDoorD7
import Derived.Test.YtcgflhjgllpohafGreatDoorTPlain
import Derived.Test.YtcgflhjgllpohafGreatDoorD2
import Derived.Test.YtcgflhjgllpohafGreatDoorE1
/- THE PROGRAM'S Net: Settle. -/
namespace Go.Proofs.YtcgflhjgllpohafGreatDoor
open Go.RowKit
attribute [local go_sem] Ext.all Ext.cell Ext.frozen Ext.lt Ext.lt1 Ext.lt2 Ext.ne Ext.ne'
/-- The news are taken away. -/
theorem Ne.noNews {M : Nat → Prop} {B w : World} {p k : Nat} {q : Nat → Nat} {v : Value} {c : Nat → Nat → Nat} {t : Tn} (h : Ne M B w p k q v c t) : Ne M B (w.setCell ⟨p, 7, none⟩ (.slice none 0 0)) p k q (.slice none 0 0) c { t with news := [] } :=
  h.newsPut (World.grownBy.refl _ _) (NwO.nil _ _) (.inl rfl)
set_option maxRecDepth 20000 in
set_option maxHeartbeats 16000000 in
theorem netSettle_ok {M : Nat → Prop} {B w : World} {p k : Nat} {q : Nat → Nat} {v : Value} {c : Nat → Nat → Nat} {t : Tn} (H : Ne M B w p k q v c t) (A : TnA t c) (hA : ∀ k, k < 6 → agT t k < 4611686018427387904) (R : Int) (hR : R ≤ 4611686018427387904) :
    Calls Tryz.prog 50 #[pv p, iv R] w fun e w' => e = .returned (.tuple #[]) ∧ Ne M B w' p k q (.slice none 0 0) c (settleT t R.toNat) := by
  have hp := H.blk.lt
  have c2 := H.news
  have fz := H.blk.free
  obtain ⟨ao, cv, hv, _, _, _⟩ := H.nw.shape
  subst hv
  have H0 := hide H.noNews
  have A0 : Hid (TnA { t with news := [] } c) := A.sub (fun x hx => by cases hx)
  have HA := hide hA
  clear H A hA
  have hag : Hid (∀ k, agT { t with news := [] } k = agT t k) := fun _ => rfl
  have HST : Hid (settleT t R.toNat = roundsT (tickTo { t with news := [] } 6) R.toNat) := rfl
  generalize ({ t with news := [] } : Tn) = t0 at *
  go_enter Tryz.func50, Tryz.ntmps50
  go_upto_region 2 with (fail)
  refine wp_gen (fun V => Hid (Ne M B V p k q (.slice none 0 0) c t0)) H0 ?_
  clear hp c2 fz H0
  rintro V H0
  have hp := H0.out.blk.lt
  have c0 : V.cell? ⟨p, 1, none⟩ = some (pv (q 0)) := H0.out.node (a := 0) (by omega)
  have c1 : V.cell? ⟨p, 2, none⟩ = some (pv (q 1)) := H0.out.node (a := 1) (by omega)
  have c2 : V.cell? ⟨p, 3, none⟩ = some (pv (q 2)) := H0.out.node (a := 2) (by omega)
  have c3 : V.cell? ⟨p, 4, none⟩ = some (pv (q 3)) := H0.out.node (a := 3) (by omega)
  have c4 : V.cell? ⟨p, 5, none⟩ = some (pv (q 4)) := H0.out.node (a := 4) (by omega)
  have c5 : V.cell? ⟨p, 6, none⟩ = some (pv (q 5)) := H0.out.node (a := 5) (by omega)
  go_wp2_with fail
  clear c0 c1 c2 c3 c4 c5 hp
  generalize hC : (#[pv (q 0), pv (q 1), pv (q 2), pv (q 3), pv (q 4), pv (q 5)] : Array Value) = C
  have HIX := hide (fun (s : Nat) (hs : s < 6) => idx_nodes (g := q) hC hs)
  clear hC
  go_loopw [15] (fun v15 wr => ∃ a : Nat, a ≤ 6 ∧ v15 = .int .i64 (a : Int) ∧ Hid (Ne M B wr p k q (.slice none 0 0) c (tickTo t0 a))) (fun v15 _ => (6 - intOf v15).toNat)
  case atStart => exact ⟨0, by omega, rfl, H0⟩
  case round =>
    clear H0
    obtain ⟨a, ha6, rfl, H0⟩ := hrel
    by_cases ha : a < 6
    · have hai : decide ((a : Int) < 6) = true := decide_eq_true (by omega)
      have ha0 : (a : Int) < 6 := by omega
      have wa : IntKind.i64.wrap ((a : Int) + 1) = (a : Int) + 1 := by rw [IntKind.wrap_i64]; omega
      obtain ⟨T1, T2⟩ := A0.out.ticks a (by omega)
      have hix := HIX.out a ha
      have hage : age ((tickTo t0 a).nd a) < 4611686018427387904 := by
        have e1 : age ((tickTo t0 a).nd a) = agT (tickTo t0 a) a := by unfold age agT; rw [T1.s.tc.me a ha]
        rw [e1, T2 a ha, if_neg (by omega), hag.out]
        exact HA.out a ha
      have HQ : Hid (Calls Tryz.prog 82 #[pv (q a)] wr fun e w' => e = .returned (.tuple #[]) ∧ Ne M B w' p k q (.slice none 0 0) c (tickTo t0 (a + 1))) := (ntickN (H0.out.six.at_ a ha) (T1.s.z a ha) hage).mono fun e w' ⟨he, hm, hw⟩ => ⟨he, H0.out.put ha hw hm⟩
      clear T1 T2 hage
      go_wp2_with (go_at_call 82; with_reducible refine HQ.out.mono ?_; rintro e V1 ⟨rfl, H1'⟩; have H1 := hide H1'; clear H1')
      go_roundw
      case rel => exact ⟨a + 1, by omega, by congr 1, H1⟩
      case measure => simp [intOf]; omega
    · have hai : decide ((a : Int) < 6) = false := decide_eq_false (by omega)
      have ea : a = 6 := by omega
      rw [ea] at H0
      have A1 := hide (A0.out.ticks 6 (Nat.le_refl _)).1
      clear ea ha ha6 A0 HA hag
      generalize tickTo t0 6 = t1 at *
      have AR := hide (fun r => (A1.out.rounds r).1)
      have STL := hide (fun r h => still_rounds (r := r) A1.out h)
      go_wp2_with fail
      go_loopw [22] (fun v22 wr => ∃ r : Nat, (r : Int) ≤ max R 0 ∧ v22 = .int .i64 (r : Int) ∧ Hid (Ne M B wr p k q (.slice none 0 0) c (roundsT t1 r))) (fun v22 _ => (R - intOf v22).toNat)
      case atStart => exact ⟨0, by omega, rfl, H0⟩
      case round =>
        clear H0
        obtain ⟨r, hr, rfl, H0⟩ := hrel
        by_cases hrR : (r : Int) < R
        · have hri : decide ((r : Int) < R) = true := decide_eq_true hrR
          have wr1 : IntKind.i64.wrap ((r : Int) + 1) = (r : Int) + 1 := by rw [IntKind.wrap_i64]; omega
          have HRD := hide (netRound_ok H0.out (AR.out r))
          have HRS := hide (show roundsT t1 (r + 1) = roundT (roundsT t1 r) 6 from rfl)
          have HE : Hid (roundChg (roundsT t1 r) 6 = false → roundsT t1 R.toNat = roundsT t1 (r + 1)) := fun h => by
            have := STL.out r h (R.toNat - (r + 1))
            rw [show r + 1 + (R.toNat - (r + 1)) = R.toNat by omega] at this
            exact this
          rw [← HRS.out] at HRD
          generalize hch : roundChg (roundsT t1 r) 6 = ch at *
          clear hch
          cases ch
          · have HE2 := hide (HE.out rfl)
            go_wp2_with (go_at_call 83; with_reducible refine HRD.out.mono ?_; rintro e V1 ⟨rfl, H1'⟩; have H1 := hide H1'; clear H1')
            first
              | (refine bodyPost_end (results_none rfl _ _ _) rfl ?_; exact ⟨rfl, by rw [HST.out, HE2.out]; exact H1.out⟩)
              | (refine bodyPost_ret (results_none rfl _ _ _) rfl ?_; exact ⟨rfl, by rw [HST.out, HE2.out]; exact H1.out⟩)
          · go_wp2_with (go_at_call 83; with_reducible refine HRD.out.mono ?_; rintro e V1 ⟨rfl, H1'⟩; have H1 := hide H1'; clear H1')
            go_roundw
            case rel => exact ⟨r + 1, by omega, by congr 1, H1⟩
            case measure => simp [intOf]; omega
        · have hri : decide ((r : Int) < R) = false := decide_eq_false hrR
          have er : r = R.toNat := by omega
          go_wp2_with fail
          refine bodyPost_end (results_none rfl _ _ _) rfl ?_
          exact ⟨rfl, by rw [HST.out, ← er]; exact H0.out⟩

end Go.Proofs.YtcgflhjgllpohafGreatDoor

/- slices.Index, slices.Contains, of numbers of nodes. -/
namespace Go.Proofs.YtcgflhjgllpohafGreatDoor
open Go.RowKit
attribute [local go_sem] Ext.all Ext.cell Ext.frozen Ext.lt Ext.lt1 Ext.lt2 Ext.ne Ext.ne'
set_option maxRecDepth 20000 in
set_option maxHeartbeats 8000000 in
theorem index_any {w : World} {ao : Option Addr} {n cp : Nat} {l : List Nat} (H : NumAt w ao l) (hn : n = l.length) (hm : l.length ≤ 1000) (x : Nat) :
    Calls Tryz.prog 84 #[.slice ao n cp, iv (x : Int)] w fun e w' => ∃ r : Int, e = .returned (iv r) ∧ w' = w ∧ (0 ≤ r ↔ x ∈ l) := by
  have HN := hide hn
  clear hn
  go_enter Tryz.func84, Tryz.ntmps84
  go_wp2_with fail
  go_loopw [8] (fun v8 wr => ∃ k : Nat, k ≤ n ∧ v8 = .int .i64 (k : Int) ∧ Hid (wr = w) ∧ Hid (∀ i (h : i < l.length), i < k → l[i] ≠ x)) (fun v8 _ => (n - intOf v8).toNat)
  case atStart => exact ⟨0, by omega, rfl, rfl, fun i h hi => by omega⟩
  case round =>
    obtain ⟨k, hkn, rfl, hwr, HB⟩ := hrel
    by_cases hk : k < n
    · have hki : decide ((k : Int) < (n : Int)) = true := decide_eq_true (by omega)
      have hk0 : (k : Int) < (n : Int) := by omega
      have hkl : k < l.length := by have := HN.out; omega
      have wk : IntKind.i64.wrap ((k : Int) + 1) = (k : Int) + 1 := by rw [IntKind.wrap_i64]; omega
      rcases H with h0 | ⟨bb, o, rfl, hbb, hc⟩
      · exfalso; rw [h0] at hkl; simp at hkl
      have c0 := hc k hkl
      rw [← hwr.out] at c0 hbb
      have HE : Hid (l[k] = x → x ∈ l) := fun e => by rw [← e]; exact List.getElem_mem hkl
      have HF : Hid (l[k] ≠ x → ∀ i (h : i < l.length), i < k + 1 → l[i] ≠ x) := fun e i h hi => by
        by_cases q : i = k
        · subst q; exact e
        · exact HB.out i h (by omega)
      generalize hlk : l[k] = lk at *
      clear hc hlk HB
      by_cases e : lk = x
      · have HI := hide (HE.out e)
        subst e
        clear HE HF
        go_wp2_with fail
        go_ret
        exact ⟨_, rfl, hwr.out, fun _ => HI.out, fun _ => by omega⟩
      · have e1 : ((x : Int) == (lk : Int)) = false := by simp; omega
        have HF2 := hide (HF.out e)
        clear HE HF e
        go_wp2_with fail
        go_roundw
        case rel => exact ⟨k + 1, by omega, by congr 1, hwr, HF2⟩
        case measure => simp [intOf]; omega
    · have hki : decide ((k : Int) < (n : Int)) = false := decide_eq_false (by omega)
      have HI : Hid (x ∉ l) := fun hm => by
        obtain ⟨i, hi, e⟩ := List.mem_iff_getElem.1 hm
        have := HN.out
        exact HB.out i hi (by omega) e
      go_wp2_with fail
      go_ret
      exact ⟨_, rfl, hwr.out, fun h => by omega, fun h => absurd h HI.out⟩
set_option maxRecDepth 20000 in
theorem contains_is {w : World} {ao : Option Addr} {n cp : Nat} {l : List Nat} (H : NumAt w ao l) (hn : n = l.length) (hm : l.length ≤ 1000) (x : Nat) {b : Bool} (hb : decide (x ∈ l) = b) :
    Calls Tryz.prog 51 #[.slice ao n cp, iv (x : Int)] w fun e w' => e = .returned (.bool b) ∧ w' = w := by
  have HI := hide (index_any (cp := cp) H hn hm x)
  have HB := hide hb
  clear H hn hb
  go_enter Tryz.func51, Tryz.ntmps51
  go_wp2_with (go_at_call 84; with_reducible refine HI.out.mono ?_; rintro e w1 ⟨r, rfl, hw1, hr'⟩; have HR := hide hr'; have hw2 := hw1.symm; clear hw1 hr'; subst hw2)
  go_ret
  refine ⟨?_, rfl⟩
  refine congrArg (fun z => Ending.returned (.bool z)) ?_
  rw [← HB.out]
  exact decide_eq_decide.2 HR.out

end Go.Proofs.YtcgflhjgllpohafGreatDoor

/- THE PROGRAM'S Net, as the laws use it; netBegun. -/
namespace Go.Proofs.YtcgflhjgllpohafGreatDoor
open Go.RowKit
attribute [local go_sem] Ext.all Ext.cell Ext.frozen Ext.lt Ext.lt1 Ext.lt2 Ext.ne Ext.ne'
theorem do_len {t : Tn} (h : t.news.length ≤ 40) (x : Sp) : (doT t x).1.news.length ≤ 40 := by
  unfold doT
  split
  · unfold linkC
    split
    · exact h
    · exact h
  · split
    · split
      · exact sayAll_len (show (tickT t _).news.length ≤ 40 from h) _ _
      · exact h
    · split
      · exact sayC_len h _ _
      · split
        · unfold newsC
          split
          · split
            · split
              · exact h
              · show (t.news ++ [_]).length ≤ 40
                rw [List.length_append, List.length_singleton]; omega
            · have hd : (dropAt t.news x.n.toNat).length ≤ 40 := by
                unfold dropAt
                rw [List.length_append, List.length_take, List.length_drop]; omega
              split
              · unfold hearC
                split
                · exact hd
                · exact hd
              · exact hd
          · exact h
        · exact h
theorem up_le (x : Sp) (k : Nat) : upA x k ≤ 1 := by unfold upA; split <;> omega
/-- A Net behind at most n steps. -/
structure Nl (M : Nat → Prop) (B w : World) (p k : Nat) (q : Nat → Nat) (v : Value) (c : Nat → Nat → Nat) (t : Tn) (n : Nat) : Prop where
  h : Ne M B w p k q v c t
  a : TnA t c
  l : t.news.length ≤ 40
  g : ∀ k, k < 6 → agT t k ≤ (n : Int)
section
variable {M : Nat → Prop} {B w w' : World} {p k : Nat} {q : Nat → Nat} {v : Value} {c : Nat → Nat → Nat} {t : Tn} {n : Nat}
theorem Nl.ext (H : Nl M B w p k q v c t n) (g : Gr w w') : Nl M B w' p k q v c t n := ⟨H.h.ext g, H.a, H.l, H.g⟩
theorem Nl.more (H : Nl M B w p k q v c t n) {m : Nat} (h : n ≤ m) : Nl M B w p k q v c t m := ⟨H.h, H.a, H.l, fun k hk => by have := H.g k hk; omega⟩
theorem Nl.do (H : Nl M B w p k q v c t n) (hn : n ≤ 100000) (x : Sp) (X Y : Value) :
    Calls Tryz.prog 48 #[pv p, .agg #[iv x.k, iv x.a, iv x.b, iv x.n, X, Y]] w fun e w' => ∃ v', e = .returned (iv (doT t x).2) ∧ Nl M B w' p k q v' (nextC c x) (doT t x).1 (n + 1) :=
  (netDo_any H.h H.a (fun k hk => by have := H.g k hk; omega) H.l x X Y).mono fun _ w' ⟨v', he, hh⟩ => by
    have hx := do_nx H.a x
    exact ⟨v', he, hh, hx.a, do_len H.l x, fun k hk => by have := hx.age k hk; have := up_le x k; have := H.g k hk; omega⟩
theorem settle_age {t : Tn} {c : Nat → Nat → Nat} (A : TnA t c) (r : Nat) {k : Nat} (hk : k < 6) : agT (settleT t r) k = agT t k + 1 := by
  have A0 : TnA { t with news := [] } c := A.sub (fun x hx => by cases hx)
  obtain ⟨h1, h2⟩ := A0.ticks 6 (Nat.le_refl _)
  have := (h1.rounds r).2 k hk
  unfold settleT
  rw [this, h2 k hk, if_pos hk]
  rfl
theorem settle_a {t : Tn} {c : Nat → Nat → Nat} (A : TnA t c) (r : Nat) : TnA (settleT t r) c := by
  have A0 : TnA { t with news := [] } c := A.sub (fun x hx => by cases hx)
  exact ((A0.ticks 6 (Nat.le_refl _)).1.rounds r).1
theorem Nl.settle (H : Nl M B w p k q v c t n) (hn : n ≤ 100000) (R : Int) (hR : R ≤ 1000) :
    Calls Tryz.prog 50 #[pv p, iv R] w fun e w' => ∃ v', e = .returned (.tuple #[]) ∧ Nl M B w' p k q v' c (settleT t R.toNat) (n + 1) :=
  (netSettle_ok H.h H.a (fun k hk => by have := H.g k hk; omega) R (by omega)).mono fun _ w' ⟨he, hh⟩ =>
    ⟨_, he, hh, settle_a H.a _, by rw [settleT_news]; simp, fun k hk => by rw [settle_age H.a _ hk]; have := H.g k hk; omega⟩
/-- A new one. -/
theorem netNew_nl (w : World) (M : Nat → Prop) (hM : ∀ b, M b → b < w.heap.size) : Calls Tryz.prog 54 #[] w fun e w' => ∃ p k q v, e = .returned (pv p) ∧ Nl M w w' p k q v (fun _ _ => 0) newT 0 ∧ Gr w w' ∧ w.heap.size ≤ p ∧ w.heap.size ≤ k ∧ (∀ a, a < 6 → w.heap.size ≤ q a) ∧ ∀ b, v.ownBlock = some b → w.heap.size ≤ b :=
  (netNew_ok w M hM).mono fun _ w' ⟨p, k, q, he, hh, hg, h1, h2, h3⟩ => ⟨p, k, q, _, he, ⟨hh, new_a, by show ([] : List Nw).length ≤ 40; simp, fun k hk => by
    show agT newT k ≤ 0
    have : agT newT k = 0 := by rcases (show k = 0 ∨ k = 1 ∨ k = 2 ∨ k = 3 ∨ k = 4 ∨ k = 5 by omega) with rfl | rfl | rfl | rfl | rfl | rfl <;> rfl
    omega⟩, hg, h1, h2, h3, fun b e => by cases e⟩
end
/-- The three steps of netBegun. -/
def bt1 : Tn := (doT newT ⟨1, 0, 1, 3⟩).1
def bt2 : Tn := (doT bt1 ⟨3, 0, 1, 0⟩).1
def bt3 : Tn := (doT bt2 ⟨4, 0, 0, 0⟩).1
theorem bt_codes : (doT newT ⟨1, 0, 1, 3⟩).2 = 0 ∧ (doT bt1 ⟨3, 0, 1, 0⟩).2 = 0 ∧ (doT bt2 ⟨4, 0, 0, 0⟩).2 = 0 := by decide
theorem bt_len : bt3.news.length = 5 := by decide
theorem bt_way : wayTn bt3 1 0 = (0, 3, 0) := by decide
theorem two_at (X : World) : NumAt (X.alloc (.cells #[iv 1, iv 0] 3)) (some ⟨X.heap.size, 0, none⟩) [1, 0] := .inr ⟨X.heap.size, 0, rfl, by simp, fun i hi => by
  have : i = 0 ∨ i = 1 := by simp at hi; omega
  rcases this with rfl | rfl <;> simp [go_sem]⟩
end Go.Proofs.YtcgflhjgllpohafGreatDoor

/- THE BEST OF A NODE, AS Best TELLS IT. -/
namespace Go.Proofs.YtcgflhjgllpohafGreatDoor
open Go.RowKit

theorem best_sel {m : Md} (h : MdOk m) {k : Nat} (hk : k < 6) : bestOf (sel m) (k : Int) = m.bests k := by
  unfold bestOf
  rw [if_pos ⟨by omega, by omega⟩]
  by_cases e : (k : Int) = ((sel m).me : Int)
  · rw [if_pos e]
    have e' : k = m.me := by have : (k : Int) = (m.me : Int) := e; omega
    obtain ⟨s, _, hw, hb⟩ := h.self
    show ((m.ways m.me).1, (m.ways m.me).2.1) = m.bests k
    rw [e', hw, hb]
  · rw [if_neg e, Int.toNat_natCast]
    exact sel_best m (fun q => e (by rw [q]; rfl))

end Go.Proofs.YtcgflhjgllpohafGreatDoor

/- FOR THE LAWS OF A NET: steps in memory; what a Net leaves as it was; ways, bests, costs as the laws ask them. -/
namespace Go.Proofs.YtcgflhjgllpohafGreatDoor
open Go.RowKit
attribute [local go_sem] Ext.all Ext.cell Ext.frozen Ext.lt Ext.lt1 Ext.lt2 Ext.ne Ext.ne'
/-- A step with its prefix. -/
structure Sx where
  s : Sp
  l : Int
  b : Int
def Sx.val (x : Sx) : Value := .agg #[iv x.s.k, iv x.s.a, iv x.s.b, iv x.s.n, iv x.l, iv x.b]
/-- A slice that reads as steps. -/
def SpAt (w : World) (ao : Option Addr) (l : List Sx) : Prop := l = [] ∨ ∃ b o, ao = some ⟨b, o, none⟩ ∧ b < w.heap.size ∧ ∀ i (h : i < l.length),
    w.cell? ⟨b, o + i * 6, none⟩ = some (iv l[i].s.k) ∧ w.cell? ⟨b, o + i * 6 + 1, none⟩ = some (iv l[i].s.a) ∧ w.cell? ⟨b, o + i * 6 + 2, none⟩ = some (iv l[i].s.b) ∧ w.cell? ⟨b, o + i * 6 + 3, none⟩ = some (iv l[i].s.n) ∧ w.cell? ⟨b, o + i * 6 + 4, none⟩ = some (iv l[i].l) ∧ w.cell? ⟨b, o + i * 6 + 5, none⟩ = some (iv l[i].b)
theorem SpAt.gr {w w' : World} {ao : Option Addr} {l : List Sx} (h : SpAt w ao l) (k : Gr w w') : SpAt w' ao l := by
  rcases h with h | ⟨b, o, ha, hb, hc⟩
  · exact .inl h
  · refine .inr ⟨b, o, ha, Nat.lt_of_lt_of_le hb (Below.size k), fun i hi => ?_⟩
    have e : ∀ q, w'.cell? ⟨b, q, none⟩ = w.cell? ⟨b, q, none⟩ := fun q => Below.cell k (p := ⟨b, q, none⟩) hb
    rw [e, e, e, e, e, e]
    exact hc i hi
/-- One of them. -/
theorem SpAt.get {w : World} {ao : Option Addr} {l : List Sx} (h : SpAt w ao l) {i : Nat} (hi : i < l.length) : ∃ b o, ao = some ⟨b, o, none⟩ ∧ b < w.heap.size ∧ w.cell? ⟨b, o + i * 6, none⟩ = some (iv l[i].s.k) ∧ w.cell? ⟨b, o + i * 6 + 1, none⟩ = some (iv l[i].s.a) ∧ w.cell? ⟨b, o + i * 6 + 2, none⟩ = some (iv l[i].s.b) ∧ w.cell? ⟨b, o + i * 6 + 3, none⟩ = some (iv l[i].s.n) ∧ w.cell? ⟨b, o + i * 6 + 4, none⟩ = some (iv l[i].l) ∧ w.cell? ⟨b, o + i * 6 + 5, none⟩ = some (iv l[i].b) := by
  rcases h with h | ⟨b, o, ha, hb, hc⟩
  · exfalso; rw [h] at hi; simp at hi
  · exact ⟨b, o, ha, hb, hc i hi⟩
/-- The steps of a list, without prefixes. -/
def spsOf (l : List Sx) : List Sp := l.map Sx.s
theorem sps_len (l : List Sx) : (spsOf l).length = l.length := List.length_map _
theorem play_next (l : List Sx) {i : Nat} (h : i < l.length) : playT newT (spsOf l) (i + 1) = (doT (playT newT (spsOf l) i) l[i].s).1 := by
  rw [play_succ newT (spsOf l) (by rw [sps_len]; exact h)]
  unfold spsOf
  rw [List.getElem_map]

/-- What is not the Net's is as it was, and still not the Net's. -/
structure Fr (w : World) (p k : Nat) (q : Nat → Nat) (v : Value) (w' : World) (v' : Value) : Prop where
  kp : Kp (rest w p k q v) w w'
  rst : ∀ {b}, rest w p k q v b → rest w' p k q v' b
section
variable {M : Nat → Prop} {B w w' : World} {p k : Nat} {q : Nat → Nat} {v v' : Value} {c c' : Nat → Nat → Nat} {t t' : Tn} {n : Nat}
theorem Ne.fr (h' : Ne (YtcgflhjgllpohafGreatDoor.rest w p k q v) w w' p k q v' c' t') : Fr w p k q v w' v' :=
  ⟨h'.kp, fun {b} hb => ⟨Nat.lt_of_lt_of_le hb.1 h'.kp.size, hb.2.1, hb.2.2.1, hb.2.2.2.1, fun e => h'.nov b e hb⟩⟩
theorem Fr.zarr {t n X : Nat} {g : Nat → Int} (h : Fr w p k q v w' v') (z : ZArr w t n X g) (hX : rest w p k q v X) : ZArr w' t n X g := (h.kp.block X hX.1 hX).trans z
theorem Nl.do' (H : Nl M B w p k q v c t n) (hn : n ≤ 100000) (x : Sp) (X Y : Value) :
    Calls Tryz.prog 48 #[pv p, .agg #[iv x.k, iv x.a, iv x.b, iv x.n, X, Y]] w fun e w' => ∃ v', e = .returned (iv (doT t x).2) ∧ Nl M B w' p k q v' (nextC c x) (doT t x).1 (n + 1) ∧ Fr w p k q v w' v' :=
  (Nl.do (M := rest w p k q v) (B := w) ⟨H.h.rest, H.a, H.l, H.g⟩ hn x X Y).mono fun _ _ ⟨v', he, hh⟩ =>
    ⟨v', he, ⟨H.h.unrest hh.h, hh.a, hh.l, hh.g⟩, hh.h.fr⟩
theorem Nl.settle' (H : Nl M B w p k q v c t n) (hn : n ≤ 100000) (R : Int) (hR : R ≤ 1000) :
    Calls Tryz.prog 50 #[pv p, iv R] w fun e w' => ∃ v', e = .returned (.tuple #[]) ∧ Nl M B w' p k q v' c (settleT t R.toNat) (n + 1) ∧ Fr w p k q v w' v' :=
  (Nl.settle (M := rest w p k q v) (B := w) ⟨H.h.rest, H.a, H.l, H.g⟩ hn R hR).mono fun _ _ ⟨v', he, hh⟩ =>
    ⟨v', he, ⟨H.h.unrest hh.h, hh.a, hh.l, hh.g⟩, hh.h.fr⟩
/-- A block that is not the Net's is written. -/
theorem Nl.aside (H : Nl M B w p k q v c t n) {X : Nat} (hX : rest w p k q v X) (hM : ¬ M X) (hw : Wr X w w') : Nl M B w' p k q v c t n :=
  ⟨H.h.aside hw hX.2.1.symm hX.2.2.1.symm (fun a ha => (hX.2.2.2.1 a ha).symm) (fun _ e e2 => hX.2.2.2.2 (e2 ▸ e)) hM, H.a, H.l, H.g⟩
theorem rest_wr {X b : Nat} (hb : rest w p k q v b) (hw : Wr X w w') : rest w' p k q v b := ⟨Nat.lt_of_lt_of_le hb.1 hw.size, hb.2⟩
theorem rest_gr {b : Nat} (hb : rest w p k q v b) (hw : Gr w w') : rest w' p k q v b := ⟨Nat.lt_of_lt_of_le hb.1 (Below.size hw), hb.2⟩
/-- Way and Best of two nodes. -/
theorem Nl.way (H : Nl M B w p k q v c t n) {a b : Nat} (ha : a < 6) (hb : b < 6) : Calls Tryz.prog 36 #[pv p, iv (a : Int), iv (b : Int)] w fun e w' => e = .returned (.agg #[iv ((t.nd a).ways b).1, iv ((t.nd a).ways b).2.1, iv ((t.nd a).ways b).2.2]) ∧ ∃ d : Ext w, w' = d.out := by
  have := netWay_any H.h (a : Int) (b : Int)
  have e : wayTn t (a : Int) (b : Int) = (t.nd a).ways b := by
    unfold wayTn
    rw [if_pos ⟨by omega, by omega⟩, Int.toNat_natCast, wayOf_nat _ hb]
  rw [e] at this
  exact this
end
/-- The Net's own blocks. -/
def own (p k : Nat) (q : Nat → Nat) (v : Value) (b : Nat) : Prop := b = p ∨ b = k ∨ (∃ a, a < 6 ∧ b = q a) ∨ v.ownBlock = some b
/-- Another Net beside it. -/
def Apart (w : World) (p k : Nat) (q : Nat → Nat) (v : Value) (p' k' : Nat) (q' : Nat → Nat) (v' : Value) : Prop := ∀ b, own p' k' q' v' b → rest w p k q v b
section
variable {M : Nat → Prop} {B w w' : World} {p k p' k' : Nat} {q q' : Nat → Nat} {v v' v1 : Value} {c c' : Nat → Nat → Nat} {t t' : Tn} {n n' : Nat}
theorem Ne.own_lt (h : Ne M B w p k q v c t) {b : Nat} (hb : own p k q v b) : b < w.heap.size := by
  rcases hb with rfl | rfl | ⟨a, ha, rfl⟩ | e
  · exact h.blk.lt
  · exact h.lk.lt
  · exact (h.six.at_ a ha).lt
  · exact h.nw.own_lt e
theorem Apart.symm (h : Apart w p k q v p' k' q' v') (H : Ne M B w p k q v c t) : Apart w p' k' q' v' p k q v := fun b hb => by
  have no : ∀ x, own p' k' q' v' x → ¬ own p k q v x := fun x hx ho => by
    obtain ⟨_, r1, r2, r3, r4⟩ := h x hx
    rcases ho with e | e | ⟨a, ha, e⟩ | e
    · exact r1 e
    · exact r2 e
    · exact r3 a ha e
    · exact r4 e
  refine ⟨H.own_lt hb, fun e => no b (.inl e) hb, fun e => no b (.inr (.inl e)) hb, fun a ha e => no b (.inr (.inr (.inl ⟨a, ha, e⟩))) hb, fun e => no b (.inr (.inr (.inr e))) hb⟩
/-- What was done to the one leaves the other one as it was. -/
theorem Nl.beside (H' : Nl M B w p' k' q' v' c' t' n') (H : Nl M B w p k q v c t n) (ap : Apart w p k q v p' k' q' v') (f : Fr w p k q v w' v1) : Nl M B w' p' k' q' v' c' t' n' ∧ Apart w' p k q v1 p' k' q' v' :=
  ⟨⟨H'.h.keep f.kp (fun _ hm => H.h.sub hm) (ap _ (.inl rfl)) (ap _ (.inr (.inl rfl))) (fun a ha => ap _ (.inr (.inr (.inl ⟨a, ha, rfl⟩)))) (fun _ e => ap _ (.inr (.inr (.inr e)))), H'.a, H'.l, H'.g⟩, fun b hb => f.rst (ap b hb)⟩
theorem Apart.gr (h : Apart w p k q v p' k' q' v') (g : Gr w w') : Apart w' p k q v p' k' q' v' := fun b hb => rest_gr (h b hb) g
end
/-- A field of a way. -/
theorem fld0 (a b c : Int) (w : World) : (Instr.field 77 (.agg #[iv a, iv b, iv c]) 0).run Tryz.prog w = .ok (iv a) w := by kernel_rfl
theorem fld1 (a b c : Int) (w : World) : (Instr.field 77 (.agg #[iv a, iv b, iv c]) 1).run Tryz.prog w = .ok (iv b) w := by kernel_rfl

end Go.Proofs.YtcgflhjgllpohafGreatDoor

/- WHOSE IS WHAT, as numbers: owners are a table of nodes; a node's table. No Go here. -/
namespace Go.Proofs.YtcgflhjgllpohafGreatDoor

theorem snoc_ind {p : List Rt → Prop} (h0 : p []) (h1 : ∀ rs r, p rs → p (rs ++ [r])) (rs : List Rt) : p rs := by
  rw [← List.reverse_reverse rs]
  induction rs.reverse with
  | nil => exact h0
  | cons r l ih => rw [List.reverse_cons]; exact h1 _ _ ih
/-- Owners: a table whose hops are nodes. -/
structure Ows (rs : List Rt) : Prop where
  tab : Tab rs
  hop : ∀ r ∈ rs, isN r.2.2
theorem Ows.nil : Ows [] := ⟨Tab.nil, fun _ h => by cases h⟩
/-- The step SOwn. -/
def ownC (rs : List Rt) (a n l b : Int) : List Rt × Int := if isN a then setL rs l b (if n = 0 then -2 else a) else (rs, 1)
theorem set_mem {rs : List Rt} (h : Tab rs) {l b h' : Int} {r : Rt} (hr : r ∈ (setL rs l b h').1) : r ∈ rs ∨ (r = (l, b, h') ∧ h' ≠ -2) := by
  rcases h.set l b h' with ⟨e, _⟩ | ⟨_, _, A, B, _, _, _, ⟨_, h0, _, e, _, _, e'⟩ | ⟨_, h2, e', ⟨e, _⟩ | ⟨h0, _, e, _⟩⟩⟩
  · rw [e] at hr; exact .inl hr
  · rw [e'] at hr; rw [e]
    rcases List.mem_append.1 hr with q | q
    · exact .inl (List.mem_append.2 (.inl q))
    · exact .inl (List.mem_append.2 (.inr (List.mem_cons_of_mem _ q)))
  · rw [e'] at hr; rw [e]
    rcases List.mem_append.1 hr with q | q
    · exact .inl (List.mem_append.2 (.inl q))
    · rcases List.mem_cons.1 q with q | q
      · exact .inr ⟨q, h2⟩
      · exact .inl (List.mem_append.2 (.inr q))
  · rw [e'] at hr; rw [e]
    rcases List.mem_append.1 hr with q | q
    · exact .inl (List.mem_append.2 (.inl q))
    · rcases List.mem_cons.1 q with q | q
      · exact .inr ⟨q, h2⟩
      · exact .inl (List.mem_append.2 (.inr (List.mem_cons_of_mem _ q)))
theorem Ows.own {rs : List Rt} (h : Ows rs) (a n l b : Int) : Ows (ownC rs a n l b).1 := by
  unfold ownC
  by_cases ha : isN a
  · rw [if_pos ha]
    refine ⟨h.tab.set_tab _ _ _, fun r hr => ?_⟩
    rcases set_mem h.tab hr with q | ⟨q, h2⟩
    · exact h.hop r q
    · rw [q]
      show isN (if n = 0 then -2 else a)
      by_cases hn : n = 0
      · rw [if_pos hn] at h2; exact absurd rfl h2
      · rw [if_neg hn]; exact ha
  · rw [if_neg ha]; exact h
/-- Whose an address is. -/
theorem Ows.look {rs : List Rt} (h : ∀ r ∈ rs, isN r.2.2) (a : Int) : lookL rs a = -1 ∨ isN (lookL rs a) := by
  revert h
  induction rs using snoc_ind with
  | h0 => exact fun _ => .inl rfl
  | h1 rs r ih =>
    intro h
    rw [lookL_snoc]
    by_cases q : hasB r.1 r.2.1 a = true
    · rw [if_pos q]; exact .inr (h r (by simp))
    · rw [if_neg q]; exact ih fun s hs => h s (by simp [hs])

/-- Where the way of a node goes. -/
def hpT (t : Tn) (n z : Int) : Int := if isN n then (if isN z then ((t.nd n.toNat).ways z.toNat).2.2 else -1) else -1
/-- A node's table. -/
def fullL (t : Tn) (n : Int) (rs : List Rt) : List Rt := rs.map fun r => (r.1, r.2.1, hpT t n r.2.2)
theorem full_len (t : Tn) (n : Int) (rs : List Rt) : (fullL t n rs).length = rs.length := List.length_map _
theorem full_snoc (t : Tn) (n : Int) (rs : List Rt) (r : Rt) : fullL t n (rs ++ [r]) = fullL t n rs ++ [(r.1, r.2.1, hpT t n r.2.2)] := by unfold fullL; rw [List.map_append]; rfl
theorem full_look (t : Tn) (n : Int) {rs : List Rt} (h : ∀ r ∈ rs, isN r.2.2) (a : Int) : lookL (fullL t n rs) a = if lookL rs a = -1 then -1 else hpT t n (lookL rs a) := by
  revert h
  induction rs using snoc_ind with
  | h0 => exact fun _ => rfl
  | h1 rs r ih =>
    intro h
    rw [full_snoc, lookL_snoc, lookL_snoc]
    by_cases q : hasB r.1 r.2.1 a = true
    · rw [if_pos q, if_pos q]
      have := h r (by simp)
      rw [if_neg (by have := this.1; omega)]
    · rw [if_neg q, if_neg q]
      exact ih fun s hs => h s (by simp [hs])
section
variable {t : Tn} {c : Nat → Nat → Nat}
/-- A way goes nowhere, or to a node; to the node itself just if it is the end. -/
theorem TnA.hop (H : TnA t c) {a k : Nat} (ha : a < 6) (hk : k < 6) : (((t.nd a).ways k).2.2 = -1 ∨ isN ((t.nd a).ways k).2.2) ∧ (((t.nd a).ways k).2.2 = (a : Int) ↔ k = a) := by
  obtain ⟨hx, hme⟩ := H.ok.node a ha
  by_cases e : k = a
  · subst e
    have := (H.self ha).2.1
    rw [this]
    exact ⟨.inr ⟨by show (0 : Int) ≤ (k : Int); omega, by show (k : Int) < 6; omega⟩, ⟨fun _ => rfl, fun _ => rfl⟩⟩
  · have hw := (H.s.z a ha).ok.way k hk (by rw [hme]; exact e)
    by_cases d : ((t.nd a).ways k).2.2 = -1
    · exact ⟨.inl d, ⟨fun q => by rw [d] at q; omega, fun q => absurd q e⟩⟩
    · obtain ⟨j, hj, ew, hc, _⟩ := hw.by_ d (by rw [hme]; exact e)
      have e2 : ((t.nd a).ways k).2.2 = (j : Int) := by rw [ew]; rfl
      refine ⟨.inr (by rw [e2]; exact ⟨by omega, by omega⟩), ⟨fun q => ?_, fun q => absurd q e⟩⟩
      rw [e2] at q
      have : j = a := by omega
      subst this
      exact absurd (by rw [H.s.tc.cost j j ha ha, H.s.tc.lk.self]; rfl) hc
theorem hp_hop (H : TnA t c) (n z : Int) : hpT t n z = -1 ∨ isN (hpT t n z) := by
  unfold hpT
  by_cases hn : isN n
  · by_cases hz : isN z
    · rw [if_pos hn, if_pos hz]
      exact (H.hop (a := n.toNat) (k := z.toNat) (by have := hn.1; have := hn.2; omega) (by have := hz.1; have := hz.2; omega)).1
    · rw [if_pos hn, if_neg hz]; exact .inl rfl
  · rw [if_neg hn]; exact .inl rfl
theorem hp_me (H : TnA t c) {n z : Int} (hn : isN n) (hz : isN z) : hpT t n z = n ↔ z = n := by
  have h0 := (H.hop (a := n.toNat) (k := z.toNat) (by have := hn.1; have := hn.2; omega) (by have := hz.1; have := hz.2; omega)).2
  unfold hpT
  rw [if_pos hn, if_pos hz]
  rw [show ((n.toNat : Nat) : Int) = n from Int.toNat_of_nonneg hn.1] at h0
  rw [h0]
  have := hn.1; have := hz.1
  omega
theorem full_tab (H : TnA t c) (n : Int) {rs : List Rt} (h : Tab rs) : Tab (fullL t n rs) := by
  refine ⟨?_, ?_, by rw [full_len]; exact h.len⟩
  · intro r hr
    obtain ⟨s, hs, rfl⟩ := List.mem_map.1 hr
    refine ⟨(h.ok s hs).1, ?_⟩
    show hopB (hpT t n s.2.2) = true
    unfold hopB
    exact decide_eq_true (by rcases hp_hop H n s.2.2 with q | q; exact .inl q; exact .inr q)
  · show (rs.map _).Pairwise _
    rw [List.pairwise_map]
    exact h.srt
/-- Where an address goes by a node's table: where its way to the owner goes; to itself just if it is the owner. -/
theorem full_owns (H : TnA t c) {n : Int} (hn : isN n) {rs : List Rt} (h : Ows rs) (a : Int) : (lookL rs a = -1 → lookL (fullL t n rs) a = -1) ∧ (lookL rs a ≠ -1 → lookL (fullL t n rs) a = hpT t n (lookL rs a) ∧ (lookL (fullL t n rs) a = n ↔ lookL rs a = n)) := by
  rw [full_look t n h.hop]
  refine ⟨fun e => by rw [if_pos e], fun e => ?_⟩
  rw [if_neg e]
  refine ⟨rfl, ?_⟩
  rcases Ows.look h.hop a with q | q
  · exact absurd q e
  · exact hp_me H hn q
end
/-- A step of a post, and its code. -/
def fdoC (t : Tn) (rs : List Rt) (x : Sp) (l b : Int) : (Tn × List Rt) × Int := if x.k = 7 then ((t, (ownC rs x.a x.n l b).1), (ownC rs x.a x.n l b).2) else (((doT t x).1, rs), (doT t x).2)
theorem do_seven {t : Tn} {x : Sp} (h : x.k = 7) : doT t x = (t, 8) := by
  unfold doT
  rw [if_neg (by omega), if_neg (by omega), if_neg (by omega), if_neg (by omega)]
/-- A prefix that is nobody's, given and taken again. -/
theorem own_back {rs : List Rt} (h : Tab rs) {l b n : Int} (hn : isN n) (hg : getL rs l b = -2) (hc : (ownC rs n 1 l b).2 = 0) : ownC (ownC rs n 1 l b).1 n 0 l b = (rs, 0) := by
  unfold ownC at hc ⊢
  rw [if_pos hn, if_neg (by decide)] at hc
  rw [if_pos hn, if_pos hn, if_neg (by decide), if_pos rfl]
  have := h.back l b n hc
  rw [hg] at this
  exact Prod.ext this.2.2 this.2.1
theorem look_has {rs : List Rt} (h : ∀ r ∈ rs, isN r.2.2) {a : Int} (hl : lookL rs a = -1) : ∀ r ∈ rs, hasB r.1 r.2.1 a = false := by
  revert h hl
  induction rs using snoc_ind with
  | h0 => intro _ _ r hr; cases hr
  | h1 rs r ih =>
    intro h hl
    rw [lookL_snoc] at hl
    have hr := h r (by simp)
    by_cases q : hasB r.1 r.2.1 a = true
    · rw [if_pos q] at hl; have := hr.1; omega
    · rw [if_neg q] at hl
      intro s hs
      rcases List.mem_append.1 hs with z | z
      · exact ih (fun s hs => h s (by simp [hs])) hl s z
      · rw [List.mem_singleton.1 z]
        cases e : hasB r.1 r.2.1 a with
        | true => exact absurd e q
        | false => rfl
/-- An address that was nobody's is the new owner's. -/
theorem own_has {rs : List Rt} (h : Ows rs) {l b n a : Int} (hn : isN n) (hc : (ownC rs n 1 l b).2 = 0) (hh : hasB l b a = true) (hl : lookL rs a = -1) : lookL (ownC rs n 1 l b).1 a = n := by
  unfold ownC at hc ⊢
  rw [if_pos hn, if_neg (by decide)] at hc ⊢
  refine (h.tab.apart l b n a hc).2 hh (fun r hr hx => ?_) (by have := hn.1; omega)
  rw [look_has h.hop hl r hr] at hx
  cases hx

end Go.Proofs.YtcgflhjgllpohafGreatDoor

/- WHERE A WAY GOES, AS A HOP. -/
namespace Go.Proofs.YtcgflhjgllpohafGreatDoor
open Go.RowKit
theorem hopW_of (a b c : Int) (w : World) : (Instr.field 77 (.agg #[iv a, iv b, iv c]) 2).run Tryz.prog w = .ok (iv c) w := by kernel_rfl
theorem hp_way (t : Tn) (n z : Int) : (wayTn t n z).2.2 = hpT t n z := by
  unfold wayTn hpT wayOf
  by_cases hn : isN n
  · rw [if_pos hn, if_pos hn]
    by_cases hz : isN z
    · rw [if_pos hz, if_pos hz]
    · rw [if_neg hz, if_neg hz]
  · rw [if_neg hn, if_neg hn]
theorem full_take (t : Tn) (n : Int) {rs : List Rt} {k : Nat} (hk : k < rs.length) : fullL t n (rs.take (k + 1)) = fullL t n (rs.take k) ++ [(rs[k].1, rs[k].2.1, hpT t n rs[k].2.2)] := by
  rw [List.take_succ_eq_append_getElem hk, full_snoc]

end Go.Proofs.YtcgflhjgllpohafGreatDoor

/- A POST IN MEMORY: a Net and a table of owners; objects beside each other. -/
namespace Go.Proofs.YtcgflhjgllpohafGreatDoor
open Go.RowKit

/-- An object whose own blocks were S has changed: all else is as it was; its own blocks are now S'. -/
structure Chg (w w' : World) (S S' : Nat → Prop) : Prop where
  kp : Kp (fun b => b < w.heap.size ∧ ¬ S b) w w'
  nw : ∀ b, S' b → S b ∨ w.heap.size ≤ b
theorem Gr.chg {w w' : World} (g : Gr w w') (S : Nat → Prop) : Chg w w' S S := ⟨g.kp _, fun _ h => .inl h⟩
theorem Chg.trans {w w1 w2 : World} {S S1 S2 : Nat → Prop} (h : Chg w w1 S S1) (k : Chg w1 w2 S1 S2) : Chg w w2 S S2 := by
  refine ⟨h.kp.trans (k.kp.mono fun b _ hb => ⟨Nat.lt_of_lt_of_le hb.1 h.kp.size, fun hs => ?_⟩), fun b hb => ?_⟩
  · rcases h.nw b hs with q | q
    · exact hb.2 q
    · have := hb.1; omega
  · rcases k.nw b hb with q | q
    · exact h.nw b q
    · exact .inr (Nat.le_trans h.kp.size q)
/-- The own blocks of a table. -/
def ownB (tb : Nat) (u : Value) (b : Nat) : Prop := b = tb ∨ u.ownBlock = some b
section
variable {M N : Nat → Prop} {B w w' : World} {P p k : Nat} {q : Nat → Nat} {v v' : Value} {tb : Nat} {u u' : Value} {c c' : Nat → Nat → Nat} {t t' : Tn} {n n' : Nat} {rs rs' : List Rt}
theorem TabS.own_lt (h : TabS w M tb u rs) {b : Nat} (hb : ownB tb u b) : b < w.heap.size := by
  rcases hb with rfl | e
  · exact h.lt
  · exact (h.own.lt b e).2
/-- All that is not the table's stays. -/
theorem TabS.all (h : TabS w M tb u rs) : TabS w (fun b => b < w.heap.size ∧ ¬ ownB tb u b) tb u rs :=
  ⟨h.cell, h.own, fun e => e.2 (.inl rfl), fun _ hg e => e.2 (.inr hg), fun _ e => e.1⟩
theorem Nl.keep (H : Nl M B w p k q v c t n) (hk : Kp N w w') (hMN : ∀ b, M b → N b) (hS : ∀ b, own p k q v b → N b) : Nl M B w' p k q v c t n :=
  ⟨H.h.keep hk hMN (hS _ (.inl rfl)) (hS _ (.inr (.inl rfl))) (fun a ha => hS _ (.inr (.inr (.inl ⟨a, ha, rfl⟩)))) (fun _ e => hS _ (.inr (.inr (.inr e)))), H.a, H.l, H.g⟩
theorem rest_of {b : Nat} (hb : b < w.heap.size) (h : ¬ own p k q v b) : rest w p k q v b :=
  ⟨hb, fun e => h (.inl e), fun e => h (.inr (.inl e)), fun a ha e => h (.inr (.inr (.inl ⟨a, ha, e⟩))), fun e => h (.inr (.inr (.inr e)))⟩
theorem rest_not {b : Nat} (hb : rest w p k q v b) : ¬ own p k q v b := by
  rintro (e | e | ⟨a, ha, e⟩ | e)
  · exact hb.2.1 e
  · exact hb.2.2.1 e
  · exact hb.2.2.2.1 a ha e
  · exact hb.2.2.2.2 e
theorem Fr.chg (f : Fr w p k q v w' v') : Chg w w' (own p k q v) (own p k q v') :=
  ⟨f.kp.mono fun _ _ hb => rest_of hb.1 hb.2, fun b hb => by
    by_cases h : own p k q v b
    · exact .inl h
    · by_cases hl : b < w.heap.size
      · exact absurd hb (rest_not (f.rst (rest_of hl h)))
      · exact .inr (by omega)⟩
/-- A Post at P: its Net, its table of owners. -/
structure Po (M : Nat → Prop) (B w : World) (P p k : Nat) (q : Nat → Nat) (v : Value) (tb : Nat) (u : Value) (c : Nat → Nat → Nat) (t : Tn) (n : Nat) (rs : List Rt) : Prop where
  blk : w.heap[P]? = some (.cells #[pv p, pv tb] 75 (0, 0))
  net : Nl M B w p k q v c t n
  tab : TabS w M tb u rs
  ows : Ows rs
  nop : ¬ M P
  a1 : ∀ b, own p k q v b → ¬ ownB tb u b
  a2 : ¬ own p k q v P
  a3 : ¬ ownB tb u P
def ownP (P p k : Nat) (q : Nat → Nat) (v : Value) (tb : Nat) (u : Value) (b : Nat) : Prop := b = P ∨ own p k q v b ∨ ownB tb u b
theorem Po.lt (H : Po M B w P p k q v tb u c t n rs) {b : Nat} (hb : ownP P p k q v tb u b) : b < w.heap.size := by
  rcases hb with rfl | h | h
  · exact lt_of_block H.blk
  · exact H.net.h.own_lt h
  · exact H.tab.own_lt h
theorem Po.out (H : Po M B w P p k q v tb u c t n rs) {b : Nat} (hm : M b) : b < w.heap.size ∧ ¬ ownP P p k q v tb u b := by
  refine ⟨Nat.lt_of_lt_of_le (H.net.h.bd b hm) H.net.h.kp.size, ?_⟩
  rintro (rfl | h | h)
  · exact H.nop hm
  · exact rest_not (H.net.h.sub hm) h
  · rcases h with rfl | h
    · exact H.tab.notTb hm
    · exact H.tab.notRow b h hm
theorem Po.gr (H : Po M B w P p k q v tb u c t n rs) (g : Gr w w') : Po M B w' P p k q v tb u c t n rs :=
  ⟨(Below.block g P (lt_of_block H.blk)).trans H.blk, H.net.ext g, H.tab.gr g, H.ows, H.nop, H.a1, H.a2, H.a3⟩
theorem Po.keep (H : Po M B w P p k q v tb u c t n rs) (hk : Kp N w w') (hMN : ∀ b, M b → N b) (hS : ∀ b, ownP P p k q v tb u b → N b) : Po M B w' P p k q v tb u c t n rs :=
  ⟨(hk.block P (lt_of_block H.blk) (hS P (.inl rfl))).trans H.blk, H.net.keep hk hMN (fun b hb => hS b (.inr (.inl hb))), H.tab.kept hk (hS tb (.inr (.inr (.inl rfl)))) (fun g hg => hS g (.inr (.inr (.inr hg)))), H.ows, H.nop, H.a1, H.a2, H.a3⟩
/-- The Net has changed. -/
theorem Po.netStep (H : Po M B w P p k q v tb u c t n rs) (H' : Nl M B w' p k q v' c' t' n') (f : Fr w p k q v w' v') : Po M B w' P p k q v' tb u c' t' n' rs ∧ Chg w w' (ownP P p k q v tb u) (ownP P p k q v' tb u) := by
  have hB : ∀ b, ownB tb u b → rest w p k q v b := fun b hb => rest_of (H.tab.own_lt hb) (fun h => H.a1 b h hb)
  have hP : rest w p k q v P := rest_of (lt_of_block H.blk) H.a2
  have fc := f.chg
  refine ⟨⟨(f.kp.block P hP.1 hP).trans H.blk, H', H.tab.kept f.kp (hB tb (.inl rfl)) (fun g hg => hB g (.inr hg)), H.ows, H.nop, fun b ho hb => rest_not (f.rst (hB b hb)) ho, rest_not (f.rst hP), H.a3⟩, ?_, ?_⟩
  · exact fc.kp.mono fun b _ hb => ⟨hb.1, fun h => hb.2 (.inr (.inl h))⟩
  · rintro b (h | h | h)
    · exact .inl (.inl h)
    · rcases fc.nw b h with q | q
      · exact .inl (.inr (.inl q))
      · exact .inr q
    · exact .inl (.inr (.inr h))
/-- The owners have changed. -/
theorem Po.tabStep (H : Po M B w P p k q v tb u c t n rs) (H' : TabS w' (fun b => b < w.heap.size ∧ ¬ ownB tb u b) tb u' rs') (k' : Kp (fun b => b < w.heap.size ∧ ¬ ownB tb u b) w w') (o : Ows rs') : Po M B w' P p k q v tb u' c t n rs' ∧ Chg w w' (ownP P p k q v tb u) (ownP P p k q v tb u') := by
  have hnw : ∀ b, ownB tb u' b → ownB tb u b ∨ w.heap.size ≤ b := by
    rintro b (h | h)
    · exact .inl (.inl h)
    · by_cases hl : b < w.heap.size
      · by_cases ho : ownB tb u b
        · exact .inl ho
        · exact absurd ⟨hl, ho⟩ (H'.notRow b h)
      · exact .inr (by omega)
  have hM : ∀ b, M b → b < w.heap.size ∧ ¬ ownB tb u b := fun b hm => ⟨(H.out hm).1, fun h => (H.out hm).2 (.inr (.inr h))⟩
  have hPl := lt_of_block H.blk
  have hN : ∀ b, own p k q v b → b < w.heap.size ∧ ¬ ownB tb u b := fun b hb => ⟨H.net.h.own_lt hb, H.a1 b hb⟩
  refine ⟨⟨(k'.block P hPl ⟨hPl, H.a3⟩).trans H.blk, H.net.keep k' hM hN, ⟨H'.cell, H'.own, H.tab.notTb, fun g hg hm => H'.notRow g hg (hM g hm), fun b hm => Nat.lt_of_lt_of_le (hM b hm).1 k'.size⟩, o, H.nop, fun b hb ho => ?_, H.a2, fun ho => ?_⟩, ?_, ?_⟩
  · rcases hnw b ho with z | z
    · exact H.a1 b hb z
    · have := (hN b hb).1; omega
  · rcases hnw P ho with z | z
    · exact H.a3 z
    · omega
  · exact k'.mono fun b _ hb => ⟨hb.1, fun h => hb.2 (.inr (.inr h))⟩
  · rintro b (h | h | h)
    · exact .inl (.inl h)
    · exact .inl (.inr (.inl h))
    · rcases hnw b h with z | z
      · exact .inl (.inr (.inr z))
      · exact .inr z
end

end Go.Proofs.YtcgflhjgllpohafGreatDoor
