import Derived.Test.YthiojjkgodffnaeK2
import Derived.Test.YthiojjkgodffnaePlainAll
import Derived.Test.YthiojjkgodffnaeB1a
import Derived.Test.YthiojjkgodffnaeD7
/- WHAT BOTH THE PROGRAM'S Net AND THE REFERENCE'S Town NAME: news as numbers in memory, frames. -/
namespace Go.Proofs.Ythiojjkgodffnae
open Go.RowKit

def newsL (l : List Nw) : List Nws := l.map fun x => ((x.f : Int), (x.g : Int), (x.to : Int), x.s, x.d)
theorem newsL_len (l : List Nw) : (newsL l).length = l.length := List.length_map _
theorem newsL_app (a b : List Nw) : newsL (a ++ b) = newsL a ++ newsL b := List.map_append
theorem NwO.own_lt {lo : Nat} {w : World} {v : Value} {l : List Nws} (h : NwO lo w v l) {b : Nat} (e : v.ownBlock = some b) : b < w.heap.size := by
  rcases h.2 with ⟨rfl, _⟩ | ⟨g, cap, cur, rfl, hb, hgg, _⟩
  · cases e
  · cases e; exact lt_of_block hgg
theorem NwO.apart {lo : Nat} {w : World} {v : Value} {l : List Nws} (h : NwO lo w v l) {b : Nat} (e : v.ownBlock = some b) {t : TypeId} {cs : Array Value} {fr : Nat × Nat} {k : Nat} (hk : w.heap[k]? = some (.cells cs t fr)) (ht : t ≠ 66) : b ≠ k := by
  rcases h.2 with ⟨rfl, _⟩ | ⟨g, cap, cur, rfl, hb, hgg, _⟩
  · cases e
  · cases e
    exact blk_ne hgg hk (fun q => ht q.symm)
theorem tell_news {t : Tn} {a b : Nat} (hme : (t.nd a).me = a) : newsL (tellT t a b) = tellL (t.nd a) (b : Int) 6 := by
  unfold newsL tellT
  simp [List.range, List.range.loop, tellL, hme]
theorem Wr.kp {M : Nat → Prop} {p : Nat} {w w' : World} (h : Wr p w w') (hp : ¬ M p) : Kp M w w' := ⟨h.os, h.tape, h.output, h.size, fun k hk hm => h.block k hk (fun e => hp (e ▸ hm))⟩
theorem Kp.wr {M : Nat → Prop} {B w w' : World} {p : Nat} (h : Kp M B w) (k : Wr p w w') (hp : ¬ M p) : Kp M B w' := h.trans (k.kp hp)
/-- A call of a Go function whose contract is known, as one step of a region that draws. -/
theorem step_call2 {P : Program} {ops : Array Oper} {oo : Oper} {a : Act} {w : World} {K : Act → World → Prop} {Q : Exit → Act → World → Prop} {E : Prop}
    (hg : oo.guard = none) (f : FuncId) (args : Array Value) (he : (execOp a.eval oo).run P w = .ok (.enter f args) w)
    {R : Value → World → Prop} (hC : Calls P f args w fun e w' => ∃ r, e = .returned r ∧ R r w') (hK : ∀ r w', R r w' → K (a.put oo.dst r) w') :
    if Region.wanted oo (yielded ops a.tmps) = true then Oper.wp P oo a w K Q else E := by
  have hw : Region.wanted oo (yielded ops a.tmps) = true := by simp [Region.wanted, hg]
  rw [if_pos hw]
  unfold Oper.wp
  rw [he, Oper.upon_enter]
  refine hC.mono fun e w' ⟨r, he, hr⟩ => ?_
  subst he
  exact hK r w' hr

end Go.Proofs.Ythiojjkgodffnae

/- THE PROGRAM'S Net IN MEMORY. -/
namespace Go.Proofs.Ythiojjkgodffnae
open Go.RowKit

/-- The cells of a Net: its links, its nodes, the news. -/
def ntF (k : Nat) (q : Nat → Nat) (v : Value) : Nat → Value := fun i => if i = 0 then pv k else if i < 7 then pv (q (i - 1)) else v
/-- A Net at p: its links at k, its nodes at q 0 .. q 5, its news in v; c: what links cost; t: as numbers. Of the world B the blocks M are as they were, and none of M's is the Net's. -/
structure Ne (M : Nat → Prop) (B w : World) (p k : Nat) (q : Nat → Nat) (v : Value) (c : Nat → Nat → Nat) (t : Tn) : Prop where
  kp : Kp M B w
  bd : ∀ b, M b → b < B.heap.size
  blk : VArr w 51 8 p (ntF k q v)
  lk : KL w k c
  six : Six 103 w q (fun a => sel (t.nd a))
  nw : NwO 0 w v (newsL t.news)
  nop : ¬ M p
  nok : ¬ M k
  noq : ∀ a, a < 6 → ¬ M (q a)
  nov : ∀ b, v.ownBlock = some b → ¬ M b
section
variable {M : Nat → Prop} {B w w' : World} {p k : Nat} {q : Nat → Nat} {v : Value} {c : Nat → Nat → Nat} {t : Tn}
theorem Ne.ext (h : Ne M B w p k q v c t) (g : Gr w w') : Ne M B w' p k q v c t :=
  ⟨h.kp.ext g, h.bd, h.blk.gr g, h.lk.gr g, h.six.gr g, h.nw.gr g, h.nop, h.nok, h.noq, h.nov⟩
theorem Ne.links (h : Ne M B w p k q v c t) : w.cell? ⟨p, 0, none⟩ = some (pv k) := h.blk.cell (j := 0) (by omega)
theorem Ne.node (h : Ne M B w p k q v c t) {a : Nat} (ha : a < 6) : w.cell? ⟨p, 1 + a, none⟩ = some (pv (q a)) := by
  have := h.blk.cell (j := 1 + a) (by omega)
  unfold ntF at this
  rw [if_neg (by omega), if_pos (by omega), show 1 + a - 1 = a by omega] at this
  exact this
theorem Ne.news (h : Ne M B w p k q v c t) : w.cell? ⟨p, 7, none⟩ = some v := h.blk.cell (j := 7) (by omega)
theorem Ne.pk (h : Ne M B w p k q v c t) : p ≠ k := blk_ne h.blk h.lk (by decide)
theorem Ne.pq (h : Ne M B w p k q v c t) {a : Nat} (ha : a < 6) : p ≠ q a := blk_ne h.blk (h.six.at_ a ha) (by decide)
theorem Ne.kq (h : Ne M B w p k q v c t) {a : Nat} (ha : a < 6) : k ≠ q a := blk_ne h.lk (h.six.at_ a ha) (by decide)
theorem Ne.vq (h : Ne M B w p k q v c t) {b : Nat} (e : v.ownBlock = some b) : b ≠ p ∧ b ≠ k ∧ ∀ a, a < 6 → b ≠ q a :=
  ⟨h.nw.apart e h.blk (by decide), h.nw.apart e h.lk (by decide), fun a ha => h.nw.apart e (h.six.at_ a ha) (by decide)⟩
/-- One node has changed. -/
theorem Ne.put (h : Ne M B w p k q v c t) {a : Nat} (ha : a < 6) {m : Md} (hw : Wr (q a) w w') (hm : DAt w' (q a) (sel m)) : Ne M B w' p k q v c { t with nd := updW t.nd a m } := by
  refine ⟨h.kp.wr hw (h.noq a ha), h.bd, hw.varr h.blk (h.pq ha), (hw.block k h.lk.lt (h.kq ha)).trans h.lk, ?_, h.nw.keep (fun b e => hw.block b (h.nw.own_lt e) ((h.vq e).2.2 a ha)), h.nop, h.nok, h.noq, h.nov⟩
  have := h.six.put ha hw hm
  have e : updW (fun a => sel (t.nd a)) a (sel m) = fun x => sel (updW t.nd a m x) := by
    funext x
    by_cases q : x = a
    · rw [q, updW_same, updW_same]
    · rw [updW_ne _ _ q, updW_ne _ _ q]
  rw [e] at this
  exact this
/-- A link has changed. -/
theorem Ne.setLk (h : Ne M B w p k q v c t) {j : Nat} {u : Value} {c' : Nat → Nat → Nat} (hk : KL (w.setCell ⟨k, j, none⟩ u) k c') (f : Nat → Nat → Int) : Ne M B (w.setCell ⟨k, j, none⟩ u) p k q v c' { t with cst := f } :=
  ⟨h.kp.set h.nok _ _, h.bd, h.blk.other h.pk _ _, hk, h.six.keep (fun a ha => Below.heap_setCell w ⟨k, j, none⟩ u (q a) (fun e => h.kq ha e.symm)), h.nw.keep (fun b e => Below.heap_setCell w ⟨k, j, none⟩ u b (h.vq e).2.1), h.nop, h.nok, h.noq, h.nov⟩
/-- The news have changed: the row behind them, and the Net's own word of it. -/
theorem Ne.newsPut {v' : Value} {nl : List Nw} (h : Ne M B w p k q v c t) (g : w.grownBy w' v.ownBlock) (hn : NwO 0 w' v' (newsL nl)) (ho : v'.ownBlock = none ∨ v'.ownBlock = v.ownBlock ∨ v'.ownBlock = some w.heap.size) :
    Ne M B (w'.setCell ⟨p, 7, none⟩ v') p k q v' c { t with news := nl } := by
  have kb : ∀ {b : Nat}, b < w.heap.size → (∀ x, v.ownBlock = some x → x ≠ b) → w'.heap[b]? = w.heap[b]? := fun {b} hb hx => g.block b hb (fun e => hx b e.symm rfl)
  have hblk : VArr w' 51 8 p (ntF k q v) := (kb h.blk.lt (fun x e => (h.vq e).1)).trans h.blk
  have hlk : KL w' k c := (kb h.lk.lt (fun x e => (h.vq e).2.1)).trans h.lk
  have hs : Six 103 w' q (fun a => sel (t.nd a)) := h.six.keep (fun a ha => kb (h.six.at_ a ha).lt (fun x e => (h.vq e).2.2 a ha))
  have hp' : ∀ b, v'.ownBlock = some b → b ≠ p := fun b e => hn.apart e hblk (by decide)
  refine ⟨(h.kp.trans (Kp.grown g (fun b e => h.nov b e))).set h.nop _ _, h.bd, hblk.set fun i hi => ?_, ?_, hs.keep (fun a ha => Below.heap_setCell w' ⟨p, 7, none⟩ v' (q a) (fun e => h.pq ha e.symm)), hn.keep (fun b e => Below.heap_setCell w' ⟨p, 7, none⟩ v' b (hp' b e)), h.nop, h.nok, h.noq, fun b e hm => ?_⟩
  · unfold ntF
    by_cases e0 : i = 0
    · rw [if_pos e0, if_pos e0, if_neg (by omega)]
    · rw [if_neg e0, if_neg e0]
      by_cases e1 : i < 7
      · rw [if_pos e1, if_pos e1, if_neg (by omega)]
      · rw [if_neg e1, if_neg e1, if_pos (by omega)]
  · exact (Below.heap_setCell w' ⟨p, 7, none⟩ v' k (fun e => h.pk e.symm)).trans hlk
  · rcases ho with o | o | o
    · rw [o] at e; cases e
    · exact h.nov b (o ▸ e) hm
    · rw [o] at e
      have := h.bd b hm
      have := h.kp.size
      cases e
      omega
/-- The same Net, as it is now, and other blocks that are to stay. -/
theorem Ne.re (h : Ne M B w p k q v c t) {N : Nat → Prop} (hb : ∀ b, N b → b < w.heap.size) (h1 : ¬ N p) (h2 : ¬ N k) (h3 : ∀ a, a < 6 → ¬ N (q a)) (h4 : ∀ b, v.ownBlock = some b → ¬ N b) : Ne N w w p k q v c t :=
  ⟨Kp.refl _ _, hb, h.blk, h.lk, h.six, h.nw, h1, h2, h3, h4⟩
/-- And back. -/
theorem Ne.back {N : Nat → Prop} {v' : Value} {c' : Nat → Nat → Nat} {t' : Tn} (h : Ne M B w p k q v c t) (h' : Ne N w w' p k q v' c' t') (hMN : ∀ b, M b → N b) : Ne M B w' p k q v' c' t' :=
  ⟨h.kp.trans (h'.kp.mono fun b _ hm => hMN b hm), h.bd, h'.blk, h'.lk, h'.six, h'.nw, h.nop, h.nok, h.noq, fun b e hm => h'.nov b e (hMN b hm)⟩
/-- All stays where no block of the Net's is written. -/
theorem Ne.keep {N : Nat → Prop} (h : Ne M B w p k q v c t) (hk : Kp N w w') (hMN : ∀ b, M b → N b) (h1 : N p) (h2 : N k) (h3 : ∀ a, a < 6 → N (q a)) (h4 : ∀ b, v.ownBlock = some b → N b) : Ne M B w' p k q v c t :=
  ⟨h.kp.trans (hk.mono fun b _ hm => hMN b hm), h.bd, (hk.block p h.blk.lt h1).trans h.blk, (hk.block k h.lk.lt h2).trans h.lk, h.six.keep (fun a ha => hk.block (q a) (h.six.at_ a ha).lt (h3 a ha)), h.nw.keep (fun b e => hk.block b (h.nw.own_lt e) (h4 b e)), h.nop, h.nok, h.noq, h.nov⟩
end

end Go.Proofs.Ythiojjkgodffnae

/- THE PROGRAM'S Net: New. -/
namespace Go.Proofs.Ythiojjkgodffnae
open Go.RowKit
attribute [local go_sem] Ext.all Ext.cell Ext.frozen Ext.lt Ext.lt1 Ext.lt2 Ext.ne Ext.ne'

/-- The cells of a Net that is being made: the first j nodes are there. -/
def ntF2 (k : Nat) (q : Nat → Nat) (j : Nat) : Nat → Value := fun i => if i = 0 then pv k else if i < 7 then (if i - 1 < j then pv (q (i - 1)) else .pointer none) else .slice none 0 0

set_option maxRecDepth 20000 in
set_option maxHeartbeats 8000000 in
theorem netNew_ok (w : World) (M : Nat → Prop) (hM : ∀ b, M b → b < w.heap.size) : Calls Try.prog 10 #[] w fun e w' => ∃ p k q, e = .returned (pv p) ∧ Ne M w w' p k q (.slice none 0 0) (fun _ _ => 0) newT ∧ Gr w w' ∧ w.heap.size ≤ p ∧ w.heap.size ≤ k ∧ ∀ a, a < 6 → w.heap.size ≤ q a := by
  have HK := hide (knew_any w)
  have HM := hide hM
  clear hM
  go_enter Try.func10, Try.ntmps10
  go_upto_region 2 with (go_at_call 30; with_reducible refine HK.out.mono ?_; rintro e V1 ⟨rfl, K1', g1', hs1⟩; have K1 := hide K1'; have G1 := hide g1'; clear K1' g1')
  have N0 : Hid (VArr (V1.alloc (.cells (vcells 8 (ntF2 w.heap.size (fun _ => 0) 0)) 51)) 51 8 V1.heap.size (ntF2 w.heap.size (fun _ => 0) 0)) := VArr.new V1 51 8 _
  refine wp_gen (fun V => Hid (VArr V 51 8 V1.heap.size (ntF2 w.heap.size (fun _ => 0) 0)) ∧ Hid (KL V w.heap.size (fun _ _ => 0)) ∧ Hid (Gr w V)) ⟨N0.out, K1.out.gr ((Gr.refl _).alloc _), G1.out.alloc _⟩ ?_
  clear N0 K1 G1 HK
  generalize hp : V1.heap.size = p at *
  generalize hk : w.heap.size = k at *
  have hkp : k < p := by omega
  have HP := hide hk
  clear hp hk hs1
  rintro V ⟨M0, K0, g0⟩
  have hkw : w.heap.size ≤ k := by have := HP.out; omega
  go_wp2_with fail
  go_loopw [6] (fun v6 wr => ∃ (j : Nat) (q : Nat → Nat), j ≤ 6 ∧ v6 = .int .i64 (j : Int) ∧ Hid (VArr wr 51 8 p (ntF2 k q j)) ∧ Hid (KL wr k (fun _ _ => 0)) ∧ Hid (∀ a, a < j → DAt wr (q a) (sel (newM a)) ∧ w.heap.size ≤ q a ∧ q a ≠ p ∧ ∀ b, b < j → a ≠ b → q a ≠ q b) ∧ Hid (Gr w wr)) (fun v6 _ => (6 - intOf v6).toNat)
  case atStart => exact ⟨0, fun _ => 0, by omega, rfl, M0, K0, fun a ha => by omega, g0⟩
  case round =>
    clear M0 K0 g0
    obtain ⟨j, q, hj6, rfl, M0, K0, Q0, g0⟩ := hrel
    by_cases hj : j < 6
    · have hji : decide ((j : Int) < 6) = true := decide_eq_true (by omega)
      have hj0 : (j : Int) < 6 := by omega
      have wj : IntKind.i64.wrap ((j : Int) + 1) = (j : Int) + 1 := by rw [IntKind.wrap_i64]; omega
      have HN := hide (nnew_ok hj wr.drew)
      have fz := VArr.free M0.out
      have q0 := VArr.cell M0.out (j := 1 + j) (by omega)
      have hp := VArr.lt M0.out
      go_upto_region 5 with (fail)
      go_region_with (go_at_call 31; with_reducible refine HN.out.mono ?_; rintro e V1 ⟨rfl, N1', g1'⟩; have N1 := hide N1'; have G1 := hide ((Gr.refl wr).drewTo g1'); clear N1' g1'; have hp2 := VArr.lt (M0.out.gr G1.out); have fz2 := VArr.free (M0.out.gr G1.out); have r0 := VArr.cell (M0.out.gr G1.out) (j := 1 + j) (by omega))
      all_goals
        have SM : Hid (VArr (V1.setCell ⟨p, 1 + j, none⟩ (pv wr.heap.size)) 51 8 p (ntF2 k (updW q j wr.heap.size) (j + 1))) := (M0.out.gr G1.out).set (fun i hi => by
          unfold ntF2
          by_cases e1 : i = 0
          · rw [if_pos e1, if_pos e1, if_neg (by omega)]
          · rw [if_neg e1, if_neg e1]
            by_cases e2 : i < 7
            · rw [if_pos e2, if_pos e2]
              by_cases e3 : i = 1 + j
              · rw [if_pos e3, if_pos (by omega), show i - 1 = j by omega, updW_same]
              · rw [if_neg e3]
                by_cases e4 : i - 1 < j
                · rw [if_pos e4, if_pos (by omega), updW_ne _ _ (by omega)]
                · rw [if_neg e4, if_neg (by omega)]
            · rw [if_neg e2, if_neg e2, if_neg (by omega)])
        have hkp2 : wr.heap.size ≠ p := by omega
        have hs := Below.size g0.out
        have SK : Hid (KL (V1.setCell ⟨p, 1 + j, none⟩ (pv wr.heap.size)) k (fun _ _ => 0)) := NArr.other (K0.out.gr G1.out) (by omega) _ _
        have SQ : Hid (∀ a, a < j + 1 → DAt (V1.setCell ⟨p, 1 + j, none⟩ (pv wr.heap.size)) (updW q j wr.heap.size a) (sel (newM a)) ∧ w.heap.size ≤ updW q j wr.heap.size a ∧ updW q j wr.heap.size a ≠ p ∧ ∀ b, b < j + 1 → a ≠ b → updW q j wr.heap.size a ≠ updW q j wr.heap.size b) := fun a ha => by
          have lt : ∀ b, b < j → q b < wr.heap.size := fun b hb => (Q0.out b hb).1.lt
          by_cases e : a = j
          · subst e
            rw [updW_same]
            refine ⟨ZArr.other (N1.out) hkp2 _ _, by omega, hkp2, fun b hb hne => ?_⟩
            rw [updW_ne _ _ (fun x => hne x.symm)]
            have := lt b (by omega)
            omega
          · rw [updW_ne _ _ e]
            obtain ⟨h1, h2, h3, h4⟩ := Q0.out a (by omega)
            refine ⟨ZArr.other (h1.gr G1.out) h3 _ _, h2, h3, fun b hb hne => ?_⟩
            by_cases e2 : b = j
            · subst e2
              rw [updW_same]
              have := lt a (by omega)
              omega
            · rw [updW_ne _ _ e2]; exact h4 b (by omega) hne
        have SG := hide ((g0.out.trans G1.out).setCell (p := ⟨p, 1 + j, none⟩) (show w.heap.size ≤ p by omega) (pv wr.heap.size))
        go_wp2_with fail
        go_roundw
        case rel => exact ⟨j + 1, _, by omega, by congr 1, SM, SK, SQ, SG⟩
        case measure => simp [intOf]; omega
    · have hji : decide ((j : Int) < 6) = false := decide_eq_false (by omega)
      have ej : j = 6 := by omega
      subst ej
      have SB : Hid (VArr wr 51 8 p (ntF k q (.slice none 0 0))) := M0.out.congr (fun i hi => by
        unfold ntF2 ntF
        by_cases e1 : i = 0
        · rw [if_pos e1, if_pos e1]
        · rw [if_neg e1, if_neg e1]
          by_cases e2 : i < 7
          · rw [if_pos e2, if_pos e2, if_pos (by omega)]
          · rw [if_neg e2, if_neg e2])
      go_wp2_with fail
      have hwk := HP.out
      go_ret
      have no : ∀ b, w.heap.size ≤ b → ¬ M b := fun b hb hm => by have := HM.out b hm; omega
      have hm : ∀ b, M b → b < w.heap.size := fun b hb => by have := HM.out b hb; omega
      refine ⟨p, k, q, rfl, ⟨g0.out.kp M, hm, SB.out, K0.out, ⟨fun a ha => (Q0.out a ha).1, fun a b ha hb hne => (Q0.out a ha).2.2.2 b hb hne⟩, NwO.nil _ _, no _ (by omega), no _ (by omega), fun a ha => no _ (Q0.out a ha).2.1, fun b e => by cases e⟩, g0.out, by omega, by omega, fun a ha => (Q0.out a ha).2.1⟩

end Go.Proofs.Ythiojjkgodffnae
