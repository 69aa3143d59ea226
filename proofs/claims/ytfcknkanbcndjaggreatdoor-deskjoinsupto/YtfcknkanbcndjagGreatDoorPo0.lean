import Derived.Test.YtfcknkanbcndjagGreatDoorNe14
import Derived.Test.YtfcknkanbcndjagGreatDoorNe1
import Derived.Test.YtfcknkanbcndjagGreatDoorNe8
import Derived.Test.YtfcknkanbcndjagGreatDoorD7
import Derived.Test.YtfcknkanbcndjagGreatDoorTPlain
import Derived.Test.YtfcknkanbcndjagGreatDoorD2
import Derived.Test.YtfcknkanbcndjagGreatDoorE1
/- THE PROGRAM'S Net: Settle. -/
namespace Go.Proofs.YtfcknkanbcndjagGreatDoor
open Go.RowKit
attribute [local go_sem] Ext.all Ext.cell Ext.frozen Ext.lt Ext.lt1 Ext.lt2 Ext.ne Ext.ne'
end Go.Proofs.YtfcknkanbcndjagGreatDoor

/- slices.Index, slices.Contains, of numbers of nodes. -/
namespace Go.Proofs.YtfcknkanbcndjagGreatDoor
open Go.RowKit
attribute [local go_sem] Ext.all Ext.cell Ext.frozen Ext.lt Ext.lt1 Ext.lt2 Ext.ne Ext.ne'
set_option maxRecDepth 20000 in
set_option maxHeartbeats 8000000 in
theorem index_any {w : World} {ao : Option Addr} {n cp : Nat} {l : List Nat} (H : NumAt w ao l) (hn : n = l.length) (hm : l.length ≤ 1000) (x : Nat) :
    Calls Tryz.prog 64 #[.slice ao n cp, iv (x : Int)] w fun e w' => ∃ r : Int, e = .returned (iv r) ∧ w' = w ∧ (0 ≤ r ↔ x ∈ l) := by
  have HN := hide hn
  clear hn
  go_enter Tryz.func64, Tryz.ntmps64
  go_wp2_with fail
  go_loopw [8] (fun v8 wr => ∃ k : Nat, k ≤ n ∧ v8 = .int .i64 (k : Int) ∧ Hid (wr = w) ∧ Hid (∀ i (h : i < l.length), i < k → l[i] ≠ x)) (fun v8 _ => (n - intOf v8).toNat)
  case atStart => exact ⟨0, by omega, rfl, rfl, fun i h hi => by omega⟩
  case round =>
    obtain ⟨k, hkn, rfl, hwr, HB⟩ := hrel
    by_cases hk : k < n
    · have hki : decide ((k : Int) < (n : Int)) = true := decide_eq_true (by omega)
      have hk0 : (k : Int) < (n : Int) := by omega
      have hkl : k < l.length := by have := HN.out; omega
      have wk : IntKind.i64.wrap ((k : Int) + 1) = (k : Int) + 1 := by rw [IntKind.wrap_i64]; omega
      rcases H with h0 | ⟨bb, o, rfl, hbb, hc⟩
      · exfalso; rw [h0] at hkl; simp at hkl
      have c0 := hc k hkl
      rw [← hwr.out] at c0 hbb
      have HE : Hid (l[k] = x → x ∈ l) := fun e => by rw [← e]; exact List.getElem_mem hkl
      have HF : Hid (l[k] ≠ x → ∀ i (h : i < l.length), i < k + 1 → l[i] ≠ x) := fun e i h hi => by
        by_cases q : i = k
        · subst q; exact e
        · exact HB.out i h (by omega)
      generalize hlk : l[k] = lk at *
      clear hc hlk HB
      by_cases e : lk = x
      · have HI := hide (HE.out e)
        subst e
        clear HE HF
        go_wp2_with fail
        go_ret
        exact ⟨_, rfl, hwr.out, fun _ => HI.out, fun _ => by omega⟩
      · have e1 : ((x : Int) == (lk : Int)) = false := by simp; omega
        have HF2 := hide (HF.out e)
        clear HE HF e
        go_wp2_with fail
        go_roundw
        case rel => exact ⟨k + 1, by omega, by congr 1, hwr, HF2⟩
        case measure => simp [intOf]; omega
    · have hki : decide ((k : Int) < (n : Int)) = false := decide_eq_false (by omega)
      have HI : Hid (x ∉ l) := fun hm => by
        obtain ⟨i, hi, e⟩ := List.mem_iff_getElem.1 hm
        have := HN.out
        exact HB.out i hi (by omega) e
      go_wp2_with fail
      go_ret
      exact ⟨_, rfl, hwr.out, fun h => by omega, fun h => absurd h HI.out⟩
set_option maxRecDepth 20000 in
theorem contains_is {w : World} {ao : Option Addr} {n cp : Nat} {l : List Nat} (H : NumAt w ao l) (hn : n = l.length) (hm : l.length ≤ 1000) (x : Nat) {b : Bool} (hb : decide (x ∈ l) = b) :
    Calls Tryz.prog 35 #[.slice ao n cp, iv (x : Int)] w fun e w' => e = .returned (.bool b) ∧ w' = w := by
  have HI := hide (index_any (cp := cp) H hn hm x)
  have HB := hide hb
  clear H hn hb
  go_enter Tryz.func35, Tryz.ntmps35
  go_wp2_with (go_at_call 64; with_reducible refine HI.out.mono ?_; rintro e w1 ⟨r, rfl, hw1, hr'⟩; have HR := hide hr'; have hw2 := hw1.symm; clear hw1 hr'; subst hw2)
  go_ret
  refine ⟨?_, rfl⟩
  refine congrArg (fun z => Ending.returned (.bool z)) ?_
  rw [← HB.out]
  exact decide_eq_decide.2 HR.out

end Go.Proofs.YtfcknkanbcndjagGreatDoor

/- THE PROGRAM'S Net, as the laws use it; netBegun. -/
namespace Go.Proofs.YtfcknkanbcndjagGreatDoor
open Go.RowKit
attribute [local go_sem] Ext.all Ext.cell Ext.frozen Ext.lt Ext.lt1 Ext.lt2 Ext.ne Ext.ne'
theorem do_len {t : Tn} (h : t.news.length ≤ 40) (x : Sp) : (doT t x).1.news.length ≤ 40 := by
  unfold doT
  split
  · unfold linkC
    split
    · exact h
    · exact h
  · split
    · split
      · exact sayAll_len (show (tickT t _).news.length ≤ 40 from h) _ _
      · exact h
    · split
      · exact sayC_len h _ _
      · split
        · unfold newsC
          split
          · split
            · split
              · exact h
              · show (t.news ++ [_]).length ≤ 40
                rw [List.length_append, List.length_singleton]; omega
            · have hd : (dropAt t.news x.n.toNat).length ≤ 40 := by
                unfold dropAt
                rw [List.length_append, List.length_take, List.length_drop]; omega
              split
              · unfold hearC
                split
                · exact hd
                · exact hd
              · exact hd
          · exact h
        · exact h
theorem up_le (x : Sp) (k : Nat) : upA x k ≤ 1 := by unfold upA; split <;> omega
/-- A Net behind at most n steps. -/
structure Nl (M : Nat → Prop) (B w : World) (p k : Nat) (q : Nat → Nat) (v : Value) (c : Nat → Nat → Nat) (t : Tn) (n : Nat) : Prop where
  h : Ne M B w p k q v c t
  a : TnA t c
  l : t.news.length ≤ 40
  g : ∀ k, k < 6 → agT t k ≤ (n : Int)
section
variable {M : Nat → Prop} {B w w' : World} {p k : Nat} {q : Nat → Nat} {v : Value} {c : Nat → Nat → Nat} {t : Tn} {n : Nat}
theorem Nl.ext (H : Nl M B w p k q v c t n) (g : Gr w w') : Nl M B w' p k q v c t n := ⟨H.h.ext g, H.a, H.l, H.g⟩
theorem Nl.more (H : Nl M B w p k q v c t n) {m : Nat} (h : n ≤ m) : Nl M B w p k q v c t m := ⟨H.h, H.a, H.l, fun k hk => by have := H.g k hk; omega⟩
theorem Nl.do (H : Nl M B w p k q v c t n) (hn : n ≤ 100000) (x : Sp) (X Y : Value) :
    Calls Tryz.prog 38 #[pv p, .agg #[iv x.k, iv x.a, iv x.b, iv x.n, X, Y]] w fun e w' => ∃ v', e = .returned (iv (doT t x).2) ∧ Nl M B w' p k q v' (nextC c x) (doT t x).1 (n + 1) :=
  (netDo_any H.h H.a (fun k hk => by have := H.g k hk; omega) H.l x X Y).mono fun _ w' ⟨v', he, hh⟩ => by
    have hx := do_nx H.a x
    exact ⟨v', he, hh, hx.a, do_len H.l x, fun k hk => by have := hx.age k hk; have := up_le x k; have := H.g k hk; omega⟩
/-- A new one. -/
theorem netNew_nl (w : World) (M : Nat → Prop) (hM : ∀ b, M b → b < w.heap.size) : Calls Tryz.prog 46 #[] w fun e w' => ∃ p k q v, e = .returned (pv p) ∧ Nl M w w' p k q v (fun _ _ => 0) newT 0 ∧ Gr w w' ∧ w.heap.size ≤ p ∧ w.heap.size ≤ k ∧ (∀ a, a < 6 → w.heap.size ≤ q a) ∧ ∀ b, v.ownBlock = some b → w.heap.size ≤ b :=
  (netNew_ok w M hM).mono fun _ w' ⟨p, k, q, he, hh, hg, h1, h2, h3⟩ => ⟨p, k, q, _, he, ⟨hh, new_a, by show ([] : List Nw).length ≤ 40; simp, fun k hk => by
    show agT newT k ≤ 0
    have : agT newT k = 0 := by rcases (show k = 0 ∨ k = 1 ∨ k = 2 ∨ k = 3 ∨ k = 4 ∨ k = 5 by omega) with rfl | rfl | rfl | rfl | rfl | rfl <;> rfl
    omega⟩, hg, h1, h2, h3, fun b e => by cases e⟩
end
end Go.Proofs.YtfcknkanbcndjagGreatDoor

/- THE BEST OF A NODE, AS Best TELLS IT. -/
namespace Go.Proofs.YtfcknkanbcndjagGreatDoor
open Go.RowKit

end Go.Proofs.YtfcknkanbcndjagGreatDoor

/- FOR THE LAWS OF A NET: steps in memory; what a Net leaves as it was; ways, bests, costs as the laws ask them. -/
namespace Go.Proofs.YtfcknkanbcndjagGreatDoor
open Go.RowKit
attribute [local go_sem] Ext.all Ext.cell Ext.frozen Ext.lt Ext.lt1 Ext.lt2 Ext.ne Ext.ne'
/-- A step with its prefix. -/
structure Sx where
  s : Sp
  l : Int
  b : Int
/-- What is not the Net's is as it was, and still not the Net's. -/
structure Fr (w : World) (p k : Nat) (q : Nat → Nat) (v : Value) (w' : World) (v' : Value) : Prop where
  kp : Kp (rest w p k q v) w w'
  rst : ∀ {b}, rest w p k q v b → rest w' p k q v' b
section
variable {M : Nat → Prop} {B w w' : World} {p k : Nat} {q : Nat → Nat} {v v' : Value} {c c' : Nat → Nat → Nat} {t t' : Tn} {n : Nat}
theorem Ne.fr (h' : Ne (YtfcknkanbcndjagGreatDoor.rest w p k q v) w w' p k q v' c' t') : Fr w p k q v w' v' :=
  ⟨h'.kp, fun {b} hb => ⟨Nat.lt_of_lt_of_le hb.1 h'.kp.size, hb.2.1, hb.2.2.1, hb.2.2.2.1, fun e => h'.nov b e hb⟩⟩
theorem Nl.do' (H : Nl M B w p k q v c t n) (hn : n ≤ 100000) (x : Sp) (X Y : Value) :
    Calls Tryz.prog 38 #[pv p, .agg #[iv x.k, iv x.a, iv x.b, iv x.n, X, Y]] w fun e w' => ∃ v', e = .returned (iv (doT t x).2) ∧ Nl M B w' p k q v' (nextC c x) (doT t x).1 (n + 1) ∧ Fr w p k q v w' v' :=
  (Nl.do (M := rest w p k q v) (B := w) ⟨H.h.rest, H.a, H.l, H.g⟩ hn x X Y).mono fun _ _ ⟨v', he, hh⟩ =>
    ⟨v', he, ⟨H.h.unrest hh.h, hh.a, hh.l, hh.g⟩, hh.h.fr⟩
end
/-- The Net's own blocks. -/
def own (p k : Nat) (q : Nat → Nat) (v : Value) (b : Nat) : Prop := b = p ∨ b = k ∨ (∃ a, a < 6 ∧ b = q a) ∨ v.ownBlock = some b
section
variable {M : Nat → Prop} {B w w' : World} {p k p' k' : Nat} {q q' : Nat → Nat} {v v' v1 : Value} {c c' : Nat → Nat → Nat} {t t' : Tn} {n n' : Nat}
theorem Ne.own_lt (h : Ne M B w p k q v c t) {b : Nat} (hb : own p k q v b) : b < w.heap.size := by
  rcases hb with rfl | rfl | ⟨a, ha, rfl⟩ | e
  · exact h.blk.lt
  · exact h.lk.lt
  · exact (h.six.at_ a ha).lt
  · exact h.nw.own_lt e
end
end Go.Proofs.YtfcknkanbcndjagGreatDoor

/- WHOSE IS WHAT, as numbers: owners are a table of nodes; a node's table. No Go here. -/
namespace Go.Proofs.YtfcknkanbcndjagGreatDoor

theorem snoc_ind {p : List Rt → Prop} (h0 : p []) (h1 : ∀ rs r, p rs → p (rs ++ [r])) (rs : List Rt) : p rs := by
  rw [← List.reverse_reverse rs]
  induction rs.reverse with
  | nil => exact h0
  | cons r l ih => rw [List.reverse_cons]; exact h1 _ _ ih
/-- Owners: a table whose hops are nodes. -/
structure Ows (rs : List Rt) : Prop where
  tab : Tab rs
  hop : ∀ r ∈ rs, isN r.2.2
theorem Ows.nil : Ows [] := ⟨Tab.nil, fun _ h => by cases h⟩
/-- The step SOwn. -/
def ownC (rs : List Rt) (a n l b : Int) : List Rt × Int := if isN a then setL rs l b (if n = 0 then -2 else a) else (rs, 1)
theorem set_mem {rs : List Rt} (h : Tab rs) {l b h' : Int} {r : Rt} (hr : r ∈ (setL rs l b h').1) : r ∈ rs ∨ (r = (l, b, h') ∧ h' ≠ -2) := by
  rcases h.set l b h' with ⟨e, _⟩ | ⟨_, _, A, B, _, _, _, ⟨_, h0, _, e, _, _, e'⟩ | ⟨_, h2, e', ⟨e, _⟩ | ⟨h0, _, e, _⟩⟩⟩
  · rw [e] at hr; exact .inl hr
  · rw [e'] at hr; rw [e]
    rcases List.mem_append.1 hr with q | q
    · exact .inl (List.mem_append.2 (.inl q))
    · exact .inl (List.mem_append.2 (.inr (List.mem_cons_of_mem _ q)))
  · rw [e'] at hr; rw [e]
    rcases List.mem_append.1 hr with q | q
    · exact .inl (List.mem_append.2 (.inl q))
    · rcases List.mem_cons.1 q with q | q
      · exact .inr ⟨q, h2⟩
      · exact .inl (List.mem_append.2 (.inr q))
  · rw [e'] at hr; rw [e]
    rcases List.mem_append.1 hr with q | q
    · exact .inl (List.mem_append.2 (.inl q))
    · rcases List.mem_cons.1 q with q | q
      · exact .inr ⟨q, h2⟩
      · exact .inl (List.mem_append.2 (.inr (List.mem_cons_of_mem _ q)))
theorem Ows.own {rs : List Rt} (h : Ows rs) (a n l b : Int) : Ows (ownC rs a n l b).1 := by
  unfold ownC
  by_cases ha : isN a
  · rw [if_pos ha]
    refine ⟨h.tab.set_tab _ _ _, fun r hr => ?_⟩
    rcases set_mem h.tab hr with q | ⟨q, h2⟩
    · exact h.hop r q
    · rw [q]
      show isN (if n = 0 then -2 else a)
      by_cases hn : n = 0
      · rw [if_pos hn] at h2; exact absurd rfl h2
      · rw [if_neg hn]; exact ha
  · rw [if_neg ha]; exact h
/-- Whose an address is. -/
theorem Ows.look {rs : List Rt} (h : ∀ r ∈ rs, isN r.2.2) (a : Int) : lookL rs a = -1 ∨ isN (lookL rs a) := by
  revert h
  induction rs using snoc_ind with
  | h0 => exact fun _ => .inl rfl
  | h1 rs r ih =>
    intro h
    rw [lookL_snoc]
    by_cases q : hasB r.1 r.2.1 a = true
    · rw [if_pos q]; exact .inr (h r (by simp))
    · rw [if_neg q]; exact ih fun s hs => h s (by simp [hs])

/-- Where the way of a node goes. -/
def hpT (t : Tn) (n z : Int) : Int := if isN n then (if isN z then ((t.nd n.toNat).ways z.toNat).2.2 else -1) else -1
/-- A node's table. -/
def fullL (t : Tn) (n : Int) (rs : List Rt) : List Rt := rs.map fun r => (r.1, r.2.1, hpT t n r.2.2)
theorem full_len (t : Tn) (n : Int) (rs : List Rt) : (fullL t n rs).length = rs.length := List.length_map _
theorem full_snoc (t : Tn) (n : Int) (rs : List Rt) (r : Rt) : fullL t n (rs ++ [r]) = fullL t n rs ++ [(r.1, r.2.1, hpT t n r.2.2)] := by unfold fullL; rw [List.map_append]; rfl
theorem full_look (t : Tn) (n : Int) {rs : List Rt} (h : ∀ r ∈ rs, isN r.2.2) (a : Int) : lookL (fullL t n rs) a = if lookL rs a = -1 then -1 else hpT t n (lookL rs a) := by
  revert h
  induction rs using snoc_ind with
  | h0 => exact fun _ => rfl
  | h1 rs r ih =>
    intro h
    rw [full_snoc, lookL_snoc, lookL_snoc]
    by_cases q : hasB r.1 r.2.1 a = true
    · rw [if_pos q, if_pos q]
      have := h r (by simp)
      rw [if_neg (by have := this.1; omega)]
    · rw [if_neg q, if_neg q]
      exact ih fun s hs => h s (by simp [hs])
section
variable {t : Tn} {c : Nat → Nat → Nat}
/-- A way goes nowhere, or to a node; to the node itself just if it is the end. -/
theorem TnA.hop (H : TnA t c) {a k : Nat} (ha : a < 6) (hk : k < 6) : (((t.nd a).ways k).2.2 = -1 ∨ isN ((t.nd a).ways k).2.2) ∧ (((t.nd a).ways k).2.2 = (a : Int) ↔ k = a) := by
  obtain ⟨hx, hme⟩ := H.ok.node a ha
  by_cases e : k = a
  · subst e
    have := (H.self ha).2.1
    rw [this]
    exact ⟨.inr ⟨by show (0 : Int) ≤ (k : Int); omega, by show (k : Int) < 6; omega⟩, ⟨fun _ => rfl, fun _ => rfl⟩⟩
  · have hw := (H.s.z a ha).ok.way k hk (by rw [hme]; exact e)
    by_cases d : ((t.nd a).ways k).2.2 = -1
    · exact ⟨.inl d, ⟨fun q => by rw [d] at q; omega, fun q => absurd q e⟩⟩
    · obtain ⟨j, hj, ew, hc, _⟩ := hw.by_ d (by rw [hme]; exact e)
      have e2 : ((t.nd a).ways k).2.2 = (j : Int) := by rw [ew]; rfl
      refine ⟨.inr (by rw [e2]; exact ⟨by omega, by omega⟩), ⟨fun q => ?_, fun q => absurd q e⟩⟩
      rw [e2] at q
      have : j = a := by omega
      subst this
      exact absurd (by rw [H.s.tc.cost j j ha ha, H.s.tc.lk.self]; rfl) hc
theorem hp_hop (H : TnA t c) (n z : Int) : hpT t n z = -1 ∨ isN (hpT t n z) := by
  unfold hpT
  by_cases hn : isN n
  · by_cases hz : isN z
    · rw [if_pos hn, if_pos hz]
      exact (H.hop (a := n.toNat) (k := z.toNat) (by have := hn.1; have := hn.2; omega) (by have := hz.1; have := hz.2; omega)).1
    · rw [if_pos hn, if_neg hz]; exact .inl rfl
  · rw [if_neg hn]; exact .inl rfl
theorem full_tab (H : TnA t c) (n : Int) {rs : List Rt} (h : Tab rs) : Tab (fullL t n rs) := by
  refine ⟨?_, ?_, by rw [full_len]; exact h.len⟩
  · intro r hr
    obtain ⟨s, hs, rfl⟩ := List.mem_map.1 hr
    refine ⟨(h.ok s hs).1, ?_⟩
    show hopB (hpT t n s.2.2) = true
    unfold hopB
    exact decide_eq_true (by rcases hp_hop H n s.2.2 with q | q; exact .inl q; exact .inr q)
  · show (rs.map _).Pairwise _
    rw [List.pairwise_map]
    exact h.srt
end
/-- A step of a post, and its code. -/
def fdoC (t : Tn) (rs : List Rt) (x : Sp) (l b : Int) : (Tn × List Rt) × Int := if x.k = 7 then ((t, (ownC rs x.a x.n l b).1), (ownC rs x.a x.n l b).2) else (((doT t x).1, rs), (doT t x).2)
end Go.Proofs.YtfcknkanbcndjagGreatDoor

/- WHERE A WAY GOES, AS A HOP. -/
namespace Go.Proofs.YtfcknkanbcndjagGreatDoor
open Go.RowKit
theorem hopW_of (a b c : Int) (w : World) : (Instr.field 119 (.agg #[iv a, iv b, iv c]) 2).run Tryz.prog w = .ok (iv c) w := by kernel_rfl
theorem hp_way (t : Tn) (n z : Int) : (wayTn t n z).2.2 = hpT t n z := by
  unfold wayTn hpT wayOf
  by_cases hn : isN n
  · rw [if_pos hn, if_pos hn]
    by_cases hz : isN z
    · rw [if_pos hz, if_pos hz]
    · rw [if_neg hz, if_neg hz]
  · rw [if_neg hn, if_neg hn]
theorem full_take (t : Tn) (n : Int) {rs : List Rt} {k : Nat} (hk : k < rs.length) : fullL t n (rs.take (k + 1)) = fullL t n (rs.take k) ++ [(rs[k].1, rs[k].2.1, hpT t n rs[k].2.2)] := by
  rw [List.take_succ_eq_append_getElem hk, full_snoc]

end Go.Proofs.YtfcknkanbcndjagGreatDoor

/- A POST IN MEMORY: a Net and a table of owners; objects beside each other. -/
namespace Go.Proofs.YtfcknkanbcndjagGreatDoor
open Go.RowKit

/-- An object whose own blocks were S has changed: all else is as it was; its own blocks are now S'. -/
structure Chg (w w' : World) (S S' : Nat → Prop) : Prop where
  kp : Kp (fun b => b < w.heap.size ∧ ¬ S b) w w'
  nw : ∀ b, S' b → S b ∨ w.heap.size ≤ b
theorem Gr.chg {w w' : World} (g : Gr w w') (S : Nat → Prop) : Chg w w' S S := ⟨g.kp _, fun _ h => .inl h⟩
theorem Chg.trans {w w1 w2 : World} {S S1 S2 : Nat → Prop} (h : Chg w w1 S S1) (k : Chg w1 w2 S1 S2) : Chg w w2 S S2 := by
  refine ⟨h.kp.trans (k.kp.mono fun b _ hb => ⟨Nat.lt_of_lt_of_le hb.1 h.kp.size, fun hs => ?_⟩), fun b hb => ?_⟩
  · rcases h.nw b hs with q | q
    · exact hb.2 q
    · have := hb.1; omega
  · rcases k.nw b hb with q | q
    · exact h.nw b q
    · exact .inr (Nat.le_trans h.kp.size q)
/-- The own blocks of a table. -/
def ownB (tb : Nat) (u : Value) (b : Nat) : Prop := b = tb ∨ u.ownBlock = some b
section
variable {M N : Nat → Prop} {B w w' : World} {P p k : Nat} {q : Nat → Nat} {v v' : Value} {tb : Nat} {u u' : Value} {c c' : Nat → Nat → Nat} {t t' : Tn} {n n' : Nat} {rs rs' : List Rt}
theorem TabS.own_lt (h : TabS w M tb u rs) {b : Nat} (hb : ownB tb u b) : b < w.heap.size := by
  rcases hb with rfl | e
  · exact h.lt
  · exact (h.own.lt b e).2
/-- All that is not the table's stays. -/
theorem TabS.all (h : TabS w M tb u rs) : TabS w (fun b => b < w.heap.size ∧ ¬ ownB tb u b) tb u rs :=
  ⟨h.cell, h.own, fun e => e.2 (.inl rfl), fun _ hg e => e.2 (.inr hg), fun _ e => e.1⟩
theorem Nl.keep (H : Nl M B w p k q v c t n) (hk : Kp N w w') (hMN : ∀ b, M b → N b) (hS : ∀ b, own p k q v b → N b) : Nl M B w' p k q v c t n :=
  ⟨H.h.keep hk hMN (hS _ (.inl rfl)) (hS _ (.inr (.inl rfl))) (fun a ha => hS _ (.inr (.inr (.inl ⟨a, ha, rfl⟩)))) (fun _ e => hS _ (.inr (.inr (.inr e)))), H.a, H.l, H.g⟩
theorem rest_of {b : Nat} (hb : b < w.heap.size) (h : ¬ own p k q v b) : rest w p k q v b :=
  ⟨hb, fun e => h (.inl e), fun e => h (.inr (.inl e)), fun a ha e => h (.inr (.inr (.inl ⟨a, ha, e⟩))), fun e => h (.inr (.inr (.inr e)))⟩
theorem rest_not {b : Nat} (hb : rest w p k q v b) : ¬ own p k q v b := by
  rintro (e | e | ⟨a, ha, e⟩ | e)
  · exact hb.2.1 e
  · exact hb.2.2.1 e
  · exact hb.2.2.2.1 a ha e
  · exact hb.2.2.2.2 e
theorem Fr.chg (f : Fr w p k q v w' v') : Chg w w' (own p k q v) (own p k q v') :=
  ⟨f.kp.mono fun _ _ hb => rest_of hb.1 hb.2, fun b hb => by
    by_cases h : own p k q v b
    · exact .inl h
    · by_cases hl : b < w.heap.size
      · exact absurd hb (rest_not (f.rst (rest_of hl h)))
      · exact .inr (by omega)⟩
/-- A Post at P: its Net, its table of owners. -/
structure Po (M : Nat → Prop) (B w : World) (P p k : Nat) (q : Nat → Nat) (v : Value) (tb : Nat) (u : Value) (c : Nat → Nat → Nat) (t : Tn) (n : Nat) (rs : List Rt) : Prop where
  blk : w.heap[P]? = some (.cells #[pv p, pv tb] 33 (0, 0))
  net : Nl M B w p k q v c t n
  tab : TabS w M tb u rs
  ows : Ows rs
  nop : ¬ M P
  a1 : ∀ b, own p k q v b → ¬ ownB tb u b
  a2 : ¬ own p k q v P
  a3 : ¬ ownB tb u P
def ownP (P p k : Nat) (q : Nat → Nat) (v : Value) (tb : Nat) (u : Value) (b : Nat) : Prop := b = P ∨ own p k q v b ∨ ownB tb u b
theorem Po.lt (H : Po M B w P p k q v tb u c t n rs) {b : Nat} (hb : ownP P p k q v tb u b) : b < w.heap.size := by
  rcases hb with rfl | h | h
  · exact lt_of_block H.blk
  · exact H.net.h.own_lt h
  · exact H.tab.own_lt h
theorem Po.out (H : Po M B w P p k q v tb u c t n rs) {b : Nat} (hm : M b) : b < w.heap.size ∧ ¬ ownP P p k q v tb u b := by
  refine ⟨Nat.lt_of_lt_of_le (H.net.h.bd b hm) H.net.h.kp.size, ?_⟩
  rintro (rfl | h | h)
  · exact H.nop hm
  · exact rest_not (H.net.h.sub hm) h
  · rcases h with rfl | h
    · exact H.tab.notTb hm
    · exact H.tab.notRow b h hm
theorem Po.gr (H : Po M B w P p k q v tb u c t n rs) (g : Gr w w') : Po M B w' P p k q v tb u c t n rs :=
  ⟨(Below.block g P (lt_of_block H.blk)).trans H.blk, H.net.ext g, H.tab.gr g, H.ows, H.nop, H.a1, H.a2, H.a3⟩
theorem Po.keep (H : Po M B w P p k q v tb u c t n rs) (hk : Kp N w w') (hMN : ∀ b, M b → N b) (hS : ∀ b, ownP P p k q v tb u b → N b) : Po M B w' P p k q v tb u c t n rs :=
  ⟨(hk.block P (lt_of_block H.blk) (hS P (.inl rfl))).trans H.blk, H.net.keep hk hMN (fun b hb => hS b (.inr (.inl hb))), H.tab.kept hk (hS tb (.inr (.inr (.inl rfl)))) (fun g hg => hS g (.inr (.inr (.inr hg)))), H.ows, H.nop, H.a1, H.a2, H.a3⟩
/-- The Net has changed. -/
theorem Po.netStep (H : Po M B w P p k q v tb u c t n rs) (H' : Nl M B w' p k q v' c' t' n') (f : Fr w p k q v w' v') : Po M B w' P p k q v' tb u c' t' n' rs ∧ Chg w w' (ownP P p k q v tb u) (ownP P p k q v' tb u) := by
  have hB : ∀ b, ownB tb u b → rest w p k q v b := fun b hb => rest_of (H.tab.own_lt hb) (fun h => H.a1 b h hb)
  have hP : rest w p k q v P := rest_of (lt_of_block H.blk) H.a2
  have fc := f.chg
  refine ⟨⟨(f.kp.block P hP.1 hP).trans H.blk, H', H.tab.kept f.kp (hB tb (.inl rfl)) (fun g hg => hB g (.inr hg)), H.ows, H.nop, fun b ho hb => rest_not (f.rst (hB b hb)) ho, rest_not (f.rst hP), H.a3⟩, ?_, ?_⟩
  · exact fc.kp.mono fun b _ hb => ⟨hb.1, fun h => hb.2 (.inr (.inl h))⟩
  · rintro b (h | h | h)
    · exact .inl (.inl h)
    · rcases fc.nw b h with q | q
      · exact .inl (.inr (.inl q))
      · exact .inr q
    · exact .inl (.inr (.inr h))
/-- The owners have changed. -/
theorem Po.tabStep (H : Po M B w P p k q v tb u c t n rs) (H' : TabS w' (fun b => b < w.heap.size ∧ ¬ ownB tb u b) tb u' rs') (k' : Kp (fun b => b < w.heap.size ∧ ¬ ownB tb u b) w w') (o : Ows rs') : Po M B w' P p k q v tb u' c t n rs' ∧ Chg w w' (ownP P p k q v tb u) (ownP P p k q v tb u') := by
  have hnw : ∀ b, ownB tb u' b → ownB tb u b ∨ w.heap.size ≤ b := by
    rintro b (h | h)
    · exact .inl (.inl h)
    · by_cases hl : b < w.heap.size
      · by_cases ho : ownB tb u b
        · exact .inl ho
        · exact absurd ⟨hl, ho⟩ (H'.notRow b h)
      · exact .inr (by omega)
  have hM : ∀ b, M b → b < w.heap.size ∧ ¬ ownB tb u b := fun b hm => ⟨(H.out hm).1, fun h => (H.out hm).2 (.inr (.inr h))⟩
  have hPl := lt_of_block H.blk
  have hN : ∀ b, own p k q v b → b < w.heap.size ∧ ¬ ownB tb u b := fun b hb => ⟨H.net.h.own_lt hb, H.a1 b hb⟩
  refine ⟨⟨(k'.block P hPl ⟨hPl, H.a3⟩).trans H.blk, H.net.keep k' hM hN, ⟨H'.cell, H'.own, H.tab.notTb, fun g hg hm => H'.notRow g hg (hM g hm), fun b hm => Nat.lt_of_lt_of_le (hM b hm).1 k'.size⟩, o, H.nop, fun b hb ho => ?_, H.a2, fun ho => ?_⟩, ?_, ?_⟩
  · rcases hnw b ho with z | z
    · exact H.a1 b hb z
    · have := (hN b hb).1; omega
  · rcases hnw P ho with z | z
    · exact H.a3 z
    · omega
  · exact k'.mono fun b _ hb => ⟨hb.1, fun h => hb.2 (.inr (.inr h))⟩
  · rintro b (h | h | h)
    · exact .inl (.inl h)
    · exact .inl (.inr (.inl h))
    · rcases hnw b h with z | z
      · exact .inl (.inr (.inr z))
      · exact .inr z
end

end Go.Proofs.YtfcknkanbcndjagGreatDoor
