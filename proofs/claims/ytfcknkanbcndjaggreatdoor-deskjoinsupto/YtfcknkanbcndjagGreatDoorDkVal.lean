import Derived.Test.YtfcknkanbcndjagGreatDoorDkLine
import Derived.Test.YtfcknkanbcndjagGreatDoorFb2
import Derived.Test.YtfcknkanbcndjagGreatDoorDkMem
import Derived.Test.YtfcknkanbcndjagGreatDoorKd1
import Derived.Test.YtfcknkanbcndjagGreatDoorKt10
import Derived.Test.YtfcknkanbcndjagGreatDoorKt11
import Derived.Test.YtfcknkanbcndjagGreatDoorDkBd
import Derived.ShutString
/- CONTRACTS OF the reference's Desk: NewDesk, Do. -/
namespace Go.Proofs.YtfcknkanbcndjagGreatDoor
open Go.RowKit
attribute [local go_sem] Ext.all Ext.cell Ext.frozen Ext.lt Ext.lt1 Ext.lt2 Ext.ne Ext.ne'
theorem ValAt.chg {w w' : World} {ao : Option Addr} {l : List Value} {S S' : Nat → Prop} (h : ValAt w ao l) (k : Chg w w' S S') (hS : ∀ b o, ao = some ⟨b, o, none⟩ → ¬ S b) : ValAt w' ao l := by
  rcases h with h | ⟨b, o, ha, hb, hc⟩
  · exact .inl h
  · exact .inr ⟨b, o, ha, Nat.lt_of_lt_of_le hb k.kp.size, fun i hi => (World.cell?_of_block (a := ⟨b, o + i, none⟩) (k.kp.block b hb ⟨hb, hS b o ha⟩)).trans (hc i hi)⟩
section
variable {W : World} {M : Nat → Prop} {B w w' : World} {D T : Nat} {S S' : Nat → Prop} {s : Dk} {n : Nat} {told told' : Tx}
/-- Nothing that is told is long. -/
theorem told_len (H : TnA s.t s.c) (ho : Ows s.rs) (hg : ∀ k, k < 6 → agT s.t k ≤ (n : Int)) (hl : s.t.news.length ≤ 40) (hn : n ≤ 100000) (a : Ask) : (toldA s a).length ≤ 10000 := by
  have tab : ∀ (x : Int) (l : List Rt), Tab l → (tabT x l).length ≤ 10000 := fun x l h => by
    unfold tabT
    split
    · have h1 := rous_len (tab_i64 h)
      have h2 := h.len
      rw [List.length_append]
      simp only [sayD, joinT, wEnd, List.length_append, List.length_cons, List.length_nil]
      omega
    · have := ito_len (n := 1) (i64_of ⟨by omega, by omega⟩)
      simp only [sayD, joinT, wNo, List.length_append, List.length_cons, List.length_nil]
      omega
  cases a with
  | nil => simp [toldA]
  | what => simp [toldA, sayD, joinT, wWhat]
  | news =>
    have h1 := flat_len (f := newL) (N := 200) (l := newsL s.t.news) (fun x hx => new_len (news_bd H hg hn x hx))
    have h2 : (newsL s.t.news).length ≤ 40 := by simpa [newsL] using hl
    simp only [toldA, sayD, joinT, wEnd, List.length_append, List.length_cons, List.length_nil]
    omega
  | step x l b =>
    obtain ⟨q0, q1⟩ := fdo_code s.t s.rs x l b
    have := ito_len (n := (fdoC s.t s.rs x l b).2) (i64_of ⟨by omega, by omega⟩)
    simp only [toldA, codeT]
    split
    · simp [sayD, joinT, wOk]
    · simp only [sayD, joinT, wNo, List.length_append, List.length_cons, List.length_nil]
      omega
  | ways a =>
    have h1 : ∀ k : Nat, k < 7 → (wayL (wayTn s.t a (k : Int)) k).length ≤ 200 := fun k hk => by
      obtain ⟨i1, i2, i3⟩ := way_bd H hg hn a (k : Int)
      rw [way_is]
      have l1 := ito_len (i64_of i1)
      have l2 := ito_len (i64_of i2)
      have l3 := ito_len (i64_of i3)
      have l4 := ito_len (n := (k : Int)) (i64_of ⟨by omega, by omega⟩)
      simp only [List.length_append, List.length_cons, List.length_nil]
      omega
    have h2 := flat_len (f := fun (k : Nat) => wayL (wayTn s.t a (k : Int)) k) (N := 200) (l := List.range 6) (fun k hk => h1 k (by have := List.mem_range.1 hk; omega))
    simp only [List.length_range] at h2
    exact Nat.le_trans h2 (by decide)
  | full a => exact tab a _ (full_tab H a ho.tab)
  | small a => exact tab a _ (lst_tab (full_tab H a ho.tab))
  | letter a x =>
    obtain ⟨lt, kk, ee, e⟩ : ∃ lt kk ee, goN (letH s.t s.rs x) (fun u v => (s.c u v : Int)) 7 a [] 0 = (lt, kk, ee) := ⟨_, _, _, rfl⟩
    obtain ⟨h6, hy, ik, ie⟩ := trip_bd H ho x a e
    show (trpT _).length ≤ _
    rw [e, trip_is]
    have l0 := ito_len ie
    have l1 := ito_len ik
    have h2 := flat_len (f := fun (y : Nat) => 32 :: ito (y : Int)) (N := 30) (l := lt) (fun y hyy => by
      have := ito_len (n := (y : Int)) (i64_of ⟨by have := hy y hyy; omega, by have := hy y hyy; omega⟩)
      simp only [List.length_cons]
      omega)
    simp only [List.length_append, List.length_cons, List.length_nil]
    omega
theorem Dq.told_len (H : Dq W M B w D T S s n told) (hn : n ≤ 100000) (a : Ask) : (toldA s a).length ≤ 10000 := by
  obtain ⟨Q, V, ao', cp', tl, _⟩ := H.town
  exact Go.Proofs.YtfcknkanbcndjagGreatDoor.told_len tl.a H.ows tl.g tl.l hn a
theorem lines_snoc (s : Dk) {ls : List Tx} {i : Nat} (hi : i < ls.length) : linesD s (ls.take (i + 1)) = (doneA (linesD s (ls.take i)).1 (askT ls[i]), (linesD s (ls.take i)).2 ++ toldA (linesD s (ls.take i)).1 (askT ls[i])) := by
  rw [List.take_succ_eq_append_getElem hi, lines_append]
  simp [linesD]
theorem newDesk_ok (gW : Gr W w) (hM : ∀ b, M b → b < W.heap.size) : Calls Tryz.prog 22 #[] w fun e w' => ∃ D T S, e = .returned (pv D) ∧ Dq W M w w' D T S dk0 0 [] ∧ Gr w w' ∧ ∀ b, ownD D S b → w.heap.size ≤ b := by
  have hs := Below.size gW
  have HN := hide (newTown_ok w M (fun b hb => Nat.lt_of_lt_of_le (hM b hb) hs))
  have HM := hide hM
  have GW := hide gW
  clear hM gW
  go_enter Tryz.func22, Tryz.ntmps22
  go_wp2_with (go_at_call 27; refine HN.out.mono ?_; rintro e w1 ⟨q, rfl, hrest⟩; have HR := hide hrest; clear hrest)
  go_ret
  obtain ⟨hT, g1, hq⟩ := HR.out
  have h1 := Below.size g1
  have g2 : Gr w1 (w1.alloc (.cells #[sv [], pv w.heap.size] 89)) := (Gr.refl w1).alloc _
  have hTq : Tq M w w1 w.heap.size (fun b => ownT w.heap.size q (.slice none 0 0) b ∨ blkL none [] b) (fun _ _ => 0) newT 0 [] :=
    ⟨q, .slice none 0 0, none, 0, ⟨hT, new_a, by show ([] : List Nw).length ≤ 40; simp, fun k hk => by
      have : agT newT k = 0 := by rcases (show k = 0 ∨ k = 1 ∨ k = 2 ∨ k = 3 ∨ k = 4 ∨ k = 5 by omega) with rfl | rfl | rfl | rfl | rfl | rfl <;> rfl
      omega⟩, Nat.le_refl _, .inl rfl, rfl⟩
  have hown : ∀ b, (ownT w.heap.size q (.slice none 0 0) b ∨ blkL none [] b) → w.heap.size ≤ b ∧ b < w1.heap.size := fun b hb => by
    refine ⟨?_, hTq.lt hb⟩
    rcases hb with (e | ⟨a, ha, e⟩ | e) | h
    · omega
    · have := hq a ha; omega
    · cases e
    · exact absurd rfl h.1
  refine ⟨w1.heap.size, w.heap.size, _, rfl, ⟨heap_alloc_new w1 _, hTq.gr g2, Ows.nil, fun h => ?_, fun h => ?_, GW.out.trans (g1.trans g2), by omega, fun b hb => by have := (hown b hb).1; omega⟩, g1.trans g2, ?_⟩
  · have := (hown _ h).2; omega
  · have := HM.out _ h; omega
  · rintro b (rfl | hb)
    · exact h1
    · exact (hown b hb).1
set_option maxRecDepth 20000 in
set_option maxHeartbeats 8000000 in
theorem rdo_any (H : Dq W M B w D T S s n told) (hL : Lb W) {ao : Option Addr} {cp : Nat} {ls : List Tx} (hv : ValAt w ao (ls.map sv)) (hbl : ∀ b o, ls ≠ [] → ao = some ⟨b, o, none⟩ → ¬ ownD D S b) (hls : ls.length ≤ 150) (hn : n ≤ 99000) (hy : ∀ y ∈ ls, y.length ≤ 90000) (_h1 : told.length ≤ 4000000) :
    Calls Tryz.prog 25 #[pv D, .slice ao ls.length cp] w fun e w' => e = .returned (sv (linesD s ls).2) ∧ ∃ S', Dq W M B w' D T S' (linesD s ls).1 (n + ls.length) (linesD s ls).2 ∧ Chg w w' (ownD D S) (ownD D S') := by
  have HL := hide hL
  have HV := hide hv
  have HY := hide hy
  have HBL := hide hbl
  obtain ⟨c0, c1, f0, hD⟩ := H.at'.cells
  have hst := heap_setCell_same w D 0 _ _ (sv []) H.at'
  have T0 : Hid (Tells D T w (w.setCell ⟨D, 0, none⟩ (sv [])) []) := ⟨(Kp.refl _ w).set (fun h => h rfl) 0 _, hst⟩
  have D0 := hide (H.tells T0.out)
  have C0 := hide (T0.out.chg S)
  clear hL hv hy hst H T0 hbl
  go_enter Tryz.func25, Tryz.ntmps25
  go_upto_region 2 with (fail)
  refine wp_gen (fun X => Hid (Dq W M B X D T S s n []) ∧ Hid (Chg w X (ownD D S) (ownD D S))) ⟨D0.out, C0.out⟩ ?_
  clear D0 C0 c0 c1 f0 hD
  rintro X ⟨D0, C0⟩
  go_wp2_with fail
  go_loopw [5] (fun v5 wr => ∃ i : Nat, i ≤ ls.length ∧ v5 = .int .i64 (i : Int) ∧ Hid ((linesD s (ls.take i)).2.length ≤ 10000 * i) ∧ Hid (∃ S', Dq W M B wr D T S' (linesD s (ls.take i)).1 (n + i) (linesD s (ls.take i)).2 ∧ Chg w wr (ownD D S) (ownD D S'))) (fun v5 _ => ls.length - (intOf v5).toNat)
  case atStart => exact ⟨0, by omega, rfl, by simp [Hid, linesD], S, by simpa [linesD] using D0.out, C0.out⟩
  case round =>
    obtain ⟨i, hi, rfl, HB, HI⟩ := hrel
    obtain ⟨S1, D1', C1'⟩ := HI.out
    have D1 := hide D1'
    have C1 := hide C1'
    clear D1' C1' HI
    by_cases hlt : i < ls.length
    · have hiI : (i : Int) < (ls.length : Int) := by omega
      have wr1 : IntKind.i64.wrap ((i : Int) + 1) = (i : Int) + 1 := by rw [IntKind.wrap_i64]; omega
      obtain ⟨b, o, hao⟩ : ∃ b o, ao = some ⟨b, o, none⟩ := HV.out.some' (by rw [List.length_map]; omega)
      subst hao
      have hcell : wr.cell? ⟨b, o + i, none⟩ = some (sv ls[i]) ∧ b < wr.heap.size := by
        have := (HV.out.chg C1.out (fun b o e => HBL.out b o (fun e0 => by rw [e0] at hlt; simp at hlt) e)).at' (i := i) (by simpa using hlt)
        simpa using this
      obtain ⟨cy, hb⟩ := hcell
      have hyl := HY.out ls[i] (List.getElem_mem hlt)
      have HSN := hide (lines_snoc s hlt)
      have htl := D1.out.told_len (by omega) (askT ls[i])
      have hbb := HB.out
      have HLN := hide (line_any D1.out HL.out (by omega) (by omega) ⟨ls[i].toArray⟩ (by rw [size_of_list]; exact hyl))
      generalize ls[i] = y at cy HSN htl HLN
      generalize linesD s (ls.take i) = si at *
      change Hid (Calls Tryz.prog 45 #[pv D, sv y] wr fun e w' => e = .returned (.tuple #[]) ∧ LineO W M B wr D T S1 si.1 (n + i) si.2 (askT y) w') at HLN
      go_wp2_with (go_at_call 45; refine HLN.out.mono ?_; rintro e w7 ⟨rfl, l7⟩; have L7 := hide l7; clear l7)
      go_roundw
      case rel => exact ⟨i + 1, by omega, by congr 1, by unfold Hid; rw [HSN.out, List.length_append]; omega, by
        obtain ⟨S2, d2, k2⟩ := L7.out
        refine ⟨S2, ?_, C1.out.trans k2⟩
        rw [HSN.out]
        exact d2⟩
      case measure => simp [intOf]; omega
    · have hiI : decide ((i : Int) < (ls.length : Int)) = false := decide_eq_false (by omega)
      have HE : Hid (ls.take i = ls) := List.take_of_length_le (by omega)
      have HE2 : Hid (i = ls.length) := by unfold Hid; omega
      rw [HE.out] at D1 HB
      rw [HE2.out] at D1
      obtain ⟨d0, d1, _, hDl⟩ := D1.out.at'.cells
      go_wp2_with fail
      go_ret
      exact ⟨rfl, S1, D1.out, C1.out⟩
end

end Go.Proofs.YtfcknkanbcndjagGreatDoor

/- THE PROGRAM'S DESK: New, Do. -/
namespace Go.Proofs.YtfcknkanbcndjagGreatDoor
open Go.RowKit
attribute [local go_sem] Ext.all Ext.cell Ext.frozen Ext.lt Ext.lt1 Ext.lt2 Ext.ne Ext.ne'
theorem deskNew_k (w : World) (M : Nat → Prop) (hM : ∀ b, M b → b < w.heap.size) : Calls Tryz.prog 21 #[] w fun e w' => ∃ K S, e = .returned (pv K) ∧ Kq M w w' K S dk0 0 ∧ Gr w w' ∧ ∀ b, S b → w.heap.size ≤ b := by
  have HN := hide (fibNew_po w M hM)
  have HM := hide hM
  clear hM
  go_enter Tryz.func21, Tryz.ntmps21
  go_wp2_with (go_at_call 26; refine HN.out.mono ?_; rintro e w1 ⟨P, p, k, q, v, tb, u, rfl, h', g', y'⟩; have H := hide h'; have G := hide g'; have Y := hide y'; clear h' g' y')
  go_ret
  have hP : Pq M w w1 P (ownP P p k q v tb u) dk0.c dk0.t 0 dk0.rs := ⟨p, k, q, v, tb, u, H.out, rfl⟩
  have hs := Below.size G.out
  refine ⟨w1.heap.size, fun b => b = w1.heap.size ∨ ownP P p k q v tb u b, rfl, ⟨P, _, heap_alloc_new w1 _, hP.gr ((Gr.refl w1).alloc _), fun h => ?_, fun h => ?_, rfl⟩, G.out.trans ((Gr.refl w1).alloc _), ?_⟩
  · have := hP.lt h; omega
  · have := HM.out _ h; omega
  · rintro b (rfl | h)
    · exact hs
    · exact Y.out b h
section
variable {M : Nat → Prop} {W B w w' : World} {K P t : Nat} {S S0 S' : Nat → Prop} {v v' : Value} {s s' : Dk} {n n' : Nat} {told : Tx} {ls : List Tx}
theorem Pq.more {c : Nat → Nat → Nat} {t : Tn} {rs : List Rt} (H : Pq M B w P S c t n rs) {m : Nat} (h : n ≤ m) : Pq M B w P S c t m rs := by
  obtain ⟨p, k, q, u, tb, z, hp, e⟩ := H
  exact ⟨p, k, q, u, tb, z, ⟨hp.blk, ⟨hp.net.h, hp.net.a, hp.net.l, fun j hj => by have := hp.net.g j hj; omega⟩, hp.tab, hp.ows, hp.nop, hp.a1, hp.a2, hp.a3⟩, e⟩
theorem Kq.more (H : Kq M B w K S s n) {m : Nat} (h : n ≤ m) : Kq M B w K S s m := by
  obtain ⟨P, S0, h1, h2, h3⟩ := H
  exact ⟨P, S0, h1, h2.more h, h3⟩
theorem Td.told_len (H : Td W M B w t P S v s n told) (hn : n ≤ 100000) (a : Ask) : (toldA s a).length ≤ 10000 := by
  obtain ⟨p, k, q, u, tb, z, hp, e⟩ := H.post
  exact Go.Proofs.YtfcknkanbcndjagGreatDoor.told_len hp.net.a hp.ows hp.net.g hp.net.l hn a
theorem lines_succ {k : Nat} (hk : k < ls.length) (s : Dk) : linesD s (ls.take (k + 1)) = (doneA (linesD s (ls.take k)).1 (askT ls[k]), (linesD s (ls.take k)).2 ++ toldA (linesD s (ls.take k)).1 (askT ls[k])) := by
  rw [List.take_succ_eq_append_getElem hk, lines_append]
  simp [linesD]
/-- Among the lines: the talk, and all that is not its. -/
structure DoI (W : World) (M : Nat → Prop) (B w wr : World) (K P : Nat) (S0 : Nat → Prop) (R t ob tb : Nat) (S' : Nat → Prop) (v' : Value) (s' : Dk) (n' : Nat) (told : Tx) : Prop where
  td : Td W M B wr t P S' v' s' n' told
  bx : Bxt wr t tb S' v'
  or : OrdAt wr ob 0 tb
  ol : ob < wr.heap.size
  oA : ¬ ownA S' t v' ob
  dk : wr.heap[K]? = some (.cells #[pv P] 87 (0, 0))
  kA : ¬ ownA S' t v' K
  rs : wr.heap[R]? = some (.cells #[iv 0, iv 0] 66 (0, 0))
  rA : ¬ ownA S' t v' R
  ch : Chg w wr (ownA S0 t (.slice none 0 0)) (ownA S' t v')
theorem DoI.next {wr w2 : World} {R ob tb : Nat} {S2 : Nat → Prop} {v2 : Value} {s2 : Dk} {n2 : Nat} {told2 : Tx} (H : DoI W M B w wr K P S0 R t ob tb S' v' s' n' told) (h : Td W M B w2 t P S2 v2 s2 n2 told2) (k : Chg wr w2 (ownA S' t v') (ownA S2 t v2)) : DoI W M B w w2 K P S0 R t ob tb S2 v2 s2 n2 told2 := by
  have nA : ∀ {b : Nat}, b < wr.heap.size → ¬ ownA S' t v' b → ¬ ownA S2 t v2 b := fun {b} hb hn e => (k.nw b e).elim hn (fun q => by omega)
  have lK := lt_of_block H.dk
  have lR := lt_of_block H.rs
  exact ⟨h, H.bx.chg k, H.or.kp k.kp H.ol ⟨H.ol, H.oA⟩, Nat.lt_of_lt_of_le H.ol k.kp.size, nA H.ol H.oA, (k.kp.block K lK ⟨lK, H.kA⟩).trans H.dk, nA lK H.kA, (k.kp.block R lR ⟨lR, H.rA⟩).trans H.rs, nA lR H.rA, H.ch.trans k⟩
/-- At the lines' end: the desk. -/
theorem DoI.desk {w0 wr w2 : World} {R ob tb : Nat} (H : DoI W M B w wr K P S0 R t ob tb S' v' s' n' told) (k : Kp (fun b => ¬ ownK t v' b) wr w2) (h0 : Gr w0 w) (ht : w0.heap.size ≤ t) (hm : ¬ M K) : Kq M B w2 K (fun b => b = K ∨ S' b) s' n' ∧ Chg w0 w2 (fun b => b = K ∨ S0 b) (fun b => b = K ∨ S' b) ∧ w2.heap[R]? = some (.cells #[iv 0, iv 0] 66 (0, 0)) := by
  have lK := lt_of_block H.dk
  have lR := lt_of_block H.rs
  have hs := Below.size h0
  have hs2 := H.ch.kp.size
  refine ⟨⟨P, S', (k.block K lK (fun e => H.kA (.inr e))).trans H.dk, H.td.post.keep k (fun b hb => H.td.nM b hb) (fun b hb => H.td.ap b hb), fun e => H.kA (.inl e), hm, rfl⟩, ⟨?_, ?_⟩, (k.block R lR (fun e => H.rA (.inr e))).trans H.rs⟩
  · refine ((h0.kp _).trans (H.ch.kp.mono fun b hb e => ⟨hb, fun ha => ?_⟩)).trans (k.mono fun b hb e ho => ?_)
    · rcases ha with ha | ha | ha
      · exact e.2 (.inr ha)
      · have := e.1; omega
      · cases ha
    · rcases H.ch.nw b (.inr ho) with q | q
      · rcases q with q | q | q
        · exact e.2 (.inr q)
        · have := e.1; omega
        · cases q
      · have := e.1; omega
  · rintro b (e | e)
    · exact .inl (.inl e)
    · rcases H.ch.nw b (.inl e) with q | q
      · rcases q with q | q | q
        · exact .inl (.inr q)
        · exact .inr (by omega)
        · cases q
      · exact .inr (by omega)
theorem fbx_drew {wr : World} {R : Nat} {c a : Int} (h : FBx w wr R c a) : FBx w wr.drew R c a := ⟨h.1, h.2.1, h.2.2.drew⟩
/-- The result's place is written. -/
theorem Kq.aside {w0 : World} {R : Nat} {S S0 : Nat → Prop} (H : Kq M B w K S s n) (k : Chg w0 w S0 S) (hM : ∀ b, M b → b < w0.heap.size) (hR : w0.heap.size ≤ R) (hS : ¬ S R) (j : Nat) (x : Value) : Kq M B (w.setCell ⟨R, j, none⟩ x) K S s n ∧ Chg w0 (w.setCell ⟨R, j, none⟩ x) S0 S := by
  have kp : ∀ N : Nat → Prop, ¬ N R → Kp N w (w.setCell ⟨R, j, none⟩ x) := fun N h => (Kp.refl N w).set h j x
  refine ⟨H.keep (kp (fun b => b ≠ R) (fun e => e rfl)) (fun b hb e => by have := hM b hb; omega) (fun b hb e => hS (e ▸ hb)), ⟨k.kp.trans (kp _ (fun e => by have := e.1; omega)), k.nw⟩⟩
/-- A new talk over a Post. -/
theorem Td.new {w : World} (H : Pq M B w P S s.c s.t n s.rs) (gW : Gr W w) (hS : ∀ b, S b → W.heap.size ≤ b) : Td W M B (w.alloc (.cells #[pv P, .pointer none, .slice none 0 0] 96)) w.heap.size P S (.slice none 0 0) s n [] := by
  have g : Gr w (w.alloc (.cells #[pv P, .pointer none, .slice none 0 0] 96)) := (Gr.refl w).alloc _
  refine ⟨⟨⟨_, heap_alloc_new w _, .inl rfl⟩, World.ownsRow_nil _ _ _ _⟩, H.gr g, fun b hb e => ?_, fun b hb e => ?_, gW.trans g, fun b e => ?_, hS⟩
  · rcases e with rfl | e
    · have := H.lt hb; omega
    · cases e
  · rcases e with rfl | e
    · have := (H.out hb).1; omega
    · cases e
  · rcases e with rfl | e
    · exact Below.size gW
    · cases e
set_option maxRecDepth 20000 in
set_option maxHeartbeats 8000000 in
theorem Kq.do {S : Nat → Prop} (H : Kq M B w K S s n) (hL : Lb W) (gW : Gr W w) (hS : ∀ b, S b → W.heap.size ≤ b) {ao : Option Addr} {cp : Nat} {ls : List Tx} (hv : ValAt w ao (ls.map sv)) (hb : ∀ b o, ls ≠ [] → ao = some ⟨b, o, none⟩ → ¬ S b) (hl : ls.length ≤ 2000000) (hn : n ≤ 99000) (hy : ∀ y ∈ ls, y.length ≤ 90000) :
    Calls Tryz.prog 23 #[pv K, .slice ao ls.length cp] w fun e w' => KdO M B w K S s n ls e w' := by
  have HC := hide (fun V (g : Gr w V) => kcheck_any (cp := cp) (hv.gr g) hl)
  have HH := hide H
  by_cases hf : fltD ls = (0, 0)
  · have h150 : ls.length ≤ 150 := by
      rcases Nat.lt_or_ge 150 ls.length with q | q
      · unfold fltD at hf; rw [if_pos q] at hf; cases hf
      · exact q
    obtain ⟨P, S0, hk, hp, nSK, nMK, rfl⟩ := H
    have cK : w.cell? ⟨K, 0, none⟩ = some (pv P) := by simp [World.cell?, hk]
    have lK := lt_of_block hk
    have e1 : (fltD ls).1 = 0 := by rw [hf]
    have e2 : (fltD ls).2 = 0 := by rw [hf]
    have HE : Hid (∀ (V : World) s' told', linesD s ls = (s', told') → told'.length ≤ 2000000 → (∃ S', Kq M B V K S' s' (n + ls.length) ∧ Chg w V (fun b => b = K ∨ S0 b) S') → KdO M B w K (fun b => b = K ∨ S0 b) s n ls (.returned (.tuple #[sv told', .agg #[iv 0, iv 0]])) V) := fun V s' told' he hlen hS => by
      unfold KdO toldK doK
      rw [if_pos hf, if_pos hf, he, e1, e2]
      exact ⟨rfl, hlen, hS⟩
    have HP := hide (fun V (g : Gr w V) => Td.new (s := s) (hp.gr g) (gW.trans g) (fun b hb => hS b (.inr hb)))
    have HS : Hid (∀ b, S0 b → b < w.heap.size) := fun b hb => hp.lt hb
    have HMM : Hid (∀ b, M b → b < w.heap.size) := fun b hb => (hp.out hb).1
    have HL := hide hL
    have HV := hide hv
    have HB := hide hb
    have HY := hide hy
    have HK := hide hk
    have HSK := hide nSK
    have HMK := hide nMK
    rw [e1, e2] at HC
    clear hL gW hS hv hb hy hk hp nSK nMK hf e1 e2 HH
    go_enter Tryz.func23, Tryz.ntmps23
    go_upto_region 7 with (go_at_call 40; refine (HC.out _ ((Gr.refl w).alloc _)).mono ?_; rintro e w1 ⟨rfl, g1⟩; obtain ⟨d1, hd1⟩ := ext_mk g1; subst hd1; clear g1; have cK1 := (Below.cell (((Gr.refl w).alloc (.cells #[iv 0, iv 0] 66)).trans d1.gr) (p := ⟨K, 0, none⟩) lK).trans cK; have lK1 := Nat.lt_of_lt_of_le lK (Below.size (((Gr.refl w).alloc (.cells #[iv 0, iv 0] 66)).trans d1.gr)))
    have hb0 := heap_alloc_new w (.cells #[iv 0, iv 0] 66)
    have gX : Gr w (d1.out.alloc (.cells #[iv 0, iv 0] 66)) := (((Gr.refl w).alloc _).trans d1.gr).alloc _
    have hlt : w.heap.size < d1.out.heap.size := Nat.lt_of_lt_of_le (by simp) (Below.size d1.gr)
    have bR : d1.out.heap[w.heap.size]? = some (.cells #[iv 0, iv 0] 66 (0, 0)) := (Below.block d1.gr _ (by simp)).trans hb0
    have T0 := HP.out _ gX
    rw [show (d1.out.alloc (.cells #[iv 0, iv 0] 66)).heap.size = d1.out.heap.size + 1 by simp] at T0
    have g3 : Gr d1.out ((d1.out.alloc (.cells #[iv 0, iv 0] 66)).alloc (.cells #[pv P, .pointer none, .slice none 0 0] 96)) := ((Gr.refl _).alloc _).alloc _
    refine wp_gen (fun V => Hid (Td W M B V (d1.out.heap.size + 1) P S0 (.slice none 0 0) s n []) ∧ Hid (Gr w V) ∧ Hid (V.heap[w.heap.size]? = some (.cells #[iv 0, iv 0] 66 (0, 0))) ∧ Hid (w.heap.size < d1.out.heap.size + 1)) ⟨T0, (((Gr.refl w).alloc _).trans d1.gr).trans g3, (Below.block g3 _ hlt).trans bR, by unfold Hid; omega⟩ ?_
    clear hb0 gX hlt bR T0 g3 HP HC cK1 lK1
    rintro V ⟨TV, GV, RV, HR⟩
    generalize d1.out.heap.size + 1 = t at *
    have ltV := TV.out.cell0.2
    have HO := hide (orders_any V t)
    go_wp2_with (go_at_call 41; refine HO.out.mono ?_; rintro e w2 ⟨ob, tb, rfl, h1, h2, h3, h4, h5, h6, g2⟩; have O1 := hide h1; have O2 := hide h2; have O3 := hide h3; have O4 := hide h4; have O5 := hide h5; have O6 := hide h6; have G2 := hide g2; clear h1 h2 h3 h4 h5 h6 g2)
    have nA : Hid (∀ b, ownA S0 t (.slice none 0 0) b → b = t ∨ b < w.heap.size) := fun b hb => by
      rcases hb with hb | hb | hb
      · exact .inr (HS.out b hb)
      · exact .inl hb
      · cases hb
    have hGV := Below.size GV.out
    have HI : Hid (DoI W M B V w2 K P S0 w.heap.size t ob tb S0 (.slice none 0 0) s n []) := by
      have o3 := O3.out
      have o4 := O4.out
      have hr := HR.out
      refine ⟨TV.out.gr G2.out, ⟨O2.out, O6.out, fun e => ?_⟩, O1.out, O5.out, fun e => ?_, (Below.block (GV.out.trans G2.out) K lK).trans HK.out, fun e => ?_, (Below.block G2.out _ (lt_of_block RV.out)).trans RV.out, fun e => ?_, G2.out.chg _⟩
      · rcases nA.out _ e with q | q <;> omega
      · rcases nA.out _ e with q | q <;> omega
      · rcases e with e | e | e
        · exact HSK.out e
        · omega
        · cases e
      · rcases nA.out _ e with q | q <;> omega
    clear O1 O2 O3 O4 O5 O6 RV TV HO
    go_loopw [37] (fun v37 wr => ∃ (k : Nat) (S' : Nat → Prop) (v' : Value), k ≤ ls.length ∧ v37 = .int .i64 (k : Int) ∧ Hid (DoI W M B V wr K P S0 w.heap.size t ob tb S' v' (linesD s (ls.take k)).1 (n + k) (linesD s (ls.take k)).2) ∧ Hid ((linesD s (ls.take k)).2.length ≤ 10000 * k)) (fun v37 _ => ls.length - (intOf v37).toNat)
    case atStart => exact ⟨0, S0, .slice none 0 0, by omega, rfl, HI.out, by unfold Hid; simp [linesD]⟩
    case round =>
      clear HI
      obtain ⟨k, S', v', hk, rfl, HI, HT⟩ := hrel
      have htl := HT.out
      by_cases hlt : k < ls.length
      · have hkI : (k : Int) < (ls.length : Int) := by omega
        have hcell : ∃ b o, ao = some ⟨b, o, none⟩ ∧ wr.cell? ⟨b, o + k, none⟩ = some (sv ls[k]) := by
          rcases HV.out with h | ⟨b, o, ha, hb, hc⟩
          · rw [List.map_eq_nil_iff] at h; rw [h] at hlt; simp at hlt
          · have e := hc k (by simpa using hlt)
            rw [List.getElem_map] at e
            have hnb := HB.out b o (fun e => by rw [e] at hlt; simp at hlt) ha
            have hbV : b < V.heap.size := by omega
            refine ⟨b, o, ha, ?_⟩
            rw [World.cell?_of_block (w := V) (a := ⟨b, o + k, none⟩) (HI.out.ch.kp.block b hbV ⟨hbV, fun q => by
              rcases q with q | q | q
              · exact hnb (.inr q)
              · have := HR.out; omega
              · cases q⟩), Below.cell GV.out (p := ⟨b, o + k, none⟩) hb]
            exact e
        obtain ⟨b, o, hao, hc⟩ := hcell
        have hln := HY.out ls[k] (List.getElem_mem hlt)
        have HN := hide (HI.out.td.line HL.out HI.out.bx HI.out.or HI.out.ol (by omega) (by omega) ls[k] hln)
        have HF := hide (lines_succ hlt s)
        have hal := HI.out.td.told_len (by omega) (askT ls[k])
        have HT2 : Hid ((linesD s (ls.take (k + 1))).2.length ≤ 10000 * (k + 1)) := by
          unfold Hid; rw [HF.out]; simp only [List.length_append]; omega
        subst hao
        clear hal hln HT htl
        generalize ls[k] = ln at *
        go_wp2_with (go_at_call 42; refine HN.out.mono ?_; rintro e w3 ⟨rfl, S2, v2, t2, k2⟩; have D3 := hide (HI.out.next t2 k2); clear t2 k2)
        go_roundw
        case rel => exact ⟨k + 1, S2, v2, by omega, by go_num, by unfold Hid; rw [HF.out]; exact D3.out, HT2⟩
        case measure => simp [intOf]; omega
      · have hkl : decide ((k : Int) < (ls.length : Int)) = false := decide_eq_false (by omega)
        have hkn : k = ls.length := by omega
        have hte : ls.take k = ls := List.take_of_length_le (by omega)
        rw [hte] at HI htl
        obtain ⟨s', told', he⟩ : ∃ s' told', linesD s ls = (s', told') := ⟨_, _, rfl⟩
        rw [he] at HI htl
        have htl2 : told'.length ≤ 10000 * k := htl
        have HS' := hide (bstr_any HI.out.td.tk (show told'.length ≤ 4000000 by omega))
        have HM : Hid (∀ b, M b → b < w.heap.size) := fun b hb => HMM.out b hb
        have HZ : Hid (∀ w3, Kp (fun b => ¬ ownK t v' b) wr w3 → ∃ Sx, (Kq M B w3 K Sx s' (n + ls.length) ∧ Chg w w3 (fun b => b = K ∨ S0 b) Sx) ∧ ¬ Sx w.heap.size ∧ w3.heap[w.heap.size]? = some (.cells #[iv 0, iv 0] 66 (0, 0))) := fun w3 k3 => by
          obtain ⟨q1, q2, q3⟩ := HI.out.desk k3 GV.out (by have := HR.out; omega) HMK.out
          rw [hkn] at q1
          exact ⟨_, ⟨q1, q2⟩, fun e => e.elim (fun e => by omega) (fun e => HI.out.rA (.inl e)), q3⟩
        have HQ := hide (fun Vx hS => HE.out Vx s' told' he (by omega) hS)
        clear hte hkn HT htl htl2 HB HY HV HE he
        go_wp2_with (go_at_call 43; refine HS'.out.mono ?_; rintro e w3 ⟨rfl, k3⟩; obtain ⟨Sx, hq, hnS, hR3⟩ := HZ.out w3 k3; have HQ3 := hide hq; have HNS := hide hnS; obtain ⟨r0, r1⟩ := cells2 hR3; have f0 := frozen_of_row w3 _ 0 _ _ hR3; have f1 := frozen_of_row w3 _ 1 _ _ hR3; have lR := lt_of_block hR3; have HR3 := hide hR3; clear hq hnS hR3 k3)
        refine bp_gen' (fun Z => Hid (∃ Sx, Kq M B Z K Sx s' (n + ls.length) ∧ Chg w Z (fun b => b = K ∨ S0 b) Sx) ∧ Hid (Z.heap[w.heap.size]? = some (.cells #[iv 0, iv 0] 66 (0, 0)))) ⟨?_, heap_setCell_same _ _ 1 _ _ (iv 0) (heap_setCell_same w3 _ 0 _ _ (iv 0) HR3.out)⟩ ?_
        · obtain ⟨q1, q2⟩ := HQ3.out
          obtain ⟨q3, q4⟩ := q1.aside q2 HM.out (Nat.le_refl _) HNS.out 0 (iv 0)
          exact ⟨Sx, q3.aside q4 HM.out (Nat.le_refl _) HNS.out 1 (iv 0)⟩
        · rintro Z ⟨HZ1, HZ2⟩
          obtain ⟨z0, z1⟩ := cells2 HZ2.out
          exact bodyPost_ret (v := .tuple #[sv told', .agg #[iv 0, iv 0]]) (by simp [results, Tryz.results23, go_sem, z0, z1]) rfl (HQ.out Z HZ1.out)
  · have hne : ((fltD ls).1 == 0) = false ∧ ((fltD ls).1 != 0) = true := by
      have : (fltD ls).1 ≠ 0 := by
        unfold fltD at hf ⊢
        by_cases h150 : 150 < ls.length
        · rw [if_pos h150]; decide
        · rw [if_neg h150] at hf ⊢
          rcases idx_flt ls 0 with ⟨_, q⟩ | ⟨_, q⟩
          · exact absurd q hf
          · rw [q]; show (10 : Int) ≠ 0; decide
      exact ⟨by simpa using this, by simpa using this⟩
    have HE : Hid (∀ V, Gr w V → KdO M B w K S s n ls (.returned (.tuple #[sv [], .agg #[iv (fltD ls).1, iv (fltD ls).2]])) V) := fun V g => by
      refine ⟨?_, ?_, S, ?_, g.chg _⟩
      · unfold toldK; rw [if_neg hf]
      · unfold toldK; rw [if_neg hf]; simp
      · unfold doK; rw [if_neg hf]; exact (HH.out.gr g).more (by omega)
    obtain ⟨_, hne⟩ := hne
    clear H hL gW hS hv hb hy hf HH
    generalize (fltD ls).1 = fc at *
    generalize (fltD ls).2 = fa at *
    go_enter Tryz.func23, Tryz.ntmps23
    go_upto_region 3 with (go_at_call 40; refine (HC.out _ ((Gr.refl w).alloc _)).mono ?_; rintro e w1 ⟨rfl, g1⟩; obtain ⟨d1, hd1⟩ := ext_mk g1; subst hd1; clear g1)
    have hb0 := heap_alloc_new w (.cells #[iv 0, iv 0] 66)
    have B0 : FBx w d1.out w.heap.size 0 0 := ⟨(Below.block d1.gr _ (by simp)).trans hb0, Nat.le_refl _, ((Gr.refl w).alloc _).trans d1.gr⟩
    have g2 : Gr d1.out (d1.out.alloc (.cells #[iv fc, iv fa] 66)) := (Gr.refl _).alloc _
    have h2 := heap_alloc_new d1.out (.cells #[iv fc, iv fa] 66)
    have hlt : w.heap.size < d1.out.heap.size := lt_of_block B0.1
    refine wp_gen (fun V => Hid (FBx w V w.heap.size 0 0) ∧ V.cell? ⟨d1.out.heap.size, 0, none⟩ = some (iv fc) ∧ V.cell? ⟨d1.out.heap.size, 1, none⟩ = some (iv fa) ∧ d1.out.heap.size < V.heap.size ∧ Hid (w.heap.size < d1.out.heap.size)) ⟨⟨(Below.block g2 _ hlt).trans B0.1, B0.2.1, B0.2.2.trans g2⟩, (cells2 h2).1, (cells2 h2).2, by simp, hlt⟩ ?_
    clear hb0 B0 g2 h2 hlt HC
    rintro V ⟨BV, q0, q1, lq, HR⟩
    generalize d1.out.heap.size = q at *
    obtain ⟨R, hR⟩ : ∃ R, R = w.heap.size := ⟨_, rfl⟩
    rw [← hR] at BV HR ⊢
    clear hR
    obtain ⟨r0, r1⟩ := cells2 BV.out.1
    have f0 := frozen_of_row V R 0 _ _ BV.out.1
    have f1 := frozen_of_row V R 1 _ _ BV.out.1
    have lR := lt_of_block BV.out.1
    have hqR : q ≠ R := by have := HR.out; omega
    have B4 := hide (fbx_set BV.out fc fa)
    go_region
    all_goals
      go_wp2_with fail
      refine bp_gen' (fun Z => Hid (FBx w Z R fc fa)) (by first | exact B4.out | exact fbx_drew B4.out) ?_
      rintro Z HZ
      obtain ⟨z0, z1⟩ := cells2 HZ.out.1
      exact bodyPost_ret (v := .tuple #[sv [], .agg #[iv fc, iv fa]]) (by simp [results, Tryz.results23, go_sem, z0, z1]) rfl (HE.out Z HZ.out.2.2)
end

end Go.Proofs.YtfcknkanbcndjagGreatDoor

/- CONTRACT OF handpostlaw.deskBegun. -/
namespace Go.Proofs.YtfcknkanbcndjagGreatDoor
open Go.RowKit
attribute [local go_sem] Ext.all Ext.cell Ext.frozen Ext.lt Ext.lt1 Ext.lt2 Ext.ne Ext.ne'
theorem beg_flt : fltD begL = (0, 0) := by decide +kernel
theorem beg_len : ∀ y ∈ begL, y.length ≤ 90000 := by
  have : ∀ y ∈ begL, y.length ≤ 20 := by decide +kernel
  exact fun y hy => by have := this y hy; omega
theorem beg_tab (X : World) (t : TypeId) : ValAt (X.alloc (.cells (begL.map sv).toArray t)) (some ⟨X.heap.size, 0, none⟩) (begL.map sv) := by
  refine .inr ⟨_, 0, rfl, by simp, fun i hi => ?_⟩
  have h := heap_alloc_new X (.cells (begL.map sv).toArray t)
  simp only [World.cell?, Nat.zero_add, h]
  show (List.map _ begL).toArray[i]? = some _
  rw [List.getElem?_toArray, List.getElem?_eq_getElem hi]
set_option maxRecDepth 50000 in
set_option maxHeartbeats 8000000 in
theorem deskBegun_ok {W w : World} (hL : Lb W) (gW : Gr W w) : Calls Tryz.prog 19 #[] w fun e w' => e = .returned (.bool true) ∧ Gr w w' := by
  have HN := hide (deskNew_k w (fun b => b < w.heap.size) (fun _ h => h))
  have HD : Hid (∀ (K : Nat) (S : Nat → Prop) (w1 : World), Kq (fun b => b < w.heap.size) w w1 K S dk0 0 → Gr w w1 → (∀ b, S b → w.heap.size ≤ b) → Calls Tryz.prog 23 #[pv K, .slice (some ⟨w1.heap.size, 0, none⟩) 9 9] (w1.alloc (.cells (begL.map sv).toArray 9)) fun e w' => e = .returned (.tuple #[sv begT, .agg #[iv 0, iv 0]]) ∧ Gr w w') := fun K S w1 h g hS => by
    have g2 : Gr w1 (w1.alloc (.cells (begL.map sv).toArray 9)) := (Gr.refl w1).alloc _
    have hs := Below.size gW
    refine ((h.gr g2).do hL (gW.trans (g.trans g2)) (fun b hb => by have := hS b hb; omega) (cp := 9) (beg_tab w1 9) (fun b o _ e hb => ?_) (by decide) (by omega) beg_len).mono ?_
    · cases e
      have := h.lt hb
      omega
    · rintro e w' ⟨he, _, S', _, hc⟩
      refine ⟨?_, (chg_gr hc (g.trans g2) hS).1⟩
      rw [he]
      unfold toldK
      rw [if_pos beg_flt, beg_told, beg_flt]
  have eB : (begT == [111, 107, 10, 111, 107, 10, 111, 107, 10, 111, 107, 10, 114, 111, 117, 116, 101, 32, 49, 42, 32, 49, 10, 101, 110, 100, 10, 116, 114, 105, 112, 32, 49, 32, 52, 32, 48, 32, 49, 10, 111, 107, 10, 110, 111, 32, 49, 10, 119, 104, 97, 116, 10]) = true := by decide +kernel
  clear hL gW
  generalize begT = bt at *
  go_enter Tryz.func19, Tryz.ntmps19
  go_wp2_with (first
    | (go_at_call 21; refine HN.out.mono ?_; rintro e w1 ⟨K, S, rfl, k1, g1, y1⟩; have HC := hide (HD.out K S w1 k1 g1 y1); clear k1 g1 y1)
    | (go_at_call 23; refine HC.out.mono ?_; rintro e w2 ⟨rfl, g2⟩; have G2 := hide g2; clear g2)
    | fail)
  go_ret
  exact ⟨rfl, G2.out.alloc _⟩

end Go.Proofs.YtfcknkanbcndjagGreatDoor

/- CONTRACT OF handpostlaw.slow. -/
namespace Go.Proofs.YtfcknkanbcndjagGreatDoor
open Go.RowKit
attribute [local go_sem] Ext.all Ext.cell Ext.frozen Ext.lt Ext.lt1 Ext.lt2 Ext.ne Ext.ne'
/-- How many bytes lines have. -/
def lenT (ls : List Tx) : Nat := (ls.map List.length).sum
theorem len_succ {ls : List Tx} {i : Nat} (hi : i < ls.length) : lenT (ls.take (i + 1)) = lenT (ls.take i) + ls[i].length := by
  unfold lenT
  rw [List.take_succ_eq_append_getElem hi, List.map_append, List.sum_append]
  simp
theorem len_mem : ∀ {ls : List Tx} {y : Tx}, y ∈ ls → y.length ≤ lenT ls
  | a :: r, y, h => by
    unfold lenT
    rw [List.map_cons, List.sum_cons]
    rcases List.mem_cons.1 h with rfl | h
    · omega
    · have := len_mem h
      unfold lenT at this
      omega
/-- Does a line ask for a small table? -/
def isM (y : Tx) : Nat := match wordsT y with
  | [] => 0
  | w0 :: _ => if (w0 == [108, 101, 116, 116, 101, 114] || w0 == [115, 109, 97, 108, 108]) = true then 1 else 0
def muchT (ls : List Tx) : Nat := (ls.map isM).sum
theorem much_succ {ls : List Tx} {i : Nat} (hi : i < ls.length) : muchT (ls.take (i + 1)) = muchT (ls.take i) + isM ls[i] := by
  unfold muchT
  rw [List.take_succ_eq_append_getElem hi, List.map_append, List.sum_append]
  simp
/-- Do lines ask for too much? -/
def slowB (ls : List Tx) : Bool := decide (9000 < lenT ls) || decide (25 < muchT ls)
theorem slowB_len {ls : List Tx} (h : slowB ls = false) : lenT ls ≤ 9000 := by
  unfold slowB at h
  simp at h
  omega
/-- What slow tells. -/
def SlowO (ls : List Tx) (w : World) (e : Ending) (w' : World) : Prop := ∃ t : Bool, e = .returned (.bool t) ∧ (t = false → lenT ls ≤ 9000) ∧ Gr w w'
set_option maxRecDepth 20000 in
set_option maxHeartbeats 8000000 in
theorem slow_is {w : World} {ao : Option Addr} {cp : Nat} {ls : List Tx} (h : ValAt w ao (ls.map sv)) (hl : ls.length ≤ 2000000) (hy : ∀ y ∈ ls, y.length ≤ 2000000) :
    Calls Tryz.prog 20 #[.slice ao ls.length cp] w fun e w' => e = .returned (.bool (slowB ls)) ∧ Gr w w' := by
  have HV := hide h
  have HY := hide hy
  clear h hy
  go_enter Tryz.func20, Tryz.ntmps20
  go_wp2_with fail
  go_loopw [3, 4, 5] (fun v3 v4 v5 wr => ∃ i nn mu : Nat, i ≤ ls.length ∧ v5 = .int .i64 (i : Int) ∧ v3 = .int .i64 (nn : Int) ∧ v4 = .int .i64 (mu : Int) ∧ mu ≤ i ∧ nn ≤ 2000000 * i ∧ Hid (lenT (ls.take i) = nn) ∧ Hid (muchT (ls.take i) = mu) ∧ Hid (Gr w wr)) (fun _ _ v5 _ => ls.length - (intOf v5).toNat)
  case atStart => exact ⟨0, 0, 0, by omega, rfl, rfl, rfl, by omega, by omega, rfl, rfl, Gr.refl _⟩
  case round =>
    obtain ⟨i, nn, mu, hi, rfl, rfl, rfl, hmu, hnn, HN, HMU, GR⟩ := hrel
    by_cases hlt : i < ls.length
    · have hiI : (i : Int) < (ls.length : Int) := by omega
      obtain ⟨b, o, hao⟩ : ∃ b o, ao = some ⟨b, o, none⟩ := by
        rcases HV.out with h | ⟨b', o', ha, _⟩
        · have : ls = [] := by simpa using h
          rw [this] at hlt; simp at hlt
        · exact ⟨b', o', ha⟩
      subst hao
      have hcell : wr.cell? ⟨b, o + i, none⟩ = some (sv ls[i]) ∧ b < wr.heap.size := by
        rcases HV.out.gr GR.out with h | ⟨b', o', ha, hb, hc⟩
        · have : ls = [] := by simpa using h
          rw [this] at hlt; simp at hlt
        · cases ha
          have := hc i (by simpa using hlt)
          exact ⟨by simpa using this, hb⟩
      obtain ⟨cy, hb⟩ := hcell
      have hyl := HY.out ls[i] (List.getElem_mem hlt)
      have HSC := hide (len_succ hlt)
      have HMS := hide (much_succ hlt)
      generalize ls[i] = y at cy hyl HSC HMS
      have HN2 : Hid (lenT (ls.take (i + 1)) = nn + y.length) := by unfold Hid; rw [HSC.out, HN.out]
      obtain ⟨s, hs⟩ : ∃ s : ByteArray, s = ⟨y.toArray⟩ := ⟨_, rfl⟩
      have hsz : s.size = y.length := by rw [hs, size_of_list]
      rw [show sv y = Value.string s by rw [hs]] at cy
      have HW := hide (words_any wr s (by omega))
      have HIM : Hid (isM y = match wordsT s.data.toList with | [] => 0 | w0 :: _ => if (w0 == [108, 101, 116, 116, 101, 114] || w0 == [115, 109, 97, 108, 108]) = true then 1 else 0) := by unfold Hid isM; rw [hs]
      clear hs
      have HSZ := hide hsz
      have hsl : s.size ≤ 2000000 := by omega
      clear hsz
      generalize wordsT s.data.toList = L at HW HIM
      have wr1 : IntKind.i64.wrap ((i : Int) + 1) = (i : Int) + 1 := by rw [IntKind.wrap_i64]; omega
      have wr2 : IntKind.i64.wrap ((nn : Int) + (s.size : Int)) = ((nn + s.size : Nat) : Int) := by rw [IntKind.wrap_i64]; omega
      have wr3 : IntKind.i64.wrap ((mu : Int) + 1) = ((mu + 1 : Nat) : Int) := by rw [IntKind.wrap_i64]; omega
      by_cases hL : L = []
      · subst hL
        have HM2 : Hid (muchT (ls.take (i + 1)) = mu) := by unfold Hid; rw [HMS.out, HMU.out, HIM.out]; rfl
        go_wp2_with (go_at_call 39; refine HW.out.mono ?_; rintro e w3 ⟨v, rfl, o3, g3⟩; obtain ⟨an, cn, hv, _, _⟩ := o3.shape; simp only [List.map_nil, List.length_nil] at hv; subst hv; have G3 := hide (GR.out.trans g3); clear g3 o3)
        go_roundw
        case rel => exact ⟨i + 1, nn + s.size, mu, by omega, by congr 1, rfl, rfl, by omega, by omega, by rw [HSZ.out]; exact HN2, HM2, G3⟩
        case measure => simp [intOf]; omega
      · obtain ⟨w0, r, hLc⟩ : ∃ w0 r, L = w0 :: r := by
          match L, hL with
          | a :: r, _ => exact ⟨a, r, rfl⟩
        subst hLc
        clear hL
        obtain ⟨N, hN⟩ : ∃ N, r.length + 1 = N := ⟨_, rfl⟩
        have HW2 : Hid (Calls Tryz.prog 39 #[.string s] wr fun e w' => ∃ bn on cn, e = .returned (.slice (some ⟨bn, on, none⟩) N cn) ∧ w'.cell? ⟨bn, on, none⟩ = some (sv w0) ∧ bn < w'.heap.size ∧ Gr wr w') := HW.out.mono fun e w3 ⟨v, he, o3, g3⟩ => by
          obtain ⟨an, cn, hv, hva, _⟩ := o3.shape
          rcases hva with h | ⟨bn, on, ha, hb, hc⟩
          · simp at h
          · refine ⟨bn, on, cn, by rw [he, hv, ha, ← hN]; simp, ?_, hb, g3⟩
            have := hc 0 (by simp)
            simpa using this
        have hN0 : (0 : Int) < (N : Int) := by omega
        clear HW hN
        have key : (w0 == [108, 101, 116, 116, 101, 114]) = true ∨ ((w0 == [108, 101, 116, 116, 101, 114]) = false ∧ (w0 == [115, 109, 97, 108, 108]) = true) ∨ ((w0 == [108, 101, 116, 116, 101, 114]) = false ∧ (w0 == [115, 109, 97, 108, 108]) = false) := by
          cases (w0 == [108, 101, 116, 116, 101, 114]) <;> cases (w0 == [115, 109, 97, 108, 108]) <;> simp
        rcases key with e1 | ⟨e1, e2⟩ | ⟨e1, e2⟩
        · have HM2 : Hid (muchT (ls.take (i + 1)) = mu + 1) := by unfold Hid; rw [HMS.out, HMU.out, HIM.out]; simp only [e1, Bool.true_or]; rfl
          go_wp2_with (go_at_call 39; refine HW2.out.mono ?_; rintro e w3 ⟨bn, on, cn, rfl, c3, b3, g3⟩; have G3 := hide (GR.out.trans g3); clear g3)
          go_roundw
          case rel => exact ⟨i + 1, nn + s.size, mu + 1, by omega, by congr 1, rfl, rfl, by omega, by omega, by rw [HSZ.out]; exact HN2, HM2, G3⟩
          case measure => simp [intOf]; omega
        · have HM2 : Hid (muchT (ls.take (i + 1)) = mu + 1) := by unfold Hid; rw [HMS.out, HMU.out, HIM.out]; simp only [e1, e2]; rfl
          go_wp2_with (go_at_call 39; refine HW2.out.mono ?_; rintro e w3 ⟨bn, on, cn, rfl, c3, b3, g3⟩; have G3 := hide (GR.out.trans g3); clear g3)
          go_roundw
          case rel => exact ⟨i + 1, nn + s.size, mu + 1, by omega, by congr 1, rfl, rfl, by omega, by omega, by rw [HSZ.out]; exact HN2, HM2, G3⟩
          case measure => simp [intOf]; omega
        · have HM2 : Hid (muchT (ls.take (i + 1)) = mu) := by unfold Hid; rw [HMS.out, HMU.out, HIM.out]; simp only [e1, e2]; rfl
          go_wp2_with (go_at_call 39; refine HW2.out.mono ?_; rintro e w3 ⟨bn, on, cn, rfl, c3, b3, g3⟩; have G3 := hide (GR.out.trans g3); clear g3)
          go_roundw
          case rel => exact ⟨i + 1, nn + s.size, mu, by omega, by congr 1, rfl, rfl, by omega, by omega, by rw [HSZ.out]; exact HN2, HM2, G3⟩
          case measure => simp [intOf]; omega
    · have hiI : decide ((i : Int) < (ls.length : Int)) = false := decide_eq_false (by omega)
      have HE : Hid (slowB ls = (decide (9000 < nn) || decide (25 < mu))) := by
        unfold Hid slowB
        rw [← HN.out, ← HMU.out, List.take_of_length_le (by omega)]
      by_cases h9 : 9000 < nn
      · have e9 : (decide (9000 < nn) || decide (25 < mu)) = true := by simp [h9]
        have E9 := hide (HE.out.trans e9)
        clear e9
        go_wp2_with fail
        go_ret
        exact ⟨by rw [E9.out]; rfl, GR.out⟩
      · have d9 : decide ((9000 : Int) < (nn : Int)) = false := decide_eq_false (by omega)
        by_cases h25 : 25 < mu
        · have d25 : decide ((25 : Int) < (mu : Int)) = true := decide_eq_true (by omega)
          have e9 : (decide (9000 < nn) || decide (25 < mu)) = true := by simp [h25]
          have E9 := hide (HE.out.trans e9)
          clear e9
          go_wp2_with fail
          go_ret
          exact ⟨by rw [E9.out]; rfl, GR.out⟩
        · have d25 : decide ((25 : Int) < (mu : Int)) = false := decide_eq_false (by omega)
          have e9 : (decide (9000 < nn) || decide (25 < mu)) = false := by simp [h9, h25]
          have E9 := hide (HE.out.trans e9)
          clear e9
          go_wp2_with fail
          go_ret
          exact ⟨by rw [E9.out]; rfl, GR.out⟩
theorem slow_any {w : World} {ao : Option Addr} {cp : Nat} {ls : List Tx} (h : ValAt w ao (ls.map sv)) (hl : ls.length ≤ 2000000) (hy : ∀ y ∈ ls, y.length ≤ 2000000) :
    Calls Tryz.prog 20 #[.slice ao ls.length cp] w fun e w' => SlowO ls w e w' :=
  (slow_is h hl hy).mono fun _ _ ⟨he, hg⟩ => ⟨slowB ls, he, slowB_len, hg⟩

end Go.Proofs.YtfcknkanbcndjagGreatDoor

/- LISTS OF ONE-CELL VALUES, read at a place. -/
namespace Go.Proofs.YtfcknkanbcndjagGreatDoor

end Go.Proofs.YtfcknkanbcndjagGreatDoor
