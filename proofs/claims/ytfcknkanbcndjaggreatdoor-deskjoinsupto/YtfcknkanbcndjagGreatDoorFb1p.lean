import Derived.Test.YtfcknkanbcndjagGreatDoorPo1
import Derived.Test.YtfcknkanbcndjagGreatDoorPo0
import Derived.Test.YtfcknkanbcndjagGreatDoorRInv
import Derived.Laws.OwnMore
/- CONTRACTS OF package fib: New, Owners, Owner, Full, Small. -/
namespace Go.Proofs.YtfcknkanbcndjagGreatDoor
open Go.RowKit
attribute [local go_sem] Ext.all Ext.cell Ext.frozen Ext.lt Ext.lt1 Ext.lt2 Ext.ne Ext.ne' hopW_of
section
variable {M N : Nat → Prop} {B w w' : World} {P p k : Nat} {q : Nat → Nat} {v v' : Value} {tb : Nat} {u u' : Value} {c c' : Nat → Nat → Nat} {t t' : Tn} {n n' : Nat} {rs rs' : List Rt}
set_option maxRecDepth 20000 in
theorem fibNew_po (w : World) (M : Nat → Prop) (hM : ∀ b, M b → b < w.heap.size) :
    Calls Tryz.prog 26 #[] w fun e w' => ∃ P p k q v tb u, e = .returned (pv P) ∧ Po M w w' P p k q v tb u (fun _ _ => 0) newT 0 [] ∧ Gr w w' ∧ ∀ b, ownP P p k q v tb u b → w.heap.size ≤ b := by
  have HN := hide (netNew_nl w M hM)
  have HM := hide hM
  clear hM
  go_enter Tryz.func26, Tryz.ntmps26
  go_wp2_with (first
    | (go_at_call 46; with_reducible refine HN.out.mono ?_; rintro e w1 ⟨p, k, q, v, rfl, n1', g1', r1', r2', r3', r4'⟩; have N1 := hide n1'; have G1 := hide g1'; have R := hide (And.intro r1' (And.intro r2' (And.intro r3' r4'))); clear n1' g1' r1' r2' r3' r4')
    | (go_at_call 47; with_reducible refine (new_any _).mono ?_; rintro e _ ⟨rfl, rfl⟩)
    | fail)
  go_ret
  have sz := Below.size G1.out
  obtain ⟨r1, r2, r3, r4⟩ := R.out
  have hown : ∀ b, own p k q v b → w.heap.size ≤ b ∧ b < w1.heap.size := fun b hb => ⟨by
    rcases hb with rfl | rfl | ⟨a, ha, rfl⟩ | e
    · exact r1
    · exact r2
    · exact r3 a ha
    · exact r4 b e, N1.out.h.own_lt hb⟩
  have T0 : TabS (w1.alloc (.cells #[.slice none 0 0] 171)) M w1.heap.size (.slice none 0 0) [] := TabS.new w1 M (fun b hb => Nat.lt_of_lt_of_le (HM.out b hb) sz)
  have hs : (w1.alloc (.cells #[.slice none 0 0] 171)).heap.size = w1.heap.size + 1 := by simp
  have hb := heap_alloc_new (w1.alloc (.cells #[.slice none 0 0] 171)) (.cells #[pv p, pv w1.heap.size] 33)
  rw [hs] at hb
  refine ⟨_, p, k, q, v, w1.heap.size, .slice none 0 0, rfl, ⟨hb, (N1.out.ext ((Gr.refl _).alloc _)).ext ((Gr.refl _).alloc _), T0.gr ((Gr.refl _).alloc _), Ows.nil, fun hm => ?_, fun b hb ho => ?_, fun hb => ?_, fun ho => ?_⟩, (G1.out.alloc _).alloc _, ?_⟩
  · have := HM.out _ hm
    omega
  · rcases ho with rfl | e
    · have := (hown _ hb).2; omega
    · cases e
  · have := (hown _ hb).2
    omega
  · rcases ho with e | e
    · simp at e
    · cases e
  · rintro b (rfl | h | h)
    · omega
    · exact (hown b h).1
    · rcases h with rfl | e
      · exact sz
      · cases e
end

end Go.Proofs.YtfcknkanbcndjagGreatDoor

/- CONTRACTS OF package fib: Full. -/
namespace Go.Proofs.YtfcknkanbcndjagGreatDoor
open Go.RowKit
attribute [local go_sem] Ext.all Ext.cell Ext.frozen Ext.lt Ext.lt1 Ext.lt2 Ext.ne Ext.ne' hopW_of
/-- The first k prefixes go where their owners' ways go, the others still have their owners. -/
def mixL (t : Tn) (x : Int) (rs : List Rt) (k : Nat) : List Rt := fullL t x (rs.take k) ++ rs.drop k
theorem mix_zero (t : Tn) (x : Int) (rs : List Rt) : mixL t x rs 0 = rs := by simp [mixL, fullL]
theorem mix_all (t : Tn) (x : Int) (rs : List Rt) : mixL t x rs rs.length = fullL t x rs := by simp [mixL]
theorem mix_len (t : Tn) (x : Int) (rs : List Rt) {k : Nat} (hk : k ≤ rs.length) : (mixL t x rs k).length = rs.length := by
  unfold mixL
  rw [List.length_append, full_len, List.length_take, List.length_drop]
  omega
theorem mix_at (t : Tn) (x : Int) (rs : List Rt) {k : Nat} (hk : k < rs.length) : mixL t x rs k = fullL t x (rs.take k) ++ rs[k] :: rs.drop (k + 1) := by
  unfold mixL
  rw [List.drop_eq_getElem_cons hk]
theorem mix_succ (t : Tn) (x : Int) (rs : List Rt) {k : Nat} (hk : k < rs.length) : mixL t x rs (k + 1) = fullL t x (rs.take k) ++ (rs[k].1, rs[k].2.1, hpT t x rs[k].2.2) :: rs.drop (k + 1) := by
  unfold mixL
  rw [full_take t x hk, List.append_assoc]
  rfl
theorem cels_set (A B : List Rt) (r : Rt) (y : Int) : (cels (A ++ r :: B)).set (A.length * 3 + 2) (iv y) = cels (A ++ (r.1, r.2.1, y) :: B) := by
  rw [cels_append, cels_append, cels_cons, cels_cons, List.set_append_right _ _ (by rw [cels_length]; omega), cels_length, show A.length * 3 + 2 - A.length * 3 = 0 + 1 + 1 by omega]
  rfl
theorem mix_set (t : Tn) (x : Int) (rs : List Rt) {k : Nat} (hk : k < rs.length) : (cels (mixL t x rs k)).set (k * 3 + 2) (iv (hpT t x rs[k].2.2)) = cels (mixL t x rs (k + 1)) := by
  have hl : (fullL t x (rs.take k)).length = k := by rw [full_len, List.length_take]; omega
  have := cels_set (fullL t x (rs.take k)) (rs.drop (k + 1)) rs[k] (hpT t x rs[k].2.2)
  rw [hl] at this
  rw [mix_at t x rs hk, this, mix_succ t x rs hk]
theorem mix_cels (t : Tn) (x : Int) (rs : List Rt) {k : Nat} (hk : k < rs.length) : (cels (mixL t x rs k))[k * 3]? = some (iv rs[k].1) ∧ (cels (mixL t x rs k))[k * 3 + 1]? = some (iv rs[k].2.1) ∧ (cels (mixL t x rs k))[k * 3 + 2]? = some (iv rs[k].2.2) := by
  have hl : k < (mixL t x rs k).length := by rw [mix_len t x rs (by omega)]; exact hk
  have e : (mixL t x rs k)[k] = rs[k] := by
    have hf : (fullL t x (rs.take k)).length = k := by rw [full_len, List.length_take]; omega
    simp only [mix_at t x rs hk]
    rw [List.getElem_append_right (by omega)]
    simp [hf]
  have := cels_at (mixL t x rs k) k hl
  rw [e] at this
  exact this
section
variable {M N : Nat → Prop} {B w w' : World} {P p k : Nat} {q : Nat → Nat} {v v' : Value} {tb : Nat} {u u' : Value} {c c' : Nat → Nat → Nat} {t t' : Tn} {n n' : Nat} {rs rs' : List Rt}
/-- List's list, that is the caller's own. -/
theorem list_own (S : TabS w M tb u rs) (hm : rs.length ≤ 1000) :
    Calls Tryz.prog 60 #[pv tb] w fun e w' => ∃ ao c', e = .returned (.slice ao rs.length c') ∧ w'.ownsRow w.heap.size 133 3 (.slice ao rs.length c') rs.length (cels rs) ∧ Gr w w' := by
  obtain ⟨ao, c, rfl, H⟩ := S.shape
  have hc := S.cell0
  obtain ⟨v', w2, hr, hown, hgr⟩ := run_append_new w _ 108 ao rs.length c rs H rfl (by omega)
  obtain ⟨ao', c', rfl, _⟩ := ownR_shape hown
  have gr : Gr w w2 := (Gr.refl _).grown hgr (fun k h => by cases h)
  have HR := hide hr
  have HO := hide hown
  have HG := hide gr
  clear hr hown hgr gr S H
  go_enter Tryz.func60, Tryz.ntmps60
  go_wp2_with (first | (go_at_call 62; refine (held_any _ tb _ hc).mono ?_; rintro e w1 ⟨rfl, hw1⟩; subst hw1) | (at_builtin; refine Lib.wpList_append_run _ rfl _ _ _ _ rfl _ _ rfl rfl _ _ HR.out ?_))
  go_ret
  exact ⟨_, _, rfl, HO.out, HG.out⟩
set_option maxRecDepth 20000 in
theorem fibFull_no (_H : Po M B w P p k q v tb u c t n rs) {x : Int} (hx : ¬ isN x) : Calls Tryz.prog 32 #[pv P, iv x] w fun e w' => e = .returned (.pointer none) ∧ Gr w w' := by
  have B1 : Hid (decide (0 ≤ x ∧ x < 6) = false) := decide_eq_false hx
  clear _H hx
  go_enter Tryz.func32, Tryz.ntmps32
  go_wp2_with (go_at_call 33; with_reducible refine (lnode_is B1.out _).mono ?_; rintro e w1 ⟨rfl, hw1⟩; have hw2 := hw1.symm; clear hw1; subst hw2)
  go_ret
  exact ⟨rfl, Gr.refl _⟩
set_option maxRecDepth 20000 in
set_option maxHeartbeats 8000000 in
theorem fibFull_po (H : Po M B w P p k q v tb u c t n rs) {x : Int} (hx : isN x) : Calls Tryz.prog 32 #[pv P, iv x] w fun e w' => ∃ ub z, e = .returned (pv ub) ∧ TabS w' (fun k => k < w.heap.size) ub z (fullL t x rs) ∧ Gr w w' := by
  have B1 : Hid (decide (0 ≤ x ∧ x < 6) = true) := decide_eq_true hx
  have hlen := H.ows.tab.len
  have hlenI : (rs.length : Int) ≤ 40 := by omega
  have TF := hide (tab_chk (full_tab H.net.a x H.ows.tab))
  have HQ : Hid (∀ V, Gr w V → Po M B V P p k q v tb u c t n rs) := fun V g => H.gr g
  have HL := hide (list_own H.tab (by omega))
  have hPw := lt_of_block H.blk
  obtain ⟨d0, d1⟩ := cells2 H.blk
  clear H hx
  go_enter Tryz.func32, Tryz.ntmps32
  go_wp2_with (first
    | (go_at_call 33; with_reducible refine (lnode_is B1.out _).mono ?_; rintro e w1 ⟨rfl, hw1⟩; have hw2 := hw1.symm; clear hw1; subst hw2)
    | (go_at_call 60; refine HL.out.mono ?_; rintro e D ⟨ao, cp, rfl, r1, g1⟩; have R1 := hide r1; have G1 := hide g1; clear r1 g1)
    | fail)
  clear d0 d1
  go_loopw [24] (fun v24 wr => ∃ (k : Nat), k ≤ rs.length ∧ v24 = .int .i64 (k : Int) ∧ Hid (wr.ownsRow w.heap.size 133 3 (.slice ao rs.length cp) rs.length (cels (mixL t x rs k))) ∧ Hid (Gr w wr)) (fun v24 _ => (rs.length - intOf v24).toNat)
  case atStart =>
    exact ⟨0, by omega, rfl, by rw [mix_zero]; exact R1, G1⟩
  case round =>
    obtain ⟨i, hin, rfl, O3, G3⟩ := hrel
    by_cases hi : i < rs.length
    · have hki : decide ((i : Int) < (rs.length : Int)) = true := decide_eq_true (by omega)
      have hi0 : (i : Int) < (rs.length : Int) := by omega
      have wk : IntKind.i64.wrap ((i : Int) + 1) = (i : Int) + 1 := by rw [IntKind.wrap_i64]; omega
      obtain ⟨g, hao, hgw⟩ : ∃ g, ao = some ⟨g, 0, none⟩ ∧ w.heap.size ≤ g := by
        rcases O3.out.2 with ⟨_, h0⟩ | ⟨g, cap, cur, hv, hb, _⟩
        · omega
        · simp only [Value.slice.injEq] at hv
          exact ⟨g, hv.1, hb⟩
      subst hao
      have hgr : g < wr.heap.size := (O3.out.lt g rfl).2
      have hcs := mix_cels t x rs hi
      have x0 := (O3.out.cellAt (i * 3) (by omega)).trans hcs.1
      have x1 := (O3.out.cellAt (i * 3 + 1) (by omega)).trans hcs.2.1
      have x2 := (O3.out.cellAt (i * 3 + 2) (by omega)).trans hcs.2.2
      have HST := hide (mix_set t x rs hi)
      have PW := hide (HQ.out wr G3.out)
      obtain ⟨d0', d1'⟩ := cells2 PW.out.blk
      have hPr := lt_of_block PW.out.blk
      have HW : Hid (∀ V, Gr wr V → Calls Tryz.prog 57 #[pv p, iv x, iv rs[i].2.2] V fun e w' => ∃ s d, e = .returned (.agg #[iv s, iv d, iv (hpT t x rs[i].2.2)]) ∧ Gr V w') := fun V g => by
        refine (netWay_any (PW.out.net.h.ext g) x rs[i].2.2).mono fun e w' ⟨he, d', hd'⟩ => ⟨_, _, by rw [he, ← hp_way]; rfl, by rw [hd']; exact d'.gr⟩
      have hc2 := hcs.2.2
      clear hcs R1 HQ HL PW
      generalize rs[i] = r at *
      obtain ⟨l, bb, hh⟩ := r
      simp only at HW HST
      simp only [] at x0 x1 x2 hc2
      generalize hpT t x hh = y at *
      go_upto_region 7 with (fail)
      have hsb : wr.heap.size < (wr.alloc (.cells #[iv l, iv bb, iv hh] 133)).heap.size := by simp
      have hbx : (wr.alloc (.cells #[iv l, iv bb, iv hh] 133)).cell? ⟨wr.heap.size, 2, none⟩ = some (iv hh) := by simp [go_sem]
      refine wp_gen (fun V => Gr wr V ∧ wr.heap.size < V.heap.size ∧ V.cell? ⟨wr.heap.size, 2, none⟩ = some (iv hh)) ⟨(Gr.refl wr).alloc _, hsb, hbx⟩ ?_
      clear hsb hbx x0 x1 x2
      rintro V ⟨gV, sV, e3⟩
      have e0 : V.cell? ⟨P, 0, none⟩ = some (pv p) := (Below.cell gV (p := ⟨P, 0, none⟩) hPr).trans d0'
      have hPV : P < V.heap.size := Nat.lt_of_lt_of_le hPr (Below.size gV)
      have HC := hide (HW.out V.drew gV.drew)
      have HO : Hid (∀ X, Gr V.drew X → X.ownsRow w.heap.size 133 3 (.slice (some ⟨g, 0, none⟩) rs.length cp) rs.length (cels (mixL t x rs i))) := fun X gx => ownR_gr O3.out (gV.drew.trans gx)
      have HX : Hid (∀ X, Gr V.drew X → X.cell? ⟨g, i * 3 + 2, none⟩ = some (iv hh)) := fun X gx =>
        ((HO.out X gx).cellAt (i * 3 + 2) (by omega)).trans hc2
      have HF : Hid (∀ X, Gr V.drew X → X.frozen? ⟨g, i * 3 + 2, none⟩ = false ∧ g < X.heap.size) := fun X gx => ⟨(HO.out X gx).frozenAt _, ((HO.out X gx).lt g rfl).2⟩
      have gVV := hide gV
      clear gV d0' d1' HW hc2
      generalize wr.heap.size = Y at *
      go_region_with (go_at_call 57; refine HC.out.mono ?_; rintro e w5 ⟨s5, d5, rfl, g5⟩; have G5 := hide g5; have y1 := HX.out _ g5; obtain ⟨y2, y3⟩ := HF.out _ g5; clear g5)
      all_goals
        go_wp2_with fail
        go_roundw
        case rel => exact ⟨i + 1, by omega, by congr 1, by rw [← HST.out]; exact ((HO.out _ G5.out).stored _ _).1, ((G3.out.trans (gVV.out.drew)).trans G5.out).setCell hgw _⟩
        case measure => simp [intOf]; omega
    · have hki : decide ((i : Int) < (rs.length : Int)) = false := decide_eq_false (by omega)
      have HT : Hid (mixL t x rs i = fullL t x rs) := by rw [show i = rs.length by omega]; exact mix_all t x rs
      rw [HT.out] at O3
      have HR := hide (rowAt_own (M := fun _ => True) O3.out (fun _ _ => trivial))
      have hOf := hide (of_any wr (fun _ => True) ao rs.length cp (fullL t x rs) HR.out.1 HR.out.2.1 TF.out)
      clear R1 HL HQ
      go_wp2_with (go_at_call 61; refine hOf.out.mono ?_; rintro e _ ⟨ub, z, rfl, t1, d5, rfl⟩; have T5 := hide t1; clear t1)
      go_ret
      have hs := Below.size G3.out
      exact ⟨ub, z, rfl, ⟨T5.out.cell, T5.out.own, fun e => T5.out.notTb (by omega), fun g hg e => T5.out.notRow g hg (by omega), fun b hb => T5.out.bd b (by omega)⟩, G3.out.trans d5.gr⟩
end

end Go.Proofs.YtfcknkanbcndjagGreatDoor

/- CONTRACTS OF package fib: Small. -/
namespace Go.Proofs.YtfcknkanbcndjagGreatDoor
open Go.RowKit
attribute [local go_sem] Ext.all Ext.cell Ext.frozen Ext.lt Ext.lt1 Ext.lt2 Ext.ne Ext.ne'
section
variable {M N : Nat → Prop} {B w w' : World} {P p k : Nat} {q : Nat → Nat} {v v' : Value} {tb : Nat} {u u' : Value} {c c' : Nat → Nat → Nat} {t t' : Tn} {n n' : Nat} {rs rs' : List Rt}
set_option maxRecDepth 20000 in
theorem fibSmall_no (H : Po M B w P p k q v tb u c t n rs) {x : Int} (hx : ¬ isN x) : Calls Tryz.prog 31 #[pv P, iv x] w fun e w' => e = .returned (.pointer none) ∧ Gr w w' := by
  have HF := hide (fibFull_no H hx)
  clear H hx
  go_enter Tryz.func31, Tryz.ntmps31
  go_wp2_with (go_at_call 32; with_reducible refine HF.out.mono ?_; rintro e w1 ⟨rfl, g1⟩)
  go_ret
  exact ⟨rfl, g1⟩
set_option maxRecDepth 20000 in
theorem fibSmall_po (H : Po M B w P p k q v tb u c t n rs) (h64 : Tab64 w) {x : Int} (hx : isN x) : Calls Tryz.prog 31 #[pv P, iv x] w fun e w' => ∃ ub z, e = .returned (pv ub) ∧ TabS w' (fun k => k < w.heap.size) ub z (lstL (fullL t x rs)) ∧ Gr w w' := by
  have HF := hide (fibFull_po H hx)
  have TF := hide (full_tab H.net.a x H.ows.tab)
  have H64 := hide h64
  clear H hx h64
  go_enter Tryz.func31, Tryz.ntmps31
  go_wp2_with (first
    | (go_at_call 32; with_reducible refine HF.out.mono ?_; rintro e w1 ⟨ub, z, rfl, t1, g1'⟩; have T1 := hide t1; have G1 := hide g1'; clear t1 g1')
    | (go_at_call 59; with_reducible refine (lof_is (H64.out.gr G1.out) T1.out TF.out w1 (Gr.refl _)).mono ?_; rintro e w2 ⟨vb, y, rfl, t2, g2'⟩; have T2 := hide t2; have G2 := hide g2'; clear t2 g2')
    | fail)
  go_ret
  have hs := Below.size G1.out
  exact ⟨vb, y, rfl, ⟨T2.out.cell, T2.out.own, fun e => T2.out.notTb (by omega), fun g hg e => T2.out.notRow g hg (by omega), fun b hb => T2.out.bd b (by omega)⟩, G1.out.trans G2.out⟩
end

end Go.Proofs.YtfcknkanbcndjagGreatDoor

/- FOR THE LAWS OF A POST: a Post as an object with its own blocks. -/
namespace Go.Proofs.YtfcknkanbcndjagGreatDoor
open Go.RowKit

/-- A Post at P whose own blocks are S. -/
def Pq (M : Nat → Prop) (B w : World) (P : Nat) (S : Nat → Prop) (c : Nat → Nat → Nat) (t : Tn) (n : Nat) (rs : List Rt) : Prop :=
  ∃ p k q v tb u, Po M B w P p k q v tb u c t n rs ∧ S = ownP P p k q v tb u
section
variable {M N : Nat → Prop} {B w w' : World} {P T : Nat} {S : Nat → Prop} {c : Nat → Nat → Nat} {t : Tn} {n : Nat} {rs : List Rt}
theorem Pq.gr (H : Pq M B w P S c t n rs) (g : Gr w w') : Pq M B w' P S c t n rs := by
  obtain ⟨p, k, q, v, tb, u, h, e⟩ := H
  exact ⟨p, k, q, v, tb, u, h.gr g, e⟩
theorem Pq.keep (H : Pq M B w P S c t n rs) (hk : Kp N w w') (hMN : ∀ b, M b → N b) (hS : ∀ b, S b → N b) : Pq M B w' P S c t n rs := by
  obtain ⟨p, k, q, v, tb, u, h, e⟩ := H
  subst e
  exact ⟨p, k, q, v, tb, u, h.keep hk hMN hS, rfl⟩
theorem Pq.lt (H : Pq M B w P S c t n rs) {b : Nat} (hb : S b) : b < w.heap.size := by
  obtain ⟨p, k, q, v, tb, u, h, e⟩ := H
  subst e
  exact h.lt hb
theorem Pq.out (H : Pq M B w P S c t n rs) {b : Nat} (hm : M b) : b < w.heap.size ∧ ¬ S b := by
  obtain ⟨p, k, q, v, tb, u, h, e⟩ := H
  subst e
  exact h.out hm
theorem Pq.ows (H : Pq M B w P S c t n rs) : Ows rs := by
  obtain ⟨p, k, q, v, tb, u, h, e⟩ := H
  exact h.ows
theorem Pq.a (H : Pq M B w P S c t n rs) : TnA t c := by
  obtain ⟨p, k, q, v, tb, u, h, e⟩ := H
  exact h.net.a
theorem Pq.do (H : Pq M B w P S c t n rs) (hn : n ≤ 100000) (x : Sp) (l b : Int) :
    Calls Tryz.prog 16 #[pv P, .agg #[iv x.k, iv x.a, iv x.b, iv x.n, iv l, iv b]] w fun e w' => e = .returned (iv (fdoC t rs x l b).2) ∧ ∃ S', Pq M B w' P S' (nextC c x) (fdoC t rs x l b).1.1 (n + 1) (fdoC t rs x l b).1.2 ∧ Chg w w' S S' := by
  obtain ⟨p, k, q, v, tb, u, h, e⟩ := H
  subst e
  refine (fibDo_po h hn x l b).mono ?_
  rintro e w' ⟨he, v', u', h', ch⟩
  exact ⟨he, _, ⟨p, k, q, v', tb, u', h', rfl⟩, ch⟩
theorem Pq.full (H : Pq M B w P S c t n rs) {x : Int} (hx : isN x) : Calls Tryz.prog 32 #[pv P, iv x] w fun e w' => ∃ ub, e = .returned (pv ub) ∧ Is w' ub (fullL t x rs) ∧ Gr w w' := by
  obtain ⟨p, k, q, v, tb, u, h, e⟩ := H
  exact (fibFull_po h hx).mono fun _ _ ⟨ub, z, he, ht, hg⟩ => ⟨ub, he, ⟨_, z, ht⟩, hg⟩
theorem Pq.full_no (H : Pq M B w P S c t n rs) {x : Int} (hx : ¬ isN x) : Calls Tryz.prog 32 #[pv P, iv x] w fun e w' => e = .returned (.pointer none) ∧ Gr w w' := by
  obtain ⟨p, k, q, v, tb, u, h, e⟩ := H
  exact fibFull_no h hx
theorem Pq.small (H : Pq M B w P S c t n rs) (h64 : Tab64 w) {x : Int} (hx : isN x) : Calls Tryz.prog 31 #[pv P, iv x] w fun e w' => ∃ ub, e = .returned (pv ub) ∧ Is w' ub (lstL (fullL t x rs)) ∧ Gr w w' := by
  obtain ⟨p, k, q, v, tb, u, h, e⟩ := H
  exact (fibSmall_po h h64 hx).mono fun _ _ ⟨ub, z, he, ht, hg⟩ => ⟨ub, he, ⟨_, z, ht⟩, hg⟩
theorem Pq.small_no (H : Pq M B w P S c t n rs) {x : Int} (hx : ¬ isN x) : Calls Tryz.prog 31 #[pv P, iv x] w fun e w' => e = .returned (.pointer none) ∧ Gr w w' := by
  obtain ⟨p, k, q, v, tb, u, h, e⟩ := H
  exact fibSmall_no h hx
end

end Go.Proofs.YtfcknkanbcndjagGreatDoor
