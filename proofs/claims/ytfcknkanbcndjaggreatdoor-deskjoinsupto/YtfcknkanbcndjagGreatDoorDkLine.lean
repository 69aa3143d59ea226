/- CONTRACT OF the reference's Desk: a line. -/
import Derived.Test.YtfcknkanbcndjagGreatDoorKd1
import Derived.Test.YtfcknkanbcndjagGreatDoorPtRparse2
import Derived.Test.YtfcknkanbcndjagGreatDoorDkBd
import Derived.Test.YtfcknkanbcndjagGreatDoorKt10
import Derived.Deep.Cut
import Derived.Deep.CutBlock
import Derived.Deep.CutRange
import Derived.Deep.DeepCutAuto
namespace Go.Proofs.YtfcknkanbcndjagGreatDoor
open Go.RowKit
attribute [local go_sem] Ext.all Ext.cell Ext.frozen Ext.lt Ext.lt1 Ext.lt2 Ext.ne Ext.ne'
theorem ValAt.at' {w : World} {b o : Nat} {l : List Value} (h : ValAt w (some ⟨b, o, none⟩) l) {i : Nat} (hi : i < l.length) : w.cell? ⟨b, o + i, none⟩ = some l[i] ∧ b < w.heap.size := by
  rcases h with h | ⟨b', o', ha, hb, hc⟩
  · rw [h] at hi; simp at hi
  · cases ha
    exact ⟨hc i hi, hb⟩
theorem ValAt.some' {w : World} {ao : Option Addr} {l : List Value} (h : ValAt w ao l) (hl : 0 < l.length) : ∃ b o, ao = some ⟨b, o, none⟩ := by
  rcases h with h | ⟨b', o', ha, hb, hc⟩
  · rw [h] at hl; simp at hl
  · exact ⟨b', o', ha⟩
theorem ValAt.other {w : World} {b o : Nat} {l : List Value} (h : ValAt w (some ⟨b, o, none⟩) l) {q : Nat} (hq : b ≠ q) (j : Nat) (v : Value) : ValAt (w.setCell ⟨q, j, none⟩ v) (some ⟨b, o, none⟩) l := by
  rcases h with h | ⟨b', o', ha, hb, hc⟩
  · exact .inl h
  · cases ha
    exact .inr ⟨b, o, rfl, by simpa using hb, fun i hi => (World.cell?_of_block (a := ⟨b, _, none⟩) (Below.heap_setCell w ⟨q, j, none⟩ v b hq)).trans (hc i hi)⟩
/-- The parse of the reference, in one form. -/
theorem rparse_any (s : Tx) (hs : s.length ≤ 100000) (w : World) :
    Calls Tryz.prog 90 #[sv s] w fun e w' => ∃ l b ok, e = .returned (.tuple #[pfx l b, .bool ok]) ∧ Gr w w' ∧ ((ok = true ∧ ∃ k : Nat, l = (k : Int) ∧ parseL s = some (k, b)) ∨ (ok = false ∧ l = 0 ∧ b = 0 ∧ parseL s = none)) := by
  have hsz : (⟨s.toArray⟩ : ByteArray).size ≤ 100000 := by rw [size_of_list]; exact hs
  cases h : parseL s with
  | none => exact (rparse_nil ⟨s.toArray⟩ hsz (by simpa using h) w).mono fun e w' ⟨he, d, hd⟩ => ⟨0, 0, false, he, by rw [hd]; exact d.gr, .inr ⟨rfl, rfl, rfl, rfl⟩⟩
  | some q => exact (rparse_some ⟨s.toArray⟩ q.1 q.2 hsz (by simpa using h) w).mono fun e w' ⟨he, d, hd⟩ => ⟨q.1, q.2, true, he, by rw [hd]; exact d.gr, .inl ⟨rfl, q.1, rfl, rfl⟩⟩
theorem words_len : ∀ (s cur : Tx), ∀ x ∈ wgo s cur, x.length ≤ cur.length + s.length
  | [], cur, x, h => by
    unfold wgo at h
    split at h
    · simp at h
    · have : x = cur := by simpa using h
      rw [this]; omega
  | c :: s, cur, x, h => by
    unfold wgo at h
    split at h
    · split at h
      · have := words_len s [] x h; simp at this ⊢; omega
      · rcases List.mem_cons.1 h with rfl | h
        · simp
        · have := words_len s [] x h; simp at this ⊢; omega
    · have := words_len s (cur ++ [c]) x h
      simp at this ⊢; omega
theorem words_many : ∀ (s cur : Tx), (wgo s cur).length ≤ s.length + 1
  | [], cur => by unfold wgo; split <;> simp
  | c :: s, cur => by
    unfold wgo
    split
    · split
      · have := words_many s []; simp; omega
      · have := words_many s []; simp; omega
    · have := words_many s (cur ++ [c]); simp; omega
theorem box3_set {X : World} {q : Nat} {T : TypeId} {x y z : Value} (u v t : Value) (h : X.heap[q]? = some (.cells #[x, y, z] T (0, 0))) : (((X.setCell ⟨q, 0, none⟩ u).setCell ⟨q, 1, none⟩ v).setCell ⟨q, 2, none⟩ t).heap[q]? = some (.cells #[u, v, t] T (0, 0)) :=
  heap_setCell_same _ q 2 _ _ t (heap_setCell_same _ q 1 _ _ v (heap_setCell_same X q 0 _ _ u h))
theorem box3_cells {X : World} {q : Nat} {T : TypeId} {x y z : Value} (h : X.heap[q]? = some (.cells #[x, y, z] T (0, 0))) : X.cell? ⟨q, 0, none⟩ = some x ∧ X.cell? ⟨q, 1, none⟩ = some y ∧ X.cell? ⟨q, 2, none⟩ = some z := by
  refine ⟨?_, ?_, ?_⟩ <;> simp [World.cell?, h]
theorem way_is (k : Nat) (w : Int × Int × Int) : wayL w k = ((([119, 97, 121, 32] ++ ito k) ++ 32 :: ito w.1) ++ 32 :: ito w.2.1) ++ 32 :: ito w.2.2 ++ [10] := by
  simp [wayL, sayD, joinT, wWay]
theorem new_is (x : Nws) : newL x = ((((([110, 101, 119, 115, 32] ++ ito x.1) ++ 32 :: ito x.2.1) ++ 32 :: ito x.2.2.1) ++ 32 :: ito x.2.2.2.1) ++ 32 :: ito x.2.2.2.2) ++ [10] := by
  simp [newL, sayD, joinT, wNews]
theorem flat_succ {α : Type} (f : α → Tx) {l : List α} {k : Nat} (hk : k < l.length) : (l.take (k + 1)).flatMap f = (l.take k).flatMap f ++ f l[k] := by
  rw [List.take_succ_eq_append_getElem hk, List.flatMap_append]
  simp
theorem flat_len {α : Type} {f : α → Tx} {N : Nat} : ∀ {l : List α}, (∀ x ∈ l, (f x).length ≤ N) → (l.flatMap f).length ≤ N * l.length
  | [], _ => by simp
  | r :: l, h => by
    have h1 := h r (by simp)
    have h2 := flat_len (l := l) (fun x hx => h x (by simp [hx]))
    simp only [List.flatMap_cons, List.length_append, List.length_cons]
    rw [Nat.mul_add]
    omega
theorem new_len {x : Nws} (h : i64B x.1 ∧ i64B x.2.1 ∧ i64B x.2.2.1 ∧ i64B x.2.2.2.1 ∧ i64B x.2.2.2.2) : (newL x).length ≤ 200 := by
  obtain ⟨h1, h2, h3, h4, h5⟩ := h
  have l1 := ito_len h1
  have l2 := ito_len h2
  have l3 := ito_len h3
  have l4 := ito_len h4
  have l5 := ito_len h5
  rw [new_is]
  simp only [List.length_append, List.length_cons, List.length_nil]
  omega
theorem box5_cells {X : World} {q : Nat} {T : TypeId} {x y z u v : Value} (h : X.heap[q]? = some (.cells #[x, y, z, u, v] T (0, 0))) : X.cell? ⟨q, 0, none⟩ = some x ∧ X.cell? ⟨q, 1, none⟩ = some y ∧ X.cell? ⟨q, 2, none⟩ = some z ∧ X.cell? ⟨q, 3, none⟩ = some u ∧ X.cell? ⟨q, 4, none⟩ = some v := by
  refine ⟨?_, ?_, ?_, ?_, ?_⟩ <;> simp [World.cell?, h]
theorem tab_i64 {l : List Rt} (h : Tab l) : ∀ r ∈ l, i64B r.2.2 := fun r hr => by
  have := (h.ok r hr).2
  unfold hopB at this
  have := of_decide_eq_true this
  exact i64_of ⟨by omega, by omega⟩
theorem own_at {X w' : World} {u : Value} {l : List Rt} {D : Nat} (h : Own X w' u l) (hD : D < X.heap.size) : ∃ ao cp, u = .slice ao l.length cp ∧ RowAt w' (fun b => b ≠ D) ao l := by
  obtain ⟨ao, cp, rfl, hb⟩ := ownR_shape h
  exact ⟨ao, cp, rfl, (rowAt_own (M := fun b => b ≠ D) h (fun a ha e => by have := hb a ha; omega)).1⟩
theorem join_flat : ∀ (a : Tx) (r : List Tx), joinT (a :: r) = a ++ r.flatMap fun y => 32 :: y
  | a, [] => by simp [joinT]
  | a, b :: r => by
    rw [joinT, join_flat b r]
    simp
theorem trip_is (l : List Nat) (kk ee : Int) : trpT (l, kk, ee) = ((([116, 114, 105, 112, 32] ++ ito ee) ++ 32 :: ito kk) ++ l.flatMap fun (y : Nat) => 32 :: ito y) ++ [10] := by
  unfold trpT sayD
  rw [join_flat]
  simp [wTrip, List.flatMap_map]
theorem NmAt.other {w : World} {ao : Option Addr} {l : List Nat} (h : NmAt w ao l) {q : Nat} (hq : ∀ b o, ao = some ⟨b, o, none⟩ → b ≠ q) (j : Nat) (v : Value) : NmAt (w.setCell ⟨q, j, none⟩ v) ao l := by
  rcases h with h | ⟨b, o, ha, hb, hc⟩
  · exact .inl h
  · exact .inr ⟨b, o, ha, by simpa using hb, fun i hi => (World.cell?_of_block (a := ⟨b, _, none⟩) (Below.heap_setCell w ⟨q, j, none⟩ v b (hq b o ha))).trans (hc i hi)⟩
theorem ways_succ (f : Nat → Tx) (k : Nat) : (List.range (k + 1)).flatMap f = (List.range k).flatMap f ++ f k := by
  rw [List.range_succ, List.flatMap_append]
  simp
/-- Words' list, read. -/
theorem words_at (w : World) (s : ByteArray) (hs : s.size ≤ 2000000) {L : List Tx} (hL : wordsT s.data.toList = L) {N : Nat} (hN : L.length = N) :
    Calls Tryz.prog 39 #[.string s] w fun e w' => ∃ ao cp, e = .returned (.slice ao N cp) ∧ ValAt w' ao (L.map sv) ∧ Gr w w' := by
  subst hL
  subst hN
  refine (words_any w s hs).mono ?_
  rintro e w' ⟨v, rfl, o, g⟩
  obtain ⟨ao, cp, rfl, hv, _⟩ := o.shape
  exact ⟨ao, cp, by simp, hv, g⟩
theorem wd_tab (X : World) (t : TypeId) : ValAt (X.alloc (.cells (wdL.map sv).toArray t)) (some ⟨X.heap.size, 0, none⟩) (wdL.map sv) := by
  refine .inr ⟨_, 0, rfl, by simp, fun i hi => ?_⟩
  have h := heap_alloc_new X (.cells (wdL.map sv).toArray t)
  simp only [World.cell?, Nat.zero_add, h]
  simp
theorem mn_tab (X : World) (t : TypeId) : ValAt (X.alloc (.cells (mnL.map fun (k : Nat) => iv k).toArray t)) (some ⟨X.heap.size, 0, none⟩) (mnL.map fun (k : Nat) => iv k) := by
  refine .inr ⟨_, 0, rfl, by simp, fun i hi => ?_⟩
  have h := heap_alloc_new X (.cells (mnL.map fun (k : Nat) => iv k).toArray t)
  simp only [World.cell?, Nat.zero_add, h]
  show (List.map _ mnL).toArray[i]? = some _
  rw [List.getElem?_toArray, List.getElem?_eq_getElem hi]
section
variable {W : World} {M : Nat → Prop} {B w w' : World} {D T : Nat} {S S' : Nat → Prop} {s : Dk} {n : Nat} {told told' : Tx}
/-- Is it the word of one who gives or takes a prefix? -/
def isOF (w0 : Tx) (t : Bool) : Prop := if t = true then (w0 = wOwn ∨ w0 = wFree) else ¬ (w0 = wOwn ∨ w0 = wFree)
/-- Is the word this number? -/
def nmE (y : Tx) (k : Int) (ok : Bool) : Prop := if ok = true then numT y = some k else numT y = none
/-- What line owes. -/
def LineO (W : World) (M : Nat → Prop) (B w : World) (D T : Nat) (S : Nat → Prop) (s : Dk) (n : Nat) (told : Tx) (A : Ask) (w' : World) : Prop := ∃ S', Dq W M B w' D T S' (doneA s A) (n + 1) (told ++ toldA s A) ∧ Chg w w' (ownD D S) (ownD D S')
set_option maxRecDepth 50000 in
set_option maxHeartbeats 40000000 in
theorem line_any (H : Dq W M B w D T S s n told) (hL : Lb W) (hn : n ≤ 100000) (hlen : told.length ≤ 2000000) (x : ByteArray) (hx : x.size ≤ 90000) :
    Calls Tryz.prog 45 #[pv D, .string x] w fun e w' => e = .returned (.tuple #[]) ∧ LineO W M B w D T S s n told (askT x.data.toList) w' := by
  have HQ := hide H
  have HL := hide hL
  have hwl := words_len x.data.toList []
  have hwm := words_many x.data.toList []
  have hxs : x.data.toList.length = x.size := by simp
  rw [hxs] at hwl hwm
  have HA : Hid (askT x.data.toList = askW (wordsT x.data.toList)) := rfl
  rw [HA.out]
  change ∀ y ∈ wordsT x.data.toList, _ at hwl
  change (wordsT x.data.toList).length ≤ _ at hwm
  clear HA hxs H hL
  obtain ⟨L, hLL⟩ : ∃ L, wordsT x.data.toList = L := ⟨_, rfl⟩
  obtain ⟨N, hNN⟩ : ∃ N, L.length = N := ⟨_, rfl⟩
  have HW1 := hide (words_at w x (by omega) hLL hNN)
  rw [hLL] at hwl hwm ⊢
  rw [hNN] at hwm
  clear hLL
  have HWL := hide hwl
  have HNN := hide hNN
  clear hwl hNN
  by_cases hN0 : N = 0
  · subst hN0
    have HLN : Hid (L = []) := List.eq_nil_of_length_eq_zero HNN.out
    go_enter Tryz.func45, Tryz.ntmps45
    go_wp2_with (go_at_call 39; refine HW1.out.mono ?_; rintro e w1 ⟨ao, cp, rfl, _, g1⟩)
    refine bodyPost_ret (results_none rfl _ _ _) rfl ⟨rfl, S, ?_, ?_⟩
    · have := (HQ.out.gr g1).more (m := n + 1) (by omega)
      rw [HLN.out]
      simpa [askW, toldA, doneA] using this
    · exact g1.chg _
  have hN1 : 0 < N := by omega
  have hNz : ((N : Int) == 0) = false := by simp; omega
  obtain ⟨w0, r, HLc⟩ : ∃ w0 r, Hid (L = w0 :: r) := by
    have := HNN.out
    match L, this with
    | [], h => exact absurd h.symm hN0
    | w0 :: r, _ => exact ⟨w0, r, rfl⟩
  have hw0 : w0.length ≤ 90000 := by have := HWL.out w0 (by rw [HLc.out]; simp); simp at this; omega
  go_enter Tryz.func45, Tryz.ntmps45
  go_upto_region 6 with (go_at_call 39; refine HW1.out.mono ?_; rintro e w1 ⟨ao, cp, rfl, v1', g1'⟩; have V1 := hide v1'; have G1 := hide g1'; clear v1' g1')
  obtain ⟨b, o, hao⟩ := V1.out.some' (by rw [List.length_map, HNN.out]; exact hN1)
  subst hao
  have hb1 : b < w1.heap.size := (V1.out.at' (i := 0) (by rw [List.length_map, HNN.out]; exact hN1)).2
  have hp1 := heap_alloc_new w1 (.cells #[iv 0, iv 0] 52)
  have gp1 : Gr w1 (w1.alloc (.cells #[iv 0, iv 0] 52)) := (Gr.refl w1).alloc _
  refine wp_gen (fun V => Hid (V.heap[w1.heap.size]? = some (.cells #[iv 0, iv 0] 52 (0, 0))) ∧ Hid (ValAt V (some ⟨b, o, none⟩) (L.map sv)) ∧ Hid (Gr w V)) ⟨hp1, V1.out.gr gp1, G1.out.trans gp1⟩ ?_
  have hpw := Below.size G1.out
  clear hp1 gp1 V1 G1
  obtain ⟨p, hpp⟩ : ∃ p, w1.heap.size = p := ⟨_, rfl⟩
  rw [hpp] at hb1 hpw ⊢
  clear hpp
  rintro V ⟨P2, V2, G2⟩
  have cells : Hid (∀ X, ValAt X (some ⟨b, o, none⟩) (L.map sv) → ∀ i (h : i < L.length), X.cell? ⟨b, o + i, none⟩ = some (sv L[i]) ∧ b < X.heap.size) := fun X hv i h => by
    have := hv.at' (i := i) (by simpa using h)
    simpa using this
  have hc0 : V.cell? ⟨b, o, none⟩ = some (sv w0) ∧ b < V.heap.size := by
    have := cells.out V V2.out 0 (by rw [HNN.out]; exact hN1)
    simpa [HLc.out] using this
  obtain ⟨c0, hbV⟩ := hc0
  have hN1I : (0 : Int) < (N : Int) := by omega
  go_cut [37] from 28 to 37 (fun v37 wc => ∃ t : Bool, v37 = .bool t ∧ Hid (isOF w0 t) ∧ wc = V)
  case first =>
    by_cases h1 : w0 = wOwn
    · have e1 : (w0 == [111, 119, 110]) = true := by rw [h1]; rfl
      have HT : Hid (isOF w0 true) := .inl h1
      clear h1
      go_wp2_with fail
      go_meet
      case rel => exact ⟨true, rfl, HT, rfl⟩
    · have e1 : (w0 == [111, 119, 110]) = false := by simpa [wOwn] using h1
      by_cases h2 : w0 = wFree
      · have e2 : (w0 == [102, 114, 101, 101]) = true := by rw [h2]; rfl
        have HT : Hid (isOF w0 true) := .inr h2
        clear h1 h2
        go_wp2_with fail
        go_meet
        case rel => exact ⟨true, rfl, HT, rfl⟩
      · have e2 : (w0 == [102, 114, 101, 101]) = false := by simpa [wFree] using h2
        have HT : Hid (isOF w0 false) := fun h => h.elim h1 h2
        clear h1 h2
        go_wp2_with fail
        go_meet
        case rel => exact ⟨false, rfl, HT, rfl⟩
  case rest =>
    obtain ⟨t, rfl, HT, hwc⟩ := hcut
    subst hwc
    have hpV : p < wc.heap.size := lt_of_block P2.out
    have hbp : b ≠ p := by omega
    go_upto_if 37 with (fail)
    go_cut [7, 8] from 28 to 48 (fun v7 v8 wd => ∃ (fr : Nat) (ok0 : Bool) (l bb : Int), v7 = .int .i64 fr ∧ v8 = .bool ok0 ∧ 1 ≤ fr ∧ fr ≤ 2 ∧ Hid (hdE w0 r (L.drop fr) ok0 l bb) ∧ Hid (wd.heap[p]? = some (.cells #[iv l, iv bb] 52 (0, 0))) ∧ Hid (ValAt wd (some ⟨b, o, none⟩) (L.map sv)) ∧ Hid (Gr w wd))
    case first =>
      cases t
      · have HD : Hid (hdE w0 r (L.drop 1) true 0 0) := by rw [HLc.out]; exact hd_other r HT.out
        go_wp2_with fail
        go_meet
        case rel => exact ⟨1, true, 0, 0, rfl, rfl, by omega, by omega, HD, P2, V2, G2⟩
      · have HO : Hid (w0 = wOwn ∨ w0 = wFree) := HT.out
        by_cases h3 : N = 3
        · have e3 : ((N : Int) == 3) = true := by simp; omega
          obtain ⟨y, z, HR⟩ : ∃ y z, Hid (r = [y, z]) := by
            have h := HNN.out
            rw [HLc.out] at h
            match r, h with
            | [y, z], _ => exact ⟨y, z, rfl⟩
            | [], h => simp at h; omega
            | [_], h => simp at h; omega
            | _ :: _ :: _ :: _, h => simp at h; omega
          have c1 : wc.cell? ⟨b, o + 1, none⟩ = some (sv y) := by
            have := (cells.out wc V2.out 1 (by rw [HNN.out]; omega)).1
            simpa [HLc.out, HR.out] using this
          have hyl : y.length ≤ 100000 := by have := HWL.out y (by rw [HLc.out, HR.out]; simp); simp at this; omega
          have HP := hide (rparse_any y hyl wc)
          have hN3 : (1 : Int) < (N : Int) := by omega
          clear h3 hyl
          go_wp2_with (go_at_call 90; refine HP.out.mono ?_; rintro e w3 ⟨l, bb, ok, rfl, g3', hh'⟩; have G3 := hide g3'; have HH := hide hh'; clear g3' hh'; have P3 := hide ((Below.block G3.out p hpV).trans P2.out); have q0 : w3.cell? ⟨p, 0, none⟩ = some (iv 0) := (cells2 P3.out).1; have q1 : w3.cell? ⟨p, 1, none⟩ = some (iv 0) := (cells2 P3.out).2; have q2 : w3.frozen? ⟨p, 0, none⟩ = false := frozen_of_row w3 p 0 _ _ P3.out; have q3 : w3.frozen? ⟨p, 1, none⟩ = false := frozen_of_row w3 p 1 _ _ P3.out; have q4 : p < w3.heap.size := lt_of_block P3.out)
          have HD : Hid (hdE w0 r (L.drop 2) ok l bb) := by
            rw [HLc.out, HR.out]
            rcases HH.out with ⟨rfl, k, rfl, hp⟩ | ⟨rfl, rfl, rfl, hp⟩
            · exact hd_good HO.out hp
            · exact hd_bad _ HO.out hp
          have hs1 := heap_setCell_same w3 p 0 _ _ (iv l) P3.out
          have hs2 := heap_setCell_same _ p 1 _ _ (iv bb) hs1
          have HS2 : Hid (((w3.setCell ⟨p, 0, none⟩ (iv l)).setCell ⟨p, 1, none⟩ (iv bb)).heap[p]? = some (.cells #[iv l, iv bb] 52 (0, 0))) := hs2
          have HG2 : Hid (Gr w ((w3.setCell ⟨p, 0, none⟩ (iv l)).setCell ⟨p, 1, none⟩ (iv bb))) := ((G2.out.trans G3.out).setCell hpw _).setCell hpw _
          have HV2 : Hid (ValAt ((w3.setCell ⟨p, 0, none⟩ (iv l)).setCell ⟨p, 1, none⟩ (iv bb)) (some ⟨b, o, none⟩) (L.map sv)) := ((V2.out.gr G3.out).other hbp _ _).other hbp _ _
          clear hs1 hs2
          go_meet
          case rel => exact ⟨2, ok, l, bb, rfl, rfl, by omega, by omega, HD, HS2, HV2, HG2⟩
        · have e3 : ((N : Int) == 3) = false := by simp; omega
          have HD : Hid (hdE w0 r (L.drop 2) false 0 0) := hd_short _ HO.out (fun h => by have := HNN.out; rw [HLc.out] at this; simp at this; omega)
          clear h3
          go_wp2_with fail
          go_meet
          case rel => exact ⟨2, false, 0, 0, rfl, rfl, by omega, by omega, HD, P2, V2, G2⟩
    case rest =>
      obtain ⟨fr, ok0, l, bb, rfl, rfl, f1, f2, HD, P3, V3, G3⟩ := hcut
      clear P2 V2 G2 c0 hbV hpV HT t
      obtain ⟨C, hC⟩ : ∃ C, C = wc := ⟨_, rfl⟩
      subst hC
      have hRl : Hid ((L.drop fr).length = N - fr) := by unfold Hid; rw [List.length_drop, HNN.out]
      have LW : Hid (∀ X, Gr w X → Lb X) := fun X g => HL.out.gr (HQ.out.gW.trans g)
      go_upto_block 0 with (fail)
      go_cut [5, 8, 9, 10, 11] from 50 to 81 (fun v5 v8 _ _ _ wz => ∃ (ok : Bool) (m : List Int) (an : Option Addr) (cn : Nat), v8 = .bool ok ∧ v5 = .slice an m.length cn ∧ m.length ≤ 90010 ∧ Hid (OwnZ C wz (.slice an m.length cn) m) ∧ Hid (nuE (L.drop fr) ok0 ok m) ∧ Hid (Gr C wz))
      case first =>
        go_wp2_with fail
        go_loopw [5, 8, 9] (fun v5 v8 v9 wr => ∃ (i : Nat) (ok : Bool) (m : List Int) (an : Option Addr) (cn : Nat), fr ≤ i ∧ (i = fr ∨ i ≤ N) ∧ v9 = .int .i64 (i : Int) ∧ v8 = .bool ok ∧ v5 = .slice an m.length cn ∧ m.length ≤ i ∧ Hid (OwnZ C wr (.slice an m.length cn) m) ∧ Hid (nuI (L.drop fr) (i - fr) ok0 ok m) ∧ Hid (Gr C wr)) (fun _ _ v9 _ => (N + 3 - intOf v9).toNat)
        case atStart => exact ⟨fr, ok0, [], none, 0, by omega, .inl rfl, rfl, rfl, rfl, by simp, OwnV.nil _ _ _, by rw [Nat.sub_self]; exact nuI_zero _ _, Gr.refl _⟩
        case round =>
          obtain ⟨i, ok, m, an, cn, hfi, hiN, rfl, rfl, rfl, hml, HO, HU, GR⟩ := hrel
          by_cases hlt : i < N
          · have hltI : (i : Int) < (N : Int) := by omega
            cases ok
            · have HE := hide (nuI_end HU.out (fun h => by cases h))
              go_wp2_with fail
              go_meet
              case rel => exact ⟨false, m, an, cn, rfl, rfl, by omega, HO, HE, GR⟩
            · have wk : IntKind.i64.wrap ((i : Int) + 1) = (i : Int) + 1 := by rw [IntKind.wrap_i64]; omega
              have hiL : i < L.length := by rw [HNN.out]; exact hlt
              obtain ⟨y, HY⟩ : ∃ y, Hid (L[i] = y) := ⟨_, hide rfl⟩
              have hj : i - fr < (L.drop fr).length := by rw [hRl.out]; omega
              have HYR : Hid ((L.drop fr)[i - fr] = y) := by
                unfold Hid
                rw [List.getElem_drop]
                have : fr + (i - fr) = i := by omega
                simp only [this]
                exact HY.out
              have hyl : y.length ≤ 90000 := by have := HWL.out y (by rw [← HY.out]; exact List.getElem_mem hiL); simp at this; omega
              have hcy : wr.cell? ⟨b, o + i, none⟩ = some (sv y) ∧ b < wr.heap.size := by
                have := cells.out wr (V3.out.gr GR.out) i hiL
                rw [HY.out] at this
                exact this
              obtain ⟨cy, hbw⟩ := hcy
              have HAT := hide (atoi_any (LW.out wr (G3.out.trans GR.out)) ⟨y.toArray⟩ (by rw [size_of_list]; omega))
              go_upto_region 15 with (go_at_call 91; refine HAT.out.mono ?_; rintro e w5 ⟨k, er, rfl, ha', ib', g5'⟩; have HE5 := hide ha'; have IB := hide ib'; have G5 := hide g5'; clear ha' ib' g5')
              have cy5 : w5.cell? ⟨b, o + i, none⟩ = some (sv y) := (Below.cell G5.out (p := ⟨b, o + i, none⟩) hbw).trans cy
              have hb5 : b < w5.heap.size := Nat.lt_of_lt_of_le hbw (Below.size G5.out)
              have HNM := hide (fun (X : World) (g : Gr w5 X) => num_any (LW.out X ((G3.out.trans GR.out).trans (G5.out.trans g))) IB.out)
              clear cy hbw HAT
              go_cut [8] from 67 to 77 (fun v8 wz => ∃ ok' : Bool, v8 = .bool ok' ∧ Hid (nmE y k ok') ∧ Hid (Gr w5 wz))
              case first =>
                have HE6 := HE5.out
                unfold AtoE at HE6
                change (match Lib.atoiAll y with | .ok v => k = v ∧ er = .nilIface | _ => ∃ T N, er = .iface T (pv N)) at HE6
                have HNT : Hid (numT y = match Lib.atoiAll y with | .ok v => if ito v = y then some v else none | _ => none) := rfl
                cases hA : Lib.atoiAll y with
                | ok v =>
                  rw [hA] at HE6 HNT
                  obtain ⟨rfl, rfl⟩ := HE6
                  have hnt : Hid (numT y = if ito k = y then some k else none) := HNT.out
                  clear HNT hA HE5
                  obtain ⟨z, hz⟩ : ∃ z, ito k = z := ⟨_, rfl⟩
                  have HN1 : Hid (∀ d : Ext w5, Calls Tryz.prog 92 #[iv k] d.out fun e w' => e = .returned (sv z) ∧ ∃ d' : Ext d.out, w' = d'.out) := fun d => (HNM.out d.out d.gr).mono fun e w' ⟨he, g⟩ => ⟨by rw [he, hz], ext_mk g⟩
                  rw [hz] at hnt
                  clear hz HNM
                  by_cases hzy : z = y
                  · have ez : (z == y) = true := by simpa using hzy
                    have HF : Hid (nmE y k true) := by show numT y = some k; rw [hnt.out, if_pos hzy]
                    clear hzy hnt
                    refine wp_region_ext (by kernel_rfl) (by kernel_rfl) ?_
                    repeat (go_big_quiet_step ((go_at_call 92; with_reducible exact Calls.ext_of (HN1.out _))))
                    refine wpQuiet_nil ?_
                    rintro _ ⟨d6, rfl⟩
                    go_wp2_with fail
                    go_meet
                    case rel => exact ⟨true, rfl, HF, d6.gr⟩
                  · have ez : (z == y) = false := by simpa using hzy
                    have HF : Hid (nmE y k false) := by show numT y = none; rw [hnt.out, if_neg hzy]
                    clear hzy hnt
                    refine wp_region_ext (by kernel_rfl) (by kernel_rfl) ?_
                    repeat (go_big_quiet_step ((go_at_call 92; with_reducible exact Calls.ext_of (HN1.out _))))
                    refine wpQuiet_nil ?_
                    rintro _ ⟨d6, rfl⟩
                    go_wp2_with fail
                    go_meet
                    case rel => exact ⟨false, rfl, HF, d6.gr⟩
                | «syntax» =>
                  rw [hA] at HE6 HNT
                  obtain ⟨T', N', rfl⟩ := HE6
                  have HF : Hid (nmE y k false) := HNT.out
                  clear HNT hA HE5 HNM
                  refine wp_region_ext (by kernel_rfl) (by kernel_rfl) ?_
                  repeat (go_big_quiet_step (fail))
                  refine wpQuiet_nil ?_
                  rintro _ ⟨d6, rfl⟩
                  go_wp2_with fail
                  go_meet
                  case rel => exact ⟨false, rfl, HF, d6.gr⟩
                | range =>
                  rw [hA] at HE6 HNT
                  obtain ⟨T', N', rfl⟩ := HE6
                  have HF : Hid (nmE y k false) := HNT.out
                  clear HNT hA HE5 HNM
                  refine wp_region_ext (by kernel_rfl) (by kernel_rfl) ?_
                  repeat (go_big_quiet_step (fail))
                  refine wpQuiet_nil ?_
                  rintro _ ⟨d6, rfl⟩
                  go_wp2_with fail
                  go_meet
                  case rel => exact ⟨false, rfl, HF, d6.gr⟩
              case rest =>
                obtain ⟨ok', rfl, HN', G6⟩ := hcut
                obtain ⟨v', w', hrun, hown, hgr⟩ := OwnV.appZ 34 ((HO.out.gr G5.out).gr G6.out) ((GR.out.trans G5.out).trans G6.out) k (by simp; omega)
                have HU1 : Hid (nuI (L.drop fr) (i + 1 - fr) ok0 ok' (m ++ [k])) := by
                  unfold Hid
                  rw [show i + 1 - fr = i - fr + 1 by omega]
                  have h := HN'.out
                  cases ok'
                  · exact nuI_no _ _ hj (by rw [HYR.out]; exact h)
                  · exact nuI_yes HU.out hj (by rw [HYR.out]; exact h)
                have hown2 := ownZ_snoc hown
                obtain ⟨m', hm'⟩ : ∃ m', m ++ [k] = m' := ⟨_, rfl⟩
                have hml' : m'.length ≤ i + 1 := by rw [← hm']; simp; omega
                rw [hm'] at HU1 hown2
                obtain ⟨an', cn', hv', _, _⟩ := hown2.shape
                rw [List.length_map] at hv'
                subst hv'
                have HR := hide hrun
                have HOW := hide hown2
                have HGR := hide hgr
                clear hrun hown hown2 hm' hgr
                go_wp2_with (at_builtin; refine Lib.wpList_append_run _ rfl _ _ _ _ rfl _ _ rfl rfl _ _ HR.out ?_)
                go_roundw
                case rel => exact ⟨i + 1, ok', m', an', cn', by omega, .inr (by omega), by congr 1, rfl, rfl, hml', HOW, HU1, HGR⟩
                case measure => simp [intOf]; omega
          · have hltI : decide ((i : Int) < (N : Int)) = false := decide_eq_false (by omega)
            have HE := hide (nuI_end HU.out (fun _ => by rw [hRl.out]; omega))
            go_wp2_with fail
            go_meet
            case rel => exact ⟨ok, m, an, cn, rfl, rfl, by omega, HO, HE, GR⟩
      case rest =>
        obtain ⟨ok, m, an, cn, rfl, rfl, hml, HO, HE, GR⟩ := hcut
        obtain ⟨C2, hC2⟩ : ∃ C2, C2 = wc := ⟨_, rfl⟩
        subst hC2
        go_upto_region 19 with (fail)
        have t1 := wd_tab C2 9
        have t2 := mn_tab (C2.alloc (.cells (wdL.map sv).toArray 9)) 3
        rw [World.size_alloc] at t2
        refine wp_gen (fun X => Hid (ValAt X (some ⟨C2.heap.size, 0, none⟩) (wdL.map sv)) ∧ Hid (ValAt X (some ⟨C2.heap.size + 1, 0, none⟩) (mnL.map fun (k : Nat) => iv k)) ∧ Hid (Gr C2 X)) ⟨t1.gr ((Gr.refl _).alloc _), t2, ((Gr.refl _).alloc _).alloc _⟩ ?_
        clear t1 t2
        generalize hWb : C2.heap.size = Wb
        generalize hMb : Wb + 1 = Mb
        clear hMb hWb
        rintro X ⟨T1, T2, GX⟩
        have hwG := hide ((G3.out.trans GR.out).trans GX.out)
        have VX := hide (V3.out.gr (GR.out.trans GX.out))
        have PX := hide ((Below.block (GR.out.trans GX.out) p (lt_of_block P3.out)).trans P3.out)
        have OX := hide (HO.out.gr GX.out)
        clear V3 P3 HO
        go_upto_block 2 with (fail)
        go_cut [14, 15] from 84 to 107 (fun v14 _ wz => v14 = .int .i64 (atK w0 m.length 13) ∧ Hid (Gr X wz))
        case first =>
          go_wp2_with fail
          go_loopw [14, 15] (fun v14 v15 wr => ∃ k : Nat, k ≤ 13 ∧ v15 = .int .i64 (k : Int) ∧ v14 = .int .i64 (atK w0 m.length k) ∧ Hid (Gr X wr)) (fun _ v15 _ => 13 - (intOf v15).toNat)
          case atStart => exact ⟨0, by omega, rfl, rfl, Gr.refl _⟩
          case round =>
            obtain ⟨k, hk, rfl, rfl, GK⟩ := hrel
            by_cases hlt : k < 13
            · have hkI : (k : Int) < 13 := by omega
              have hkw : k < wdL.length := hlt
              have hkm : k < mnL.length := hlt
              have a1 := (T1.out.gr GK.out).at' (i := k) (by simpa using hkw)
              have a2 := (T2.out.gr GK.out).at' (i := k) (by simpa using hkm)
              simp only [List.getElem_map, Nat.zero_add] at a1 a2
              have HWK := hide (List.getElem?_eq_getElem hkw)
              have HMK := hide (List.getElem?_eq_getElem hkm)
              generalize wdL[k] = wk at a1 HWK
              generalize mnL[k] = mk at a2 HMK
              have a3 : wr.cell? ⟨b, o, none⟩ = some (sv w0) ∧ b < wr.heap.size := by
                have := cells.out wr (VX.out.gr GK.out) 0 (by rw [HNN.out]; exact hN1)
                simpa [HLc.out] using this
              obtain ⟨a1, b1⟩ := a1
              obtain ⟨a2, b2⟩ := a2
              obtain ⟨a3, b3⟩ := a3
              have wrp : IntKind.i64.wrap ((k : Int) + 1) = (k : Int) + 1 := by rw [IntKind.wrap_i64]; omega
              by_cases h1 : wk = w0
              · have e1 : (wk == w0) = true := by simpa using h1
                by_cases h2 : mk = m.length
                · have e2 : ((mk : Int) == (m.length : Int)) = true := by simp [h2]
                  have HN := hide (at_hit (w := w0) (m := m.length) (k := k) ⟨by rw [HWK.out, h1], by rw [HMK.out, h2]⟩)
                  clear h1 h2
                  go_upto_region 23 with (fail)
                  refine wp_region_ext (by kernel_rfl) (by kernel_rfl) ?_
                  repeat (go_big_quiet_step (fail))
                  refine wpQuiet_nil ?_
                  rintro _ ⟨d6, rfl⟩
                  go_wp2_with fail
                  go_roundw
                  case rel => exact ⟨k + 1, by omega, by congr 1, by rw [HN.out], GK.out.trans d6.gr⟩
                  case measure => simp [intOf]; omega
                · have e2 : ((mk : Int) == (m.length : Int)) = false := by simp; omega
                  have HN := hide (at_miss (w := w0) (m := m.length) (k := k) (fun h => h2 (by have := h.2; rw [HMK.out] at this; exact Option.some.inj this)))
                  clear h1 h2
                  go_upto_region 23 with (fail)
                  refine wp_region_ext (by kernel_rfl) (by kernel_rfl) ?_
                  repeat (go_big_quiet_step (fail))
                  refine wpQuiet_nil ?_
                  rintro _ ⟨d6, rfl⟩
                  go_wp2_with fail
                  go_roundw
                  case rel => exact ⟨k + 1, by omega, by congr 1, by rw [HN.out], GK.out.trans d6.gr⟩
                  case measure => simp [intOf]; omega
              · have e1 : (wk == w0) = false := by simpa using h1
                have HN := hide (at_miss (w := w0) (m := m.length) (k := k) (fun h => h1 (by have := h.1; rw [HWK.out] at this; exact Option.some.inj this)))
                clear h1
                go_upto_region 23 with (fail)
                refine wp_region_ext (by kernel_rfl) (by kernel_rfl) ?_
                repeat (go_big_quiet_step (fail))
                refine wpQuiet_nil ?_
                rintro _ ⟨d6, rfl⟩
                go_wp2_with fail
                go_roundw
                case rel => exact ⟨k + 1, by omega, by congr 1, by rw [HN.out], GK.out.trans d6.gr⟩
                case measure => simp [intOf]; omega
            · have hkI : decide ((k : Int) < 13) = false := decide_eq_false (by omega)
              have HK13 : Hid (k = 13) := by unfold Hid; omega
              go_wp2_with fail
              go_meet
              case rel => exact ⟨by rw [HK13.out], GK⟩
        case rest =>
          obtain ⟨rfl, GZ⟩ := hcut
          obtain ⟨Z, hZ⟩ : ∃ Z, Z = wc := ⟨_, rfl⟩
          subst hZ
          have DZ := hide (HQ.out.gr (hwG.out.trans GZ.out))
          have CZ := hide ((hwG.out.trans GZ.out).chg (ownD D S))
          obtain ⟨q0, q1, q2⟩ := at_bd w0 m.length 13
          obtain ⟨at', HAT⟩ : ∃ at', Hid (atK w0 m.length 13 = at') := ⟨_, hide rfl⟩
          rw [HAT.out] at q0 q1 q2 ⊢
          by_cases hbad : ok = false ∨ at' < 0
          · have HAS : Hid (askW L = .what) := by
              unfold Hid
              rw [HLc.out]
              cases ok
              · exact ask_no HD.out HE.out
              · rcases hbad with h | h
                · cases h
                · rw [ask_yes HD.out HE.out, HAT.out, show at' = -1 by omega]
                  rfl
            have HY := hide (say_any DZ.out.at' [119, 104, 97, 116] (by omega) (by simp))
            have HFIN : Hid (∀ w7, Tells D T Z w7 (told ++ ([119, 104, 97, 116] ++ [10])) → LineO W M B w D T S s n told (askW L) w7) := fun w7 t7 => by
              rw [HAS.out]
              exact ⟨S, (DZ.out.tells t7).more (by omega), CZ.out.trans (t7.chg _)⟩
            cases ok
            · go_wp2_with (go_at_call 93; refine HY.out.mono ?_; rintro e w7 ⟨rfl, t7⟩; have T7 := hide t7; clear t7)
              exact bodyPost_ret (results_none rfl _ _ _) rfl ⟨rfl, HFIN.out _ T7.out⟩
            · have hneg : at' < 0 := by rcases hbad with h | h; cases h; exact h
              go_wp2_with (go_at_call 93; refine HY.out.mono ?_; rintro e w7 ⟨rfl, t7⟩; have T7 := hide t7; clear t7)
              exact bodyPost_ret (results_none rfl _ _ _) rfl ⟨rfl, HFIN.out _ T7.out⟩
          · have hok : ok = true := by cases ok; exact absurd (.inl rfl) hbad; rfl
            subst hok
            have h0 : 0 ≤ at' := by
              rcases Int.lt_or_le at' 0 with h | h
              · exact absurd (.inr h) hbad
              · exact h
            have HAS : Hid (askW L = askI at' m l bb) := by unfold Hid; rw [HLc.out, ask_yes HD.out HE.out, HAT.out]
            have HDO : Hid (∀ (V : World) (_ : Gr Z V) (x : Sp) (l b : Int), Calls Tryz.prog 94 #[pv D, .agg #[iv x.k, iv x.a, iv x.b, iv x.n, iv l, iv b]] V fun e w' => e = .returned (.tuple #[]) ∧ LineO W M B w D T S s n told (.step x l b) w') := fun V g x l b =>
              (rddo_any (DZ.out.gr g) HL.out hn (by omega) x l b).mono fun e w' ⟨he, S', hq, hc⟩ => ⟨he, S', hq, (CZ.out.trans (g.chg _)).trans hc⟩
            have q3 := q2 h0
            clear q2 hbad HE HD q0
            have q2 := q3
            clear q3
            have h13 : at' = 0 ∨ at' = 1 ∨ at' = 2 ∨ at' = 3 ∨ at' = 4 ∨ at' = 5 ∨ at' = 6 ∨ at' = 7 ∨ at' = 8 ∨ at' = 9 ∨ at' = 10 ∨ at' = 11 ∨ at' = 12 := by omega
            rcases h13 with rfl | rfl | rfl | rfl | rfl | rfl | rfl | rfl | rfl | rfl | rfl | rfl | rfl
            · -- wLink
              have hm : m.length = 3 := by have := q2.2; simpa [mnL] using this.symm
              obtain ⟨a0, a1, a2, hmm⟩ : ∃ a0 a1 a2, m = [a0, a1, a2] := by
                match m, hm with
                | [a0, a1, a2], _ => exact ⟨a0, a1, a2, rfl⟩
              subst hmm
              clear hm q2
              have tw : Z.cell? ⟨Wb, 0, none⟩ = some (sv [108, 105, 110, 107]) ∧ Wb < Z.heap.size := by
                have := (T1.out.gr GZ.out).at' (i := 0) (by decide)
                simpa [wdL, wLink] using this
              obtain ⟨tw, twl⟩ := tw
              obtain ⟨an2, cn2, hv2, hva, _⟩ := (OX.out.gr GZ.out).shape
              simp only [List.map_cons, List.map_nil, List.length_cons, List.length_nil, Value.slice.injEq] at hv2
              obtain ⟨hv2, -, -⟩ := hv2
              subst hv2
              obtain ⟨nb, no, hv2⟩ := hva.some' (by simp)
              subst hv2
              have n0 : Z.cell? ⟨nb, no, none⟩ = some (iv a0) := by have := (hva.at' (i := 0) (by simp)).1; simpa using this
              have n1 : Z.cell? ⟨nb, no + 1, none⟩ = some (iv a1) := by have := (hva.at' (i := 1) (by simp)).1; simpa using this
              have n2 : Z.cell? ⟨nb, no + 2, none⟩ = some (iv a2) := by have := (hva.at' (i := 2) (by simp)).1; simpa using this
              have nbl : nb < Z.heap.size := (hva.at' (i := 0) (by simp)).2
              have nbD : nb ≠ D := by
                have h1 := (World.ownsRow.lt (OX.out.gr GZ.out) nb rfl).1
                have h2 := lt_of_block HQ.out.at'
                have h3 := Below.size G3.out
                omega
              clear hva
              have HAS2 : Hid (askW L = .step ⟨1, a0, a1, a2⟩ 0 0) := HAS.out
              go_upto_region 29 with (fail)
              have gd := hide ((Gr.refl Z).drew)
              go_region_with (go_at_call 94; refine (HDO.out _ gd.out ⟨1, a0, a1, a2⟩ 0 0).mono ?_; rintro e w7 ⟨rfl, hl⟩; have HF := hide hl; clear hl)
              all_goals
                go_wp2_with fail
                exact bodyPost_end (results_none rfl _ _ _) rfl ⟨rfl, by rw [HAS2.out]; exact HF.out⟩
            · -- wTick
              have hm : m.length = 1 := by have := q2.2; simpa [mnL] using this.symm
              obtain ⟨a0, hmm⟩ : ∃ a0, m = [a0] := by
                match m, hm with
                | [a0], _ => exact ⟨a0, rfl⟩
              subst hmm
              clear hm q2
              have tw : Z.cell? ⟨Wb, 1, none⟩ = some (sv [116, 105, 99, 107]) ∧ Wb < Z.heap.size := by
                have := (T1.out.gr GZ.out).at' (i := 1) (by decide)
                simpa [wdL, wTick] using this
              obtain ⟨tw, twl⟩ := tw
              obtain ⟨an2, cn2, hv2, hva, _⟩ := (OX.out.gr GZ.out).shape
              simp only [List.map_cons, List.map_nil, List.length_cons, List.length_nil, Value.slice.injEq] at hv2
              obtain ⟨hv2, -, -⟩ := hv2
              subst hv2
              obtain ⟨nb, no, hv2⟩ := hva.some' (by simp)
              subst hv2
              have n0 : Z.cell? ⟨nb, no, none⟩ = some (iv a0) := by have := (hva.at' (i := 0) (by simp)).1; simpa using this
              have nbl : nb < Z.heap.size := (hva.at' (i := 0) (by simp)).2
              have nbD : nb ≠ D := by
                have h1 := (World.ownsRow.lt (OX.out.gr GZ.out) nb rfl).1
                have h2 := lt_of_block HQ.out.at'
                have h3 := Below.size G3.out
                omega
              clear hva
              have HAS2 : Hid (askW L = .step ⟨2, a0, 0, 0⟩ 0 0) := HAS.out
              go_wp2_with (go_at_call 94; refine (HDO.out _ (Gr.refl Z) ⟨2, a0, 0, 0⟩ 0 0).mono ?_; rintro e w7 ⟨rfl, hl⟩; have HF := hide hl; clear hl)
              exact bodyPost_end (results_none rfl _ _ _) rfl ⟨rfl, by rw [HAS2.out]; exact HF.out⟩
            · -- wTell
              have hm : m.length = 2 := by have := q2.2; simpa [mnL] using this.symm
              obtain ⟨a0, a1, hmm⟩ : ∃ a0 a1, m = [a0, a1] := by
                match m, hm with
                | [a0, a1], _ => exact ⟨a0, a1, rfl⟩
              subst hmm
              clear hm q2
              have tw : Z.cell? ⟨Wb, 2, none⟩ = some (sv [116, 101, 108, 108]) ∧ Wb < Z.heap.size := by
                have := (T1.out.gr GZ.out).at' (i := 2) (by decide)
                simpa [wdL, wTell] using this
              obtain ⟨tw, twl⟩ := tw
              obtain ⟨an2, cn2, hv2, hva, _⟩ := (OX.out.gr GZ.out).shape
              simp only [List.map_cons, List.map_nil, List.length_cons, List.length_nil, Value.slice.injEq] at hv2
              obtain ⟨hv2, -, -⟩ := hv2
              subst hv2
              obtain ⟨nb, no, hv2⟩ := hva.some' (by simp)
              subst hv2
              have n0 : Z.cell? ⟨nb, no, none⟩ = some (iv a0) := by have := (hva.at' (i := 0) (by simp)).1; simpa using this
              have n1 : Z.cell? ⟨nb, no + 1, none⟩ = some (iv a1) := by have := (hva.at' (i := 1) (by simp)).1; simpa using this
              have nbl : nb < Z.heap.size := (hva.at' (i := 0) (by simp)).2
              have nbD : nb ≠ D := by
                have h1 := (World.ownsRow.lt (OX.out.gr GZ.out) nb rfl).1
                have h2 := lt_of_block HQ.out.at'
                have h3 := Below.size G3.out
                omega
              clear hva
              have HAS2 : Hid (askW L = .step ⟨3, a0, a1, 0⟩ 0 0) := HAS.out
              go_upto_region 33 with (fail)
              have gd := hide ((Gr.refl Z).drew)
              go_region_with (go_at_call 94; refine (HDO.out _ gd.out ⟨3, a0, a1, 0⟩ 0 0).mono ?_; rintro e w7 ⟨rfl, hl⟩; have HF := hide hl; clear hl)
              all_goals
                go_wp2_with fail
                exact bodyPost_end (results_none rfl _ _ _) rfl ⟨rfl, by rw [HAS2.out]; exact HF.out⟩
            · -- wHear
              have hm : m.length = 1 := by have := q2.2; simpa [mnL] using this.symm
              obtain ⟨a0, hmm⟩ : ∃ a0, m = [a0] := by
                match m, hm with
                | [a0], _ => exact ⟨a0, rfl⟩
              subst hmm
              clear hm q2
              have tw : Z.cell? ⟨Wb, 3, none⟩ = some (sv [104, 101, 97, 114]) ∧ Wb < Z.heap.size := by
                have := (T1.out.gr GZ.out).at' (i := 3) (by decide)
                simpa [wdL, wHear] using this
              obtain ⟨tw, twl⟩ := tw
              obtain ⟨an2, cn2, hv2, hva, _⟩ := (OX.out.gr GZ.out).shape
              simp only [List.map_cons, List.map_nil, List.length_cons, List.length_nil, Value.slice.injEq] at hv2
              obtain ⟨hv2, -, -⟩ := hv2
              subst hv2
              obtain ⟨nb, no, hv2⟩ := hva.some' (by simp)
              subst hv2
              have n0 : Z.cell? ⟨nb, no, none⟩ = some (iv a0) := by have := (hva.at' (i := 0) (by simp)).1; simpa using this
              have nbl : nb < Z.heap.size := (hva.at' (i := 0) (by simp)).2
              have nbD : nb ≠ D := by
                have h1 := (World.ownsRow.lt (OX.out.gr GZ.out) nb rfl).1
                have h2 := lt_of_block HQ.out.at'
                have h3 := Below.size G3.out
                omega
              clear hva
              have HAS2 : Hid (askW L = .step ⟨4, 0, 0, a0⟩ 0 0) := HAS.out
              go_wp2_with (go_at_call 94; refine (HDO.out _ (Gr.refl Z) ⟨4, 0, 0, a0⟩ 0 0).mono ?_; rintro e w7 ⟨rfl, hl⟩; have HF := hide hl; clear hl)
              exact bodyPost_end (results_none rfl _ _ _) rfl ⟨rfl, by rw [HAS2.out]; exact HF.out⟩
            · -- wLose
              have hm : m.length = 1 := by have := q2.2; simpa [mnL] using this.symm
              obtain ⟨a0, hmm⟩ : ∃ a0, m = [a0] := by
                match m, hm with
                | [a0], _ => exact ⟨a0, rfl⟩
              subst hmm
              clear hm q2
              have tw : Z.cell? ⟨Wb, 4, none⟩ = some (sv [108, 111, 115, 101]) ∧ Wb < Z.heap.size := by
                have := (T1.out.gr GZ.out).at' (i := 4) (by decide)
                simpa [wdL, wLose] using this
              obtain ⟨tw, twl⟩ := tw
              obtain ⟨an2, cn2, hv2, hva, _⟩ := (OX.out.gr GZ.out).shape
              simp only [List.map_cons, List.map_nil, List.length_cons, List.length_nil, Value.slice.injEq] at hv2
              obtain ⟨hv2, -, -⟩ := hv2
              subst hv2
              obtain ⟨nb, no, hv2⟩ := hva.some' (by simp)
              subst hv2
              have n0 : Z.cell? ⟨nb, no, none⟩ = some (iv a0) := by have := (hva.at' (i := 0) (by simp)).1; simpa using this
              have nbl : nb < Z.heap.size := (hva.at' (i := 0) (by simp)).2
              have nbD : nb ≠ D := by
                have h1 := (World.ownsRow.lt (OX.out.gr GZ.out) nb rfl).1
                have h2 := lt_of_block HQ.out.at'
                have h3 := Below.size G3.out
                omega
              clear hva
              have HAS2 : Hid (askW L = .step ⟨5, 0, 0, a0⟩ 0 0) := HAS.out
              go_wp2_with (go_at_call 94; refine (HDO.out _ (Gr.refl Z) ⟨5, 0, 0, a0⟩ 0 0).mono ?_; rintro e w7 ⟨rfl, hl⟩; have HF := hide hl; clear hl)
              exact bodyPost_end (results_none rfl _ _ _) rfl ⟨rfl, by rw [HAS2.out]; exact HF.out⟩
            · -- wDouble
              have hm : m.length = 1 := by have := q2.2; simpa [mnL] using this.symm
              obtain ⟨a0, hmm⟩ : ∃ a0, m = [a0] := by
                match m, hm with
                | [a0], _ => exact ⟨a0, rfl⟩
              subst hmm
              clear hm q2
              have tw : Z.cell? ⟨Wb, 5, none⟩ = some (sv [100, 111, 117, 98, 108, 101]) ∧ Wb < Z.heap.size := by
                have := (T1.out.gr GZ.out).at' (i := 5) (by decide)
                simpa [wdL, wDouble] using this
              obtain ⟨tw, twl⟩ := tw
              obtain ⟨an2, cn2, hv2, hva, _⟩ := (OX.out.gr GZ.out).shape
              simp only [List.map_cons, List.map_nil, List.length_cons, List.length_nil, Value.slice.injEq] at hv2
              obtain ⟨hv2, -, -⟩ := hv2
              subst hv2
              obtain ⟨nb, no, hv2⟩ := hva.some' (by simp)
              subst hv2
              have n0 : Z.cell? ⟨nb, no, none⟩ = some (iv a0) := by have := (hva.at' (i := 0) (by simp)).1; simpa using this
              have nbl : nb < Z.heap.size := (hva.at' (i := 0) (by simp)).2
              have nbD : nb ≠ D := by
                have h1 := (World.ownsRow.lt (OX.out.gr GZ.out) nb rfl).1
                have h2 := lt_of_block HQ.out.at'
                have h3 := Below.size G3.out
                omega
              clear hva
              have HAS2 : Hid (askW L = .step ⟨6, 0, 0, a0⟩ 0 0) := HAS.out
              go_wp2_with (go_at_call 94; refine (HDO.out _ (Gr.refl Z) ⟨6, 0, 0, a0⟩ 0 0).mono ?_; rintro e w7 ⟨rfl, hl⟩; have HF := hide hl; clear hl)
              exact bodyPost_end (results_none rfl _ _ _) rfl ⟨rfl, by rw [HAS2.out]; exact HF.out⟩
            · -- wOwn
              have hm : m.length = 1 := by have := q2.2; simpa [mnL] using this.symm
              obtain ⟨a0, hmm⟩ : ∃ a0, m = [a0] := by
                match m, hm with
                | [a0], _ => exact ⟨a0, rfl⟩
              subst hmm
              clear hm q2
              have tw : Z.cell? ⟨Wb, 6, none⟩ = some (sv [111, 119, 110]) ∧ Wb < Z.heap.size := by
                have := (T1.out.gr GZ.out).at' (i := 6) (by decide)
                simpa [wdL, wOwn] using this
              obtain ⟨tw, twl⟩ := tw
              obtain ⟨an2, cn2, hv2, hva, _⟩ := (OX.out.gr GZ.out).shape
              simp only [List.map_cons, List.map_nil, List.length_cons, List.length_nil, Value.slice.injEq] at hv2
              obtain ⟨hv2, -, -⟩ := hv2
              subst hv2
              obtain ⟨nb, no, hv2⟩ := hva.some' (by simp)
              subst hv2
              have n0 : Z.cell? ⟨nb, no, none⟩ = some (iv a0) := by have := (hva.at' (i := 0) (by simp)).1; simpa using this
              have nbl : nb < Z.heap.size := (hva.at' (i := 0) (by simp)).2
              have nbD : nb ≠ D := by
                have h1 := (World.ownsRow.lt (OX.out.gr GZ.out) nb rfl).1
                have h2 := lt_of_block HQ.out.at'
                have h3 := Below.size G3.out
                omega
              clear hva
              have PZ := hide ((Below.block GZ.out p (lt_of_block PX.out)).trans PX.out)
              obtain ⟨x0, x1⟩ := cells2 PZ.out
              have xl : p < Z.heap.size := lt_of_block PZ.out
              have HAS2 : Hid (askW L = .step ⟨7, a0, 0, 1⟩ l bb) := HAS.out
              go_upto_region 41 with (fail)
              have gd := hide ((Gr.refl Z).drew)
              go_region_with (go_at_call 94; refine (HDO.out _ gd.out ⟨7, a0, 0, 1⟩ l bb).mono ?_; rintro e w7 ⟨rfl, hl⟩; have HF := hide hl; clear hl)
              all_goals
                go_wp2_with fail
                exact bodyPost_end (results_none rfl _ _ _) rfl ⟨rfl, by rw [HAS2.out]; exact HF.out⟩
            · -- wFree
              have hm : m.length = 1 := by have := q2.2; simpa [mnL] using this.symm
              obtain ⟨a0, hmm⟩ : ∃ a0, m = [a0] := by
                match m, hm with
                | [a0], _ => exact ⟨a0, rfl⟩
              subst hmm
              clear hm q2
              have tw : Z.cell? ⟨Wb, 7, none⟩ = some (sv [102, 114, 101, 101]) ∧ Wb < Z.heap.size := by
                have := (T1.out.gr GZ.out).at' (i := 7) (by decide)
                simpa [wdL, wFree] using this
              obtain ⟨tw, twl⟩ := tw
              obtain ⟨an2, cn2, hv2, hva, _⟩ := (OX.out.gr GZ.out).shape
              simp only [List.map_cons, List.map_nil, List.length_cons, List.length_nil, Value.slice.injEq] at hv2
              obtain ⟨hv2, -, -⟩ := hv2
              subst hv2
              obtain ⟨nb, no, hv2⟩ := hva.some' (by simp)
              subst hv2
              have n0 : Z.cell? ⟨nb, no, none⟩ = some (iv a0) := by have := (hva.at' (i := 0) (by simp)).1; simpa using this
              have nbl : nb < Z.heap.size := (hva.at' (i := 0) (by simp)).2
              have nbD : nb ≠ D := by
                have h1 := (World.ownsRow.lt (OX.out.gr GZ.out) nb rfl).1
                have h2 := lt_of_block HQ.out.at'
                have h3 := Below.size G3.out
                omega
              clear hva
              have PZ := hide ((Below.block GZ.out p (lt_of_block PX.out)).trans PX.out)
              obtain ⟨x0, x1⟩ := cells2 PZ.out
              have xl : p < Z.heap.size := lt_of_block PZ.out
              have HAS2 : Hid (askW L = .step ⟨7, a0, 0, 0⟩ l bb) := HAS.out
              go_upto_region 43 with (fail)
              have gd := hide ((Gr.refl Z).drew)
              go_region_with (go_at_call 94; refine (HDO.out _ gd.out ⟨7, a0, 0, 0⟩ l bb).mono ?_; rintro e w7 ⟨rfl, hl⟩; have HF := hide hl; clear hl)
              all_goals
                go_wp2_with fail
                exact bodyPost_end (results_none rfl _ _ _) rfl ⟨rfl, by rw [HAS2.out]; exact HF.out⟩
            · -- wWays
              have hm : m.length = 1 := by have := q2.2; simpa [mnL] using this.symm
              rw [hm]
              obtain ⟨a0, hmm⟩ : ∃ a0, m = [a0] := by
                match m, hm with
                | [a0], _ => exact ⟨a0, rfl⟩
              subst hmm
              clear hm q2
              have tw : Z.cell? ⟨Wb, 8, none⟩ = some (sv [119, 97, 121, 115]) ∧ Wb < Z.heap.size := by
                have := (T1.out.gr GZ.out).at' (i := 8) (by decide)
                simpa [wdL, wWays] using this
              obtain ⟨tw, twl⟩ := tw
              obtain ⟨an2, cn2, hv2, hva, _⟩ := (OX.out.gr GZ.out).shape
              simp only [List.map_cons, List.map_nil, List.length_cons, List.length_nil, Value.slice.injEq] at hv2
              obtain ⟨hv2, -, -⟩ := hv2
              subst hv2
              obtain ⟨nb, no, hv2⟩ := hva.some' (by simp)
              subst hv2
              have n0 : Z.cell? ⟨nb, no, none⟩ = some (iv a0) := by have := (hva.at' (i := 0) (by simp)).1; simpa using this
              have nbl : nb < Z.heap.size := (hva.at' (i := 0) (by simp)).2
              have nbD : nb ≠ D := by
                have h1 := (World.ownsRow.lt (OX.out.gr GZ.out) nb rfl).1
                have h2 := lt_of_block HQ.out.at'
                have h3 := Below.size G3.out
                omega
              clear hva
              have HAS2 : Hid (askW L = .ways a0) := HAS.out
              obtain ⟨f, HF⟩ : ∃ f : Nat → Tx, Hid (∀ k : Nat, f k = wayL (wayTn s.t a0 (k : Int)) k) := ⟨_, hide fun _ => rfl⟩
              have HTD : Hid (toldA s (.ways a0) = (List.range 6).flatMap f) := by
                unfold Hid
                rw [show f = fun (k : Nat) => wayL (wayTn s.t a0 (k : Int)) k from funext HF.out]
                rfl
              obtain ⟨Q, V, ao', cp', tl, _⟩ := DZ.out.town
              have HWB := hide (fun (k : Int) => way_bd tl.a tl.g hn a0 k)
              clear tl
              have hfl : ∀ k, k < 7 → (f k).length ≤ 200 := fun k hk => by
                obtain ⟨i1, i2, i3⟩ := HWB.out (k : Int)
                rw [HF.out, way_is]
                have l1 := ito_len (i64_of i1)
                have l2 := ito_len (i64_of i2)
                have l3 := ito_len (i64_of i3)
                have l4 := ito_len (n := (k : Int)) (i64_of ⟨by omega, by omega⟩)
                simp only [List.length_append, List.length_cons, List.length_nil]
                omega
              have HFL := hide hfl
              clear hfl
              go_wp2_with fail
              go_loopw [16] (fun v16 wr => ∃ k : Nat, k ≤ 6 ∧ v16 = .int .i64 (k : Int) ∧ Hid (((List.range k).flatMap f).length ≤ 200 * k) ∧ Hid (Tells D T Z wr (told ++ (List.range k).flatMap f))) (fun v16 _ => 6 - (intOf v16).toNat)
              case atStart => exact ⟨0, by omega, rfl, by simp [Hid], Kp.refl _ _, by simpa using DZ.out.at'⟩
              case round =>
                obtain ⟨k, hk, rfl, HKL, HK⟩ := hrel
                by_cases hlt : k < 6
                · have hkI : (k : Int) < 6 := by omega
                  have wrp : IntKind.i64.wrap ((k : Int) + 1) = (k : Int) + 1 := by rw [IntKind.wrap_i64]; omega
                  have DK := hide (DZ.out.tells HK.out)
                  obtain ⟨d0, d1, _, hDl⟩ := DK.out.at'.cells
                  have n0r : wr.cell? ⟨nb, no, none⟩ = some (iv a0) := (World.cell?_of_block (a := ⟨nb, no, none⟩) (HK.out.kp.block nb nbl nbD)).trans n0
                  have nbr : nb < wr.heap.size := Nat.lt_of_lt_of_le nbl HK.out.kp.size
                  obtain ⟨i1, i2, i3⟩ := HWB.out (k : Int)
                  have HWW : Hid (∀ X, Gr wr X → Calls Tryz.prog 95 #[pv T, iv a0, iv k] X fun e w' => e = .returned (wayV (wayTn s.t a0 (k : Int))) ∧ ∃ d : Ext X, w' = d.out) := fun X g => by
                    obtain ⟨Q, V, ao', cp', tl, _⟩ := (DK.out.gr g).town
                    exact wway_any tl.h a0 k
                  have HFK := hide ((HF.out k).trans (way_is k _))
                  have hfk := HFL.out k (by omega)
                  have HSC := hide (ways_succ f k)
                  unfold wayV at HWW
                  generalize wayTn s.t a0 (k : Int) = wy at HWW i1 i2 i3 HFK
                  obtain ⟨sq, ds, hp⟩ := wy
                  simp only at HWW i1 i2 i3 HFK
                  have j0 := hide (i64_of (n := (k : Int)) ⟨by omega, by omega⟩)
                  have j1 := hide (i64_of i1)
                  have j2 := hide (i64_of i2)
                  have j3 := hide (i64_of i3)
                  clear i1 i2 i3
                  go_upto_region 48 with (fail)
                  go_cut [17] from 197 to 229 (fun v17 wz => ∃ q, v17 = pv q ∧ wr.heap.size ≤ q ∧ Hid (wz.heap[q]? = some (.cells #[iv sq, iv ds, iv hp] 119 (0, 0))) ∧ Hid (Gr wr wz))
                  case first =>
                    have gD := hide ((Gr.refl wr).drew)
                    have gA := hide (((Gr.refl wr).alloc (.cells #[iv 0, iv 0, iv 0] 119)).drew)
                    have HCC : Hid (∀ X, Gr wr X → X.cell? ⟨D, 1, none⟩ = some (pv T) ∧ X.cell? ⟨nb, no, none⟩ = some (iv a0)) := fun X g => ⟨(Below.cell g (p := ⟨D, 1, none⟩) hDl).trans d1, (Below.cell g (p := ⟨nb, no, none⟩) nbr).trans n0r⟩
                    go_region_held3 (fun X => X.cell? ⟨D, 1, none⟩ = some (pv T) ∧ X.cell? ⟨nb, no, none⟩ = some (iv a0)) (first | exact HCC.out _ gD.out | exact HCC.out _ gA.out | exact HCC.out _ (gD.out.trans d5.gr) | exact HCC.out _ (gA.out.trans d5.gr) | exact HCC.out _ ((gD.out.trans d5.gr).alloc _) | exact HCC.out _ ((((gA.out.trans d5.gr).setCell (Nat.le_refl _) _).setCell (Nat.le_refl _) _).setCell (Nat.le_refl _) _) | go_keep)
                      (first
                      | (go_at_call 95; with_reducible refine (HWW.out _ gD.out).mono ?_; rintro e _ ⟨rfl, d5, rfl⟩)
                      | (go_at_call 95; with_reducible refine (HWW.out _ gA.out).mono ?_; rintro e _ ⟨rfl, d5, rfl⟩)
                      | fail)
                    all_goals
                      go_wp2_with fail
                      go_meet
                      case rel => first
                        | exact ⟨_, rfl, Below.size (gD.out.trans d5.gr), heap_alloc_new _ _, (gD.out.trans d5.gr).alloc _⟩
                        | exact ⟨_, rfl, Nat.le_refl _, box3_set _ _ _ ((Below.block d5.gr wr.heap.size (by simp)).trans (heap_alloc_new wr _)), (((((((Gr.refl wr).alloc _).drew).trans d5.gr).setCell (Nat.le_refl _) _).setCell (Nat.le_refl _) _).setCell (Nat.le_refl _) _)⟩
                  case rest =>
                    obtain ⟨q, rfl, hqw, HB, GB⟩ := hcut
                    obtain ⟨Y, hYY⟩ : ∃ Y, Y = wc := ⟨_, rfl⟩
                    subst hYY
                    have hqD : q ≠ D := by omega
                    have hqY : q < Y.heap.size := lt_of_block HB.out
                    have LY : Hid (∀ X, Gr Y X → Lb X) := fun X g => HL.out.gr ((DK.out.gW.trans GB.out).trans g)
                    have l0 := ito_len j0.out
                    have l1 := ito_len j1.out
                    have l2 := ito_len j2.out
                    have l3 := ito_len j3.out
                    have N0 := hide (fun (X : World) (g : Gr Y X) => num_any (LY.out X g) j0.out)
                    have N1 := hide (fun (X : World) (g : Gr Y X) => num_any (LY.out X g) j1.out)
                    have N2 := hide (fun (X : World) (g : Gr Y X) => num_any (LY.out X g) j2.out)
                    have N3 := hide (fun (X : World) (g : Gr Y X) => num_any (LY.out X g) j3.out)
                    generalize ito (k : Int) = x0 at *
                    generalize ito sq = x1 at *
                    generalize ito ds = x2 at *
                    generalize ito hp = x3 at *
                    obtain ⟨s1, E1, e1⟩ := add_first [119, 97, 121, 32] x0 (by simp) (by omega)
                    obtain ⟨s2, s3, E3, e2, e3⟩ := add_more E1 (by simp; omega) x1 (by omega)
                    obtain ⟨s4, s5, E5, e4, e5⟩ := add_more E3 (by simp; omega) x2 (by omega)
                    obtain ⟨s6, s7, E7, e6, e7⟩ := add_more E5 (by simp; omega) x3 (by omega)
                    have hA : (told ++ (List.range k).flatMap f).length ≤ 4000000 := by have := HKL.out; rw [List.length_append]; omega
                    have HY : Hid (∀ X, Gr Y X → Calls Tryz.prog 93 #[pv D, .string s7] X fun e w' => e = .returned (.tuple #[]) ∧ Tells D T X w' ((told ++ (List.range k).flatMap f) ++ f k)) := fun X g => by
                      rw [E7.out, HFK.out]
                      have := say_any ((DK.out.gr (GB.out.trans g)).at') (((([119, 97, 121, 32] ++ x0) ++ 32 :: x1) ++ 32 :: x2) ++ 32 :: x3) hA (by simp; omega)
                      simpa using this
                    have HC : Hid (∀ X, Gr Y X → X.cell? ⟨q, 0, none⟩ = some (iv sq) ∧ X.cell? ⟨q, 1, none⟩ = some (iv ds) ∧ X.cell? ⟨q, 2, none⟩ = some (iv hp)) := fun X g => box3_cells ((Below.block g q hqY).trans HB.out)
                    clear E1 E3 E5 E7
                    have gD := hide ((Gr.refl Y).drew)
                    go_upto_region 49 with (fail)
                    clear HWW
                    go_region_held3 (fun X => X.cell? ⟨q, 0, none⟩ = some (iv sq) ∧ X.cell? ⟨q, 1, none⟩ = some (iv ds) ∧ X.cell? ⟨q, 2, none⟩ = some (iv hp)) (first | exact HC.out _ gD.out | exact HC.out _ G8.out | exact HC.out _ G7.out | exact HC.out _ G6.out | exact HC.out _ G5.out | exact C9.out | go_keep)
                      (first
                      | (go_at_call 92; with_reducible refine (N0.out _ gD.out).mono ?_; rintro e w5 ⟨rfl, g5⟩; have G5 := hide (gD.out.trans g5); clear g5)
                      | (go_at_call 92; with_reducible refine (N1.out _ G5.out).mono ?_; rintro e w6 ⟨rfl, g6⟩; have G6 := hide (G5.out.trans g6); clear g6)
                      | (go_at_call 92; with_reducible refine (N2.out _ G6.out).mono ?_; rintro e w7 ⟨rfl, g7⟩; have G7 := hide (G6.out.trans g7); clear g7)
                      | (go_at_call 92; with_reducible refine (N3.out _ G7.out).mono ?_; rintro e w8 ⟨rfl, g8⟩; have G8 := hide (G7.out.trans g8); clear g8)
                      | (go_at_call 93; refine (HY.out _ G8.out).mono ?_; rintro e w9 ⟨rfl, t9⟩; have T9 := hide t9; clear t9; have C9 : Hid (w9.cell? ⟨q, 0, none⟩ = some (iv sq) ∧ w9.cell? ⟨q, 1, none⟩ = some (iv ds) ∧ w9.cell? ⟨q, 2, none⟩ = some (iv hp)) := box3_cells ((T9.out.kp.block q (Nat.lt_of_lt_of_le hqY (Below.size G8.out)) hqD).trans ((Below.block G8.out q hqY).trans HB.out)))
                      | fail)
                    all_goals
                      go_wp2_with fail
                      go_roundw
                      case rel => exact ⟨k + 1, by omega, by congr 1, by unfold Hid; rw [HSC.out, List.length_append]; have := HKL.out; omega, ((HK.out.kp.trans (GB.out.kp _)).trans (G8.out.kp _)).trans T9.out.kp, by rw [HSC.out, ← List.append_assoc]; exact T9.out.at'⟩
                      case measure => simp [intOf]; omega
                · have hkI : decide ((k : Int) < 6) = false := decide_eq_false (by omega)
                  have HK6 : Hid (k = 6) := by unfold Hid; omega
                  go_wp2_with fail
                  refine bodyPost_end (results_none rfl _ _ _) rfl ⟨rfl, ?_⟩
                  rw [HAS2.out]
                  refine ⟨S, ?_, CZ.out.trans (HK.out.chg _)⟩
                  rw [HTD.out]
                  have := (DZ.out.tells HK.out).more (m := n + 1) (by omega)
                  rw [HK6.out] at this
                  exact this
            · -- wNews
              have hm : m.length = 0 := by have := q2.2; simpa [mnL] using this.symm
              rw [hm]
              have hmm : m = [] := List.eq_nil_of_length_eq_zero hm
              subst hmm
              clear hm q2
              have tw : Z.cell? ⟨Wb, 9, none⟩ = some (sv [110, 101, 119, 115]) ∧ Wb < Z.heap.size := by
                have := (T1.out.gr GZ.out).at' (i := 9) (by decide)
                simpa [wdL, wNews] using this
              obtain ⟨tw, twl⟩ := tw
              have HAS2 : Hid (askW L = .news) := HAS.out
              obtain ⟨nl, HNL⟩ : ∃ nl, Hid (newsL s.t.news = nl) := ⟨_, hide rfl⟩
              have HTD : Hid (toldA s .news = nl.flatMap newL ++ ([101, 110, 100] ++ [10])) := by unfold Hid; rw [← HNL.out]; rfl
              have HNB : Hid (∀ x ∈ nl, i64B x.1 ∧ i64B x.2.1 ∧ i64B x.2.2.1 ∧ i64B x.2.2.2.1 ∧ i64B x.2.2.2.2) := by
                obtain ⟨Q, V, ao', cp', tl, _⟩ := DZ.out.town
                rw [← HNL.out]
                exact news_bd tl.a tl.g hn
              have hnl : nl.length ≤ 40 := by
                obtain ⟨Q, V, ao', cp', tl, _⟩ := DZ.out.town
                rw [← HNL.out]
                have := tl.l
                simpa [newsL] using this
              have HTW : Hid (∀ X, Dq W M B X D T S s n (told ++ []) ∨ (∃ tt, Dq W M B X D T S s n tt) → ∃ vo vc, X.cell? ⟨T, 42, none⟩ = some (.slice vo nl.length vc) ∧ T < X.heap.size ∧ NewsAt X vo nl) := fun X h => by
                obtain ⟨tt, h⟩ : ∃ tt, Dq W M B X D T S s n tt := by rcases h with h | h; exact ⟨_, h⟩; exact h
                obtain ⟨Q, V, ao', cp', tl, _⟩ := h.town
                have hc := tl.h.news
                obtain ⟨vo, vc, hv, hna, _⟩ := NwO.shape tl.h.nw
                rw [hv, HNL.out] at hc
                rw [HNL.out] at hna
                exact ⟨vo, vc, hc, lt_of_block tl.h.blk, hna⟩
              go_wp2_with fail
              go_loopw [18] (fun v18 wr => ∃ k : Nat, k ≤ nl.length ∧ v18 = .int .i64 (k : Int) ∧ Hid (Tells D T Z wr (told ++ (nl.take k).flatMap newL))) (fun v18 _ => nl.length - (intOf v18).toNat)
              case atStart => exact ⟨0, by omega, rfl, Kp.refl _ _, by simpa using DZ.out.at'⟩
              case round =>
                obtain ⟨k, hk, rfl, HK⟩ := hrel
                have DK := hide (DZ.out.tells HK.out)
                obtain ⟨d0, d1, _, hDl⟩ := DK.out.at'.cells
                obtain ⟨vo, vc, t42, hTl, hna⟩ := HTW.out wr (.inr ⟨_, DK.out⟩)
                have hbd := flat_len (f := newL) (N := 200) (l := nl.take k) (fun x hx => new_len (HNB.out x (List.mem_of_mem_take hx)))
                have hbt : (nl.take k).length ≤ 40 := by rw [List.length_take]; omega
                have hA : (told ++ (nl.take k).flatMap newL).length ≤ 4000000 := by rw [List.length_append]; omega
                clear hbd hbt
                by_cases hlt : k < nl.length
                · have hkI : (k : Int) < (nl.length : Int) := by omega
                  have wrp : IntKind.i64.wrap ((k : Int) + 1) = (k : Int) + 1 := by rw [IntKind.wrap_i64]; omega
                  rcases hna with h0 | ⟨vb, vf, hvo, hvl, hcs⟩
                  · exfalso; rw [h0] at hlt; simp at hlt
                  subst hvo
                  obtain ⟨y0, y1, y2, y3, y4⟩ := hcs k hlt
                  have HB5 := HNB.out nl[k] (List.getElem_mem hlt)
                  have HFK := hide (new_is nl[k])
                  have HSC := hide (flat_succ newL hlt)
                  clear hcs
                  generalize nl[k] = xx at y0 y1 y2 y3 y4 HB5 HFK HSC
                  obtain ⟨z0, z1, z2, z3, z4⟩ := xx
                  simp only at y0 y1 y2 y3 y4 HB5 HFK
                  obtain ⟨j0, j1, j2, j3, j4⟩ := HB5
                  have J0 := hide j0
                  have J1 := hide j1
                  have J2 := hide j2
                  have J3 := hide j3
                  have J4 := hide j4
                  clear j0 j1 j2 j3 j4
                  go_upto_region 55 with (fail)
                  have hnew := heap_alloc_new wr (.cells #[iv z0, iv z1, iv z2, iv z3, iv z4] 114)
                  refine wp_gen (fun Y => Hid (Y.heap[wr.heap.size]? = some (.cells #[iv z0, iv z1, iv z2, iv z3, iv z4] 114 (0, 0))) ∧ Hid (Gr wr Y)) ⟨hnew, (Gr.refl wr).alloc _⟩ ?_
                  clear hnew y0 y1 y2 y3 y4 t42
                  obtain ⟨q, hq⟩ : ∃ q, wr.heap.size = q := ⟨_, rfl⟩
                  have hqD : q ≠ D := by omega
                  rw [hq]
                  clear hq
                  rintro Y ⟨HB, GB⟩
                  have hqY : q < Y.heap.size := lt_of_block HB.out
                  have LY : Hid (∀ X, Gr Y X → Lb X) := fun X g => HL.out.gr ((DK.out.gW.trans GB.out).trans g)
                  have l0 := ito_len J0.out
                  have l1 := ito_len J1.out
                  have l2 := ito_len J2.out
                  have l3 := ito_len J3.out
                  have l4 := ito_len J4.out
                  have N0 := hide (fun (X : World) (g : Gr Y X) => num_any (LY.out X g) J0.out)
                  have N1 := hide (fun (X : World) (g : Gr Y X) => num_any (LY.out X g) J1.out)
                  have N2 := hide (fun (X : World) (g : Gr Y X) => num_any (LY.out X g) J2.out)
                  have N3 := hide (fun (X : World) (g : Gr Y X) => num_any (LY.out X g) J3.out)
                  have N4 := hide (fun (X : World) (g : Gr Y X) => num_any (LY.out X g) J4.out)
                  generalize ito z0 = x0 at *
                  generalize ito z1 = x1 at *
                  generalize ito z2 = x2 at *
                  generalize ito z3 = x3 at *
                  generalize ito z4 = x4 at *
                  obtain ⟨s1, E1, e1⟩ := add_first [110, 101, 119, 115, 32] x0 (by simp) (by omega)
                  obtain ⟨s2, s3, E3, e2, e3⟩ := add_more E1 (by simp; omega) x1 (by omega)
                  obtain ⟨s4, s5, E5, e4, e5⟩ := add_more E3 (by simp; omega) x2 (by omega)
                  obtain ⟨s6, s7, E7, e6, e7⟩ := add_more E5 (by simp; omega) x3 (by omega)
                  obtain ⟨s8, s9, E9, e8, e9⟩ := add_more E7 (by simp; omega) x4 (by omega)
                  have HY : Hid (∀ X, Gr Y X → Calls Tryz.prog 93 #[pv D, .string s9] X fun e w' => e = .returned (.tuple #[]) ∧ Tells D T X w' ((told ++ (nl.take k).flatMap newL) ++ newL (z0, z1, z2, z3, z4))) := fun X g => by
                    rw [E9.out, HFK.out]
                    have := say_any ((DK.out.gr (GB.out.trans g)).at') ((((([110, 101, 119, 115, 32] ++ x0) ++ 32 :: x1) ++ 32 :: x2) ++ 32 :: x3) ++ 32 :: x4) hA (by simp; omega)
                    simpa using this
                  have HC : Hid (∀ X, Gr Y X → X.cell? ⟨q, 0, none⟩ = some (iv z0) ∧ X.cell? ⟨q, 1, none⟩ = some (iv z1) ∧ X.cell? ⟨q, 2, none⟩ = some (iv z2) ∧ X.cell? ⟨q, 3, none⟩ = some (iv z3) ∧ X.cell? ⟨q, 4, none⟩ = some (iv z4)) := fun X g => box5_cells ((Below.block g q hqY).trans HB.out)
                  clear E1 E3 E5 E7 E9
                  have gD := hide ((Gr.refl Y).drew)
                  go_region_held3 (fun X => X.cell? ⟨q, 0, none⟩ = some (iv z0) ∧ X.cell? ⟨q, 1, none⟩ = some (iv z1) ∧ X.cell? ⟨q, 2, none⟩ = some (iv z2) ∧ X.cell? ⟨q, 3, none⟩ = some (iv z3) ∧ X.cell? ⟨q, 4, none⟩ = some (iv z4)) (first | exact HC.out _ gD.out | exact HC.out _ G9.out | exact HC.out _ G8.out | exact HC.out _ G7.out | exact HC.out _ G6.out | exact HC.out _ G5.out | exact C9.out | go_keep)
                    (first
                    | (go_at_call 92; with_reducible refine (N0.out _ gD.out).mono ?_; rintro e w5 ⟨rfl, g5⟩; have G5 := hide (gD.out.trans g5); clear g5)
                    | (go_at_call 92; with_reducible refine (N1.out _ G5.out).mono ?_; rintro e w6 ⟨rfl, g6⟩; have G6 := hide (G5.out.trans g6); clear g6)
                    | (go_at_call 92; with_reducible refine (N2.out _ G6.out).mono ?_; rintro e w7 ⟨rfl, g7⟩; have G7 := hide (G6.out.trans g7); clear g7)
                    | (go_at_call 92; with_reducible refine (N3.out _ G7.out).mono ?_; rintro e w8 ⟨rfl, g8⟩; have G8 := hide (G7.out.trans g8); clear g8)
                    | (go_at_call 92; with_reducible refine (N4.out _ G8.out).mono ?_; rintro e w9 ⟨rfl, g9⟩; have G9 := hide (G8.out.trans g9); clear g9)
                    | (go_at_call 93; refine (HY.out _ G9.out).mono ?_; rintro e w10 ⟨rfl, t9⟩; have T9 := hide t9; clear t9; have C9 : Hid (w10.cell? ⟨q, 0, none⟩ = some (iv z0) ∧ w10.cell? ⟨q, 1, none⟩ = some (iv z1) ∧ w10.cell? ⟨q, 2, none⟩ = some (iv z2) ∧ w10.cell? ⟨q, 3, none⟩ = some (iv z3) ∧ w10.cell? ⟨q, 4, none⟩ = some (iv z4)) := box5_cells ((T9.out.kp.block q (Nat.lt_of_lt_of_le hqY (Below.size G9.out)) hqD).trans ((Below.block G9.out q hqY).trans HB.out)))
                    | fail)
                  all_goals
                    go_wp2_with fail
                    go_roundw
                    case rel => exact ⟨k + 1, by omega, by congr 1, ((HK.out.kp.trans (GB.out.kp _)).trans (G9.out.kp _)).trans T9.out.kp, by rw [HSC.out, ← List.append_assoc]; exact T9.out.at'⟩
                    case measure => simp [intOf]; omega
                · have hkI : decide ((k : Int) < (nl.length : Int)) = false := decide_eq_false (by omega)
                  have HE : Hid (nl.take k = nl) := List.take_of_length_le (by omega)
                  have HY := hide (say_any DK.out.at' [101, 110, 100] hA (by simp))
                  go_wp2_with (go_at_call 93; refine HY.out.mono ?_; rintro e w7 ⟨rfl, t7⟩; have T7 := hide t7; clear t7)
                  refine bodyPost_end (results_none rfl _ _ _) rfl ⟨rfl, ?_⟩
                  rw [HAS2.out]
                  refine ⟨S, ?_, CZ.out.trans ((HK.out.chg _).trans (T7.out.chg _))⟩
                  rw [HTD.out]
                  have := (DK.out.tells T7.out).more (m := n + 1) (by omega)
                  rw [HE.out, List.append_assoc] at this
                  exact this
            · -- wFull
              have hm : m.length = 1 := by have := q2.2; simpa [mnL] using this.symm
              obtain ⟨a0, hmm⟩ : ∃ a0, m = [a0] := by
                match m, hm with
                | [a0], _ => exact ⟨a0, rfl⟩
              subst hmm
              clear hm q2
              have tw : Z.cell? ⟨Wb, 10, none⟩ = some (sv [102, 117, 108, 108]) ∧ Wb < Z.heap.size := by
                have := (T1.out.gr GZ.out).at' (i := 10) (by decide)
                simpa [wdL, wFull] using this
              obtain ⟨tw, twl⟩ := tw
              obtain ⟨an2, cn2, hv2, hva, _⟩ := (OX.out.gr GZ.out).shape
              simp only [List.map_cons, List.map_nil, List.length_cons, List.length_nil, Value.slice.injEq] at hv2
              obtain ⟨hv2, -, -⟩ := hv2
              subst hv2
              obtain ⟨nb, no, hv2⟩ := hva.some' (by simp)
              subst hv2
              have n0 : Z.cell? ⟨nb, no, none⟩ = some (iv a0) := by have := (hva.at' (i := 0) (by simp)).1; simpa using this
              have nbl : nb < Z.heap.size := (hva.at' (i := 0) (by simp)).2
              have nbD : nb ≠ D := by
                have h1 := (World.ownsRow.lt (OX.out.gr GZ.out) nb rfl).1
                have h2 := lt_of_block HQ.out.at'
                have h3 := Below.size G3.out
                omega
              clear hva
              have HAS2 : Hid (askW L = .full a0) := HAS.out
              have HQA : Hid (TnA s.t s.c) := by
                obtain ⟨Q, V, ao', cp', tl, _⟩ := HQ.out.town
                exact tl.a
              obtain ⟨fl, HFL⟩ : ∃ fl, Hid (fullL s.t a0 s.rs = fl) := ⟨_, hide rfl⟩
              have HTB : Hid (Tab fl) := by rw [← HFL.out]; exact full_tab HQA.out a0 HQ.out.ows.tab
              have HTD : Hid (toldA s (.full a0) = tabT a0 fl) := by unfold Hid; rw [← HFL.out]; rfl
              have HFU : Hid (∀ X, Gr Z X → Calls Tryz.prog 97 #[pv T, iv a0] X fun e w' => ∃ ao cp, e = .returned (.slice ao fl.length cp) ∧ RowAt w' (fun b => b ≠ D) ao fl ∧ Gr X w') := fun X g => by
                have h := DZ.out.gr g
                rw [← HFL.out]
                refine (h.town.wfull (by have := h.ows.tab.len; omega) a0).mono ?_
                rintro e w' ⟨u, rfl, ho, hg⟩
                obtain ⟨ao, cp, rfl, hr⟩ := own_at ho (lt_of_block h.at')
                exact ⟨ao, cp, rfl, hr, hg⟩
              have hfl := HTB.out.len
              have HTA : Hid (∀ (X : World) (_ : Gr Z X) (ao : Option Addr) (cp : Nat), RowAt X (fun b => b ≠ D) ao fl → Calls Tryz.prog 96 #[pv D, iv a0, .slice ao fl.length cp] X fun e w' => e = .returned (.tuple #[]) ∧ Tells D T X w' (told ++ tabT a0 fl)) := fun X g ao cp hr =>
                table_any (DZ.out.gr g).at' HL.out (DZ.out.gr g).gW DZ.out.hD a0 hr HTB.out.len (tab_i64 HTB.out) (by omega)
              obtain ⟨d0, d1, _, hDl⟩ := DZ.out.at'.cells
              have HCC : Hid (∀ X, Gr Z X → X.cell? ⟨D, 1, none⟩ = some (pv T) ∧ X.cell? ⟨nb, no, none⟩ = some (iv a0)) := fun X g => ⟨(Below.cell g (p := ⟨D, 1, none⟩) hDl).trans d1, (Below.cell g (p := ⟨nb, no, none⟩) nbl).trans n0⟩
              go_upto_region 58 with (fail)
              have gD := hide ((Gr.refl Z).drew)
              go_region_held3 (fun X => X.cell? ⟨D, 1, none⟩ = some (pv T) ∧ X.cell? ⟨nb, no, none⟩ = some (iv a0)) (first | exact HCC.out _ gD.out | exact HCC.out _ G5.out | exact C9.out | go_keep)
                (first
                | (go_at_call 97; with_reducible refine (HFU.out _ gD.out).mono ?_; rintro e w5 ⟨ao5, cp5, rfl, r5, g5⟩; have R5 := hide r5; have G5 := hide (gD.out.trans g5); clear r5 g5)
                | (go_at_call 96; refine (HTA.out _ G5.out ao5 cp5 R5.out).mono ?_; rintro e w9 ⟨rfl, t9⟩; have T9 := hide t9; clear t9; have C9 : Hid (w9.cell? ⟨D, 1, none⟩ = some (pv T) ∧ w9.cell? ⟨nb, no, none⟩ = some (iv a0)) := ⟨T9.out.at'.cells.2.1, (World.cell?_of_block (a := ⟨nb, no, none⟩) (T9.out.kp.block nb (Nat.lt_of_lt_of_le nbl (Below.size G5.out)) nbD)).trans (HCC.out _ G5.out).2⟩)
                | fail)
              all_goals
                go_wp2_with fail
                refine bodyPost_end (results_none rfl _ _ _) rfl ⟨rfl, ?_⟩
                rw [HAS2.out]
                refine ⟨S, ?_, (CZ.out.trans (G5.out.chg _)).trans (T9.out.chg _)⟩
                rw [HTD.out]
                exact ((DZ.out.gr G5.out).tells T9.out).more (m := n + 1) (by omega)
            · -- wSmall
              have hm : m.length = 1 := by have := q2.2; simpa [mnL] using this.symm
              obtain ⟨a0, hmm⟩ : ∃ a0, m = [a0] := by
                match m, hm with
                | [a0], _ => exact ⟨a0, rfl⟩
              subst hmm
              clear hm q2
              have tw : Z.cell? ⟨Wb, 11, none⟩ = some (sv [115, 109, 97, 108, 108]) ∧ Wb < Z.heap.size := by
                have := (T1.out.gr GZ.out).at' (i := 11) (by decide)
                simpa [wdL, wSmall] using this
              obtain ⟨tw, twl⟩ := tw
              obtain ⟨an2, cn2, hv2, hva, _⟩ := (OX.out.gr GZ.out).shape
              simp only [List.map_cons, List.map_nil, List.length_cons, List.length_nil, Value.slice.injEq] at hv2
              obtain ⟨hv2, -, -⟩ := hv2
              subst hv2
              obtain ⟨nb, no, hv2⟩ := hva.some' (by simp)
              subst hv2
              have n0 : Z.cell? ⟨nb, no, none⟩ = some (iv a0) := by have := (hva.at' (i := 0) (by simp)).1; simpa using this
              have nbl : nb < Z.heap.size := (hva.at' (i := 0) (by simp)).2
              have nbD : nb ≠ D := by
                have h1 := (World.ownsRow.lt (OX.out.gr GZ.out) nb rfl).1
                have h2 := lt_of_block HQ.out.at'
                have h3 := Below.size G3.out
                omega
              clear hva
              have HAS2 : Hid (askW L = .small a0) := HAS.out
              have HQA : Hid (TnA s.t s.c) := by
                obtain ⟨Q, V, ao', cp', tl, _⟩ := HQ.out.town
                exact tl.a
              obtain ⟨fl, HFL⟩ : ∃ fl, Hid (lstL (fullL s.t a0 s.rs) = fl) := ⟨_, hide rfl⟩
              have HTB : Hid (Tab fl) := by rw [← HFL.out]; exact lst_tab (full_tab HQA.out a0 HQ.out.ows.tab)
              have HTD : Hid (toldA s (.small a0) = tabT a0 fl) := by unfold Hid; rw [← HFL.out]; rfl
              have HFU : Hid (∀ X, Gr Z X → Calls Tryz.prog 98 #[pv T, iv a0] X fun e w' => ∃ ao cp, e = .returned (.slice ao fl.length cp) ∧ RowAt w' (fun b => b ≠ D) ao fl ∧ Gr X w') := fun X g => by
                have h := DZ.out.gr g
                rw [← HFL.out]
                refine (h.town.wsmall h.ows.tab a0).mono ?_
                rintro e w' ⟨u, rfl, ho, hg⟩
                obtain ⟨ao, cp, rfl, hr⟩ := own_at ho (lt_of_block h.at')
                exact ⟨ao, cp, rfl, hr, hg⟩
              have hfl := HTB.out.len
              have HTA : Hid (∀ (X : World) (_ : Gr Z X) (ao : Option Addr) (cp : Nat), RowAt X (fun b => b ≠ D) ao fl → Calls Tryz.prog 96 #[pv D, iv a0, .slice ao fl.length cp] X fun e w' => e = .returned (.tuple #[]) ∧ Tells D T X w' (told ++ tabT a0 fl)) := fun X g ao cp hr =>
                table_any (DZ.out.gr g).at' HL.out (DZ.out.gr g).gW DZ.out.hD a0 hr HTB.out.len (tab_i64 HTB.out) (by omega)
              obtain ⟨d0, d1, _, hDl⟩ := DZ.out.at'.cells
              have HCC : Hid (∀ X, Gr Z X → X.cell? ⟨D, 1, none⟩ = some (pv T) ∧ X.cell? ⟨nb, no, none⟩ = some (iv a0)) := fun X g => ⟨(Below.cell g (p := ⟨D, 1, none⟩) hDl).trans d1, (Below.cell g (p := ⟨nb, no, none⟩) nbl).trans n0⟩
              go_upto_region 60 with (fail)
              have gD := hide ((Gr.refl Z).drew)
              go_region_held3 (fun X => X.cell? ⟨D, 1, none⟩ = some (pv T) ∧ X.cell? ⟨nb, no, none⟩ = some (iv a0)) (first | exact HCC.out _ gD.out | exact HCC.out _ G5.out | exact C9.out | go_keep)
                (first
                | (go_at_call 98; with_reducible refine (HFU.out _ gD.out).mono ?_; rintro e w5 ⟨ao5, cp5, rfl, r5, g5⟩; have R5 := hide r5; have G5 := hide (gD.out.trans g5); clear r5 g5)
                | (go_at_call 96; refine (HTA.out _ G5.out ao5 cp5 R5.out).mono ?_; rintro e w9 ⟨rfl, t9⟩; have T9 := hide t9; clear t9; have C9 : Hid (w9.cell? ⟨D, 1, none⟩ = some (pv T) ∧ w9.cell? ⟨nb, no, none⟩ = some (iv a0)) := ⟨T9.out.at'.cells.2.1, (World.cell?_of_block (a := ⟨nb, no, none⟩) (T9.out.kp.block nb (Nat.lt_of_lt_of_le nbl (Below.size G5.out)) nbD)).trans (HCC.out _ G5.out).2⟩)
                | fail)
              all_goals
                go_wp2_with fail
                refine bodyPost_end (results_none rfl _ _ _) rfl ⟨rfl, ?_⟩
                rw [HAS2.out]
                refine ⟨S, ?_, (CZ.out.trans (G5.out.chg _)).trans (T9.out.chg _)⟩
                rw [HTD.out]
                exact ((DZ.out.gr G5.out).tells T9.out).more (m := n + 1) (by omega)
            · -- wLetter
              have hm : m.length = 2 := by have := q2.2; simpa [mnL] using this.symm
              rw [hm]
              obtain ⟨a0, a1, hmm⟩ : ∃ a0 a1, m = [a0, a1] := by
                match m, hm with
                | [a0, a1], _ => exact ⟨a0, a1, rfl⟩
              subst hmm
              clear hm q2
              have tw : Z.cell? ⟨Wb, 12, none⟩ = some (sv [108, 101, 116, 116, 101, 114]) ∧ Wb < Z.heap.size := by
                have := (T1.out.gr GZ.out).at' (i := 12) (by decide)
                simpa [wdL, wLetter] using this
              obtain ⟨tw, twl⟩ := tw
              obtain ⟨an2, cn2, hv2, hva, _⟩ := (OX.out.gr GZ.out).shape
              simp only [List.map_cons, List.map_nil, List.length_cons, List.length_nil, Value.slice.injEq] at hv2
              obtain ⟨hv2, -, -⟩ := hv2
              subst hv2
              obtain ⟨nb, no, hv2⟩ := hva.some' (by simp)
              subst hv2
              have n0 : Z.cell? ⟨nb, no, none⟩ = some (iv a0) := by have := (hva.at' (i := 0) (by simp)).1; simpa using this
              have n1 : Z.cell? ⟨nb, no + 1, none⟩ = some (iv a1) := by have := (hva.at' (i := 1) (by simp)).1; simpa using this
              have nbl : nb < Z.heap.size := (hva.at' (i := 0) (by simp)).2
              have nbD : nb ≠ D := by
                have h1 := (World.ownsRow.lt (OX.out.gr GZ.out) nb rfl).1
                have h2 := lt_of_block HQ.out.at'
                have h3 := Below.size G3.out
                omega
              clear hva
              have HAS2 : Hid (askW L = .letter a0 a1) := HAS.out
              obtain ⟨lt, kk, ee, HGN⟩ : ∃ lt kk ee, Hid (goN (letH s.t s.rs a1) (fun u v => (s.c u v : Int)) 7 a0 [] 0 = (lt, kk, ee)) := ⟨_, _, _, hide rfl⟩
              have HQA : Hid (TnA s.t s.c) := by
                obtain ⟨Q, V, ao', cp', tl, _⟩ := HQ.out.town
                exact tl.a
              obtain ⟨hl6, hly, ik, ie⟩ := trip_bd HQA.out HQ.out.ows a1 a0 HGN.out
              have HTD : Hid (toldA s (.letter a0 a1) = trpT (lt, kk, ee)) := by unfold Hid; rw [← HGN.out]; rfl
              have HTI := hide (trip_is lt kk ee)
              have HLY := hide hly
              have IK := hide ik
              have IE := hide ie
              have HGO : Hid (∀ X, Gr Z X → Calls Tryz.prog 99 #[pv T, iv a0, iv a1, .bool true] X fun e w' => TripO X w' e lt kk ee) := fun X g => (DZ.out.gr g).town.go (DZ.out.gr g).ows a0 a1 true HGN.out
              clear hly ik ie
              obtain ⟨d0, d1, _, hDl⟩ := DZ.out.at'.cells
              go_upto_region 62 with (fail)
              go_cut [20] from 314 to 324 (fun v20 wz => ∃ q ao cp, v20 = pv q ∧ Z.heap.size ≤ q ∧ Hid (wz.heap[q]? = some (.cells #[.slice ao lt.length cp, iv kk, iv ee] 166 (0, 0))) ∧ Hid (NmAt wz ao lt) ∧ Hid (Gr Z wz))
              case first =>
                have gD := hide ((Gr.refl Z).drew)
                have gA := hide (((Gr.refl Z).alloc (.cells #[.slice none 0 0, iv 0, iv 0] 166)).drew)
                have HCC : Hid (∀ X, Gr Z X → X.cell? ⟨D, 1, none⟩ = some (pv T) ∧ X.cell? ⟨nb, no, none⟩ = some (iv a0) ∧ X.cell? ⟨nb, no + 1, none⟩ = some (iv a1)) := fun X g => ⟨(Below.cell g (p := ⟨D, 1, none⟩) hDl).trans d1, (Below.cell g (p := ⟨nb, no, none⟩) nbl).trans n0, (Below.cell g (p := ⟨nb, no + 1, none⟩) nbl).trans n1⟩
                go_region_held3 (fun X => X.cell? ⟨D, 1, none⟩ = some (pv T) ∧ X.cell? ⟨nb, no, none⟩ = some (iv a0) ∧ X.cell? ⟨nb, no + 1, none⟩ = some (iv a1)) (first | exact HCC.out _ gD.out | exact HCC.out _ gA.out | exact HCC.out _ (gD.out.trans d5.gr) | exact HCC.out _ (gA.out.trans d5.gr) | exact HCC.out _ ((gD.out.trans d5.gr).alloc _) | exact HCC.out _ ((((gA.out.trans d5.gr).setCell (Nat.le_refl _) _).setCell (Nat.le_refl _) _).setCell (Nat.le_refl _) _) | go_keep)
                  (first
                  | (go_at_call 99; (with_reducible refine (HGO.out _ gD.out).mono ?_); rintro e w5 ⟨ao5, cp5, rfl, ⟨nm5, yg5, _⟩, g5⟩; obtain ⟨d5, hd5⟩ := ext_mk g5; subst hd5; have NM5 := hide nm5; have YG5 := hide yg5; clear nm5 yg5 g5)
                  | (go_at_call 99; (with_reducible refine (HGO.out _ gA.out).mono ?_); rintro e w5 ⟨ao5, cp5, rfl, ⟨nm5, yg5, _⟩, g5⟩; obtain ⟨d5, hd5⟩ := ext_mk g5; subst hd5; have NM5 := hide nm5; have YG5 := hide yg5; clear nm5 yg5 g5)
                  | fail)
                all_goals
                  go_wp2_with fail
                  go_meet
                  case rel => first
                    | exact ⟨_, ao5, cp5, rfl, Below.size (gD.out.trans d5.gr), heap_alloc_new _ _, NM5.out.gr ((Gr.refl _).alloc _), (gD.out.trans d5.gr).alloc _⟩
                    | exact ⟨_, ao5, cp5, rfl, Nat.le_refl _, box3_set _ _ _ ((Below.block d5.gr Z.heap.size (by simp)).trans (heap_alloc_new Z _)),
                        (((NM5.out.other (fun b o e => by have := YG5.out b o e; simp at this; omega) _ _).other (fun b o e => by have := YG5.out b o e; simp at this; omega) _ _).other (fun b o e => by have := YG5.out b o e; simp at this; omega) _ _),
                        (((((((Gr.refl Z).alloc _).drew).trans d5.gr).setCell (Nat.le_refl _) _).setCell (Nat.le_refl _) _).setCell (Nat.le_refl _) _)⟩
              case rest =>
                obtain ⟨q, ao, cp2, rfl, hqw, HB, HNM, GB⟩ := hcut
                obtain ⟨Y, hYY⟩ : ∃ Y, Y = wc := ⟨_, rfl⟩
                subst hYY
                have hqD : q ≠ D := by omega
                have hqY : q < Y.heap.size := lt_of_block HB.out
                have LY : Hid (∀ X, Gr Y X → Lb X) := fun X g => HL.out.gr ((DZ.out.gW.trans GB.out).trans g)
                have l0 := ito_len IE.out
                have l1 := ito_len IK.out
                have N0 := hide (fun (X : World) (g : Gr Y X) => num_any (LY.out X g) IE.out)
                have N1 := hide (fun (X : World) (g : Gr Y X) => num_any (LY.out X g) IK.out)
                generalize ito ee = x0 at *
                generalize ito kk = x1 at *
                obtain ⟨s1, E1, e1⟩ := add_first [116, 114, 105, 112, 32] x0 (by simp) (by omega)
                obtain ⟨s2, s3, E3, e2, e3⟩ := add_more E1 (by simp; omega) x1 (by omega)
                obtain ⟨A, HAA⟩ : ∃ A, Hid (([116, 114, 105, 112, 32] ++ x0) ++ 32 :: x1 = A) := ⟨_, hide rfl⟩
                have hAl : A.length ≤ 100 := by rw [← HAA.out]; simp; omega
                rw [HAA.out] at E3 HTI
                have HC : Hid (∀ X, Gr Y X → X.cell? ⟨q, 1, none⟩ = some (iv kk) ∧ X.cell? ⟨q, 2, none⟩ = some (iv ee)) := fun X g => (box3_cells ((Below.block g q hqY).trans HB.out)).2
                clear E1
                have gD := hide ((Gr.refl Y).drew)
                go_upto_region 63 with (fail)
                go_cut [21] from 325 to 333 (fun v21 wz => v21 = .string s3 ∧ Hid (Gr Y wz))
                case first =>
                  go_region_held3 (fun X => X.cell? ⟨q, 1, none⟩ = some (iv kk) ∧ X.cell? ⟨q, 2, none⟩ = some (iv ee)) (first | exact HC.out _ gD.out | exact HC.out _ G6.out | exact HC.out _ G5.out | go_keep)
                    (first
                    | (go_at_call 92; with_reducible refine (N0.out _ gD.out).mono ?_; rintro e w5 ⟨rfl, g5⟩; have G5 := hide (gD.out.trans g5); clear g5)
                    | (go_at_call 92; with_reducible refine (N1.out _ G5.out).mono ?_; rintro e w6 ⟨rfl, g6⟩; have G6 := hide (G5.out.trans g6); clear g6)
                    | fail)
                  all_goals
                    go_wp2_with fail
                    go_meet
                    case rel => exact ⟨rfl, G6⟩
                case rest =>
                  obtain ⟨rfl, G6⟩ := hcut
                  obtain ⟨Y2, hY2⟩ : ∃ Y2, Y2 = wc := ⟨_, rfl⟩
                  subst hY2
                  obtain ⟨f, HF⟩ : ∃ f : Nat → Tx, Hid (f = fun (y : Nat) => 32 :: ito y) := ⟨_, hide rfl⟩
                  rw [← HF.out] at HTI
                  have HFL : Hid (∀ y ∈ lt, (f y).length ≤ 30) := fun y hy => by
                    rw [HF.out]
                    have := ito_len (n := (y : Int)) (i64_of ⟨by have := HLY.out y hy; omega, by have := HLY.out y hy; omega⟩)
                    simp only [List.length_cons]
                    omega
                  clear e1 e2 e3 HC N0 N1
                  go_wp2_with fail
                  go_loopw [21, 22] (fun v21 v22 wr => ∃ (k : Nat) (sk : ByteArray), k ≤ lt.length ∧ v22 = .int .i64 (k : Int) ∧ v21 = .string sk ∧ Hid (sk = ⟨(A ++ (lt.take k).flatMap f).toArray⟩) ∧ Hid (Gr Y2 wr)) (fun _ v22 _ => lt.length - (intOf v22).toNat)
                  case atStart => exact ⟨0, s3, by omega, rfl, rfl, by simpa using E3, Gr.refl _⟩
                  case round =>
                    obtain ⟨k, sk, hk, rfl, rfl, HSK, GK⟩ := hrel
                    have hbd := flat_len (f := f) (N := 30) (l := lt.take k) (fun x hx => HFL.out x (List.mem_of_mem_take hx))
                    have hbt : (lt.take k).length ≤ 6 := by rw [List.length_take]; omega
                    have hsk : sk.size ≤ 300 := by rw [HSK.out, size_of_list, List.length_append]; omega
                    obtain ⟨b0, b1, b2⟩ := box3_cells ((Below.block (G6.out.trans GK.out) q hqY).trans HB.out)
                    have hqr : q < wr.heap.size := Nat.lt_of_lt_of_le hqY (Below.size (G6.out.trans GK.out))
                    by_cases hlt : k < lt.length
                    · have hkI : (k : Int) < (lt.length : Int) := by omega
                      have wrp : IntKind.i64.wrap ((k : Int) + 1) = (k : Int) + 1 := by rw [IntKind.wrap_i64]; omega
                      rcases HNM.out.gr (G6.out.trans GK.out) with h0 | ⟨vb, vf, hvo, hvl, hcs⟩
                      · exfalso; rw [h0] at hlt; simp at hlt
                      subst hvo
                      have y0 := hcs k hlt
                      have HSC := hide (flat_succ f hlt)
                      have iy := i64_of (n := ((lt[k] : Nat) : Int)) ⟨by have := HLY.out lt[k] (List.getElem_mem hlt); omega, by have := HLY.out lt[k] (List.getElem_mem hlt); omega⟩
                      have HFK : Hid (f lt[k] = 32 :: ito ((lt[k] : Nat) : Int)) := by unfold Hid; rw [HF.out]
                      clear hcs
                      generalize lt[k] = yy at y0 HSC iy HFK
                      have ly := ito_len iy
                      have NY := hide (num_any (LY.out wr (G6.out.trans GK.out)) iy)
                      generalize ito (yy : Int) = xy at *
                      obtain ⟨u1, U1, f1⟩ := add_run ⟨#[32]⟩ ⟨xy.toArray⟩ (by rw [size_of_list]; simp [ByteArray.size]; omega)
                      have hu1 : Hid (u1 = ⟨(32 :: xy).toArray⟩) := by
                        unfold Hid
                        rw [U1.out, show (⟨#[32]⟩ : ByteArray) = ⟨[32].toArray⟩ from rfl, cat]
                        rfl
                      have hz1 : u1.size = xy.length + 1 := by rw [hu1.out, size_of_list]; rfl
                      obtain ⟨u2, U2, f2⟩ := add_run sk u1 (by rw [hz1]; omega)
                      have hu2 : Hid (u2 = ⟨(A ++ (lt.take (k + 1)).flatMap f).toArray⟩) := by
                        unfold Hid
                        rw [U2.out, hu1.out, HSK.out, cat, HSC.out, HFK.out, List.append_assoc]
                      clear U1 U2 hu1 iy hz1
                      go_wp2_with (go_at_call 92; refine NY.out.mono ?_; rintro e w5 ⟨rfl, g5⟩; have G9 := hide g5; clear g5)
                      go_roundw
                      case rel => exact ⟨k + 1, u2, by omega, by congr 1, rfl, hu2, GK.out.trans G9.out⟩
                      case measure => simp [intOf]; omega
                    · have hkI : decide ((k : Int) < (lt.length : Int)) = false := decide_eq_false (by omega)
                      have HE : Hid (lt.take k = lt) := List.take_of_length_le (by omega)
                      have HY : Hid (Calls Tryz.prog 93 #[pv D, .string sk] wr fun e w' => e = .returned (.tuple #[]) ∧ Tells D T wr w' (told ++ trpT (lt, kk, ee))) := by
                        rw [HSK.out, HTI.out]
                        have := say_any ((DZ.out.gr ((GB.out.trans G6.out).trans GK.out)).at') (A ++ (lt.take k).flatMap f) (by omega) (by rw [List.length_append]; omega)
                        rw [HE.out] at this
                        rw [HE.out]
                        exact this
                      go_wp2_with (go_at_call 93; refine HY.out.mono ?_; rintro e w7 ⟨rfl, t7⟩; have T7 := hide t7; clear t7)
                      refine bodyPost_end (results_none rfl _ _ _) rfl ⟨rfl, ?_⟩
                      rw [HAS2.out]
                      refine ⟨S, ?_, (CZ.out.trans (((GB.out.trans G6.out).trans GK.out).chg _)).trans (T7.out.chg _)⟩
                      rw [HTD.out]
                      exact ((DZ.out.gr ((GB.out.trans G6.out).trans GK.out)).tells T7.out).more (m := n + 1) (by omega)
end

end Go.Proofs.YtfcknkanbcndjagGreatDoor
