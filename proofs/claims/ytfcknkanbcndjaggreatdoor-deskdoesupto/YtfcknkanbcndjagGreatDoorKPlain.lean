import Derived.Test.YtfcknkanbcndjagGreatDoorD3
import Derived.Test.YtfcknkanbcndjagGreatDoorD2
import Derived.Maps.AppendAt
/- CONTRACTS OF package node: forget, chooseAll. -/
namespace Go.Proofs.YtfcknkanbcndjagGreatDoor
open Go.RowKit
attribute [local go_sem] Ext.all Ext.cell Ext.frozen Ext.lt Ext.lt1 Ext.lt2 Ext.ne Ext.ne'
theorem NdAt.free {t : TypeId} {w : World} {p : Nat} {m : Md} (h : NdAt t w p m) (j : Nat) : w.frozen? ⟨p, j, none⟩ = false := ZArr.free h j
theorem Gr.drewTo {a b c : World} (h : Gr a b) (k : Gr b.drew c) : Gr a c := h.drew.trans k

def fgM (m : Md) (f : Nat) (k : Nat) : Md := { m with heard := fun j i => if j = f ∧ i < k then (0, 200) else m.heard j i }
theorem fg_zero (m : Md) (f : Nat) : fgM m f 0 = m := by
  unfold fgM
  have : (fun j i => if j = f ∧ i < 0 then ((0, 200) : Int × Int) else m.heard j i) = m.heard := by
    funext j i
    rw [if_neg (by omega)]
  rw [this]
theorem fg_succ (m : Md) (f : Nat) (k : Nat) : { fgM m f k with heard := updW (fgM m f k).heard f (updW ((fgM m f k).heard f) k (0, 200)) } = fgM m f (k + 1) := by
  unfold fgM
  dsimp only
  congr 1
  funext j i
  unfold updW
  by_cases e : j = f
  · subst e
    rw [if_pos rfl]
    dsimp only
    by_cases e2 : i = k
    · rw [if_pos e2, if_pos ⟨rfl, by omega⟩]
    · rw [if_neg e2]
      by_cases e3 : i < k
      · rw [if_pos ⟨rfl, e3⟩, if_pos ⟨rfl, by omega⟩]
      · rw [if_neg (by omega), if_neg (by omega)]
  · simp [e]
theorem fg_heard (m : Md) (f j : Nat) {k : Nat} (hk : k < 6) : (fgM m f 6).heard j k = updW m.heard f (fun _ => (0, 200)) j k := by
  unfold fgM updW
  by_cases e : j = f
  · simp [e, hk]
  · simp [e]
theorem fg_end {t : TypeId} {w : World} {p : Nat} {m : Md} {f : Nat} (h : NdAt t w p (fgM m f 6)) : NdAt t w p { m with heard := updW m.heard f (fun _ => (0, 200)) } := by
  refine ZArr.congr h fun i hi => ?_
  have E := fg_heard m f ((i - 7) / 12) (k := (i - 7) % 12 / 2) (by omega)
  unfold mdF
  rw [E]
  rfl

set_option maxRecDepth 20000 in
set_option maxHeartbeats 8000000 in
theorem nforget_any {w : World} {p : Nat} {m : Md} (H : DAt w p m) {f : Nat} (hf : f < 6) :
    Calls Tryz.prog 142 #[pv p, iv f] w fun e w' => e = .returned (.tuple #[]) ∧ DAt w' p { m with heard := updW m.heard f (fun _ => (0, 200)) } ∧ Wr p w w' := by
  have hfi : (f : Int) < 6 := by omega
  have M0 : Hid (DAt w p (fgM m f 0)) := by rw [fg_zero]; exact H
  clear H
  go_enter Tryz.func142, Tryz.ntmps142
  go_wp2_with fail
  go_loopw [5] (fun v5 wr => ∃ k : Nat, k ≤ 6 ∧ v5 = .int .i64 (k : Int) ∧ Hid (DAt wr p (fgM m f k)) ∧ Hid (Wr p w wr)) (fun v5 _ => (6 - intOf v5).toNat)
  case atStart => exact ⟨0, by omega, rfl, M0, Wr.refl _ _⟩
  case round =>
    clear M0
    obtain ⟨k, hk6, rfl, M0, W0⟩ := hrel
    by_cases hk : k < 6
    · have hki : decide ((k : Int) < 6) = true := decide_eq_true (by omega)
      have hk0 : (k : Int) < 6 := by omega
      have wk : IntKind.i64.wrap ((k : Int) + 1) = (k : Int) + 1 := by rw [IntKind.wrap_i64]; omega
      have hp := M0.out.lt
      have fz := ZArr.free M0.out
      obtain ⟨q0, q1⟩ := M0.out.heard hf hk
      go_upto_region 3 with (fail)
      go_region_with (go_at_call 143; with_reducible refine (nothing_any _).mono ?_; rintro e V ⟨rfl, d2, hV⟩; have gV : Hid (Gr wr V) := (by unfold Hid; rw [hV]; exact (Gr.refl _).drewTo d2.gr); clear hV d2; have hp2 := (M0.out.gr gV.out).lt; have fz2 := NdAt.free (M0.out.gr gV.out); obtain ⟨r0, r1⟩ := (M0.out.gr gV.out).heard hf hk)
      all_goals
        have SM := hide ((M0.out.gr gV.out).setHeard hf hk 0 200)
        have SW := hide (((W0.out.trans (gV.out.wr p)).set (7 + f * 12 + k * 2) (iv 0)).set (7 + f * 12 + k * 2 + 1) (iv 200))
        rw [fg_succ] at SM
        go_wp2_with fail
        go_roundw
        case rel => exact ⟨k + 1, by omega, by congr 1, SM, SW⟩
        case measure => simp [intOf]; omega
    · have hki : decide ((k : Int) < 6) = false := decide_eq_false (by omega)
      have ek : k = 6 := by omega
      subst ek
      go_wp2_with fail
      refine bodyPost_end (results_none rfl _ _ _) rfl ?_
      exact ⟨rfl, fg_end M0.out, W0.out⟩

/-- What the numbers of a node keep to. -/
structure Bd (m : Md) : Prop where
  cost : ∀ r, 0 ≤ m.cost r ∧ m.cost r ≤ 15
  said : ∀ r k, 0 ≤ (m.heard r k).2 ∧ (m.heard r k).2 ≤ 200
  best : ∀ k, (m.bests k).2 ≤ 200
theorem look_bd {m : Md} (h : Bd m) (z : Nat) : Bd (lookM m z) := by
  refine ⟨fun r => by rw [look_cost]; exact h.cost r, fun r k => by rw [look_heard]; exact h.said r k, fun k => ?_⟩
  by_cases e : k = z
  · subst e
    unfold lookM
    split
    · exact h.best k
    · dsimp only
      split
      · rw [updW_same]
        rcases pkD_is m k with ⟨j, _, mk, hw, _⟩ | ⟨_, hw⟩
        · obtain ⟨_, c1, _⟩ := may_iff.1 mk
          rw [hw]
          unfold wayBy
          simp only
          omega
        · rw [hw]; exact Int.le_refl _
      · exact h.best k
  · rw [(look_other m e).2]; exact h.best k
theorem lookTo_bd {m : Md} (h : Bd m) : ∀ n, Bd (lookTo m n)
  | 0 => h
  | n + 1 => look_bd (lookTo_bd h n) n

set_option maxRecDepth 20000 in
set_option maxHeartbeats 8000000 in
theorem nchooseAll_any {w : World} {p : Nat} {m : Md} (H : DAt w p m) (hB : Bd m) :
    Calls Tryz.prog 110 #[pv p] w fun e w' => e = .returned (.tuple #[]) ∧ DAt w' p (lookTo m 6) ∧ Wr p w w' := by
  have M0 : Hid (DAt w p (lookTo m 0)) := H
  clear H
  go_enter Tryz.func110, Tryz.ntmps110
  go_wp2_with fail
  go_loopw [3] (fun v3 wr => ∃ k : Nat, k ≤ 6 ∧ v3 = .int .i64 (k : Int) ∧ Hid (DAt wr p (lookTo m k)) ∧ Hid (Wr p w wr)) (fun v3 _ => (6 - intOf v3).toNat)
  case atStart => exact ⟨0, by omega, rfl, M0, Wr.refl _ _⟩
  case round =>
    clear M0
    obtain ⟨k, hk6, rfl, M0, W0⟩ := hrel
    by_cases hk : k < 6
    · have hki : decide ((k : Int) < 6) = true := decide_eq_true (by omega)
      have wk : IntKind.i64.wrap ((k : Int) + 1) = (k : Int) + 1 := by rw [IntKind.wrap_i64]; omega
      have hp := M0.out.lt
      have c0 := M0.out.me
      have hme := (lookTo_all m k).1
      rw [hme] at c0
      have HB := hide (lookTo_bd hB k)
      by_cases e : k = m.me
      · have g1 : ((k : Int) != (m.me : Int)) = false := by simp; omega
        have HE : Hid (lookTo m (k + 1) = lookTo m k) := by
          unfold Hid
          rw [lookTo]
          unfold lookM
          rw [if_pos (by rw [hme]; exact e)]
        clear e hme
        go_wp2_with fail
        go_roundw
        case rel => exact ⟨k + 1, by omega, by congr 1, by rw [HE.out]; exact M0, W0⟩
        case measure => simp [intOf]; omega
      · have g1 : ((k : Int) != (m.me : Int)) = true := by simp; omega
        have HQ := hide (nchoose_any M0.out hk (by rw [hme]; exact e) HB.out.cost (fun r => HB.out.said r k) (HB.out.best k))
        clear e hme
        go_wp2_with (go_at_call 147; with_reducible refine HQ.out.mono ?_; rintro e V4 ⟨rfl, M4, W4⟩; have HM4 := hide M4; have HW4 := hide W4; clear M4 W4)
        go_roundw
        case rel => exact ⟨k + 1, by omega, by congr 1, HM4, W0.out.trans HW4.out⟩
        case measure => simp [intOf]; omega
    · have hki : decide ((k : Int) < 6) = false := decide_eq_false (by omega)
      have ek : k = 6 := by omega
      subst ek
      go_wp2_with fail
      refine bodyPost_end (results_none rfl _ _ _) rfl ?_
      exact ⟨rfl, M0.out, W0.out⟩

end Go.Proofs.YtfcknkanbcndjagGreatDoor

/- SIX NODES AND NEWS IN MEMORY: blocks of any values, six nodes apart from each other, a list of news of their owner's own. -/
namespace Go.Proofs.YtfcknkanbcndjagGreatDoor
open Go.RowKit

/-- n values, as cells. -/
def vcells (n : Nat) (g : Nat → Value) : Array Value := ((List.range n).map g).toArray
def VArr (w : World) (t : TypeId) (n p : Nat) (g : Nat → Value) : Prop := w.heap[p]? = some (.cells (vcells n g) t (0, 0))
theorem VArr.lt {w : World} {t n p : Nat} {g : Nat → Value} (h : VArr w t n p g) : p < w.heap.size := lt_of_block h
theorem VArr.cell {w : World} {t n p : Nat} {g : Nat → Value} (h : VArr w t n p g) {j : Nat} (hj : j < n) : w.cell? ⟨p, j, none⟩ = some (g j) := by
  unfold VArr at h
  simp [World.cell?, h, vcells, hj]
theorem VArr.free {w : World} {t n p : Nat} {g : Nat → Value} (h : VArr w t n p g) (j : Nat) : w.frozen? ⟨p, j, none⟩ = false := by
  unfold VArr at h
  simp [World.frozen?, h]
theorem VArr.gr {w w' : World} {t n p : Nat} {g : Nat → Value} (h : VArr w t n p g) (k : Gr w w') : VArr w' t n p g := (Below.block k p (lt_of_block h)).trans h
theorem VArr.congr {w : World} {t n p : Nat} {g g' : Nat → Value} (h : VArr w t n p g) (e : ∀ j, j < n → g j = g' j) : VArr w t n p g' := by
  unfold VArr at h ⊢
  have : vcells n g = vcells n g' := by
    unfold vcells
    congr 1
    apply List.map_congr_left
    intro j hj
    exact e j (List.mem_range.1 hj)
  rw [← this]; exact h
theorem VArr.set {w : World} {t n p : Nat} {g g' : Nat → Value} (h : VArr w t n p g) {j : Nat} {v : Value} (e : ∀ i, i < n → g' i = if i = j then v else g i) : VArr (w.setCell ⟨p, j, none⟩ v) t n p g' := by
  unfold VArr at h ⊢
  have : (w.setCell ⟨p, j, none⟩ v).heap[p]? = some (.cells ((vcells n g).setIfInBounds j v) t (0, 0)) := by
    simp [World.setCell, Array.getElem?_modify, h]
  rw [this]
  congr 2
  apply Array.ext
  · simp [vcells]
  · intro i h1 h2
    have hi : i < n := by simpa [vcells] using h1
    rw [Array.getElem_setIfInBounds (by simpa [vcells] using hi)]
    simp only [vcells, List.getElem_toArray, List.getElem_map, List.getElem_range, e i hi]
    by_cases q : j = i
    · subst q; simp
    · rw [if_neg q, if_neg (fun x => q x.symm)]
theorem VArr.other {w : World} {t n p q : Nat} {g : Nat → Value} (h : VArr w t n p g) (hn : p ≠ q) (j : Nat) (v : Value) : VArr (w.setCell ⟨q, j, none⟩ v) t n p g := by
  unfold VArr
  rw [Below.heap_setCell w ⟨q, j, none⟩ v p hn]; exact h
theorem VArr.new (w : World) (t n : Nat) (g : Nat → Value) : VArr (w.alloc (.cells (vcells n g) t)) t n w.heap.size g := heap_alloc_new w _
theorem Wr.varr {p t n q : Nat} {a b : World} {g : Nat → Value} (h : Wr p a b) (k : VArr a t n q g) (hq : q ≠ p) : VArr b t n q g := (h.block q k.lt hq).trans k

/-- Six nodes, each in a block of its own. -/
structure Six (t : TypeId) (w : World) (q : Nat → Nat) (nd : Nat → Md) : Prop where
  at_ : ∀ a, a < 6 → NdAt t w (q a) (nd a)
  inj : ∀ a b, a < 6 → b < 6 → a ≠ b → q a ≠ q b
theorem Six.gr {t : TypeId} {w w' : World} {q : Nat → Nat} {nd : Nat → Md} (h : Six t w q nd) (g : Gr w w') : Six t w' q nd := ⟨fun a ha => (h.at_ a ha).gr g, h.inj⟩
/-- One of them has changed. -/
theorem Six.put {t : TypeId} {w w' : World} {q : Nat → Nat} {nd : Nat → Md} (h : Six t w q nd) {a : Nat} (ha : a < 6) {m : Md} (hw : Wr (q a) w w') (hm : NdAt t w' (q a) m) : Six t w' q (updW nd a m) := by
  refine ⟨fun b hb => ?_, h.inj⟩
  by_cases e : b = a
  · subst e; rw [updW_same]; exact hm
  · rw [updW_ne _ _ e]
    exact (hw.block (q b) (h.at_ b hb).lt (h.inj b a hb ha e)).trans (h.at_ b hb)
theorem Six.keep {t : TypeId} {w w' : World} {q : Nat → Nat} {nd : Nat → Md} (h : Six t w q nd) (k : ∀ a, a < 6 → w'.heap[q a]? = w.heap[q a]?) : Six t w' q nd := ⟨fun a ha => (k a ha).trans (h.at_ a ha), h.inj⟩

/-- A list of news of its owner's own, in a block that is not below lo. -/
def NwO (lo : Nat) (w : World) (v : Value) (l : List Nws) : Prop := w.ownsRow lo 114 5 v l.length (celn l)
theorem NwO.nil (lo : Nat) (w : World) : NwO lo w (.slice none 0 0) [] := World.ownsRow_nil _ _ _ _
theorem NwO.keep {lo : Nat} {w w' : World} {v : Value} {l : List Nws} (h : NwO lo w v l) (k : ∀ b, v.ownBlock = some b → w'.heap[b]? = w.heap[b]?) : NwO lo w' v l := by
  refine ⟨h.1, ?_⟩
  rcases h.2 with hn | ⟨b, cap, cur, rfl, hb, hgg, rest⟩
  · exact .inl hn
  · exact .inr ⟨b, cap, cur, rfl, hb, (k b rfl).trans hgg, rest⟩
theorem NwO.gr {lo : Nat} {w w' : World} {v : Value} {l : List Nws} (h : NwO lo w v l) (g : Gr w w') : NwO lo w' v l := by
  refine ⟨h.1, ?_⟩
  rcases h.2 with hn | ⟨b, cap, cur, rfl, hb, hgg, rest⟩
  · exact .inl hn
  · exact .inr ⟨b, cap, cur, rfl, hb, by rw [g.block b (lt_of_block hgg)]; exact hgg, rest⟩
theorem NwO.shape {lo : Nat} {w : World} {v : Value} {l : List Nws} (h : NwO lo w v l) : ∃ ao c, v = .slice ao l.length c ∧ NewsAt w ao l ∧ l.length ≤ c ∧ ∀ b o, ao = some ⟨b, o, none⟩ → lo ≤ b ∧ o = 0 ∧ v.ownBlock = some b := by
  rcases h.2 with ⟨rfl, hn⟩ | ⟨g, cap, cur, rfl, hb, hg, hn, hc, hs, ht⟩
  · have : l = [] := List.eq_nil_of_length_eq_zero hn
    subst this
    exact ⟨none, 0, rfl, .inl rfl, Nat.le_refl _, fun _ _ e => by cases e⟩
  · refine ⟨_, _, rfl, .inr ⟨g, 0, rfl, (Array.getElem?_eq_some_iff.1 hg).1, fun i hi => ?_⟩, hn, fun b o e => by cases e; exact ⟨hb, rfl, rfl⟩⟩
    have e : ∀ j, j < l.length * 5 → w.cell? ⟨g, 0 + j, none⟩ = (celn l)[j]? := by
      intro j hj
      rw [← ht, List.getElem?_take_of_lt hj]
      simp [World.cell?, hg]
    have ha := celn_at l i hi
    rw [Nat.add_assoc, Nat.add_assoc, Nat.add_assoc, Nat.add_assoc, e _ (by omega), e _ (by omega), e _ (by omega), e _ (by omega), e _ (by omega)]
    exact ha
theorem celn_length : ∀ l : List Nws, (celn l).length = l.length * 5
  | [] => rfl
  | x :: l => by rw [celn_cons]; simp only [List.length_cons, celn_length l]; omega
theorem celn_cells {w : World} {b o : Nat} : ∀ {l : List Nws}, (∀ i (h : i < l.length), w.cell? ⟨b, o + i * 5, none⟩ = some (iv l[i].1) ∧ w.cell? ⟨b, o + i * 5 + 1, none⟩ = some (iv l[i].2.1) ∧ w.cell? ⟨b, o + i * 5 + 2, none⟩ = some (iv l[i].2.2.1) ∧ w.cell? ⟨b, o + i * 5 + 3, none⟩ = some (iv l[i].2.2.2.1) ∧ w.cell? ⟨b, o + i * 5 + 4, none⟩ = some (iv l[i].2.2.2.2)) →
    ∀ j u, (celn l)[j]? = some u → w.cell? ⟨b, o + j, none⟩ = some u := by
  intro l h j u hj
  have hl : j < l.length * 5 := by
    have := (List.getElem?_eq_some_iff.1 hj).1
    rw [celn_length] at this; exact this
  have hi : j / 5 < l.length := by omega
  obtain ⟨c0, c1, c2, c3, c4⟩ := h (j / 5) hi
  obtain ⟨a0, a1, a2, a3, a4⟩ := celn_at l (j / 5) hi
  rcases (show j = j / 5 * 5 ∨ j = j / 5 * 5 + 1 ∨ j = j / 5 * 5 + 2 ∨ j = j / 5 * 5 + 3 ∨ j = j / 5 * 5 + 4 by omega) with e | e | e | e | e
  · rw [e] at hj ⊢; rw [a0] at hj; rw [c0]; exact hj
  · rw [e] at hj ⊢; rw [a1] at hj; rw [← Nat.add_assoc, c1]; exact hj
  · rw [e] at hj ⊢; rw [a2] at hj; rw [← Nat.add_assoc, c2]; exact hj
  · rw [e] at hj ⊢; rw [a3] at hj; rw [← Nat.add_assoc, c3]; exact hj
  · rw [e] at hj ⊢; rw [a4] at hj; rw [← Nat.add_assoc, c4]; exact hj
theorem celn_one : ∀ l : List Nws, ∀ u ∈ celn l, Value.oneCell' u = true
  | [], u, h => by cases h
  | x :: l, u, h => by
    rw [celn_cons] at h
    simp only [List.mem_cons] at h
    rcases h with rfl | rfl | rfl | rfl | rfl | h
    · rfl
    · rfl
    · rfl
    · rfl
    · rfl
    · exact celn_one l u h
/-- 'append(l, x...)'. -/
theorem NwO.app {lo : Nat} {w : World} {v : Value} {l xs : List Nws} {ao : Option Addr} {c : Nat} (ty : TypeId) (hO : NwO lo w v l) (hlo : lo ≤ w.heap.size) (H : NewsAt w ao xs) (h0 : 0 < xs.length) (hm : l.length + xs.length ≤ 1000) :
    ∃ v' w', (Builtin.append_ #[46, 46] ty #[v, .slice ao xs.length c]).run Tryz.prog w = .ok v' w' ∧ NwO lo w' v' (l ++ xs) ∧ w.grownBy w' v.ownBlock ∧ (v'.ownBlock = v.ownBlock ∨ v'.ownBlock = some w.heap.size) := by
  obtain ⟨i0, hi, hz0, hz1, hz2⟩ := info_parts Tryz.info114
  rcases H with h | ⟨b, o, rfl, _, hcs⟩
  · subst h; simp at h0
  · obtain ⟨v', w', h1, h2, h3, _, h5⟩ := run_append_own_at (P := Tryz.prog) w lo 46 ty 114 i0 _ 5 40 Tryz.underlying46 hi hz0 hz1 hz2 (by rfl) (by decide) v l.length (celn l) hO
      ⟨b, o, none⟩ xs.length c (celn xs) (celn_length xs) (fun j u hj => by rw [Addr.add_lit]; exact celn_cells hcs j u hj) (celn_one xs) (by unfold maxLen; omega) (by omega) hlo
    refine ⟨v', w', h1, ?_, h3, h5⟩
    unfold NwO
    rw [celn_append, List.length_append]
    exact h2

end Go.Proofs.YtfcknkanbcndjagGreatDoor

/- A NET, AS NUMBERS: each step keeps what makes ways straight. No Go here. -/
namespace Go.Proofs.YtfcknkanbcndjagGreatDoor

def newT : Tn := { cst := fun _ _ => 0, nd := newM, news := [] }
/-- Nothing was said: that is better than no best. -/
theorem MdX.nothing {m : Md} (h : MdX m) (k : Nat) : bet 0 200 (m.bests k).1 (m.bests k).2 = false := by
  have h1 := h.ok.best k
  have h2 := (h.b200 k).2
  rw [bet_not]; omega
theorem new_t : TnOk newT := by
  refine ⟨fun a ha => ⟨new_x ha, rfl⟩, fun a f k ha hf hk => ?_, fun x hx => (by cases hx), fun a b _ _ => rfl⟩
  exact (new_x hf).nothing k
/-- Fewer news, or some of them twice. -/
theorem TnOk.sub {t : Tn} (h : TnOk t) {nw : List Nw} (hn : ∀ x ∈ nw, x ∈ t.news) : TnOk { t with news := nw } :=
  ⟨h.node, h.heard, fun x hx => h.news x (hn x hx), h.cost⟩
/-- All that a tells b. -/
def tellT (t : Tn) (a b : Nat) : List Nw := (List.range 6).map fun k => ⟨a, b, k, ((t.nd a).ways k).1, ((t.nd a).ways k).2.1⟩
theorem tellT_mem {t : Tn} (h : TnOk t) {a b : Nat} (ha : a < 6) (hb : b < 6) (hne : a ≠ b) : ∀ x ∈ tellT t a b, x.f < 6 ∧ x.g < 6 ∧ x.f ≠ x.g ∧ x.to < 6 ∧ 0 ≤ x.s ∧ 0 ≤ x.d ∧ x.d ≤ 200 ∧ bet x.s x.d ((t.nd x.f).bests x.to).1 ((t.nd x.f).bests x.to).2 = false := by
  intro x hx
  obtain ⟨k, hk, rfl⟩ := List.mem_map.1 hx
  have hk6 := List.mem_range.1 hk
  obtain ⟨h1, h2, h3, h4⟩ := (h.node a ha).1.tells hk6
  exact ⟨ha, hb, hne, hk6, h2, h3, h4, h1⟩
theorem TnOk.tell {t : Tn} (h : TnOk t) {a b : Nat} (ha : a < 6) (hb : b < 6) (hne : a ≠ b) : TnOk { t with news := t.news ++ tellT t a b } := by
  refine ⟨h.node, h.heard, fun x hx => ?_, h.cost⟩
  rcases List.mem_append.1 hx with hx | hx
  · exact h.news x hx
  · exact tellT_mem h ha hb hne x hx
theorem TnOk.newsUp {t : Tn} (_ : TnOk t) {a : Nat} {m : Md} (hb : ∀ k, bet ((t.nd a).bests k).1 ((t.nd a).bests k).2 (m.bests k).1 (m.bests k).2 = false) {nw : List Nw} (hn : ∀ x ∈ nw, x.f < 6 ∧ x.g < 6 ∧ x.f ≠ x.g ∧ x.to < 6 ∧ 0 ≤ x.s ∧ 0 ≤ x.d ∧ x.d ≤ 200 ∧ bet x.s x.d ((t.nd x.f).bests x.to).1 ((t.nd x.f).bests x.to).2 = false) :
    ∀ x ∈ nw, x.f < 6 ∧ x.g < 6 ∧ x.f ≠ x.g ∧ x.to < 6 ∧ 0 ≤ x.s ∧ 0 ≤ x.d ∧ x.d ≤ 200 ∧ bet x.s x.d ((updW t.nd a m x.f).bests x.to).1 ((updW t.nd a m x.f).bests x.to).2 = false := by
  intro x hx
  obtain ⟨h1, h2, h3, h4, h5, h6, h7, h8⟩ := hn x hx
  refine ⟨h1, h2, h3, h4, h5, h6, h7, ?_⟩
  by_cases e : x.f = a
  · rw [e, updW_same]
    rw [e] at h8
    exact bet_trans h8 (hb x.to)
  · rw [updW_ne _ _ e]; exact h8
/-- A node hears what was said; whatever else is on its way stays. -/
theorem TnOk.hear {t : Tn} (h : TnOk t) {x : Nw} (hx : x.f < 6 ∧ x.g < 6 ∧ x.f ≠ x.g ∧ x.to < 6 ∧ 0 ≤ x.s ∧ 0 ≤ x.d ∧ x.d ≤ 200 ∧ bet x.s x.d ((t.nd x.f).bests x.to).1 ((t.nd x.f).bests x.to).2 = false) :
    TnOk { t with nd := updW t.nd x.g (hearM (t.nd x.g) x.f x.to x.s x.d) } := by
  obtain ⟨h1, h2, h3, h4, h5, h6, h7, h8⟩ := hx
  obtain ⟨hX, hme⟩ := h.node x.g h2
  have hk := hear_ok hX.ok (f := x.f) (to := x.to) h5 h6 h7
  refine h.one h2 (hear_x hX h5 h6 h7) ((look_me _ _).trans hme) hk.2 (fun f k hf hk6 => ?_) (h.newsUp hk.2 h.news) (fun b c hb hc => ?_)
  · have e : (hearM (t.nd x.g) x.f x.to x.s x.d).heard f k = if f = x.f ∧ k = x.to then (x.s, x.d) else (t.nd x.g).heard f k := by
      unfold hearM
      rw [look_heard]
      show updW (t.nd x.g).heard x.f (updW ((t.nd x.g).heard x.f) x.to (x.s, x.d)) f k = _
      unfold updW
      by_cases e : f = x.f
      · rw [if_pos e]
        by_cases e2 : k = x.to
        · rw [if_pos e2, if_pos ⟨e, e2⟩]
        · rw [if_neg e2, if_neg (fun q => e2 q.2), e]
      · rw [if_neg e, if_neg (fun q => e q.1)]
    rw [e]
    split
    · next q => rw [q.1, q.2]; exact h8
    · exact h.heard x.g f k h2 hf hk6
  · by_cases e : b = x.g
    · subst e
      rw [updW_same]
      show (lookM _ _).cost c = _
      rw [look_cost]
      exact h.cost x.g c hb hc
    · rw [updW_ne _ _ e]; exact h.cost b c hb hc
theorem TnOk.tick {t : Tn} (h : TnOk t) {a : Nat} (ha : a < 6) : TnOk { t with nd := updW t.nd a (tickM (t.nd a)) } := by
  obtain ⟨hX, hme⟩ := h.node a ha
  have hk := tick_ok hX.ok
  refine h.one ha (tick_x hX) hme hk.2 (fun f k hf hk6 => h.heard a f k ha hf hk6) (h.newsUp hk.2 h.news) (fun b c hb hc => ?_)
  by_cases e : b = a
  · subst e
    rw [updW_same]; exact h.cost b c hb hc
  · rw [updW_ne _ _ e]; exact h.cost b c hb hc
def cstUp (cst : Nat → Nat → Int) (a b : Nat) (c : Int) : Nat → Nat → Int := fun i j => if i = a ∧ j = b then c else cst i j
theorem linkT_heard (m : Md) (who : Nat) (c : Int) (f k : Nat) : (linkM m who c).heard f k = if c = 0 ∧ f = who then (0, 200) else m.heard f k := by
  unfold linkM
  rw [(lookTo_all _ 6).2.2.1]
  dsimp only
  by_cases e : c = 0
  · rw [if_pos e]
    unfold updW
    by_cases e2 : f = who
    · rw [if_pos e2, if_pos ⟨e, e2⟩]
    · rw [if_neg e2, if_neg (fun q => e2 q.2)]
  · rw [if_neg e, if_neg (fun q => e q.1)]
theorem linkT_cost (m : Md) (who : Nat) (c : Int) (k : Nat) : (linkM m who c).cost k = if k = who then c else m.cost k := by
  unfold linkM
  rw [(lookTo_all _ 6).2.1]
  rfl
/-- One of the two knows that they are linked, for so much. -/
theorem TnOk.link {t : Tn} (h : TnOk t) {a b : Nat} {c : Int} (ha : a < 6) (hc0 : 0 ≤ c) (hc : c ≤ 15) : TnOk { t with cst := cstUp t.cst a b c, nd := updW t.nd a (linkM (t.nd a) b c) } := by
  obtain ⟨hX, hme⟩ := h.node a ha
  have hk := link_ok hX.ok (who := b) hc0 hc
  refine h.one ha (link_x hX hc0 hc) ((lookTo_all _ 6).1.trans hme) hk.2 (fun f k hf hk6 => ?_) (h.newsUp hk.2 h.news) (fun i j hi hj => ?_)
  · rw [linkT_heard]
    split
    · exact (h.node f hf).1.nothing k
    · exact h.heard a f k ha hf hk6
  · unfold cstUp
    by_cases e : i = a
    · subst e
      rw [updW_same, linkT_cost]
      by_cases e2 : j = b
      · rw [if_pos e2, if_pos ⟨rfl, e2⟩]
      · rw [if_neg e2, if_neg (fun q => e2 q.2)]
        exact h.cost i j hi hj
    · rw [updW_ne _ _ e, if_neg (fun q => e q.1)]
      exact h.cost i j hi hj

end Go.Proofs.YtfcknkanbcndjagGreatDoor

/- IT SETTLES, AS NUMBERS: where no way leads, none is said: what is told comes from ever better bests, and there are but six. No Go here. -/
namespace Go.Proofs.YtfcknkanbcndjagGreatDoor

/-- Of one end: what was heard (by whom, from whom), the ways and the bests. -/
structure Pd where
  h : Nat → Nat → Int × Int
  w : Nat → Int × Int × Int
  b : Nat → Int × Int
/-- As many nodes of U have a best that is as good as v. -/
def asGood (U : Nat → Bool) (P : Pd) (v : Int × Int) : Nat := (List.range 6).countP fun x => U x && !bet v.1 v.2 (P.b x).1 (P.b x).2
theorem asGood_le (U : Nat → Bool) (P : Pd) (v : Int × Int) : asGood U P v ≤ 6 := by
  have := List.countP_le_length (p := fun x => U x && !bet v.1 v.2 (P.b x).1 (P.b x).2) (l := List.range 6)
  simpa [asGood] using this
/-- No best is worse than it was. -/
def Up (P Q : Pd) : Prop := ∀ x, bet (P.b x).1 (P.b x).2 (Q.b x).1 (Q.b x).2 = false
theorem Up.refl (P : Pd) : Up P P := fun _ => bet_refl _ _
theorem Up.good {P Q : Pd} (h : Up P Q) (U : Nat → Bool) (v : Int × Int) : asGood U P v ≤ asGood U Q v := by
  unfold asGood
  refine List.countP_mono_left fun x _ hx => ?_
  simp only [Bool.and_eq_true, Bool.not_eq_true'] at hx ⊢
  exact ⟨hx.1, bet_trans hx.2 (h x)⟩
/-- Each way of U is by one of U who said something that is better than the best; a way is no better than the best. -/
structure PdOk (U : Nat → Bool) (P : Pd) : Prop where
  by_ : ∀ x, x < 6 → U x = true → (P.w x).2.2 ≠ -1 → ∃ j, j < 6 ∧ U j = true ∧ (P.h x j).2 < 200 ∧ bet (P.h x j).1 (P.h x j).2 (P.b x).1 (P.b x).2 = true
  nb : ∀ x, x < 6 → U x = true → bet (P.w x).1 (P.w x).2.1 (P.b x).1 (P.b x).2 = false
  far : ∀ x, x < 6 → U x = true → (P.w x).2.2 = -1 → (P.w x).2.1 = 200
/-- What x heard of j, if it is of use, is of no better than r bests. -/
def Few (U : Nat → Bool) (P : Pd) (r : Nat) (x j : Nat) : Prop := (P.h x j).2 < 200 → r ≤ asGood U P (P.h x j)
theorem countP_more {α : Type} (p q : α → Bool) : ∀ l : List α, (∀ x ∈ l, p x = true → q x = true) → (∃ x ∈ l, q x = true ∧ p x = false) → l.countP p + 1 ≤ l.countP q
  | [], _, h => by obtain ⟨x, hx, _⟩ := h; cases hx
  | y :: l, hi, h => by
    have hm : l.countP p ≤ l.countP q := List.countP_mono_left (fun x hx => hi x (List.mem_cons_of_mem _ hx))
    obtain ⟨x, hx, h1, h2⟩ := h
    rw [List.countP_cons, List.countP_cons]
    rcases List.mem_cons.1 hx with rfl | hx
    · rw [if_neg (by simp [h2]), if_pos h1]; omega
    · have := countP_more p q l (fun x hx => hi x (List.mem_cons_of_mem _ hx)) ⟨x, hx, h1, h2⟩
      by_cases hp : p y = true
      · rw [if_pos hp, if_pos (hi y (by simp) hp)]; omega
      · rw [if_neg hp]; omega
/-- What a node tells that has a way comes of one best more than what it heard. -/
theorem tell_more {U : Nat → Bool} {P : Pd} (hP : PdOk U P) {r : Nat} {a : Nat} (ha : a < 6) (hU : U a = true) (hF : ∀ j, j < 6 → U j = true → Few U P r a j) (hw : (P.w a).2.1 < 200) : r + 1 ≤ asGood U P ((P.w a).1, (P.w a).2.1) := by
  have hd : (P.w a).2.2 ≠ -1 := fun e => by have := hP.far a ha hU e; omega
  obtain ⟨j, hj, hUj, h200, hb⟩ := hP.by_ a ha hU hd
  have h1 := hF j hj hUj h200
  have h2 := hP.nb a ha hU
  refine Nat.le_trans (Nat.add_le_add_right h1 1) ?_
  unfold asGood
  refine countP_more _ _ _ (fun x _ hx => ?_) ⟨a, List.mem_range.2 ha, ?_, ?_⟩
  · simp only [Bool.and_eq_true, Bool.not_eq_true'] at hx ⊢
    refine ⟨hx.1, ?_⟩
    have h3 := hx.2
    rw [bet_not] at h2 h3 ⊢
    rw [bet_iff] at hb
    omega
  · simp only [Bool.and_eq_true, Bool.not_eq_true']
    exact ⟨hU, h2⟩
  · rw [hb]; simp

/-- One tells another one: what is heard is the way of the teller; nobody else's changes; no best becomes worse. -/
structure Told (P Q : Pd) (a b : Nat) : Prop where
  new : Q.h b a = ((P.w a).1, (P.w a).2.1)
  old : ∀ x j, ¬ (x = b ∧ j = a) → Q.h x j = P.h x j
  up : Up P Q
/-- Who has been told in this round by whom: of those, what is heard comes of one best more. -/
def Half (U : Nat → Bool) (P : Pd) (r : Nat) (done : Nat → Nat → Bool) : Prop := ∀ x j, x < 6 → j < 6 → U x = true → U j = true → (Few U P r x j) ∧ (done x j = true → Few U P (r + 1) x j)
theorem told_half {U : Nat → Bool} {P Q : Pd} {a b r : Nat} {done : Nat → Nat → Bool} (hP : PdOk U P) (hH : Half U P r done) (hT : Told P Q a b) (ha : a < 6) (hU : U a = true) :
    Half U Q r (fun x j => done x j || (decide (x = b) && decide (j = a))) := by
  intro x j hx hj hUx hUj
  by_cases e : x = b ∧ j = a
  · obtain ⟨rfl, rfl⟩ := e
    have key : (Q.h x j).2 < 200 → r + 1 ≤ asGood U Q (Q.h x j) := fun h200 => by
      rw [hT.new] at h200 ⊢
      exact Nat.le_trans (tell_more hP ha hU (fun i hi hUi => (hH j i ha hi hU hUi).1) h200) (hT.up.good U _)
    exact ⟨fun h => by have := key h; omega, fun _ => key⟩
  · have eo := hT.old x j e
    obtain ⟨h1, h2⟩ := hH x j hx hj hUx hUj
    refine ⟨fun h => ?_, fun hd h => ?_⟩
    · rw [eo] at h ⊢
      exact Nat.le_trans (h1 h) (hT.up.good U _)
    · have hd' : done x j = true := by
        simp only [Bool.or_eq_true, Bool.and_eq_true, decide_eq_true_eq] at hd
        rcases hd with q | q
        · exact q
        · exact absurd q e
      rw [eo] at h ⊢
      exact Nat.le_trans (h2 hd' h) (hT.up.good U _)
/-- A round in which each of U has been told by each other one with which it may have a way: one best more. -/
theorem half_round {U : Nat → Bool} {P : Pd} {r : Nat} {done : Nat → Nat → Bool} (hH : Half U P r done) (hall : ∀ x j, x < 6 → j < 6 → U x = true → U j = true → done x j = false → (P.h x j).2 = 200) : Half U P (r + 1) (fun _ _ => false) := by
  intro x j hx hj hUx hUj
  refine ⟨fun h => ?_, fun q => by cases q⟩
  cases e : done x j
  · have := hall x j hx hj hUx hUj e; omega
  · exact (hH x j hx hj hUx hUj).2 e h
theorem half_zero (U : Nat → Bool) (P : Pd) : Half U P 0 (fun _ _ => false) := fun _ _ _ _ _ _ => ⟨fun _ => Nat.zero_le _, fun q => by cases q⟩

end Go.Proofs.YtfcknkanbcndjagGreatDoor

/- IT SETTLES, AS NUMBERS: a node that hears the least of the youngest has the least. No Go here. -/
namespace Go.Proofs.YtfcknkanbcndjagGreatDoor

/-- One neighbour said the least of the youngest age; nobody said less; the best is not less: then the way is the least, and so is the best. -/
theorem look_good {m : Md} {to f : Nat} {S D : Int} (hne : to ≠ m.me) (hf : f < 6) (hc : 0 < m.cost f) (hh : (m.heard f to).1 = S) (hd : (m.heard f to).2 + m.cost f = D) (h200 : D < 200)
    (lb : ∀ j, j < 6 → m.cost j ≠ 0 → (m.heard j to).1 ≤ S ∧ ((m.heard j to).1 = S → D ≤ (m.heard j to).2 + m.cost j))
    (hb : (m.bests to).1 ≤ S ∧ ((m.bests to).1 = S → D ≤ (m.bests to).2)) :
    (∃ k : Nat, k < 6 ∧ (lookM m to).ways to = (S, D, (k : Int)) ∧ m.cost k ≠ 0 ∧ (m.heard k to).1 = S ∧ (m.heard k to).2 + m.cost k = D) ∧ (lookM m to).bests to = (S, D) := by
  have hmay : mayB m to f = true := may_iff.2 ⟨by omega, by omega, by
    rw [bet_iff, hh]
    by_cases e : (m.bests to).1 = S
    · have := hb.2 e; omega
    · have := hb.1; omega⟩
  have ew : (lookM m to).ways to = pkD m to 6 := by unfold lookM; rw [if_neg hne]; exact updW_same _ _ _
  have eb : (lookM m to).bests to = if (pkD m to 6).2.2 ≠ -1 ∧ bet (pkD m to 6).1 (pkD m to 6).2.1 (m.bests to).1 (m.bests to).2 = true then ((pkD m to 6).1, (pkD m to 6).2.1) else m.bests to := by
    unfold lookM
    rw [if_neg hne]
    dsimp only
    split
    · exact updW_same _ _ _
    · rfl
  rcases pkD_is m to with ⟨k, hk, mk, hw, hall⟩ | ⟨hn, _⟩
  · obtain ⟨c0, c1, c2⟩ := may_iff.1 mk
    obtain ⟨l1, l2⟩ := lb k hk c0
    have h1 := (hall f hf hmay).1
    rw [hw] at h1
    have e1 : (wayBy m to f).1 = S := hh
    have e2 : (wayBy m to f).2.1 = D := hd
    have e3 : (wayBy m to k).1 = (m.heard k to).1 := rfl
    have e4 : (wayBy m to k).2.1 = (m.heard k to).2 + m.cost k := rfl
    rw [e1, e2, e3, e4, bet_not] at h1
    have s1 : (m.heard k to).1 = S := by omega
    have d1 : (m.heard k to).2 + m.cost k = D := by have := l2 s1; omega
    have epk : pkD m to 6 = (S, D, (k : Int)) := by rw [hw]; unfold wayBy; rw [s1, d1]
    refine ⟨⟨k, hk, by rw [ew, epk], c0, s1, d1⟩, ?_⟩
    rw [eb, epk]
    simp only
    by_cases hbt : bet S D (m.bests to).1 (m.bests to).2 = true
    · rw [if_pos ⟨by omega, hbt⟩]
    · rw [if_neg (fun q => hbt q.2)]
      have hbf : bet S D (m.bests to).1 (m.bests to).2 = false := by
        cases q : bet S D (m.bests to).1 (m.bests to).2
        · rfl
        · exact absurd q hbt
      rw [bet_not] at hbf
      have b1 : (m.bests to).1 = S := by have := hb.1; omega
      have b2 : (m.bests to).2 = D := by have := hb.2 b1; omega
      exact Prod.ext b1 b2
  · rw [hn f hf] at hmay; cases hmay
/-- What is found is never younger than the youngest, nor of that age shorter than the least. -/
theorem look_bound {m : Md} {to : Nat} {S D : Int} (hne : to ≠ m.me) (h200 : D ≤ 200)
    (lb : ∀ j, j < 6 → m.cost j ≠ 0 → (m.heard j to).1 ≤ S ∧ ((m.heard j to).1 = S → D ≤ (m.heard j to).2 + m.cost j))
    (hb : (m.bests to).1 ≤ S ∧ ((m.bests to).1 = S → D ≤ (m.bests to).2)) :
    (((lookM m to).ways to).1 ≤ S ∧ (((lookM m to).ways to).1 = S → D ≤ ((lookM m to).ways to).2.1)) ∧ (((lookM m to).bests to).1 ≤ S ∧ (((lookM m to).bests to).1 = S → D ≤ ((lookM m to).bests to).2)) := by
  have ew : (lookM m to).ways to = pkD m to 6 := by unfold lookM; rw [if_neg hne]; exact updW_same _ _ _
  have eb : (lookM m to).bests to = if (pkD m to 6).2.2 ≠ -1 ∧ bet (pkD m to 6).1 (pkD m to 6).2.1 (m.bests to).1 (m.bests to).2 = true then ((pkD m to 6).1, (pkD m to 6).2.1) else m.bests to := by
    unfold lookM
    rw [if_neg hne]
    dsimp only
    split
    · exact updW_same _ _ _
    · rfl
  have hw : (pkD m to 6).1 ≤ S ∧ ((pkD m to 6).1 = S → D ≤ (pkD m to 6).2.1) := by
    rcases pkD_is m to with ⟨k, hk, mk, hw, _⟩ | ⟨_, hw⟩
    · obtain ⟨c0, _, _⟩ := may_iff.1 mk
      rw [hw]; exact lb k hk c0
    · rw [hw]; exact ⟨hb.1, fun _ => h200⟩
  refine ⟨by rw [ew]; exact hw, ?_⟩
  rw [eb]
  split
  · exact hw
  · exact hb

end Go.Proofs.YtfcknkanbcndjagGreatDoor

/- A NET THAT SETTLES, AS NUMBERS: what one hears of one end when another one tells it all. No Go here. -/
namespace Go.Proofs.YtfcknkanbcndjagGreatDoor

/-- Of the end z two nodes know the same. -/
structure ZEq (m x : Md) (z : Nat) : Prop where
  cost : m.cost = x.cost
  me : m.me = x.me
  heard : ∀ j, m.heard j z = x.heard j z
  ways : m.ways z = x.ways z
  bests : m.bests z = x.bests z
theorem ZEq.refl (m : Md) (z : Nat) : ZEq m m z := ⟨rfl, rfl, fun _ => rfl, rfl, rfl⟩
theorem ZEq.trans {a b c : Md} {z : Nat} (h : ZEq a b z) (k : ZEq b c z) : ZEq a c z := ⟨h.cost.trans k.cost, h.me.trans k.me, fun j => (h.heard j).trans (k.heard j), h.ways.trans k.ways, h.bests.trans k.bests⟩
theorem look_zeq {m x : Md} {z : Nat} (h : ZEq m x z) : ZEq (lookM m z) (lookM x z) z := by
  have hp : pkD m z 6 = pkD x z 6 := pkD_congr h.cost h.heard h.bests 6
  refine ⟨by rw [look_cost, look_cost]; exact h.cost, by rw [look_me, look_me]; exact h.me, fun j => by rw [look_heard, look_heard]; exact h.heard j, ?_, ?_⟩
  · unfold lookM
    by_cases e : z = m.me
    · rw [if_pos e, if_pos (by rw [← h.me]; exact e)]; exact h.ways
    · have e' : ¬ z = x.me := by rw [← h.me]; exact e
      rw [if_neg e, if_neg e']
      dsimp only
      rw [updW_same, updW_same, hp]
  · unfold lookM
    by_cases e : z = m.me
    · rw [if_pos e, if_pos (by rw [← h.me]; exact e)]; exact h.bests
    · have e' : ¬ z = x.me := by rw [← h.me]; exact e
      rw [if_neg e, if_neg e']
      dsimp only
      rw [hp, h.bests]
      split
      · rw [updW_same, updW_same]
      · exact h.bests
theorem heard_z (m : Md) (f z : Nat) (v : Int × Int) (j : Nat) : updW m.heard f (updW (m.heard f) z v) j z = if j = f then v else m.heard j z := by
  by_cases e : j = f
  · rw [e, updW_same, updW_same, if_pos rfl]
  · rw [updW_ne _ _ e, if_neg e]
theorem hear_zeq {m x : Md} {z : Nat} (h : ZEq m x z) (f : Nat) (s d : Int) : ZEq (hearM m f z s d) (hearM x f z s d) z := by
  unfold hearM
  refine look_zeq ⟨h.cost, h.me, fun j => ?_, h.ways, h.bests⟩
  show updW m.heard f (updW (m.heard f) z (s, d)) j z = updW x.heard f (updW (x.heard f) z (s, d)) j z
  rw [heard_z, heard_z, h.heard]
/-- News of another end change nothing. -/
theorem hear_far (m : Md) {f z k : Nat} (hne : z ≠ k) (s d : Int) : ZEq (hearM m f k s d) m z := by
  unfold hearM
  obtain ⟨h1, h2⟩ := look_other { m with heard := updW m.heard f (updW (m.heard f) k (s, d)) } hne
  refine ⟨look_cost _ _, look_me _ _, fun j => ?_, h1, h2⟩
  rw [look_heard]
  exact heard_other m hne (s, d) j
/-- All that one tells another one, of one end. -/
theorem tellAll_z (m : Md) (a : Nat) (w : Nat → Int × Int × Int) (z : Nat) : ∀ j, ZEq (tellAll m a w j) (if z < j then hearM m a z (w z).1 (w z).2.1 else m) z
  | 0 => by rw [if_neg (by omega)]; exact ZEq.refl _ _
  | j + 1 => by
    have ih := tellAll_z m a w z j
    rw [tellAll]
    by_cases e : j = z
    · subst e
      rw [if_neg (by omega)] at ih
      rw [if_pos (by omega)]
      exact hear_zeq ih a _ _
    · refine (hear_far _ (fun q => e q.symm) _ _).trans ?_
      by_cases q : z < j
      · rw [if_pos q] at ih; rw [if_pos (by omega)]; exact ih
      · rw [if_neg q] at ih; rw [if_neg (by omega)]; exact ih

/-- a tells b all, which is heard at once, if they are linked. -/
def tellTo (t : Tn) (a b : Nat) : Tn := if t.cst a b = 0 then t else { t with nd := updW t.nd b (tellAll (t.nd b) a (t.nd a).ways 6) }
def rowT (t : Tn) (a : Nat) : Nat → Tn
  | 0 => t
  | b + 1 => tellTo (rowT t a b) a b
def roundT (t : Tn) : Nat → Tn
  | 0 => t
  | a + 1 => rowT (roundT t a) a 6
def roundsT (t : Tn) : Nat → Tn
  | 0 => t
  | r + 1 => roundT (roundsT t r) 6
def tickT (t : Tn) (a : Nat) : Tn := { t with nd := updW t.nd a (tickM (t.nd a)) }
def tickTo (t : Tn) : Nat → Tn
  | 0 => t
  | n + 1 => tickT (tickTo t n) n
def settleT (t : Tn) (r : Nat) : Tn := roundsT (tickTo { t with news := [] } 6) r
theorem tickTo_news (t : Tn) : ∀ n, (tickTo t n).news = t.news
  | 0 => rfl
  | n + 1 => tickTo_news t n
theorem tickTo_nd (t : Tn) : ∀ n x, (tickTo t n).nd x = if x < n then tickM (t.nd x) else t.nd x
  | 0, x => by rw [if_neg (by omega)]; rfl
  | n + 1, x => by
    show updW (tickTo t n).nd n (tickM ((tickTo t n).nd n)) x = _
    by_cases e : x = n
    · subst e
      rw [updW_same, tickTo_nd t x x, if_neg (by omega), if_pos (by omega)]
    · rw [updW_ne _ _ e, tickTo_nd t n x]
      by_cases q : x < n
      · rw [if_pos q, if_pos (by omega)]
      · rw [if_neg q, if_neg (by omega)]
theorem tellTo_cst (t : Tn) (a b : Nat) : (tellTo t a b).cst = t.cst := by unfold tellTo; split <;> rfl
theorem rowT_cst (t : Tn) (a : Nat) : ∀ b, (rowT t a b).cst = t.cst
  | 0 => rfl
  | b + 1 => by rw [rowT, tellTo_cst, rowT_cst t a b]
theorem roundT_cst (t : Tn) : ∀ a, (roundT t a).cst = t.cst
  | 0 => rfl
  | a + 1 => by rw [roundT, rowT_cst, roundT_cst t a]
theorem tellTo_news (t : Tn) (a b : Nat) : (tellTo t a b).news = t.news := by unfold tellTo; split <;> rfl
theorem rowT_news (t : Tn) (a : Nat) : ∀ b, (rowT t a b).news = t.news
  | 0 => rfl
  | b + 1 => by rw [rowT, tellTo_news, rowT_news t a b]
theorem roundT_news (t : Tn) : ∀ a, (roundT t a).news = t.news
  | 0 => rfl
  | a + 1 => by rw [roundT, rowT_news, roundT_news t a]
theorem roundsT_news (t : Tn) : ∀ r, (roundsT t r).news = t.news
  | 0 => rfl
  | r + 1 => by rw [roundsT, roundT_news, roundsT_news t r]
theorem settleT_news (t : Tn) (r : Nat) : (settleT t r).news = [] := (roundsT_news _ r).trans (tickTo_news _ 6)
/-- What holds at the beginning, and is kept when linked ones tell each other, holds behind the rounds. -/
theorem rounds_keep {P : Tn → Prop} (h : ∀ t a b, a < 6 → b < 6 → P t → t.cst a b ≠ 0 → P (tellTo t a b)) {t : Tn} (h0 : P t) : ∀ r, P (roundsT t r) := by
  have one : ∀ t a b, a < 6 → b < 6 → P t → P (tellTo t a b) := fun t a b ha hb hp => by
    by_cases e : t.cst a b = 0
    · unfold tellTo; rw [if_pos e]; exact hp
    · exact h t a b ha hb hp e
  have row : ∀ a, a < 6 → ∀ t, P t → ∀ b, b ≤ 6 → P (rowT t a b) := by
    intro a ha t hp b
    induction b with
    | zero => exact fun _ => hp
    | succ b ih => exact fun hb => one _ a b ha (by omega) (ih (by omega))
  have rnd : ∀ t, P t → ∀ a, a ≤ 6 → P (roundT t a) := by
    intro t hp a
    induction a with
    | zero => exact fun _ => hp
    | succ a ih => exact fun ha => row a (by omega) _ (ih (by omega)) 6 (Nat.le_refl _)
  intro r
  induction r with
  | zero => exact h0
  | succ r ih => exact rnd _ ih 6 (Nat.le_refl _)

end Go.Proofs.YtfcknkanbcndjagGreatDoor

/- LINKS AS NUMBERS: what they cost, and how far it is. No Go here. -/
namespace Go.Proofs.YtfcknkanbcndjagGreatDoor

/-- Costs of links: the same from both ends, none of a node with itself. -/
structure Lk (c : Nat → Nat → Nat) : Prop where
  sym : ∀ a b, c a b = c b a
  self : ∀ a, c a a = 0
  le : ∀ a b, c a b ≤ 15

/-- The least of d n and of what comes by the first j nodes. -/
def via (c : Nat → Nat → Nat) (d : Nat → Nat) (n : Nat) : Nat → Nat
  | 0 => d n
  | j + 1 => if 0 < c j n ∧ d j + c j n < via c d n j then d j + c j n else via c d n j
/-- The least cost of a way of at most k links. -/
def wk (c : Nat → Nat → Nat) (f : Int) : Nat → Nat → Nat
  | 0, n => if (n : Int) = f then 0 else 200
  | k + 1, n => via c (wk c f k) n 6

theorem via_le (c : Nat → Nat → Nat) (d : Nat → Nat) (n : Nat) : ∀ j, via c d n j ≤ d n
  | 0 => Nat.le_refl _
  | j + 1 => by
    have := via_le c d n j
    rw [via]; split <;> omega
theorem via_by (c : Nat → Nat → Nat) (d : Nat → Nat) (n : Nat) : ∀ j i, i < j → 0 < c i n → via c d n j ≤ d i + c i n
  | 0, i, h, _ => by omega
  | j + 1, i, h, hc => by
    rw [via]
    by_cases e : i = j
    · subst e
      split <;> omega
    · have := via_by c d n j i (by omega) hc
      split <;> omega
theorem via_is (c : Nat → Nat → Nat) (d : Nat → Nat) (n : Nat) : ∀ j, via c d n j = d n ∨ ∃ i, i < j ∧ 0 < c i n ∧ via c d n j = d i + c i n
  | 0 => .inl rfl
  | j + 1 => by
    rw [via]
    split
    · next h => exact .inr ⟨j, by omega, h.1, rfl⟩
    · rcases via_is c d n j with h | ⟨i, h1, h2, h3⟩
      · exact .inl h
      · exact .inr ⟨i, by omega, h2, h3⟩
theorem via_congr (c : Nat → Nat → Nat) (d e : Nat → Nat) (n : Nat) (hn : d n = e n) : ∀ j, (∀ i, i < j → d i = e i) → via c d n j = via c e n j
  | 0, _ => hn
  | j + 1, h => by
    rw [via, via, via_congr c d e n hn j (fun i hi => h i (by omega)), h j (by omega)]
theorem wk_anti (c : Nat → Nat → Nat) (f : Int) (k n : Nat) : wk c f (k + 1) n ≤ wk c f k n := via_le _ _ _ _
theorem wk_le (c : Nat → Nat → Nat) (f : Int) : ∀ k n, wk c f k n ≤ 200
  | 0, n => by rw [wk]; split <;> omega
  | k + 1, n => Nat.le_trans (wk_anti c f k n) (wk_le c f k n)
theorem wk_mono (c : Nat → Nat → Nat) (f : Int) (k n : Nat) : ∀ j, wk c f (k + j) n ≤ wk c f k n
  | 0 => Nat.le_refl _
  | j + 1 => Nat.le_trans (wk_anti c f (k + j) n) (wk_mono c f k n j)
theorem wk_le_of (c : Nat → Nat → Nat) (f : Int) {k j : Nat} (h : k ≤ j) (n : Nat) : wk c f j n ≤ wk c f k n := by
  have := wk_mono c f k n (j - k)
  rwa [show k + (j - k) = j by omega] at this

def sum6 (d : Nat → Nat) : Nat := d 0 + d 1 + d 2 + d 3 + d 4 + d 5
theorem six {n : Nat} (h : n < 6) : n = 0 ∨ n = 1 ∨ n = 2 ∨ n = 3 ∨ n = 4 ∨ n = 5 := by omega
theorem wk_stops (c : Nat → Nat → Nat) (f : Int) : ∀ s k, sum6 (wk c f k) ≤ s → ∃ K, ∀ n, n < 6 → wk c f (K + 1) n = wk c f K n := by
  intro s
  induction s with
  | zero =>
    intro k h
    refine ⟨k, fun n hn => ?_⟩
    have a := wk_anti c f k n
    unfold sum6 at h
    rcases six hn with rfl | rfl | rfl | rfl | rfl | rfl <;> omega
  | succ s ih =>
    intro k h
    have a0 := wk_anti c f k 0
    have a1 := wk_anti c f k 1
    have a2 := wk_anti c f k 2
    have a3 := wk_anti c f k 3
    have a4 := wk_anti c f k 4
    have a5 := wk_anti c f k 5
    by_cases e : sum6 (wk c f (k + 1)) = sum6 (wk c f k)
    · refine ⟨k, fun n hn => ?_⟩
      unfold sum6 at e
      rcases six hn with rfl | rfl | rfl | rfl | rfl | rfl <;> omega
    · refine ih (k + 1) ?_
      unfold sum6 at *
      omega

/-- What it comes to. -/
structure Lm (c : Nat → Nat → Nat) (f : Int) (L : Nat → Nat) : Prop where
  le : ∀ k n, n < 6 → L n ≤ wk c f k n
  at_ : ∃ K, ∀ n, n < 6 → L n = wk c f K n

theorem lm_is (c : Nat → Nat → Nat) (f : Int) : ∃ L, Lm c f L := by
  obtain ⟨K, hK⟩ := wk_stops c f (sum6 (wk c f 0)) 0 (Nat.le_refl _)
  have st : ∀ j n, n < 6 → wk c f (K + j) n = wk c f K n := by
    intro j
    induction j with
    | zero => intro n _; rfl
    | succ j ih =>
      intro n hn
      rw [← hK n hn]
      show via c (wk c f (K + j)) n 6 = via c (wk c f K) n 6
      exact via_congr c _ _ n (ih n hn) 6 ih
  refine ⟨wk c f K, fun k n hn => ?_, K, fun n _ => rfl⟩
  by_cases h : k ≤ K
  · exact wk_le_of c f h n
  · have := st (k - K) n hn
    rw [show K + (k - K) = k by omega] at this
    rw [this]; exact Nat.le_refl _
theorem Lm.edge {c : Nat → Nat → Nat} {f : Int} {L : Nat → Nat} (h : Lm c f L) {m n : Nat} (hm : m < 6) (hn : n < 6) (hc : 0 < c m n) : L n ≤ L m + c m n := by
  obtain ⟨K, hK⟩ := h.at_
  have h1 := h.le (K + 1) n hn
  have h2 : wk c f (K + 1) n ≤ wk c f K m + c m n := via_by c _ n 6 m hm hc
  rw [← hK m hm] at h2
  omega
theorem wk_last (c : Nat → Nat → Nat) (f : Int) : ∀ k n, wk c f k n = wk c f 0 n ∨ ∃ m j, m < 6 ∧ 0 < c m n ∧ wk c f k n = wk c f j m + c m n
  | 0, _ => .inl rfl
  | k + 1, n => by
    rcases via_is c (wk c f k) n 6 with h | ⟨i, h1, h2, h3⟩
    · rcases wk_last c f k n with e | ⟨m, j, h4, h5, h6⟩
      · exact .inl (h.trans e)
      · exact .inr ⟨m, j, h4, h5, h.trans h6⟩
    · exact .inr ⟨i, k, h1, h2, h3⟩
theorem Lm.last {c : Nat → Nat → Nat} {f : Int} {L : Nat → Nat} (h : Lm c f L) {n : Nat} (hn : n < 6) : L n = wk c f 0 n ∨ ∃ m, m < 6 ∧ 0 < c m n ∧ L n = L m + c m n := by
  obtain ⟨K, hK⟩ := h.at_
  rcases wk_last c f K n with e | ⟨m, j, h1, h2, h3⟩
  · exact .inl ((hK n hn).trans e)
  · have h4 := h.le j m h1
    have h5 := h.edge h1 hn h2
    have h6 := hK n hn
    exact .inr ⟨m, h1, h2, by omega⟩

theorem countP_lt {α : Type} (p q : α → Bool) : ∀ l : List α, (∀ x ∈ l, p x = true → q x = true) → (∃ x ∈ l, q x = true ∧ p x = false) → l.countP p < l.countP q
  | [], _, h => by obtain ⟨x, hx, _⟩ := h; cases hx
  | y :: l, hi, h => by
    have hm : l.countP p ≤ l.countP q := List.countP_mono_left (fun x hx => hi x (List.mem_cons_of_mem _ hx))
    obtain ⟨x, hx, h1, h2⟩ := h
    rw [List.countP_cons, List.countP_cons]
    rcases List.mem_cons.1 hx with rfl | hx
    · simp only [h1, h2, if_true]
      simp
      omega
    · have := countP_lt p q l (fun x hx => hi x (List.mem_cons_of_mem _ hx)) ⟨x, hx, h1, h2⟩
      by_cases hp : p y = true
      · simp only [hp, hi y (by simp) hp, if_true]; omega
      · rw [if_neg hp]; omega
theorem least_of (L : Nat → Nat) (p : Nat → Prop) : ∀ s n, L n ≤ s → n < 6 → p n → ∃ m, m < 6 ∧ p m ∧ ∀ i, i < 6 → p i → L m ≤ L i := by
  intro s
  induction s with
  | zero => intro n h hn hp; exact ⟨n, hn, hp, fun i _ _ => by omega⟩
  | succ s ih =>
    intro n h hn hp
    by_cases e : ∃ i, i < 6 ∧ p i ∧ L i < L n
    · obtain ⟨i, h1, h2, h3⟩ := e
      exact ih i (by omega) h1 h2
    · refine ⟨n, hn, hp, fun i hi hpi => ?_⟩
      exact Nat.le_of_not_lt (fun hlt => e ⟨i, hi, hpi, hlt⟩)

theorem wk_none (c : Nat → Nat → Nat) (f : Int) (hf : ¬ (0 ≤ f ∧ f < 6)) : ∀ k n, n < 6 → wk c f k n = 200
  | 0, n, hn => by rw [wk, if_neg (by omega)]
  | k + 1, n, hn => by
    rcases via_is c (wk c f k) n 6 with h | ⟨i, h1, h2, h3⟩
    · exact h.trans (wk_none c f hf k n hn)
    · have e := wk_none c f hf k i h1
      have l := wk_le c f (k + 1) n
      rw [wk] at l ⊢
      omega

/-- Five links are enough. -/
theorem wk_five {c : Nat → Nat → Nat} {f : Int} {L : Nat → Nat} (h : Lm c f L) : ∀ n, n < 6 → wk c f 5 n = L n := by
  by_cases hf : 0 ≤ f ∧ f < 6
  · have key : ∀ k, (∀ n, n < 6 → wk c f k n = L n) ∨ k + 1 ≤ (List.range 6).countP (fun n => decide (wk c f k n = L n)) := by
      intro k
      induction k with
      | zero =>
        right
        have e : wk c f 0 f.toNat = L f.toNat := by
          have := h.le 0 f.toNat (by omega)
          rw [wk, if_pos (by omega)] at this ⊢
          omega
        exact List.countP_pos_iff.2 ⟨f.toNat, List.mem_range.2 (by omega), by simp [e]⟩
      | succ k ih =>
        have up : ∀ n, n < 6 → wk c f k n = L n → wk c f (k + 1) n = L n := by
          intro n hn e
          have h1 := h.le (k + 1) n hn
          have h2 := wk_anti c f k n
          omega
        rcases ih with ih | ih
        · exact .inl fun n hn => up n hn (ih n hn)
        · by_cases hall : ∀ n, n < 6 → wk c f k n = L n
          · exact .inl fun n hn => up n hn (hall n hn)
          · right
            have : ∃ n, n < 6 ∧ wk c f k n ≠ L n := Classical.byContradiction fun hne => hall fun n hn => Classical.byContradiction fun e => hne ⟨n, hn, e⟩
            obtain ⟨n0, hn0, hp0⟩ := this
            obtain ⟨n, hn, hp, hmin⟩ := least_of L (fun n => wk c f k n ≠ L n) (L n0) n0 (Nat.le_refl _) hn0 hp0
            have hnew : wk c f (k + 1) n = L n := by
              rcases h.last hn with e | ⟨m, hm, hc, e⟩
              · exfalso
                have h1 := h.le k n hn
                have h2 := wk_le_of c f (Nat.zero_le k) n
                omega
              · have hk : wk c f k m = L m := by
                  refine Classical.byContradiction fun hne => ?_
                  have := hmin m hm hne
                  omega
                have h1 := h.le (k + 1) n hn
                have h2 : wk c f (k + 1) n ≤ wk c f k m + c m n := via_by c _ n 6 m hm hc
                omega
            have hlt := countP_lt (fun n => decide (wk c f k n = L n)) (fun n => decide (wk c f (k + 1) n = L n)) (List.range 6)
              (fun x hx hpx => by
                have := up x (List.mem_range.1 hx) (of_decide_eq_true hpx)
                exact decide_eq_true this)
              ⟨n, List.mem_range.2 hn, decide_eq_true hnew, decide_eq_false hp⟩
            omega
    rcases key 5 with hk | hk
    · exact hk
    · have hl : (List.range 6).countP (fun n => decide (wk c f 5 n = L n)) = (List.range 6).length := by
        have := List.countP_le_length (p := fun n => decide (wk c f 5 n = L n)) (l := List.range 6)
        simp only [List.length_range] at this ⊢
        omega
      intro n hn
      have := List.countP_eq_length.1 hl n (List.mem_range.2 hn)
      exact of_decide_eq_true this
  · intro n hn
    obtain ⟨K, hK⟩ := h.at_
    rw [hK n hn, wk_none c f hf 5 n hn, wk_none c f hf K n hn]

/-- How far it is. -/
def dst (c : Nat → Nat → Nat) (f : Int) (n : Nat) : Nat := wk c f 5 n
theorem dst_lm (c : Nat → Nat → Nat) (f : Int) : Lm c f (dst c f) := by
  obtain ⟨L, h⟩ := lm_is c f
  have e : ∀ n, n < 6 → dst c f n = L n := wk_five h
  refine ⟨fun k n hn => by rw [e n hn]; exact h.le k n hn, ?_⟩
  obtain ⟨K, hK⟩ := h.at_
  exact ⟨K, fun n hn => by rw [e n hn]; exact hK n hn⟩
theorem dst_le (c : Nat → Nat → Nat) (f : Int) (n : Nat) : dst c f n ≤ 200 := wk_le c f 5 n
theorem dst_self (c : Nat → Nat → Nat) {f : Nat} (h : f < 6) : dst c f f = 0 := by
  have := (dst_lm c f).le 0 f h
  rw [wk, if_pos rfl] at this
  omega
theorem dst_edge (c : Nat → Nat → Nat) (f : Int) {m n : Nat} (hm : m < 6) (hn : n < 6) (hc : 0 < c m n) : dst c f n ≤ dst c f m + c m n := (dst_lm c f).edge hm hn hc
/-- Another cost of one link. -/
def setC (c : Nat → Nat → Nat) (a b v : Nat) : Nat → Nat → Nat := fun i j => if (i = a ∧ j = b) ∨ (i = b ∧ j = a) then v else c i j
theorem Lk.set {c : Nat → Nat → Nat} (h : Lk c) {a b v : Nat} (hne : a ≠ b) (hv : v ≤ 15) : Lk (setC c a b v) := by
  refine ⟨fun i j => ?_, fun i => ?_, fun i j => ?_⟩
  · unfold setC
    rw [h.sym i j]
    by_cases e : (i = a ∧ j = b) ∨ (i = b ∧ j = a)
    · rw [if_pos e, if_pos (by omega)]
    · rw [if_neg e, if_neg (by omega)]
  · unfold setC
    rw [if_neg (by omega)]; exact h.self i
  · unfold setC
    split
    · exact hv
    · exact h.le i j
theorem lk_zero : Lk (fun _ _ => 0) := ⟨fun _ _ => rfl, fun _ => rfl, fun _ _ => by omega⟩
end Go.Proofs.YtfcknkanbcndjagGreatDoor
