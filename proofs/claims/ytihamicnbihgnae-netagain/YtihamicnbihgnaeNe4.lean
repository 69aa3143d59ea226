/- THE PROGRAM'S Net: there; slices.Delete at a row of news; take. -/
import Derived.Test.YtihamicnbihgnaeNe3
import Derived.Laws.CopyOwn
import Derived.Deep.RegionLaw
namespace Go.Proofs.Ytihamicnbihgnae
open Go.RowKit
attribute [local go_sem] Ext.all Ext.cell Ext.frozen Ext.lt Ext.lt1 Ext.lt2 Ext.ne Ext.ne'

theorem celn_take : ∀ (l : List Nws) (i : Nat), (celn l).take (i * 5) = celn (l.take i)
  | [], i => by simp [celn]
  | x :: l, 0 => by simp [celn]
  | x :: l, i + 1 => by
    rw [show (i + 1) * 5 = i * 5 + 1 + 1 + 1 + 1 + 1 by omega, celn_cons]
    simp only [List.take_succ_cons, celn_take l i, celn_cons]
theorem celn_drop : ∀ (l : List Nws) (i : Nat), (celn l).drop (i * 5) = celn (l.drop i)
  | [], i => by simp [celn]
  | x :: l, 0 => by simp [celn]
  | x :: l, i + 1 => by
    rw [show (i + 1) * 5 = i * 5 + 1 + 1 + 1 + 1 + 1 by omega, celn_cons]
    simp only [List.drop_succ_cons, celn_drop l i]
theorem run_clear_row5 {P : Program} (w : World) (t e ty : TypeId) (z : Value) (ht : P.underlying t = some (.slice e)) (hv : ∀ w, (zeroValue e).run P w = .ok z w) (zs : List Value) (hz : (Builtin.zeroCells z.cells 1).toList = zs) (h1 : ∀ v ∈ zs, v.oneCell' = true)
    (g o c : Nat) (cur : Array Value) (te : TypeId) (hg : w.heap[g]? = some (.cells cur te (0, 0))) (hfit : o + zs.length ≤ cur.size) :
    (Builtin.clear_ #[t] ty #[.slice (some ⟨g, o, none⟩) 1 c]).run P w = .ok (.tuple #[]) (w.setRow g (cur.toList.take o ++ zs ++ cur.toList.drop (o + zs.length)).toArray) := by
  have hst := run_storeCells_at P g o te zs 0 cur w hg (by simpa using hfit) h1
  simp only [Nat.add_zero] at hst
  simp [Builtin.clear_, run_underlying ht, hv, hz, hst]
/-- A row whose first cells are these news. -/
structure NRow (w : World) (g n cap : Nat) (cur : Array Value) (l : List Nws) : Prop where
  block : w.heap[g]? = some (.cells cur 53 (0, 0))
  len : l.length = n
  le : n ≤ cap
  max : cap ≤ maxLen
  size : cur.size = cap * 5
  take : cur.toList.take (n * 5) = celn l
theorem NRow.cell {w : World} {g n cap : Nat} {cur : Array Value} {l : List Nws} (h : NRow w g n cap cur l) (j : Nat) (u : Value) (hj : (celn l)[j]? = some u) : w.cell? ⟨g, j, none⟩ = some u := by
  have hl : j < n * 5 := by
    have := (List.getElem?_eq_some_iff.1 hj).1
    rwa [celn_length, h.len] at this
  rw [← h.take, List.getElem?_take_of_lt hl] at hj
  simp [World.cell?, h.block]
  simpa using hj
theorem NRow.own {w : World} {g n cap : Nat} {cur : Array Value} {l : List Nws} (h : NRow w g n cap cur l) : NwO 0 w (.slice (some ⟨g, 0, none⟩) n cap) l := by
  unfold NwO
  rw [h.len]
  exact ⟨by rw [celn_length, h.len], .inr ⟨g, cap, cur, rfl, Nat.zero_le _, h.block, h.le, h.max, h.size, h.take⟩⟩
theorem take_two {α : Type} (a b c : List α) (k : Nat) (h : a.length + b.length = k) : (a ++ b ++ c).take k = a ++ b := by
  rw [← h, ← List.length_append]; exact List.take_left
theorem zeros5 : (Builtin.zeroCells (Value.agg #[iv 0, iv 0, iv 0, iv 0, iv 0]).cells 1).toList = [iv 0, iv 0, iv 0, iv 0, iv 0] := by kernel_rfl
theorem zero_news (w : World) : (zeroValue 53).run Try.prog w = .ok (.agg #[iv 0, iv 0, iv 0, iv 0, iv 0]) w := by
  obtain ⟨i0, hi, hz0, hz1, hz2⟩ := info_parts Try.info53
  simp [zeroValue, typeInfo, hi, hz0]

set_option maxRecDepth 20000 in
set_option maxHeartbeats 8000000 in
theorem deleteN_any (w : World) (g n cap i j : Nat) (cur : Array Value) (l : List Nws) (h : NRow w g n cap cur l) (hj1 : j = i + 1) (hj2 : j ≤ n) (hm : n ≤ 1000) :
    Calls Try.prog 42 #[.slice (some ⟨g, 0, none⟩) n cap, .int .i64 i, .int .i64 j] w fun e w' => e = .returned (.slice (some ⟨g, 0, none⟩) (n - 1) cap) ∧ ∃ cur', w' = w.drew.setRow g cur' ∧ NRow w' g (n - 1) cap cur' (l.take i ++ l.drop j) := by
  obtain ⟨i0, hi0, hz0, hz1, hz2⟩ := info_parts Try.info53
  have hmax : cap ≤ 9223372036854775807 := h.max
  have hcap := h.le
  have hlt : i < j := by omega
  have HJ : Hid (j = i + 1) := hj1
  clear hj1
  have hic : i ≤ cap := by omega
  have hjc : j ≤ cap := by omega
  have hne : ¬ (i = j) := by omega
  have hkn : i + (n - j) = n - 1 := by have := HJ.out; omega
  -- behind the append
  obtain ⟨cur1, hcur1⟩ : ∃ cur1 : Array Value, cur1 = (cur.toList.take (i * 5) ++ celn (l.drop j) ++ cur.toList.drop (i * 5 + (celn (l.drop j)).length)).toArray := ⟨_, rfl⟩
  have hdl : (celn (l.drop j)).length = (n - j) * 5 := by rw [celn_length, List.length_drop, h.len]
  have hsz := h.size
  have hsz1 : cur1.size = cap * 5 := by
    rw [hcur1]; simp only [List.size_toArray, List.length_append, List.length_take, List.length_drop, Array.length_toList, hdl]; omega
  obtain ⟨A, hA, hsrc⟩ : ∃ A : Addr, (if cap = j then some (⟨g, 0, none⟩ : Addr) else some ⟨g, j * 5, none⟩) = some A ∧ Hid (∀ t u, (celn (l.drop j))[t]? = some u → w.drew.cell? (A.add t) = some u) := by
    by_cases hc : cap = j
    · refine ⟨⟨g, 0, none⟩, by simp [hc], fun t u hu => ?_⟩
      have : celn (l.drop j) = [] := List.eq_nil_of_length_eq_zero (by rw [hdl]; omega)
      rw [this] at hu; simp at hu
    · refine ⟨⟨g, j * 5, none⟩, by simp [hc], fun t u hu => ?_⟩
      rw [Addr.add_lit]
      show w.cell? _ = _
      refine h.cell _ _ ?_
      rw [← celn_drop, List.getElem?_drop] at hu
      exact hu
  have hrun : Hid (∀ ty, (Builtin.append_ #[37, 37] ty #[.slice (some ⟨g, 0, none⟩) i cap, .slice (some A) (n - j) (cap - j)]).run Try.prog w.drew = .ok (.slice (some ⟨g, 0, none⟩) (i + (n - j)) cap) (w.drew.setRow g cur1)) := fun ty => by
    have := run_append_room (P := Try.prog) w.drew 37 ty 53 i0 Try.underlying37 hi0 g i cap cur h.block A (n - j) (cap - j) (celn (l.drop j)) (by rw [hz1, hdl]) hsrc.out (celn_one _) (by omega) (by rw [hz1, hdl]; omega)
    rw [hz1, ← hcur1] at this
    exact this
  obtain ⟨W1, hW1⟩ : ∃ W1, W1 = w.drew.setRow g cur1 := ⟨_, rfl⟩
  have hb1 : W1.heap[g]? = some (.cells cur1 53 (0, 0)) := by rw [hW1]; exact setRow_heap _ g cur cur1 _ _ h.block
  obtain ⟨cur2, hcur2⟩ : ∃ cur2 : Array Value, cur2 = (cur1.toList.take ((n - 1) * 5) ++ [iv 0, iv 0, iv 0, iv 0, iv 0] ++ cur1.toList.drop ((n - 1) * 5 + 5)).toArray := ⟨_, rfl⟩
  have hcl : ∀ ty c, (Builtin.clear_ #[37] ty #[.slice (some ⟨g, (n - 1) * 5, none⟩) 1 c]).run Try.prog W1 = .ok (.tuple #[]) (W1.setRow g cur2) := fun ty c => by
    have := run_clear_row5 (P := Try.prog) W1 37 53 ty _ Try.underlying37 zero_news _ zeros5 (by intro v hv; simp at hv; rw [hv]; rfl) g ((n - 1) * 5) c cur1 _ hb1 (by simp; omega)
    simp only [List.length_cons, List.length_nil] at this
    rw [this, hcur2]
  have hend : NRow (w.drew.setRow g cur2) g (n - 1) cap cur2 (l.take i ++ l.drop j) := by
    have hl : (l.take i).length = i := by rw [List.length_take, h.len]; omega
    refine ⟨setRow_heap _ g cur cur2 _ _ h.block, by rw [List.length_append, List.length_drop, h.len, hl]; omega, by omega, h.max, ?_, ?_⟩
    · rw [hcur2]; simp only [List.size_toArray, List.length_append, List.length_take, List.length_drop, Array.length_toList, List.length_cons, List.length_nil]; omega
    · have e1 : cur.toList.take (i * 5) = celn (l.take i) := by
        rw [← celn_take, ← h.take, List.take_take]; congr 1; omega
      have e2 : cur1.toList.take ((n - 1) * 5) = celn (l.take i ++ l.drop j) := by
        rw [hcur1, e1, celn_append]
        exact take_two _ _ _ _ (by rw [celn_length, celn_length, hl, List.length_drop, h.len]; omega)
      rw [hcur2, e2]
      show ((celn (l.take i ++ l.drop j) ++ [iv 0, iv 0, iv 0, iv 0, iv 0] ++ cur1.toList.drop _).take ((n - 1) * 5)) = _
      rw [List.append_assoc]
      have : (celn (l.take i ++ l.drop j)).length = (n - 1) * 5 := by rw [celn_length, List.length_append, hl, List.length_drop, h.len]; omega
      rw [← this]; exact List.take_left
  have HE := hide hend
  have HW : Hid (W1 = w.drew.setRow g cur1) := hW1
  have h1n : ¬ (cap = n - 1) := by have := HJ.out; omega
  have hnn : n - (n - 1) = 1 := by have := HJ.out; omega
  clear hend hW1 hcur2 hcur1 hb1 h hdl
  have hpn : n - 1 ≤ n := by omega
  have hpc : n - 1 ≤ cap := by omega
  generalize n - 1 = p at *
  go_enter Try.func42, Try.ntmps42
  go_wp2_with fail
  go_region_law (refine step_append_eq rfl _ _ 37 37 rfl _ _ (by simp [Act.eval, Act.put]) (by simp [Act.eval, Act.put]) (hrun.out _) ?_; rw [← HW.out, hkn])
  go_wp2
  go_ret
  refine ⟨rfl, cur2, ?_, ?_⟩
  · rw [HW.out, setRow_setRow]
  · rw [HW.out, setRow_setRow]; exact HE.out

section
variable {M : Nat → Prop} {B w : World} {p k : Nat} {q : Nat → Nat} {v : Value} {c : Nat → Nat → Nat} {t : Tn}
set_option maxRecDepth 20000 in
theorem there_is (H : Ne M B w p k q v c t) (n : Int) {r : Bool} (hr : decide (0 ≤ n ∧ n < (t.news.length : Int)) = r) : Calls Try.prog 41 #[pv p, iv n] w fun e w' => e = .returned (.bool r) ∧ w' = w := by
  have hp := H.blk.lt
  have c0 := H.news
  obtain ⟨ao, cv, hv, _, _, _⟩ := H.nw.shape
  rw [newsL_len] at hv
  subst hv
  clear H
  subst hr
  by_cases h1 : 0 ≤ n
  · have hd : decide (0 ≤ n) = true := by simpa using h1
    have ho : decide (0 ≤ n ∧ n < (t.news.length : Int)) = decide (n < (t.news.length : Int)) := by congr 1; simp only [eq_iff_iff]; omega
    rw [ho]; clear ho
    go_enter Try.func41, Try.ntmps41
    go_wp2
    go_ret
    exact ⟨rfl, rfl⟩
  · have hd : decide (0 ≤ n) = false := by simpa using h1
    have ho : decide (0 ≤ n ∧ n < (t.news.length : Int)) = false := decide_eq_false (by omega)
    rw [ho]; clear ho
    go_enter Try.func41, Try.ntmps41
    go_wp2
    go_ret
    exact ⟨rfl, rfl⟩
end

end Go.Proofs.Ytihamicnbihgnae
