/- CONTRACT OF slices.Compact at prefixes. -/
import Derived.Test.YtklkminlkfnidacDoorQ4
namespace Go.Proofs.YtklkminlkfnidacDoor
open Go.RowKit Go.Sort Go.Lib
attribute [local go_sem] Ext.all Ext.cell Ext.frozen Ext.lt Ext.lt1 Ext.lt2 Ext.ne Ext.ne'

theorem cmpGo_snoc (x : Pf) : ∀ (A : List Pf) (q : Pf), cmpGo q (A ++ [x]) = cmpGo q A ++ (if x = (q :: A).getLast (by simp) then [] else [x])
  | [], q => by
    rw [List.nil_append, cmpGo, cmpGo]
    show (if x = q then cmpGo q [] else x :: cmpGo x []) = (if x = q then [] else [x])
    rw [cmpGo, cmpGo]
  | p :: A, q => by
    rw [List.cons_append, cmpGo, cmpGo, List.getLast_cons (by simp)]
    by_cases e : p = q
    · subst e
      rw [if_pos rfl, if_pos rfl, cmpGo_snoc x A p]
    · rw [if_neg e, if_neg e, cmpGo_snoc x A p, List.cons_append]
/-- What the first m are, each once. -/
def cmpM (d : Array Pf) (m : Nat) : List Pf := cmpL (d.toList.take m)
theorem cmpM_all (d : Array Pf) : cmpM d d.size = cmpL d.toList := by unfold cmpM; rw [List.take_of_length_le (by simp)]
theorem cmpM_succ (d : Array Pf) {m : Nat} (h1 : 1 ≤ m) (hm : m < d.size) : cmpM d (m + 1) = if d[m]! = d[m - 1]! then cmpM d m else cmpM d m ++ [d[m]!] := by
  have hl : m < d.toList.length := by simpa using hm
  have e0 : d[m]! = d.toList[m] := by rw [getElem!_pos d m hm]; simp
  have e1 : d[m - 1]! = d.toList[m - 1] := by rw [getElem!_pos d (m - 1) (by omega)]; simp
  unfold cmpM
  rw [List.take_succ_eq_append_getElem hl, ← e0]
  cases hA : d.toList.take m with
  | nil =>
    have := congrArg List.length hA
    rw [List.length_take] at this
    have h0 : min m d.toList.length = 0 := this
    omega
  | cons q A =>
    have hlast : (q :: A).getLast (by simp) = d[m - 1]! := by
      rw [e1]
      simp only [← hA]
      rw [List.getLast_eq_getElem, List.getElem_take]
      congr 1
      rw [List.length_take]; omega
    rw [List.cons_append, cmpL, cmpGo_snoc, hlast]
    show q :: (cmpGo q A ++ _) = _
    split
    · rw [List.append_nil]; rfl
    · rfl
theorem cmpM_one (d : Array Pf) (h : 1 ≤ d.size) : cmpM d 1 = [d[0]!] := by
  unfold cmpM
  have hl : 0 < d.toList.length := by simp; omega
  rw [List.take_succ_eq_append_getElem hl, List.take_zero, List.nil_append]
  rw [getElem!_pos d 0 h]; simp [cmpL, cmpGo]
/-- The row behind stores: the first k are R, the others as they were. -/
structure Mix (d : Array Pf) (R : List Pf) (dj : Array Pf) : Prop where
  size : dj.size = d.size
  low : ∀ i, i < R.length → dj[i]! = R[i]!
  high : ∀ i, R.length ≤ i → i < d.size → dj[i]! = d[i]!
theorem get_set (d : Array Pf) (k i : Nat) (p : Pf) (hi : i < d.size) : (d.setIfInBounds k p)[i]! = if i = k then p else d[i]! := by
  rw [getElem!_pos _ i (by simpa using hi), Array.getElem_setIfInBounds]
  by_cases e : k = i
  · subst e; simp
  · rw [if_neg e, if_neg (fun h => e h.symm), getElem!_pos d i hi]
theorem Mix.snoc {d dj : Array Pf} {R : List Pf} (h : Mix d R dj) (p : Pf) (hR : R.length < d.size) : Mix d (R ++ [p]) (dj.setIfInBounds R.length p) := by
  have hs := h.size
  refine ⟨by simpa using hs, fun i hi => ?_, fun i hi hl => ?_⟩
  · rw [get_set _ _ _ _ (by simp at hi; omega)]
    by_cases e : i = R.length
    · subst e; simp
    · have : i < R.length := by simp at hi; omega
      rw [if_neg e, h.low i this, getElem!_pos R i this, getElem!_pos (R ++ [p]) i hi, List.getElem_append_left this]
  · rw [get_set _ _ _ _ (by omega), if_neg (by simp at hi; omega)]
    exact h.high i (by simp at hi; omega) hl
/-- A run of stores into the row. -/
theorem SG.many {B W : World} {g : Nat} {d e : Array Pf} (h : SG B g d W) (s : Nat) (vs : List Value) (hfit : s + vs.length ≤ d.size * 2) (hs : e.size = d.size) (he : setMany (flatK encP 2 d) s vs = flatK encP 2 e) : SG B g e (W.setCells g (0 + s) vs) := by
  have hp : putRow id W g 0 (flatK encP 2 d) = W := putRowK_self encP 2 W g 0 d h.holds
  have := setCells_putRow W g 0 vs s (flatK encP 2 d) (by rw [size_flatK]; exact hfit)
  rw [hp, he] at this
  rw [this]
  refine ⟨h.kp.trans (kp_putRow _ _ _ _ _), ?_, h.lt⟩
  exact holdsK_putRowK encP 2 W g 0 d e h.holds hs
theorem SG.set {B W : World} {g : Nat} {d : Array Pf} (h : SG B g d W) {k : Nat} (hk : k < d.size) (p : Pf) : SG B g (d.setIfInBounds k p) ((W.setCell ⟨g, k * 2, none⟩ (iv p.1)).setCell ⟨g, k * 2 + 1, none⟩ (iv p.2)) := by
  have := h.many (e := d.setIfInBounds k p) (k * 2) (encP p) (by simp; omega) (by simp) ?_
  · rw [Nat.zero_add] at this; exact this
  refine ext_get! (by simp) fun t ht => ?_
  have ht' : t < d.size * 2 := by simpa using ht
  rw [get_setMany _ _ _ t (by simpa using ht'), get_flatK _ _ _ t ht', get_flatK _ _ _ t (by simpa using ht'), get_set _ _ _ _ (by omega)]
  simp only [List.length_cons, List.length_nil]
  by_cases a : t / 2 = k
  · rw [if_pos (by omega), if_pos a, show t - k * 2 = t % 2 by omega]
  · rw [if_neg (by omega), if_neg a]
/-- clear of the tail. -/
theorem SG.zero {B W : World} {g : Nat} {d : Array Pf} (h : SG B g d W) {k m : Nat} (hk : k + m = d.size) : ∃ e, e.size = d.size ∧ (∀ i, i < k → e[i]! = d[i]!) ∧ SG B g e (W.setCells g (k * 2) (Builtin.zeroCells #[iv 0, iv 0] m).toList) := by
  have hz : (Builtin.zeroCells #[iv 0, iv 0] m).toList.length = m * 2 := by simp [Builtin.zeroCells]
  refine ⟨(d.toList.take k ++ List.replicate m ((0 : Int), (0 : Int))).toArray, by simp; omega, fun i hi => ?_, ?_⟩
  · rw [getElem!_pos _ i (by simp; omega), getElem!_pos d i (by omega)]
    simp only [List.getElem_toArray]
    rw [List.getElem_append_left (by simp; omega)]
    simp
  · have := h.many (e := (d.toList.take k ++ List.replicate m ((0 : Int), (0 : Int))).toArray) (k * 2) (Builtin.zeroCells #[iv 0, iv 0] m).toList (by rw [hz]; omega) (by simp; omega) ?_
    · rw [Nat.zero_add] at this; exact this
    refine ext_get! (by simp; omega) fun t ht => ?_
    have ht' : t < d.size * 2 := by simpa using ht
    rw [get_setMany _ _ _ t (by simpa using ht'), get_flatK _ _ _ t ht', get_flatK _ _ _ t (by simp; omega), hz]
    by_cases a : k ≤ t / 2
    · rw [if_pos (by omega), getElem!_pos _ (t / 2) (by simp; omega)]
      simp only [List.getElem_toArray]
      rw [List.getElem_append_right (by simp; omega)]
      have hb : t - k * 2 < m * 2 := by omega
      have e2 : (t - k * 2) % 2 = t % 2 := by omega
      simp [Builtin.zeroCells, hb, e2]
    · rw [if_neg (by omega), getElem!_pos d (t / 2) (by omega), getElem!_pos _ (t / 2) (by simp; omega)]
      simp only [List.getElem_toArray]
      rw [List.getElem_append_left (by simp; omega)]
      simp

end Go.Proofs.YtklkminlkfnidacDoor
