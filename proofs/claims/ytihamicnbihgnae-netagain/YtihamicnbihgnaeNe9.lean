/- THE PROGRAM'S Net: those with whom a node is linked, told one behind the other; what else stays. -/
import Derived.Test.YtihamicnbihgnaeNe8
namespace Go.Proofs.Ytihamicnbihgnae
open Go.RowKit

/-- Told to the first i of a list, to the first code. -/
def sayL (t : Tn) (a : Nat) (L : List Nat) : Nat → Tn × Int
  | 0 => (t, 0)
  | i + 1 => if (sayL t a L i).2 ≠ 0 then sayL t a L i else match L[i]? with
    | some b => sayC (sayL t a L i).1 (a : Int) (b : Int)
    | none => sayL t a L i
theorem sayL_stop {t : Tn} {a i : Nat} {L : List Nat} (h : (sayL t a L i).2 ≠ 0) : ∀ k, sayL t a L (i + k) = sayL t a L i
  | 0 => rfl
  | k + 1 => by
    have ih := sayL_stop h k
    show (if (sayL t a L (i + k)).2 ≠ 0 then sayL t a L (i + k) else _) = _
    rw [ih, if_pos h]
theorem sayL_next {t : Tn} {a i : Nat} {L : List Nat} (h0 : (sayL t a L i).2 = 0) (hi : i < L.length) : sayL t a L (i + 1) = sayC (sayL t a L i).1 (a : Int) (L[i] : Nat) := by
  rw [sayL, if_neg (fun e => e h0), List.getElem?_eq_getElem hi]
theorem sayL_app (t : Tn) (a : Nat) (L K : List Nat) : ∀ i, i ≤ L.length → sayL t a (L ++ K) i = sayL t a L i
  | 0, _ => rfl
  | i + 1, h => by
    have ih := sayL_app t a L K i (by omega)
    rw [sayL, sayL, ih, List.getElem?_append_left (by omega)]
theorem sayC_cst (t : Tn) (a b : Int) : (sayC t a b).1.cst = t.cst := by
  unfold sayC
  split
  · rfl
  · split
    · rfl
    · split <;> rfl
theorem sayAll_cst (t : Tn) (a : Nat) : ∀ b, (sayAll t a b).1.cst = t.cst
  | 0 => rfl
  | b + 1 => by
    rw [sayAll]
    split
    · exact sayAll_cst t a b
    · split
      · rw [sayC_cst, sayAll_cst t a b]
      · exact sayAll_cst t a b
/-- Those who are linked, told one by one: as all are gone through. -/
theorem sayL_all (t : Tn) {a : Nat} {f : Nat → Nat → Nat} (hf : ∀ b, b < 6 → (0 < t.cst a b ↔ f 0 b ≠ 0)) : ∀ j, j ≤ 6 → sayL t a (ofTo f 0 j) (ofTo f 0 j).length = sayAll t a j
  | 0, _ => rfl
  | j + 1, h => by
    have ih := sayL_all t hf j (by omega)
    rw [sayAll, ofTo]
    by_cases e : f 0 j = 0
    · rw [if_pos e, List.append_nil, ih, sayAll_cst, if_neg (c := 0 < t.cst a j) (fun q => (hf j (by omega)).1 q e)]
      split <;> rfl
    · rw [if_neg e, List.length_append]
      show sayL t a (ofTo f 0 j ++ [j]) ((ofTo f 0 j).length + 1) = _
      rw [sayL, sayL_app t a _ _ _ (Nat.le_refl _), ih, sayAll_cst, if_pos (c := 0 < t.cst a j) ((hf j (by omega)).2 e)]
      simp
theorem sayL_a {t : Tn} {c : Nat → Nat → Nat} (H : TnA t c) (a : Nat) (L : List Nat) : ∀ i, TnA (sayL t a L i).1 c
  | 0 => H
  | i + 1 => by
    have ih := sayL_a H a L i
    rw [sayL]
    split
    · exact ih
    · split
      · exact (say_nx ih _ _).a
      · exact ih
theorem sayC_len {t : Tn} (h : t.news.length ≤ 40) (a b : Int) : (sayC t a b).1.news.length ≤ 40 := by
  unfold sayC
  split
  · exact h
  · split
    · exact h
    · split
      · exact h
      · show (t.news ++ tellT t a.toNat b.toNat).length ≤ 40
        have : (tellT t a.toNat b.toNat).length = 6 := by simp [tellT]
        rw [List.length_append]
        omega
theorem sayAll_len {t : Tn} (h : t.news.length ≤ 40) (a : Nat) : ∀ k, (sayAll t a k).1.news.length ≤ 40
  | 0 => h
  | k + 1 => by
    have ih := sayAll_len h a k
    rw [sayAll]
    split
    · exact ih
    · split
      · exact sayC_len ih _ _
      · exact ih
theorem sayL_len {t : Tn} (h : t.news.length ≤ 40) (a : Nat) (L : List Nat) : ∀ k, (sayL t a L k).1.news.length ≤ 40
  | 0 => h
  | k + 1 => by
    have ih := sayL_len h a L k
    rw [sayL]
    split
    · exact ih
    · split
      · exact sayC_len ih _ _
      · exact ih
/-- All that is not the Net's. -/
def rest (w : World) (p k : Nat) (q : Nat → Nat) (v : Value) : Nat → Prop := fun b => b < w.heap.size ∧ b ≠ p ∧ b ≠ k ∧ (∀ a, a < 6 → b ≠ q a) ∧ v.ownBlock ≠ some b
section
variable {M : Nat → Prop} {B w w' : World} {p k : Nat} {q : Nat → Nat} {v : Value} {c : Nat → Nat → Nat} {t : Tn}
theorem Ne.rest (h : Ne M B w p k q v c t) : Ne (rest w p k q v) w w p k q v c t :=
  h.re (fun _ hb => hb.1) (fun x => x.2.1 rfl) (fun x => x.2.2.1 rfl) (fun a ha x => x.2.2.2.1 a ha rfl) (fun _ e x => x.2.2.2.2 e)
theorem Ne.sub (h : Ne M B w p k q v c t) {b : Nat} (hm : M b) : Ytihamicnbihgnae.rest w p k q v b :=
  ⟨Nat.lt_of_lt_of_le (h.bd b hm) h.kp.size, fun e => h.nop (e ▸ hm), fun e => h.nok (e ▸ hm), fun a ha e => h.noq a ha (e ▸ hm), fun e => h.nov b e hm⟩
theorem Ne.unrest (h : Ne M B w p k q v c t) {v' : Value} {c' : Nat → Nat → Nat} {t' : Tn} (h' : Ne (Ytihamicnbihgnae.rest w p k q v) w w' p k q v' c' t') : Ne M B w' p k q v' c' t' := h.back h' fun _ hm => h.sub hm
/-- What is younger than the Net is not the Net's. -/
theorem Ne.notOwn (h : Ne M B w p k q v c t) (_g : Gr w w') {b : Nat} (hb : w.heap.size ≤ b) (hb' : b < w'.heap.size) : Ytihamicnbihgnae.rest w' p k q v b :=
  ⟨hb', fun e => by have := h.blk.lt; omega, fun e => by have := h.lk.lt; omega, fun a ha e => by have := (h.six.at_ a ha).lt; omega, fun e => by have := h.nw.own_lt e; omega⟩
end
theorem NumAt.keep {w w' : World} {ao : Option Addr} {l : List Nat} (h : NumAt w ao l) (k : ∀ b o, ao = some ⟨b, o, none⟩ → b < w.heap.size → w'.heap[b]? = w.heap[b]?) : NumAt w' ao l := by
  rcases h with h | ⟨b, o, ha, hb, hc⟩
  · exact .inl h
  · have hk := k b o ha hb
    refine .inr ⟨b, o, ha, ?_, fun i hi => ?_⟩
    · have : w.heap[b]? = some w.heap[b] := by simp [hb]
      rw [this] at hk
      exact lt_of_block hk
    · rw [World.cell?_of_block (w := w) (a := ⟨b, o + i, none⟩) hk]
      exact hc i hi
theorem OwnI.young {B w : World} {v : Value} {l : List Nat} (h : OwnI B w v l) : ∀ b o n c, v = .slice (some ⟨b, o, none⟩) n c → B.heap.size ≤ b := by
  intro b o n c e
  rcases h.2 with ⟨rfl, hn⟩ | ⟨g, cap, cur, rfl, hb, _⟩
  · cases e
  · cases e; exact hb
theorem ofz_len (f : Nat → Nat → Nat) : ∀ j, (ofTo f 0 j).length ≤ j
  | 0 => Nat.le_refl _
  | j + 1 => by
    have := ofz_len f j
    rw [ofTo, List.length_append]
    split
    · simp; omega
    · simp; omega
theorem ofz_lt (f : Nat → Nat → Nat) : ∀ j x, x ∈ ofTo f 0 j → x < j ∧ f 0 x ≠ 0
  | 0, x, h => by cases h
  | j + 1, x, h => by
    rw [ofTo] at h
    rcases List.mem_append.1 h with q | q
    · have := ofz_lt f j x q; exact ⟨by omega, this.2⟩
    · split at q
      · cases q
      · rename_i e
        rw [List.mem_singleton.1 q]; exact ⟨by omega, e⟩

end Go.Proofs.Ytihamicnbihgnae
