/- A REGION THAT DRAWS ITS ORDER, BY AN INVARIANT: each operation is shown once, whatever has come up ahead of it. No Go here. -/
import Derived.RegionTactic
import Derived.Orders
namespace Go.Proofs.YtimbgijpeomfcacGreatDoor

def bsOf (n : Nat) (b : Nat → Bool) : List Bool := (List.range n).map b
def updB (b : Nat → Bool) (i : Nat) : Nat → Bool := fun j => if j = i then true else b j
def left (n : Nat) (b : Nat → Bool) : Nat := (List.range n).countP fun i => !b i
theorem left_upd (b : Nat → Bool) : ∀ (n i : Nat), i < n → b i = false → left n (updB b i) + 1 = left n b
  | 0, i, h, _ => by omega
  | n + 1, i, h, hb => by
    unfold left
    rw [List.range_succ, List.countP_append, List.countP_append]
    by_cases e : i = n
    · subst e
      have : (List.range i).countP (fun j => !updB b i j) = (List.range i).countP (fun j => !b j) := by
        apply List.countP_congr
        intro j hj
        have := List.mem_range.1 hj
        simp [updB, show j ≠ i by omega]
      rw [this]
      simp [updB, hb]
    · have := left_upd b n i (by omega) hb
      unfold left at this
      have e2 : updB b i n = b n := by simp [updB, show n ≠ i by omega]
      simp only [List.countP_cons, List.countP_nil, e2]
      omega
theorem left_zero {b : Nat → Bool} {n : Nat} (h : left n b = 0) : ∀ i, i < n → b i = true := by
  intro i hi
  have := List.countP_eq_zero.1 h i (List.mem_range.2 hi)
  simpa using this
/-- What an operation waits for stands ahead of it in the text; of that, what 'need' names binds. -/
def chkO (need : Nat → List Nat) (n : Nat) (ops : Array Oper) : Bool :=
  (List.range n).all fun i => match ops[i]? with
    | none => false
    | some o => (need i).all (fun j => o.after.toList.any (fun e => Region.binds .any e && e.on == j)) && o.after.toList.all (fun e => decide (e.on < i))
theorem bs_get {n i : Nat} {b : Nat → Bool} (h : i < n) (d : Bool) : (bsOf n b).toArray.getD i d = b i := by
  unfold bsOf
  simp [Array.getD, h]
theorem bs_set {n i : Nat} {b : Nat → Bool} : (bsOf n b).toArray.setIfInBounds i true = (bsOf n (updB b i)).toArray := by
  unfold bsOf
  rw [List.setIfInBounds_toArray]
  congr 1
  apply List.ext_getElem
  · simp
  · intro j h1 h2
    rw [List.getElem_set]
    simp only [List.getElem_map, List.getElem_range, updB]
    by_cases e : i = j
    · simp [e]
    · simp [e, show j ≠ i by omega]

theorem wpAny_inv {P : Program} {ops : Array Oper} {Q : Exit → Act → World → Prop} (n : Nat) (need : Nat → List Nat) (hneed : ∀ i j, j ∈ need i → j < n) (hn : ops.size = n) (hb : chkO need n ops = true)
    (Inv : (Nat → Bool) → Act → World → Prop)
    (step : ∀ i, i < n → ∀ b a w, Inv b a w → b i = false → (∀ j ∈ need i, b j = true) → wpOp P ops Q i (Inv (updB b i)) a w)
    (fin : ∀ b a w, Inv b a w → (∀ i, i < n → b i = true) → Q .normal a w) :
    ∀ (fuel : Nat) (b : Nat → Bool) (a : Act) (w : World), left n b ≤ fuel → Inv b a w → wpAny P .any ops Q fuel (bsOf n b).toArray a w := by
  have key : ∀ b, (∀ i ∈ Region.ready .any ops (bsOf n b).toArray, i < n ∧ b i = false ∧ ∀ j ∈ need i, b j = true) ∧ (Region.ready .any ops (bsOf n b).toArray = [] → ∀ i, i < n → b i = true) := by
    intro b
    have hops : ∀ i, i < n → ∃ o, ops[i]? = some o ∧ (∀ j ∈ need i, ∃ e ∈ o.after, Region.binds .any e = true ∧ e.on = j) ∧ ∀ e ∈ o.after, e.on < i := by
      intro i hi
      have h := List.all_eq_true.1 hb i (List.mem_range.2 hi)
      cases ho : ops[i]? with
      | none => rw [ho] at h; cases h
      | some o =>
        rw [ho] at h
        simp only [Bool.and_eq_true, List.all_eq_true, List.any_eq_true, Array.mem_toList_iff, decide_eq_true_eq, beq_iff_eq] at h
        exact ⟨o, rfl, h.1, h.2⟩
    refine ⟨fun i hi => ?_, fun hr i => ?_⟩
    · unfold Region.ready at hi
      obtain ⟨h1, h2⟩ := List.mem_filter.1 hi
      have hin : i < n := by rw [← hn]; exact List.mem_range.1 h1
      obtain ⟨o, ho, hd, _⟩ := hops i hin
      rw [Bool.and_eq_true, ho, bs_get hin] at h2
      simp only [Option.map_some, Option.getD_some, Array.all_eq_true_iff_forall_mem] at h2
      refine ⟨hin, by simpa using h2.1, fun j hj => ?_⟩
      obtain ⟨e, he, hbd, rfl⟩ := hd j hj
      have := h2.2 e he
      rw [hbd, bs_get (hneed i _ hj)] at this
      simpa using this
    · induction i using Nat.strongRecOn with
      | _ i ih =>
        intro hi
        cases hbi : b i with
        | true => rfl
        | false =>
          exfalso
          obtain ⟨o, ho, _, hlt⟩ := hops i hi
          have : i ∈ Region.ready .any ops (bsOf n b).toArray := by
            unfold Region.ready
            refine List.mem_filter.2 ⟨List.mem_range.2 (by rw [hn]; exact hi), ?_⟩
            rw [Bool.and_eq_true, ho, bs_get hi, hbi]
            simp only [Option.map_some, Option.getD_some, Array.all_eq_true_iff_forall_mem]
            refine ⟨rfl, fun e he => ?_⟩
            have h1 := hlt e he
            rw [bs_get (by omega), ih _ h1 (by omega)]
            simp
          rw [hr] at this
          cases this
  intro fuel
  induction fuel with
  | zero =>
    intro b a w hl hi
    have hall := left_zero (Nat.le_zero.1 hl)
    refine ⟨?_, fin b a w hi hall⟩
    cases hr : Region.ready .any ops (bsOf n b).toArray with
    | nil => rfl
    | cons i r =>
      have := (key b).1 i (by rw [hr]; simp)
      rw [hall i this.1] at this
      exact absurd this.2.1 (by simp)
  | succ fuel ih =>
    intro b a w hl hi
    refine ⟨fun hr => fin b a w hi ((key b).2 hr), fun i hir => ?_⟩
    obtain ⟨h1, h2, h3⟩ := (key b).1 i hir
    refine wpOp_mono (fun a' w' h => ?_) (step i h1 b a w hi h2 h3)
    rw [bs_set]
    exact ih _ _ _ (by have := left_upd b n i h1 h2; omega) h

theorem wp_region_inv {P : Program} {ops : Array Oper} {Q : Exit → Act → World → Prop} {id : Nat} {a : Act} {w : World} (hm : P.follows .mixedOrders = true) (n : Nat) (hn : ops.size = n) (need : Nat → List Nat) (hneed : ∀ i j, j ∈ need i → j < n) (hb : chkO need n ops = true)
    (Inv : (Nat → Bool) → Act → World → Prop)
    (start : Inv (fun _ => false) a w.drew)
    (step : ∀ i, i < n → ∀ b a w, Inv b a w → b i = false → (∀ j ∈ need i, b j = true) → wpOp P ops Q i (Inv (updB b i)) a w)
    (fin : ∀ b a w, Inv b a w → (∀ i, i < n → b i = true) → Q .normal a w) : (Code.region id ops true).wp P Q a w := by
  refine wp_region_any hm ?_
  have h := wpAny_inv n need hneed hn hb Inv step fin n (fun _ => false) a w.drew (by unfold left; exact Nat.le_trans List.countP_le_length (by simp)) start
  have e : (bsOf n fun _ => false).toArray = Array.replicate ops.size false := by
    rw [hn]; unfold bsOf
    apply Array.ext
    · simp
    · intro i h1 h2; simp
  rw [e] at h
  rw [hn] at h ⊢
  exact h

end Go.Proofs.YtimbgijpeomfcacGreatDoor
