/- CONTRACTS OF package links: Node, New, Cost, Set; of handpostref: IsNode, Map.Set. -/
import Derived.Test.YtihamicnbihgnaeKMem
namespace Go.Proofs.Ytihamicnbihgnae
open Go.RowKit

def nodeB (a : Int) : Bool := decide (0 ≤ a ∧ a < 6)
theorem node_iff {a : Int} : nodeB a = true ↔ 0 ≤ a ∧ a < 6 := by unfold nodeB; simp
theorem node_not {a : Int} : nodeB a = false ↔ ¬ (0 ≤ a ∧ a < 6) := by unfold nodeB; simp
theorem node_is {a : Int} {v : Bool} (h : nodeB a = v) (w : World) : Calls Try.prog 28 #[iv a] w fun e w' => e = .returned (.bool v) ∧ w' = w := by
  subst h
  by_cases h1 : 0 ≤ a
  · have hd : decide (0 ≤ a) = true := by simpa using h1
    have ho : nodeB a = decide (a < 6) := by unfold nodeB; congr 1; simp only [eq_iff_iff]; omega
    rw [ho]; clear ho
    go_enter Try.func28, Try.ntmps28
    go_wp2
    go_ret
    exact ⟨rfl, rfl⟩
  · have hd : decide (0 ≤ a) = false := by simpa using h1
    have ho : nodeB a = false := node_not.2 (by omega)
    rw [ho]; clear ho
    go_enter Try.func28, Try.ntmps28
    go_wp2
    go_ret
    exact ⟨rfl, rfl⟩
theorem knew_any (w : World) : Calls Try.prog 30 #[] w fun e w' => e = .returned (pv w.heap.size) ∧ KL w' w.heap.size (fun _ _ => 0) ∧ Gr w w' ∧ w.heap.size < w'.heap.size := by
  have HN := hide (KL.new w)
  go_enter Try.func30, Try.ntmps30
  go_wp2
  go_ret
  exact ⟨rfl, HN.out, (Gr.refl _).alloc _, by simp⟩

/-- What the link of two nodes costs. -/
def cst (c : Nat → Nat → Nat) (a b : Int) : Nat := if nodeB a = true ∧ nodeB b = true then c a.toNat b.toNat else 0
theorem cost_nat {w : World} {p : Nat} {c : Nat → Nat → Nat} (H : KL w p c) (hc : Lk c) {a b : Nat} (ha : a < 6) (hb : b < 6) : Calls Try.prog 40 #[pv p, iv a, iv b] w fun e w' => e = .returned (iv (c a b)) ∧ w' = w := by
  have A : Hid (nodeB (a : Int) = true) := node_iff.2 (by omega)
  have B : Hid (nodeB (b : Int) = true) := node_iff.2 (by omega)
  have hlt := H.lt
  by_cases h1 : a < b
  · have c1 := H.cell h1 hb
    clear H hc
    go_enter Try.func40, Try.ntmps40
    go_wp2_with (first | (go_at_call 28; with_reducible refine (node_is A.out _).mono ?_; rintro e w' ⟨rfl, hw⟩; subst hw) | (go_at_call 28; with_reducible refine (node_is B.out _).mono ?_; rintro e w' ⟨rfl, hw⟩; subst hw))
    go_ret
    exact ⟨rfl, rfl⟩
  · by_cases h2 : b < a
    · have c1 := H.cell h2 ha
      rw [hc.sym b a] at c1
      clear H hc
      go_enter Try.func40, Try.ntmps40
      go_wp2_with (first | (go_at_call 28; with_reducible refine (node_is A.out _).mono ?_; rintro e w' ⟨rfl, hw⟩; subst hw) | (go_at_call 28; with_reducible refine (node_is B.out _).mono ?_; rintro e w' ⟨rfl, hw⟩; subst hw))
      go_ret
      exact ⟨rfl, rfl⟩
    · have e : a = b := by omega
      subst e
      have c1 := H.cell0 (Nat.le_refl a) ha
      have HC := hide (hc.self a)
      clear H hc
      go_enter Try.func40, Try.ntmps40
      go_wp2_with (first | (go_at_call 28; with_reducible refine (node_is A.out _).mono ?_; rintro e w' ⟨rfl, hw⟩; subst hw))
      go_ret
      exact ⟨by rw [HC.out]; rfl, rfl⟩
theorem cost_any {w : World} {p : Nat} {c : Nat → Nat → Nat} (H : KL w p c) (hc : Lk c) (a b : Int) : Calls Try.prog 40 #[pv p, iv a, iv b] w fun e w' => e = .returned (iv (cst c a b)) ∧ w' = w := by
  cases hA : nodeB a
  · have A := hide hA
    have ho : cst c a b = 0 := by unfold cst; rw [if_neg (by simp [hA])]
    rw [ho]
    clear hA H ho
    go_enter Try.func40, Try.ntmps40
    go_wp2_with (first | (go_at_call 28; with_reducible refine (node_is A.out _).mono ?_; rintro e w' ⟨rfl, hw⟩; subst hw))
    go_ret
    exact ⟨rfl, rfl⟩
  · cases hB : nodeB b
    · have A := hide hA
      have B := hide hB
      have ho : cst c a b = 0 := by unfold cst; rw [if_neg (by simp [hB])]
      rw [ho]
      clear hA hB H ho
      go_enter Try.func40, Try.ntmps40
      go_wp2_with (first | (go_at_call 28; with_reducible refine (node_is A.out _).mono ?_; rintro e w' ⟨rfl, hw⟩; subst hw) | (go_at_call 28; with_reducible refine (node_is B.out _).mono ?_; rintro e w' ⟨rfl, hw⟩; subst hw))
      go_ret
      exact ⟨rfl, rfl⟩
    · obtain ⟨a0, a1⟩ := node_iff.1 hA
      obtain ⟨b0, b1⟩ := node_iff.1 hB
      have ho : cst c a b = c a.toNat b.toNat := by unfold cst; rw [if_pos ⟨hA, hB⟩]
      have := cost_nat H hc (a := a.toNat) (b := b.toNat) (by omega) (by omega)
      rw [show ((a.toNat : Nat) : Int) = a by omega, show ((b.toNat : Nat) : Int) = b by omega] at this
      rw [ho]; exact this

theorem setC_swap (c : Nat → Nat → Nat) (a b v : Nat) : setC c a b v = setC c b a v := by
  funext i j
  unfold setC
  by_cases e : (i = a ∧ j = b) ∨ (i = b ∧ j = a)
  · rw [if_pos e, if_pos (by omega)]
  · rw [if_neg e, if_neg (by omega)]
/-- May it be set? -/
def setB (a b v : Int) : Bool := nodeB a && nodeB b && decide (a ≠ b) && decide (0 ≤ v) && decide (v ≤ 15)
theorem set_iff {a b v : Int} : setB a b v = true ↔ (0 ≤ a ∧ a < 6) ∧ (0 ≤ b ∧ b < 6) ∧ a ≠ b ∧ 0 ≤ v ∧ v ≤ 15 := by
  unfold setB
  simp only [Bool.and_eq_true, node_iff, decide_eq_true_eq]
  constructor
  · rintro ⟨⟨⟨⟨h1, h2⟩, h3⟩, h4⟩, h5⟩; exact ⟨h1, h2, h3, h4, h5⟩
  · rintro ⟨h1, h2, h3, h4, h5⟩; exact ⟨⟨⟨⟨h1, h2⟩, h3⟩, h4⟩, h5⟩
/-- The costs behind it. -/
def stp (c : Nat → Nat → Nat) (a b v : Int) : Nat → Nat → Nat := if setB a b v = true then setC c a.toNat b.toNat v.toNat else c
theorem Lk.stp {c : Nat → Nat → Nat} (h : Lk c) (a b v : Int) : Lk (stp c a b v) := by
  unfold Go.Proofs.Ytihamicnbihgnae.stp
  split
  · next e =>
    obtain ⟨h1, h2, h3, h4, h5⟩ := set_iff.1 e
    exact h.set (by omega) (by omega)
  · exact h

theorem kset_ok {w : World} {p : Nat} {c : Nat → Nat → Nat} (H : KL w p c) {a b v : Nat} (ha : a < 6) (hb : b < 6) (hne : a ≠ b) (hv : v ≤ 15) :
    Calls Try.prog 38 #[pv p, iv a, iv b, iv v] w fun e w' => e = .returned (iv 0) ∧ ∃ j, w' = w.setCell ⟨p, j, none⟩ (iv v) ∧ KL w' p (setC c a b v) := by
  have A : Hid (nodeB (a : Int) = true) := node_iff.2 (by omega)
  have B : Hid (nodeB (b : Int) = true) := node_iff.2 (by omega)
  have hlt := H.lt
  have fz := NArr.free H
  have hne' : ((a : Int) == (b : Int)) = false := by simp; omega
  by_cases h1 : a < b
  · have c1 := H.cell h1 hb
    have HS := hide (H.set (v := v) h1 hb)
    clear H
    go_enter Try.func38, Try.ntmps38
    go_wp2_with (first | (go_at_call 28; with_reducible refine (node_is A.out _).mono ?_; rintro e w' ⟨rfl, hw⟩; subst hw) | (go_at_call 28; with_reducible refine (node_is B.out _).mono ?_; rintro e w' ⟨rfl, hw⟩; subst hw))
    go_ret
    exact ⟨rfl, _, rfl, HS.out⟩
  · have h2 : b < a := by omega
    have c1 := H.cell h2 ha
    have HS := hide (H.set (v := v) h2 ha)
    rw [setC_swap c b a v] at HS
    clear H
    go_enter Try.func38, Try.ntmps38
    go_wp2_with (first | (go_at_call 28; with_reducible refine (node_is A.out _).mono ?_; rintro e w' ⟨rfl, hw⟩; subst hw) | (go_at_call 28; with_reducible refine (node_is B.out _).mono ?_; rintro e w' ⟨rfl, hw⟩; subst hw))
    go_ret
    exact ⟨rfl, _, rfl, HS.out⟩
theorem kset_bad {w : World} {p : Nat} {a b v : Int} (h : setB a b v = false) : Calls Try.prog 38 #[pv p, iv a, iv b, iv v] w fun e w' => e = .returned (iv 1) ∧ w' = w := by
  cases hA : nodeB a
  · have A := hide hA
    clear hA h
    go_enter Try.func38, Try.ntmps38
    go_wp2_with (first | (go_at_call 28; with_reducible refine (node_is A.out _).mono ?_; rintro e w' ⟨rfl, hw⟩; subst hw))
    go_ret
    exact ⟨rfl, rfl⟩
  cases hB : nodeB b
  · have A := hide hA
    have B := hide hB
    clear hA hB h
    go_enter Try.func38, Try.ntmps38
    go_wp2_with (first | (go_at_call 28; with_reducible refine (node_is A.out _).mono ?_; rintro e w' ⟨rfl, hw⟩; subst hw) | (go_at_call 28; with_reducible refine (node_is B.out _).mono ?_; rintro e w' ⟨rfl, hw⟩; subst hw))
    go_ret
    exact ⟨rfl, rfl⟩
  have A := hide hA
  have B := hide hB
  by_cases he : a = b
  · subst he
    clear hA hB h B
    have he' : (a == a) = true := by simp
    go_enter Try.func38, Try.ntmps38
    go_wp2_with (first | (go_at_call 28; with_reducible refine (node_is A.out _).mono ?_; rintro e w' ⟨rfl, hw⟩; subst hw))
    go_ret
    exact ⟨rfl, rfl⟩
  have he' : (a == b) = false := by simpa using he
  by_cases h0 : v < 0
  · have hd : decide (v < 0) = true := by simpa using h0
    clear hA hB h he
    go_enter Try.func38, Try.ntmps38
    go_wp2_with (first | (go_at_call 28; with_reducible refine (node_is A.out _).mono ?_; rintro e w' ⟨rfl, hw⟩; subst hw) | (go_at_call 28; with_reducible refine (node_is B.out _).mono ?_; rintro e w' ⟨rfl, hw⟩; subst hw))
    go_ret
    exact ⟨rfl, rfl⟩
  · have h15 : 15 < v := by
      refine Int.not_le.1 fun hle => ?_
      have := set_iff.2 ⟨node_iff.1 hA, node_iff.1 hB, he, by omega, hle⟩
      rw [h] at this; cases this
    have hd : decide (v < 0) = false := by simpa using h0
    clear hA hB h he
    go_enter Try.func38, Try.ntmps38
    go_wp2_with (first | (go_at_call 28; with_reducible refine (node_is A.out _).mono ?_; rintro e w' ⟨rfl, hw⟩; subst hw) | (go_at_call 28; with_reducible refine (node_is B.out _).mono ?_; rintro e w' ⟨rfl, hw⟩; subst hw))
    go_ret
    exact ⟨rfl, rfl⟩

end Go.Proofs.Ytihamicnbihgnae
