/- slices.Index, slices.Contains, of numbers of nodes. -/
import Derived.Test.YtihamicnbihgnaeNe15
namespace Go.Proofs.Ytihamicnbihgnae
open Go.RowKit
attribute [local go_sem] Ext.all Ext.cell Ext.frozen Ext.lt Ext.lt1 Ext.lt2 Ext.ne Ext.ne'

set_option maxRecDepth 20000 in
set_option maxHeartbeats 8000000 in
theorem index_any {w : World} {ao : Option Addr} {n cp : Nat} {l : List Nat} (H : NumAt w ao l) (hn : n = l.length) (hm : l.length ≤ 1000) (x : Nat) :
    Calls Try.prog 47 #[.slice ao n cp, iv (x : Int)] w fun e w' => ∃ r : Int, e = .returned (iv r) ∧ w' = w ∧ (0 ≤ r ↔ x ∈ l) := by
  have HN := hide hn
  clear hn
  go_enter Try.func47, Try.ntmps47
  go_wp2_with fail
  go_loopw [8] (fun v8 wr => ∃ k : Nat, k ≤ n ∧ v8 = .int .i64 (k : Int) ∧ Hid (wr = w) ∧ Hid (∀ i (h : i < l.length), i < k → l[i] ≠ x)) (fun v8 _ => (n - intOf v8).toNat)
  case atStart => exact ⟨0, by omega, rfl, rfl, fun i h hi => by omega⟩
  case round =>
    obtain ⟨k, hkn, rfl, hwr, HB⟩ := hrel
    by_cases hk : k < n
    · have hki : decide ((k : Int) < (n : Int)) = true := decide_eq_true (by omega)
      have hk0 : (k : Int) < (n : Int) := by omega
      have hkl : k < l.length := by have := HN.out; omega
      have wk : IntKind.i64.wrap ((k : Int) + 1) = (k : Int) + 1 := by rw [IntKind.wrap_i64]; omega
      rcases H with h0 | ⟨bb, o, rfl, hbb, hc⟩
      · exfalso; rw [h0] at hkl; simp at hkl
      have c0 := hc k hkl
      rw [← hwr.out] at c0 hbb
      have HE : Hid (l[k] = x → x ∈ l) := fun e => by rw [← e]; exact List.getElem_mem hkl
      have HF : Hid (l[k] ≠ x → ∀ i (h : i < l.length), i < k + 1 → l[i] ≠ x) := fun e i h hi => by
        by_cases q : i = k
        · subst q; exact e
        · exact HB.out i h (by omega)
      generalize hlk : l[k] = lk at *
      clear hc hlk HB
      by_cases e : lk = x
      · have HI := hide (HE.out e)
        subst e
        clear HE HF
        go_wp2_with fail
        go_ret
        exact ⟨_, rfl, hwr.out, fun _ => HI.out, fun _ => by omega⟩
      · have e1 : ((x : Int) == (lk : Int)) = false := by simp; omega
        have HF2 := hide (HF.out e)
        clear HE HF e
        go_wp2_with fail
        go_roundw
        case rel => exact ⟨k + 1, by omega, by congr 1, hwr, HF2⟩
        case measure => simp [intOf]; omega
    · have hki : decide ((k : Int) < (n : Int)) = false := decide_eq_false (by omega)
      have HI : Hid (x ∉ l) := fun hm => by
        obtain ⟨i, hi, e⟩ := List.mem_iff_getElem.1 hm
        have := HN.out
        exact HB.out i hi (by omega) e
      go_wp2_with fail
      go_ret
      exact ⟨_, rfl, hwr.out, fun h => by omega, fun h => absurd h HI.out⟩
set_option maxRecDepth 20000 in
theorem contains_is {w : World} {ao : Option Addr} {n cp : Nat} {l : List Nat} (H : NumAt w ao l) (hn : n = l.length) (hm : l.length ≤ 1000) (x : Nat) {b : Bool} (hb : decide (x ∈ l) = b) :
    Calls Try.prog 34 #[.slice ao n cp, iv (x : Int)] w fun e w' => e = .returned (.bool b) ∧ w' = w := by
  have HI := hide (index_any (cp := cp) H hn hm x)
  have HB := hide hb
  clear H hn hb
  go_enter Try.func34, Try.ntmps34
  go_wp2_with (go_at_call 47; with_reducible refine HI.out.mono ?_; rintro e w1 ⟨r, rfl, hw1, hr'⟩; have HR := hide hr'; have hw2 := hw1.symm; clear hw1 hr'; subst hw2)
  go_ret
  refine ⟨?_, rfl⟩
  refine congrArg (fun z => Ending.returned (.bool z)) ?_
  rw [← HB.out]
  exact decide_eq_decide.2 HR.out

end Go.Proofs.Ytihamicnbihgnae
