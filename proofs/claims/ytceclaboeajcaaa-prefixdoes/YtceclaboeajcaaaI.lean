/- CONTRACT OF handpostref.Parse, by the plain function. -/
import Derived.Test.YtceclaboeajcaaaH
namespace Go.Proofs.Ytceclaboeajcaaa
open Go.RowKit

theorem rparse_some (s : ByteArray) (n : Nat) (v : Int) (hs : s.size ≤ 1000) (h : parseL s.data.toList = some (n, v)) (w : World) :
    Calls Try.prog 10 #[.string s] w fun e w' => e = .returned (.tuple #[pfx n v, .bool true]) ∧ ∃ d : Ext w, w' = d.out := by
  obtain ⟨ok, ht⟩ := text_parse _ _ _ h
  obtain ⟨_, h8, hv, hl⟩ := ok_iff.1 ok
  have hl' : v < 2 ^ n := by simpa using hl
  have hlen : s.data.toList.length = s.size := by simp
  have hbl := bitsL_length n v
  have e : s.data.toList = bitsL n v ++ (if (n : Int) < 8 then [42] else []) := by rw [← ht]; simp [textL, ok]
  have hn : n ≤ s.size := by rw [← hlen, e, List.length_append]; omega
  have htk : s.data.toList.take n = bitsL n v := by rw [e, List.take_append_of_le_length (by omega), List.take_of_length_le (by omega)]
  have hall := bitsL_bits n v
  refine rparse_yes s n v hs hn (by omega) (fun k hk => ?_) (fun hk => ?_) (by rw [htk]; exact valL_bitsL n v hv hl') ht w
  · rw [← htk, List.all_eq_true] at hall
    apply hall
    rw [List.mem_take_iff_getElem]
    exact ⟨k, by simp; omega, rfl⟩
  · have h1 : s[n] = s.data.toList[n]'(by rw [hlen]; exact hk) := rfl
    have h2 : s.data.toList[n]? = some s[n] := by rw [h1]; exact List.getElem?_eq_getElem _
    rw [e, List.getElem?_append_right (by omega), hbl, Nat.sub_self] at h2
    by_cases hn8 : (n : Int) < 8
    · rw [if_pos hn8] at h2
      simp at h2
      rw [← h2]; rfl
    · rw [if_neg hn8] at h2
      simp at h2

/-- How many bits a text begins with, nine at most. -/
theorem leads (l : List UInt8) : ∃ n, n ≤ 9 ∧ ∃ hn : n ≤ l.length, (∀ k (h : k < n), bitB (l[k]'(by omega)) = true) ∧ ∀ h : n < l.length, n = 9 ∨ bitB l[n] = false := by
  by_cases ha : (l.take 9).all bitB = true
  · refine ⟨min 9 l.length, by omega, by omega, fun k hk => ?_, fun h => .inl (by omega)⟩
    rw [List.all_eq_true] at ha
    apply ha
    rw [List.mem_take_iff_getElem]
    exact ⟨k, by omega, rfl⟩
  · obtain ⟨m, h1, h2, h3⟩ := first_bad bitB (l.take 9) (by simpa using ha)
    have hm : m < 9 ∧ m < l.length := by simp at h1; omega
    refine ⟨m, by omega, by omega, fun k hk => ?_, fun h => .inr ?_⟩
    · have := h3 k hk
      rw [List.getElem_take] at this
      exact this
    · rw [List.getElem_take] at h2
      exact h2

theorem rparse_nil (s : ByteArray) (hs : s.size ≤ 1000) (h : parseL s.data.toList = none) (w : World) :
    Calls Try.prog 10 #[.string s] w fun e w' => e = .returned (.tuple #[pfx 0 0, .bool false]) ∧ ∃ d : Ext w, w' = d.out := by
  have hlen : s.data.toList.length = s.size := by simp
  obtain ⟨n, h9, hn, hall, hend⟩ := leads s.data.toList
  refine rparse_no s n hs (by omega) h9 (fun k hk => hall k hk) (fun hk => hend (by omega)) (fun h8 ht => ?_) w
  obtain ⟨v0, v1⟩ := valL_bd (s.data.toList.take n)
  have hl2 : (s.data.toList.take n).length = n := by rw [List.length_take]; omega
  rw [hl2] at v1
  have ok : okB n (valL (s.data.toList.take n)) = true := ok_iff.2 ⟨by omega, by omega, v0, by simpa using v1⟩
  have := parse_text n _ ok
  rw [ht, h] at this
  cases this

end Go.Proofs.Ytceclaboeajcaaa
