/- WHAT Child AND Parent ANSWER, for PrefixDoes. -/
import Derived.Test.YtceclaboeajcaaaDoesPlain
namespace Go.Proofs.Ytceclaboeajcaaa
open Go.RowKit

theorem child_facts (l b t : Int) : ∃ (cl cb : Int) (cv : Bool) (TP TT : List UInt8), (∀ w, Calls Try.prog 24 #[pfx l b, .int .i64 t] w fun e w' => e = .returned (.tuple #[pfx cl cb, .bool cv]) ∧ ∃ d : Ext w, w' = d.out) ∧
    (okB l b = false ∧ cv = false ∨ okB l b = true ∧ l = 8 ∧ cv = false ∨ okB l b = true ∧ l < 8 ∧ t = 0 ∧ cv = true ∨ okB l b = true ∧ l < 8 ∧ t = 1 ∧ cv = true ∨ okB l b = true ∧ l < 8 ∧ t ≠ 0 ∧ t ≠ 1 ∧ cv = false) ∧
    (cv = false → cl = 0 ∧ cb = 0) ∧
    (cv = true → cl = l + 1 ∧ 0 ≤ l ∧ l ≤ 7 ∧ 0 ≤ cb ∧ cb < 1024 ∧ 0 ≤ b ∧ b < 1024 ∧ 0 ≤ t ∧ t < 1024 ∧ TP.length ≤ 8 ∧ TT.length ≤ 8 ∧ bitsL cl.toNat cb = TP ++ TT ∧ bitsL l.toNat b = TP ∧ bitsL (1 : Int).toNat t = TT) := by
  cases ho : okB l b
  · exact ⟨0, 0, false, [], [], child_no l b t (.inl ho), .inl ⟨rfl, rfl⟩, fun _ => ⟨rfl, rfl⟩, fun h => by cases h⟩
  obtain ⟨h0, h8, hb, hl, g1, g2⟩ := ok_pows ho
  have hp := (pw_bd l h8).2
  by_cases hl8 : l < 8
  · have e : (l + 1).toNat = l.toNat + 1 := by omega
    have hlen := bitsL_length l.toNat b
    by_cases t0 : t = 0
    · subst t0
      refine ⟨l + 1, b * 2, true, bitsL l.toNat b, bitsL 1 0, child_yes0 l b ho hl8, .inr (.inr (.inl ⟨rfl, hl8, rfl, rfl⟩)), (fun h => by cases h), fun _ => ⟨rfl, h0, by omega, by omega, by omega, hb, by omega, by omega, by omega, by omega, by decide, ?_, rfl, rfl⟩⟩
      rw [e, bitsL]
      have e1 : b * 2 / 2 = b := by omega
      have e2 : b * 2 % 2 = 0 := by omega
      rw [e1, e2]; rfl
    by_cases t1 : t = 1
    · subst t1
      refine ⟨l + 1, b * 2 + 1, true, bitsL l.toNat b, bitsL 1 1, child_yes1 l b ho hl8, .inr (.inr (.inr (.inl ⟨rfl, hl8, rfl, rfl⟩))), (fun h => by cases h), fun _ => ⟨rfl, h0, by omega, by omega, by omega, hb, by omega, by omega, by omega, by omega, by decide, ?_, rfl, rfl⟩⟩
      rw [e, bitsL]
      have e1 : (b * 2 + 1) / 2 = b := by omega
      have e2 : (b * 2 + 1) % 2 = 1 := by omega
      rw [e1, e2]; rfl
    · exact ⟨0, 0, false, [], [], child_no l b t (.inr (.inr ⟨t0, t1⟩)), .inr (.inr (.inr (.inr ⟨rfl, hl8, t0, t1, rfl⟩))), fun _ => ⟨rfl, rfl⟩, fun h => by cases h⟩
  · have e8 : l = 8 := by omega
    exact ⟨0, 0, false, [], [], child_no l b t (.inr (.inl e8)), .inr (.inl ⟨rfl, e8, rfl⟩), fun _ => ⟨rfl, rfl⟩, fun h => by cases h⟩

theorem parent_facts (l b : Int) : ∃ (pl pb : Int) (pv : Bool) (TD TX : List UInt8) (n : Nat), (∀ w, Calls Try.prog 25 #[pfx l b] w fun e w' => e = .returned (.tuple #[pfx pl pb, .bool pv]) ∧ ∃ d : Ext w, w' = d.out) ∧
    (okB l b = false ∧ pv = false ∨ okB l b = true ∧ l = 0 ∧ pv = false ∨ okB l b = true ∧ 0 < l ∧ pv = true) ∧
    (pv = false → pl = 0 ∧ pb = 0) ∧
    (pv = true → pl = n ∧ l = n + 1 ∧ n ≤ 7 ∧ 0 ≤ pb ∧ pb < 1024 ∧ 0 ≤ b ∧ b < 1024 ∧ n ≤ TX.length ∧ TX.take n = TD ∧ bitsL pl.toNat pb = TD ∧ bitsL l.toNat b = TX) := by
  cases ho : okB l b
  · exact ⟨0, 0, false, [], [], 0, parent_no l b (.inl ho), .inl ⟨rfl, rfl⟩, fun _ => ⟨rfl, rfl⟩, fun h => by cases h⟩
  obtain ⟨h0, h8, hb, hl, g1, g2⟩ := ok_pows ho
  have hp := (pw_bd l h8).2
  by_cases hl0 : l = 0
  · exact ⟨0, 0, false, [], [], 0, parent_no l b (.inr hl0), .inr (.inl ⟨rfl, hl0, rfl⟩), fun _ => ⟨rfl, rfl⟩, fun h => by cases h⟩
  · have e : l.toNat = (l - 1).toNat + 1 := by omega
    have e2 : bitsL l.toNat b = bitsL (l - 1).toNat (b / 2) ++ [if b % 2 = 1 then 49 else 48] := by rw [e, bitsL]
    have hlen := bitsL_length (l - 1).toNat (b / 2)
    refine ⟨l - 1, b / 2, true, bitsL (l - 1).toNat (b / 2), bitsL l.toNat b, (l - 1).toNat, parent_yes l b ho (by omega), .inr (.inr ⟨rfl, by omega, rfl⟩), (fun h => by cases h), fun _ => ⟨by omega, by omega, by omega, by omega, by omega, hb, by omega, ?_, ?_, rfl, rfl⟩⟩
    · rw [bitsL_length]; omega
    · rw [e2, List.take_append_of_le_length (by omega), List.take_of_length_le (by omega)]

end Go.Proofs.Ytceclaboeajcaaa
