/- CONTRACT OF handpostlaw.tables: both, with these routes, one by one. -/
import Derived.Test.YtimbgijpeomfcacGreatDoorS9
namespace Go.Proofs.YtimbgijpeomfcacGreatDoor
open Go.RowKit
attribute [local go_sem] Ext.all Ext.cell Ext.frozen Ext.lt Ext.lt1 Ext.lt2 Ext.ne Ext.ne'

/-- The routes that a table has when these were set, one by one. -/
def setAll (ls : List Rt) : List Rt := ls.foldl (fun rs r => (setL rs r.1 r.2.1 r.2.2).1) []
theorem setAll_tab (ls : List Rt) : Tab (setAll ls) := by
  have : ∀ (ls rs : List Rt), Tab rs → Tab (ls.foldl (fun rs r => (setL rs r.1 r.2.1 r.2.2).1) rs) := by
    intro ls
    induction ls with
    | nil => intro rs h; exact h
    | cons r ls ih => intro rs h; exact ih _ (h.set_tab _ _ _)
  exact this ls [] Tab.nil
theorem setAll_take {ls : List Rt} {k : Nat} (hk : k < ls.length) : setAll (ls.take (k + 1)) = (setL (setAll (ls.take k)) ls[k].1 ls[k].2.1 ls[k].2.2).1 := by
  rw [List.take_succ_eq_append_getElem hk]; unfold setAll; rw [List.foldl_append]; rfl

/-- The world behind 'tables': both read as the same routes; what was there is as it was. -/
structure Both (w w' : World) (tb : Nat) (ro : Option Addr) (rs : List Rt) : Prop where
  tab : ∃ M v, TabS w' M tb v rs ∧ RowAt w' M ro rs ∧ (∀ k, k < w.heap.size → M k)
  old : Below w.heap.size w w'

theorem Both.gr {w w1 w2 : World} {tb : Nat} {ro : Option Addr} {rs : List Rt} (h : Both w w1 tb ro rs) (g : Gr w1 w2) : Both w w2 tb ro rs := by
  obtain ⟨M, v, hS, hR, hM⟩ := h.tab
  exact ⟨⟨M, v, hS.gr g, hR.gr g, hM⟩, Below.trans h.old (Below.mono g (Below.size h.old))⟩

theorem Both.next {w w1 : World} {tb : Nat} {ro : Option Addr} {rs : List Rt} (h : Both w w1 tb ro rs) (hT : Tab rs) (l b hp : Int) :
    Calls Tryz.prog 18 #[.pointer (some ⟨tb, 0, none⟩), pfx l b, .int .i64 hp] w1 fun e w2 => e = .returned (.int .i64 (setL rs l b hp).2) ∧ Below w.heap.size w w2 ∧ Hid (∀ c, Calls Tryz.prog 20 #[.slice ro rs.length c, pfx l b, .int .i64 hp] w2.drew fun e w3 => ∃ ro' c', e = .returned (.tuple #[.slice ro' (setL rs l b hp).1.length c', .int .i64 (setL rs l b hp).2]) ∧ Both w w3 tb ro' (setL rs l b hp).1) := by
  obtain ⟨M, v, hS, hR, hM⟩ := h.tab
  refine (set_any w1 M tb v rs l b hp hS hT).mono ?_
  rintro e w2 ⟨rfl, v', hS', hK⟩
  have hB2 : Below w.heap.size w w2 := Below.trans h.old (hK.below (Below.size h.old) hM)
  refine ⟨rfl, hB2, fun c => ?_⟩
  have hR2 := hR.kept hK
  refine (setOf_any w2.drew M ro c rs l b hp (hR2.gr (Gr.refl _).drew) hT).mono ?_
  rintro e w3 ⟨ro', c', rfl, hR3, d, rfl⟩
  refine ⟨ro', c', rfl, ?_, ?_⟩
  · have hS3 := (hS'.gr (Gr.refl _).drew).more d.gr
    refine ⟨_, v', hS3, hR3.mono fun k hk hor => ?_, fun k hk => .inl (hM k hk)⟩
    rcases hor with hor | hor
    · exact .inl hor
    · exact .inr ⟨hor, hk⟩
  · exact Below.trans (Below.drew hB2) (Below.mono d.gr (Below.size (Below.drew hB2)))

set_option maxRecDepth 20000 in
set_option maxHeartbeats 2000000 in
theorem tables_any (w : World) (N : Nat → Prop) (ao : Option Addr) (c : Nat) (ls : List Rt) (H : RowAt w N ao ls) (hm : ls.length ≤ 120) :
    Calls Tryz.prog 5 #[.slice ao ls.length c] w fun e w' => ∃ tb ro c', e = .returned (.tuple #[.pointer (some ⟨tb, 0, none⟩), .slice ro (setAll ls).length c', .bool true]) ∧ Both w w' tb ro (setAll ls) := by
  have S0 := TabS.new w (fun k => k < w.heap.size) (fun _ h => h)
  have B0 : Both w (w.alloc (.cells #[.slice none 0 0] 70)) w.heap.size none [] :=
    ⟨⟨_, _, S0, .inl rfl, fun _ h => h⟩, (Gr.refl w).alloc _⟩
  clear S0
  go_enter Tryz.func5, Tryz.ntmps5
  go_wp2_with (go_at_call 17; refine (new_any _).mono ?_; rintro e w1 ⟨rfl, hw1⟩; subst hw1)
  go_loopw [6, 7, 8] (fun r ok i wr => ∃ (k : Nat) (ro : Option Addr) (c' : Nat), k ≤ ls.length ∧ i = .int .i64 k ∧ ok = .bool true ∧ r = .slice ro (setAll (ls.take k)).length c' ∧ Hid (Both w wr w.heap.size ro (setAll (ls.take k)))) (fun _ _ i _ => ls.length - (intOf i).toNat)
  case atStart => exact ⟨0, none, 0, by omega, rfl, rfl, rfl, B0⟩
  case round =>
    clear B0
    obtain ⟨k, ro, c', hk, rfl, rfl, rfl, HB⟩ := hrel
    by_cases hlt : k < ls.length
    · rcases H with rfl | ⟨rb, o, rfl, hb, hN, hcs⟩
      · simp at hlt
      obtain ⟨c1, c2, c3⟩ := hcs k hlt
      have HT : Hid (Tab (setAll (ls.take k))) := setAll_tab _
      have HS : Hid (setAll (ls.take (k + 1)) = _) := setAll_take hlt
      clear hcs
      generalize ls[k] = r at *
      obtain ⟨rl, rbb, rh⟩ := r
      simp only at c1 c2 c3
      generalize setAll (ls.take k) = rs at *
      have hwc : ∀ w2, Below w.heap.size w w2 → w2.cell? ⟨rb, o + k * 3, none⟩ = some (iv rl) ∧ w2.cell? ⟨rb, o + k * 3 + 1, none⟩ = some (iv rbb) ∧ w2.cell? ⟨rb, o + k * 3 + 2, none⟩ = some (iv rh) := fun w2 h2 =>
        ⟨(Below.cell h2 (p := ⟨rb, _, none⟩) hb).trans c1, (Below.cell h2 (p := ⟨rb, _, none⟩) hb).trans c2, (Below.cell h2 (p := ⟨rb, _, none⟩) hb).trans c3⟩
      obtain ⟨a1, a2, a3⟩ := hwc _ HB.out.old
      have HN := hide ((HB.out.gr (Gr.refl _).drew).next HT.out rl rbb rh)
      have HWC : Hid _ := hwc
      clear hwc c1 c2 c3 HB
      go_wp2_with fail
      go_region_held3 (fun w' => w'.cell? ⟨rb, o + k * 3, none⟩ = some (iv rl) ∧ w'.cell? ⟨rb, o + k * 3 + 1, none⟩ = some (iv rbb) ∧ w'.cell? ⟨rb, o + k * 3 + 2, none⟩ = some (iv rh)) (first | (exact HWC.out _ (by assumption)) | go_keep) (first | (go_at_call 18; have HNx := HN.out; refine HNx.mono ?_; rintro e w2 ⟨rfl, hB2, H2⟩))
      obtain ⟨p1, p2, p3⟩ := HWC.out _ hB2
      go_wp2_with fail
      go_region_held3 (fun w' => w'.cell? ⟨rb, o + k * 3, none⟩ = some (iv rl) ∧ w'.cell? ⟨rb, o + k * 3 + 1, none⟩ = some (iv rbb) ∧ w'.cell? ⟨rb, o + k * 3 + 2, none⟩ = some (iv rh)) (first | (exact HWC.out _ (by assumption)) | go_keep) (first | (go_at_call 20; have H2x := H2.out c'; refine H2x.mono ?_; rintro e w3 ⟨ro', c2', rfl, B3⟩; have hB3 := B3.old))
      have e4 : ((setL rs rl rbb rh).2 == (setL rs rl rbb rh).2) = true := by simp
      go_wp2
      go_roundw
      case rel => exact ⟨k + 1, ro', c2', by omega, by go_num, by simp, by rw [HS.out], by rw [HS.out]; exact B3⟩
      case measure => simp [intOf]; omega
    · have hke : ls.take k = ls := List.take_of_length_le (by omega)
      rw [hke] at HB ⊢
      have HB' := HB
      clear HB
      go_wp2
      go_ret3
      exact ⟨_, ro, c', rfl, HB'.out⟩

end Go.Proofs.YtimbgijpeomfcacGreatDoor
