/- CONTRACTS OF handpostref: Look, AllOf, SameInts, SameRoutes, as the laws of tries ask them: of any sorted list of routes; of two lists that may be other ones. -/
import Derived.Test.YtimbgijpeomfcacGreatDoorTMem
import Derived.Test.YtimbgijpeomfcacGreatDoorLawAid
namespace Go.Proofs.YtimbgijpeomfcacGreatDoor
open Go.RowKit
attribute [local go_sem] Ext.all Ext.cell Ext.frozen Ext.lt Ext.lt1 Ext.lt2 Ext.ne Ext.ne'

/-- Routes of prefixes, in order. -/
structure Srt (rs : List Rt) : Prop where
  ok : ∀ r ∈ rs, okB r.1 r.2.1 = true
  srt : rs.Pairwise (fun r s => lessB r.1 r.2.1 s.1 s.2.1 = true)
  len : rs.length ≤ 256
theorem Tab.toSrt {rs : List Rt} (h : Tab rs) : Srt rs := ⟨fun r hr => (h.ok r hr).1, h.srt, by have := h.len; omega⟩
theorem srt_T (f : Nat → Int) : Srt (triT f).leaves := ⟨fun r hr => ((chn_T f).mem.2 r hr).1, (chn_T f).srt, len_T f⟩
theorem sbeyond_zero {rs : List Rt} (h : Srt rs) (a : Int) : Beyond rs a 0 (-1) := by
  intro r hr hra
  obtain ⟨h0, _⟩ := ok_iff.1 (h.ok r (by simpa using hr))
  omega
theorem sbeyond_next {rs : List Rt} {a : Int} {k : Nat} (hT : Srt rs) (hk : k < rs.length) (hh : hasB rs[k].1 rs[k].2.1 a = true) : Beyond rs a (k + 1) rs[k].1 := by
  intro r hr hra
  have hp : (rs.drop k).Pairwise (fun r s => lessB r.1 r.2.1 s.1 s.2.1 = true) := hT.srt.sublist (List.drop_sublist _ _)
  rw [List.drop_eq_getElem_cons hk] at hp
  exact (less_len hh hra).1 ((List.pairwise_cons.1 hp).1 r hr)

set_option maxRecDepth 20000 in
set_option maxHeartbeats 1000000 in
theorem rlook_any (w : World) (M : Nat → Prop) (ao : Option Addr) (n c : Nat) (rs : List Rt) (a : Int) (H : RowAt w M ao rs) (hn : rs.length = n) (hT : Srt rs) :
    Calls Tryz.prog 23 #[.slice ao n c, .int .i64 a] w fun e w' => e = .returned (.int .i64 (lookL rs a)) ∧ ∃ d : Ext w, w' = d.out := by
  have hm : rs.length ≤ 256 := hT.len
  have HT := hide hT
  clear hT
  go_enter Tryz.func23, Tryz.ntmps23
  go_wp2
  go_loopw [5, 6, 7] (fun hp nv i wr => ∃ (k : Nat) (nn hv : Int), k ≤ n ∧ i = .int .i64 k ∧ hp = .int .i64 hv ∧ nv = .int .i64 nn ∧ Hid (lookL (rs.take k) a = hv) ∧ Hid (Beyond rs a k nn) ∧ Gr w wr) (fun _ _ i _ => n - (intOf i).toNat)
  case atStart => exact ⟨0, -1, -1, by omega, rfl, rfl, rfl, rfl, sbeyond_zero HT.out a, Gr.refl _⟩
  case round =>
    obtain ⟨k, nn, hv, hk, rfl, rfl, rfl, HL, HY, g⟩ := hrel
    obtain ⟨d, rfl⟩ := ext_mk g
    by_cases hlt : k < n
    · have hkr : k < rs.length := by omega
      rcases H with rfl | ⟨rb, o, rfl, hb, hM, hcs⟩
      · simp at hkr
      obtain ⟨c1, c2, c3⟩ := hcs k hkr
      have HS := hide (lookL_take hkr a)
      have HY1 := hide (beyond_skip hkr HY.out)
      have HY2 := hide (fun hh => beyond_here hkr HY.out hh)
      have HY3 := hide (fun hh => sbeyond_next (a := a) HT.out hkr hh)
      clear hcs HY
      generalize rs[k] = r at *
      obtain ⟨rl, rbb, rh⟩ := r
      simp only at c1 c2 c3 HS HY2 HY3
      cases hq : hasB rl rbb a
      · have HQ := hide hq
        have HR : Hid (lookL (rs.take (k + 1)) a = hv) := by unfold Hid; rw [HS.out, hq]; simpa using HL.out
        clear hq HS HL HY2 HY3
        go_wp2_with (go_at_call 45; with_reducible refine (Calls.ext_of (rhas_is HQ.out _)).mono ?_; rintro e _ ⟨rfl, d1, rfl⟩)
        go_roundw
        case rel => exact ⟨k + 1, nn, hv, by omega, by go_num, rfl, rfl, HR, HY1.out, d1.gr⟩
        case measure => simp [intOf]; omega
      · have HQ := hide hq
        have hlt2 : nn < rl := HY2.out hq
        have HR : Hid (lookL (rs.take (k + 1)) a = rh) := by unfold Hid; rw [HS.out, hq]; simp
        have HY4 := hide (HY3.out hq)
        clear hq HS HL HY2 HY3 HY1
        go_wp2_with (go_at_call 45; with_reducible refine (Calls.ext_of (rhas_is HQ.out _)).mono ?_; rintro e _ ⟨rfl, d1, rfl⟩)
        refine wp_region_ext_of (by kernel_rfl) (by kernel_rfl) ?_
        repeat (go_big_quiet_step (fail))
        refine wpQuiet_nil ?_
        rintro _ ⟨d2, rfl⟩
        go_wp2
        go_roundw
        case rel => exact ⟨k + 1, rl, rh, by omega, by go_num, rfl, rfl, HR, HY4.out, d2.gr⟩
        case measure => simp [intOf]; omega
    · have HR : Hid (hv = lookL rs a) := by unfold Hid; rw [← HL.out, List.take_of_length_le (by omega)]
      clear HL H
      go_wp2
      go_ret
      exact ⟨ret_int HR.out, _, rfl⟩

set_option maxRecDepth 20000 in
theorem allOf_any (w : World) (M : Nat → Prop) (ao : Option Addr) (n c : Nat) (rs : List Rt) (H : RowAt w M ao rs) (hn : rs.length = n) (hT : Srt rs) :
    Calls Tryz.prog 7 #[.slice ao n c] w fun e w' => ∃ g, e = .returned (.slice (some ⟨g, 0, none⟩) 256 256) ∧ g < w'.heap.size ∧ (∀ j : Nat, j < 256 → w'.cell? ⟨g, j, none⟩ = some (iv (lookL rs j))) ∧ ∃ d : Ext w, w' = d.out := by
  obtain ⟨i0, hi, hz0, hz1, hz2⟩ := info_parts Tryz.info3
  go_enter Tryz.func7, Tryz.ntmps7
  go_wp2_with (at_make; refine wpList_make_full _ rfl _ _ 31 rfl w.heap.size 3 i0 (.int .i64 0) 1 Tryz.underlying31 hi hz0 hz1 _ _ _ _ 256 rfl rfl rfl rfl ?b2 ?b3 (Nat.le_refl _) ?_)
  case b2 => rw [hz2]; decide
  case b3 => unfold maxLen; decide
  intro w0 hown0 hgrow0
  have gr0 : Gr w w0 := (Gr.refl _).grown hgrow0 (fun k h => by cases h)
  clear hgrow0
  have hown1 : w0.ownsRow w.heap.size 3 1 (.slice (some ⟨w.heap.size, 0, none⟩) 256 256) 256 (hopsL rs 0) := by
    rw [made_hops rs] at hown0; exact hown0
  clear hown0
  obtain ⟨G, hG⟩ : ∃ G, G = w.heap.size := ⟨_, rfl⟩
  rw [← hG] at hown1 ⊢
  have HG : Hid (G = w.heap.size) := hG
  clear hG
  go_wp2
  go_loopw [4] (fun i wr => ∃ k : Nat, k ≤ 256 ∧ i = .int .i64 k ∧ Hid (wr.ownsRow G 3 1 (.slice (some ⟨G, 0, none⟩) 256 256) 256 (hopsL rs k)) ∧ Gr w wr) (fun i _ => 256 - (intOf i).toNat)
  case atStart => exact ⟨0, by omega, rfl, hown1, gr0⟩
  case round =>
    clear hown1
    obtain ⟨k, hk, rfl, hown, g⟩ := hrel
    obtain ⟨d, rfl⟩ := ext_mk g
    by_cases hlt : k < 256
    · have HC := hide (rlook_any d.out M ao n c rs k (H.gr d.gr) hn hT)
      clear H
      go_wp2_with (go_at_call 23; refine HC.out.mono ?_; rintro e _ ⟨rfl, d1, rfl⟩; have hown2 := hide (own_gr hown.out d1.gr); have hce := (hown2.out.cellAt k (by omega)).trans (hopsL_next rs k hlt); have hfz := hown2.out.frozenAt k)
      have hst := hown2.out.stored k (iv (lookL rs k))
      rw [hopsL_set rs k hlt] at hst
      go_roundw
      case rel => exact ⟨k + 1, by omega, by go_num, hst.1, (d.gr.ext d1).grown hst.2 (fun x hx => by cases hx; exact Nat.le_of_eq HG.out.symm)⟩
      case measure => simp [intOf]; omega
    · have : k = 256 := by omega
      subst this
      have hw := hown.out
      clear H
      go_wp2
      go_ret
      exact ⟨G, rfl, (hw.lt G rfl).2, fun j hj => (hw.cellAt j (by omega)).trans (hopsL_at rs j hj), d, rfl⟩

/-- 256 cells read as f. -/
structure Ints (w : World) (g : Nat) (f : Nat → Int) : Prop where
  lt : g < w.heap.size
  cell : ∀ j : Nat, j < 256 → w.cell? ⟨g, j, none⟩ = some (iv (f j))
theorem Ints.gr {w w' : World} {g : Nat} {f : Nat → Int} (h : Ints w g f) (k : Gr w w') : Ints w' g f :=
  ⟨Nat.lt_of_lt_of_le h.lt (Below.size k), fun j hj => (Below.cell k (p := ⟨g, j, none⟩) h.lt).trans (h.cell j hj)⟩
/-- 256 numbers, alike one by one? -/
def eqF (f g : Nat → Int) : Bool := decide (∀ j : Nat, j < 256 → f j = g j)
theorem eqF_no {f g : Nat → Int} {k : Nat} (hk : k < 256) (h : f k ≠ g k) : eqF f g = false := by
  unfold eqF; rw [decide_eq_false_iff_not]; exact fun q => h (q k hk)
theorem eqF_yes {f g : Nat → Int} (h : ∀ j : Nat, j < 256 → f j = g j) : eqF f g = true := by
  unfold eqF; rw [decide_eq_true_iff]; exact h
attribute [irreducible] eqF

end Go.Proofs.YtimbgijpeomfcacGreatDoor
