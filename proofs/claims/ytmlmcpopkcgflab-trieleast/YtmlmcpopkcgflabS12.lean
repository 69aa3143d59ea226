/- CONTRACT OF handpostlaw.tableBegun. -/
import Derived.Test.YtmlmcpopkcgflabS11
namespace Go.Proofs.Ytmlmcpopkcgflab
open Go.RowKit
attribute [local go_sem] Ext.all Ext.cell Ext.frozen Ext.lt Ext.lt1 Ext.lt2 Ext.ne Ext.ne'

theorem set_is {w : World} {M : Nat → Prop} {tb : Nat} {v : Value} {rs rs' : List Rt} {l b h code : Int} (S : TabS w M tb v rs) (hT : Tab rs) (e : setL rs l b h = (rs', code)) :
    Calls Try.prog 16 #[.pointer (some ⟨tb, 0, none⟩), pfx l b, .int .i64 h] w fun e w' => e = .returned (.int .i64 code) ∧ ∃ v', TabS w' M tb v' rs' ∧ Kp M w w' := by
  have := set_any w M tb v rs l b h S hT
  rw [e] at this
  exact this
theorem look_is {w : World} {M : Nat → Prop} {tb : Nat} {v : Value} {rs : List Rt} {a x : Int} (S : TabS w M tb v rs) (hm : rs.length ≤ 1000) (e : lookL rs a = x) (d : Ext w) :
    Calls Try.prog 12 #[.pointer (some ⟨tb, 0, none⟩), .int .i64 a] d.out fun e w' => e = .returned (.int .i64 x) ∧ ∃ d' : Ext d.out, w' = d'.out := by
  subst e
  have Sd := S.gr d.gr
  obtain ⟨ao, c, rfl, H⟩ := Sd.shape
  exact look_any d.out _ tb ao rs.length c rs a Sd.cell0 H rfl hm
theorem get_is {w : World} {M : Nat → Prop} {tb : Nat} {v : Value} {rs : List Rt} {l b x : Int} (S : TabS w M tb v rs) (hT : Tab rs) (e : getL rs l b = x) (d : Ext w) :
    Calls Try.prog 15 #[.pointer (some ⟨tb, 0, none⟩), pfx l b] d.out fun e w' => e = .returned (.int .i64 x) ∧ ∃ d' : Ext d.out, w' = d'.out := by
  subst e
  have Sd := S.gr d.gr
  obtain ⟨ao, c, rfl, H⟩ := Sd.shape
  exact get_any d.out _ tb ao rs.length c rs l b Sd.cell0 Sd.lt H rfl hT
theorem list_is {w : World} {M : Nat → Prop} {tb : Nat} {v : Value} {rs : List Rt} (S : TabS w M tb v rs) (hm : rs.length ≤ 1000) :
    Calls Try.prog 11 #[.pointer (some ⟨tb, 0, none⟩)] w fun e w' => ∃ ao' c', e = .returned (.slice ao' rs.length c') ∧ RowAt w' (fun k => w.heap.size ≤ k) ao' rs ∧ ∃ d : Ext w, w' = d.out := by
  obtain ⟨ao, c, rfl, H⟩ := S.shape
  exact list_any w _ tb ao rs.length c rs S.cell0 H rfl hm
theorem all_is {w : World} {M : Nat → Prop} {tb : Nat} {v : Value} {rs : List Rt} (S : TabS w M tb v rs) (hm : rs.length ≤ 1000) (d0 : Ext w) :
    Calls Try.prog 13 #[.pointer (some ⟨tb, 0, none⟩)] d0.out fun e w' => ∃ g, e = .returned (.slice (some ⟨g, 0, none⟩) 256 256) ∧ d0.out.heap.size ≤ g ∧ g < w'.heap.size ∧ (∀ j : Nat, j < 256 → w'.cell? ⟨g, j, none⟩ = some (iv (lookL rs j))) ∧ ∃ d : Ext w, w' = d.out := by
  have Sd := S.gr d0.gr
  obtain ⟨ao, c, rfl, H⟩ := Sd.shape
  refine (all_any d0.out _ tb ao rs.length c rs Sd.cell0 Sd.lt H rfl hm).mono ?_
  rintro e _ ⟨g, rfl, h1, h2, h3, d, rfl⟩
  exact ⟨g, rfl, h1, h2, h3, ext_mk (d0.gr.ext d)⟩

abbrev rsA : List Rt := [(1, 1, 3)]
abbrev rsB : List Rt := [(1, 1, 3), (2, 2, 4)]

set_option maxRecDepth 20000 in
set_option maxHeartbeats 2000000 in
theorem begun_any (w : World) :
    Calls Try.prog 9 #[] w fun e w' => e = .returned (.bool true) ∧ ∃ d : Ext w, w' = d.out := by
  have hA := hide (show setL [] 1 1 3 = (rsA, 0) by decide +kernel)
  have hB := hide (show setL rsA 2 2 4 = (rsB, 0) by decide +kernel)
  have TA : Hid (Tab rsA) := by have := Tab.nil.set_tab 1 1 3; rw [hA.out] at this; exact this
  have TB : Hid (Tab rsB) := by have := TA.out.set_tab 2 2 4; rw [hB.out] at this; exact this
  have hK := hide (show chkL rsB = 0 by decide +kernel)
  have k1 := hide (show lookL rsB 128 = 4 by decide +kernel)
  have k2 := hide (show lookL rsB 255 = 3 by decide +kernel)
  have k3 := hide (show lookL rsB 0 = -1 by decide +kernel)
  have k4 := hide (show getL rsB 0 0 = -2 by decide +kernel)
  have k5 := hide (show hopB 5 = true by decide +kernel)
  have S0 := hide (TabS.new w (fun k => k < w.heap.size) (fun _ h => h))
  have hl : rsB.length = 2 := rfl
  obtain ⟨W0, hW0⟩ : ∃ W0, W0 = w.alloc (.cells #[.slice none 0 0] 65) := ⟨_, rfl⟩
  have g00 : Gr w W0 := by rw [hW0]; exact (Gr.refl w).alloc _
  have HW0 := hide hW0
  clear hW0
  rw [← HW0.out] at S0
  have hend : Hid (∀ w2, Kp (fun k => k < w.heap.size) W0 w2 → Gr w w2) := fun w2 h2 => Below.trans g00 (h2.below (Below.size g00) (fun _ h => h))
  go_enter Try.func9, Try.ntmps9
  go_wp2_with (first
    | (go_at_call 33; refine (new_any _).mono ?_; rintro e w1 ⟨rfl, hw1⟩; rw [← HW0.out] at hw1; subst hw1)
    | (go_at_call 16; with_reducible refine (set_is S0.out Tab.nil hA.out).mono ?_; rintro e w1 ⟨rfl, v1, S1, K1⟩; have S1h := hide S1; have K1h := hide K1; clear S1 K1)
    | (go_at_call 16; with_reducible refine (set_is S1h.out TA.out hB.out).mono ?_; rintro e w2 ⟨rfl, v2, S2, K2⟩; have gw2 := hide (hend.out _ (K1h.out.trans K2)); have S2h := hide S2; clear S2 K2)
    | (go_at_call 11; refine (list_is S2h.out (by decide)).mono ?_; rintro e _ ⟨ao', c', rfl, hrow, d3, rfl⟩; have HRW := hide hrow; clear hrow)
    | (go_at_call 34; refine (of_any _ _ _ _ _ rsB HRW.out rfl hK.out).mono ?_; rintro e w4 ⟨tb2, v4, rfl, S4, d4, hd4⟩; have gB : Gr w w4 := (by rw [hd4]; exact (gw2.out.ext d3).ext d4); have ST := hide (S2h.out.gr (show Gr _ w4 by rw [hd4]; exact d3.gr.ext d4)); have SU := hide S4; have GB := hide gB; clear S4 hd4 gB)
    | (go_at_call 12; with_reducible refine (Calls.ext_of (look_is ST.out (by decide) k1.out ⟨w4, Gr.refl w4⟩)).mono ?_; rintro e _ ⟨rfl, d5, rfl⟩)
    | (go_at_call 12; with_reducible refine (Calls.ext_of (look_is SU.out (by decide) k2.out d5)).mono ?_; rintro e _ ⟨rfl, d6, rfl⟩)
    | (go_at_call 12; with_reducible refine (Calls.ext_of (look_is ST.out (by decide) k3.out d6)).mono ?_; rintro e _ ⟨rfl, d7, rfl⟩)
    | (go_at_call 13; refine (all_is ST.out (by decide) d7).mono ?_; rintro e _ ⟨g8, rfl, _, _, _, d8, rfl⟩)
    | (go_at_call 15; with_reducible refine (Calls.ext_of (get_is ST.out TB.out k4.out d8)).mono ?_; rintro e _ ⟨rfl, d9, rfl⟩)
    | (go_at_call 35; with_reducible refine (Calls.ext_of (hop_is k5.out d9.out)).mono ?_; rintro e _ ⟨rfl, d10, rfl⟩))
  go_ret
  exact ⟨rfl, ext_mk (GB.out.ext d10)⟩

end Go.Proofs.Ytmlmcpopkcgflab
