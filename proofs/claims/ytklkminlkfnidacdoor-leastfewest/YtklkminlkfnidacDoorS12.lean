/- CONTRACTS OF tables, in short forms. -/
import Derived.Test.YtklkminlkfnidacDoorS11
namespace Go.Proofs.YtklkminlkfnidacDoor
open Go.RowKit
attribute [local go_sem] Ext.all Ext.cell Ext.frozen Ext.lt Ext.lt1 Ext.lt2 Ext.ne Ext.ne'

theorem set_is {w : World} {M : Nat → Prop} {tb : Nat} {v : Value} {rs rs' : List Rt} {l b h code : Int} (S : TabS w M tb v rs) (hT : Tab rs) (e : setL rs l b h = (rs', code)) :
    Calls Tryd.prog 20 #[.pointer (some ⟨tb, 0, none⟩), pfx l b, .int .i64 h] w fun e w' => e = .returned (.int .i64 code) ∧ ∃ v', TabS w' M tb v' rs' ∧ Kp M w w' := by
  have := set_any w M tb v rs l b h S hT
  rw [e] at this
  exact this
theorem look_is {w : World} {M : Nat → Prop} {tb : Nat} {v : Value} {rs : List Rt} {a x : Int} (S : TabS w M tb v rs) (hm : rs.length ≤ 1000) (e : lookL rs a = x) (d : Ext w) :
    Calls Tryd.prog 12 #[.pointer (some ⟨tb, 0, none⟩), .int .i64 a] d.out fun e w' => e = .returned (.int .i64 x) ∧ ∃ d' : Ext d.out, w' = d'.out := by
  subst e
  have Sd := S.gr d.gr
  obtain ⟨ao, c, rfl, H⟩ := Sd.shape
  exact look_any d.out _ tb ao rs.length c rs a Sd.cell0 H rfl hm
theorem get_is {w : World} {M : Nat → Prop} {tb : Nat} {v : Value} {rs : List Rt} {l b x : Int} (S : TabS w M tb v rs) (hT : Tab rs) (e : getL rs l b = x) (d : Ext w) :
    Calls Tryd.prog 23 #[.pointer (some ⟨tb, 0, none⟩), pfx l b] d.out fun e w' => e = .returned (.int .i64 x) ∧ ∃ d' : Ext d.out, w' = d'.out := by
  subst e
  have Sd := S.gr d.gr
  obtain ⟨ao, c, rfl, H⟩ := Sd.shape
  exact get_any d.out _ tb ao rs.length c rs l b Sd.cell0 Sd.lt H rfl hT
theorem list_is {w : World} {M : Nat → Prop} {tb : Nat} {v : Value} {rs : List Rt} (S : TabS w M tb v rs) (hm : rs.length ≤ 1000) :
    Calls Tryd.prog 14 #[.pointer (some ⟨tb, 0, none⟩)] w fun e w' => ∃ ao' c', e = .returned (.slice ao' rs.length c') ∧ RowAt w' (fun k => w.heap.size ≤ k) ao' rs ∧ ∃ d : Ext w, w' = d.out := by
  obtain ⟨ao, c, rfl, H⟩ := S.shape
  exact list_any w _ tb ao rs.length c rs S.cell0 H rfl hm
theorem all_is {w : World} {M : Nat → Prop} {tb : Nat} {v : Value} {rs : List Rt} (S : TabS w M tb v rs) (hm : rs.length ≤ 1000) (d0 : Ext w) :
    Calls Tryd.prog 31 #[.pointer (some ⟨tb, 0, none⟩)] d0.out fun e w' => ∃ g, e = .returned (.slice (some ⟨g, 0, none⟩) 256 256) ∧ d0.out.heap.size ≤ g ∧ g < w'.heap.size ∧ (∀ j : Nat, j < 256 → w'.cell? ⟨g, j, none⟩ = some (iv (lookL rs j))) ∧ ∃ d : Ext w, w' = d.out := by
  have Sd := S.gr d0.gr
  obtain ⟨ao, c, rfl, H⟩ := Sd.shape
  refine (all_any d0.out _ tb ao rs.length c rs Sd.cell0 Sd.lt H rfl hm).mono ?_
  rintro e _ ⟨g, rfl, h1, h2, h3, d, rfl⟩
  exact ⟨g, rfl, h1, h2, h3, ext_mk (d0.gr.ext d)⟩

abbrev rsA : List Rt := [(1, 1, 3)]
abbrev rsB : List Rt := [(1, 1, 3), (2, 2, 4)]

end Go.Proofs.YtklkminlkfnidacDoor
