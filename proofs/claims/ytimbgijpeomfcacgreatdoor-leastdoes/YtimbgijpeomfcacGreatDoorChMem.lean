/- CHANGES IN MEMORY: a slice of them read. -/
import Derived.Test.YtimbgijpeomfcacGreatDoorMem
import Derived.Test.YtimbgijpeomfcacGreatDoorPlainAll
namespace Go.Proofs.YtimbgijpeomfcacGreatDoor
open Go.RowKit
attribute [local go_sem] Ext.all Ext.cell Ext.frozen Ext.lt Ext.lt1 Ext.lt2 Ext.ne Ext.ne'

/-- A slice at 'ao' reads as these changes; its block is one of M. -/
def ChAt (w : World) (M : Nat → Prop) (ao : Option Addr) (cs : List Ch) : Prop :=
  cs = [] ∨ ∃ b o, ao = some ⟨b, o, none⟩ ∧ b < w.heap.size ∧ M b ∧ ∀ i (h : i < cs.length),
    w.cell? ⟨b, o + i * 4, none⟩ = some (iv cs[i].1) ∧ w.cell? ⟨b, o + i * 4 + 1, none⟩ = some (iv cs[i].2.1) ∧ w.cell? ⟨b, o + i * 4 + 2, none⟩ = some (iv cs[i].2.2.1) ∧ w.cell? ⟨b, o + i * 4 + 3, none⟩ = some (iv cs[i].2.2.2)
theorem ChAt.kept {w w' : World} {M : Nat → Prop} {ao : Option Addr} {cs : List Ch} (h : ChAt w M ao cs) (k : Kp M w w') : ChAt w' M ao cs := by
  rcases h with h | ⟨b, o, ha, hb, hM, hc⟩
  · exact .inl h
  · refine .inr ⟨b, o, ha, Nat.lt_of_lt_of_le hb k.size, hM, fun i hi => ?_⟩
    have e : ∀ q, w'.cell? ⟨b, q, none⟩ = w.cell? ⟨b, q, none⟩ := fun q => World.cell?_of_block (a := ⟨b, q, none⟩) (k.block b hb hM)
    rw [e, e, e, e]
    exact hc i hi
theorem ChAt.gr {w w' : World} {M : Nat → Prop} {ao : Option Addr} {cs : List Ch} (h : ChAt w M ao cs) (k : Gr w w') : ChAt w' M ao cs := h.kept (k.kp M)

end Go.Proofs.YtimbgijpeomfcacGreatDoor
