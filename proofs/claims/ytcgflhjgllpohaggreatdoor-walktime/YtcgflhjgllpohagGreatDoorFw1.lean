/- THE REFERENCE'S Town: Full. -/
import Derived.Test.YtcgflhjgllpohagGreatDoorTw3
import Derived.Test.YtcgflhjgllpohagGreatDoorTw22
import Derived.Test.YtcgflhjgllpohagGreatDoorT2
import Derived.Test.YtcgflhjgllpohagGreatDoorPo0
namespace Go.Proofs.YtcgflhjgllpohagGreatDoor
open Go.RowKit
attribute [local go_sem] Ext.all Ext.cell Ext.frozen Ext.lt Ext.lt1 Ext.lt2 Ext.ne Ext.ne' hopW_of
section
variable {M N : Nat → Prop} {B w w' : World} {p : Nat} {q : Nat → Nat} {v o : Value} {t : Tn}
/-- A route of these numbers, built. -/
theorem one_row (X : World) (l b h : Int) : RowAt (X.alloc (.cells #[iv l, iv b, iv h] 99)) (fun _ => True) (some ⟨X.heap.size, 0, none⟩) [(l, b, h)] := by
  refine .inr ⟨X.heap.size, 0, rfl, by simp, trivial, fun i hi => ?_⟩
  have : i = 0 := by simpa using hi
  subst this
  refine ⟨?_, ?_, ?_⟩ <;> simp [go_sem]
end

end Go.Proofs.YtcgflhjgllpohagGreatDoor
