/- THE PROGRAM'S Net: a round. -/
import Derived.Test.YtfcknkanbcndjagGreatDoorNe13
namespace Go.Proofs.YtfcknkanbcndjagGreatDoor
open Go.RowKit
attribute [local go_sem] Ext.all Ext.cell Ext.frozen Ext.lt Ext.lt1 Ext.lt2 Ext.ne Ext.ne'
section
variable {M : Nat → Prop} {B w w' : World} {p k : Nat} {q : Nat → Nat} {v : Value} {c : Nat → Nat → Nat} {t : Tn}
end

end Go.Proofs.YtfcknkanbcndjagGreatDoor
