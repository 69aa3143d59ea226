/- THE REFERENCE'S Mind IN MEMORY. -/
import Derived.Test.YthiojjkgodffnaeN0
namespace Go.Proofs.Ythiojjkgodffnae
open Go.RowKit

abbrev MAt (w : World) (p : Nat) (m : Md) : Prop := NdAt 89 w p m

end Go.Proofs.Ythiojjkgodffnae
