/- WHAT Path TELLS AT ITS END: n: it is at a node (where it was by then); e: that is the node to. -/
import Derived.Test.YtihamicnbihgnaeNe16
namespace Go.Proofs.Ytihamicnbihgnae

def flP (n e : Bool) : Bool := n && e

end Go.Proofs.Ytihamicnbihgnae
