/- THE BEST OF A NODE, AS Best TELLS IT. -/
import Derived.Test.YtihamicnbihgnaeD7
namespace Go.Proofs.Ytihamicnbihgnae
open Go.RowKit

theorem best_sel {m : Md} (h : MdOk m) {k : Nat} (hk : k < 6) : bestOf (sel m) (k : Int) = m.bests k := by
  unfold bestOf
  rw [if_pos ⟨by omega, by omega⟩]
  by_cases e : (k : Int) = ((sel m).me : Int)
  · rw [if_pos e]
    have e' : k = m.me := by have : (k : Int) = (m.me : Int) := e; omega
    obtain ⟨s, _, hw, hb⟩ := h.self
    show ((m.ways m.me).1, (m.ways m.me).2.1) = m.bests k
    rw [e', hw, hb]
  · rw [if_neg e, Int.toNat_natCast]
    exact sel_best m (fun q => e (by rw [q]; rfl))

end Go.Proofs.Ytihamicnbihgnae
