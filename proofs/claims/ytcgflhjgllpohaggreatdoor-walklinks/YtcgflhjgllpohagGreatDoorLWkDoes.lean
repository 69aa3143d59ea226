/- handpostlaw.WalkDoes ANSWERS true. -/
import Derived.Test.YtcgflhjgllpohagGreatDoorLw2
namespace Go.Proofs.YtcgflhjgllpohagGreatDoor
open Go.RowKit
attribute [local go_sem] Ext.all Ext.cell Ext.frozen Ext.lt Ext.lt1 Ext.lt2 Ext.ne Ext.ne'
theorem goN_len (h : Nat → Int) (cs : Nat → Nat → Int) : ∀ f p out k, (goN h cs f p out k).1.length ≤ out.length + f
  | 0, _, _, _ => by rw [goN]; simp
  | f + 1, p, out, k => by
    rw [goN]
    by_cases hp : isN p
    · rw [if_pos hp]
      by_cases q : p.toNat ∈ out
      · rw [if_pos q]; simp
      · rw [if_neg q]
        by_cases r : h p.toNat = p
        · rw [if_pos r, List.length_append, List.length_singleton]; omega
        · rw [if_neg r]
          have := goN_len h cs f (h p.toNat) (out ++ [p.toNat]) (k + if isN (h p.toNat) then cs p.toNat (h p.toNat).toNat else 0)
          rw [List.length_append, List.length_singleton] at this
          omega
    · rw [if_neg hp]; simp
end Go.Proofs.YtcgflhjgllpohagGreatDoor
