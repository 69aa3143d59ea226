/- THE REFERENCE's LOOK: of the routes that have the address the longest one; of a table it is the last one. No Go here. -/
import Derived.Test.YtmlmcpopkcgflabCPlain
namespace Go.Proofs.Ytmlmcpopkcgflab

/-- Every route behind place k that has the address is longer than nn. -/
def Beyond (rs : List Rt) (a : Int) (k : Nat) (nn : Int) : Prop := ∀ r ∈ rs.drop k, hasB r.1 r.2.1 a = true → nn < r.1
theorem beyond_zero {rs : List Rt} (h : Tab rs) (a : Int) : Beyond rs a 0 (-1) := by
  intro r hr hra
  obtain ⟨h0, _⟩ := ok_iff.1 (h.mem (by simpa using hr))
  omega
theorem beyond_skip {rs : List Rt} {a : Int} {k : Nat} {nn : Int} (hk : k < rs.length) (h : Beyond rs a k nn) : Beyond rs a (k + 1) nn := by
  intro r hr hra
  exact h r (by rw [List.drop_eq_getElem_cons hk]; exact List.mem_cons_of_mem _ hr) hra
theorem beyond_here {rs : List Rt} {a : Int} {k : Nat} {nn : Int} (hk : k < rs.length) (h : Beyond rs a k nn) (hh : hasB rs[k].1 rs[k].2.1 a = true) : nn < rs[k].1 :=
  h rs[k] (by rw [List.drop_eq_getElem_cons hk]; exact List.mem_cons_self) hh
theorem beyond_next {rs : List Rt} {a : Int} {k : Nat} (hT : Tab rs) (hk : k < rs.length) (hh : hasB rs[k].1 rs[k].2.1 a = true) : Beyond rs a (k + 1) rs[k].1 := by
  intro r hr hra
  have hp : (rs.drop k).Pairwise (fun r s => lessB r.1 r.2.1 s.1 s.2.1 = true) := hT.srt.sublist (List.drop_sublist _ _)
  rw [List.drop_eq_getElem_cons hk] at hp
  exact (less_len hh hra).1 ((List.pairwise_cons.1 hp).1 r hr)
theorem lookL_take {rs : List Rt} {k : Nat} (hk : k < rs.length) (a : Int) : lookL (rs.take (k + 1)) a = if hasB rs[k].1 rs[k].2.1 a then rs[k].2.2 else lookL (rs.take k) a := by
  rw [List.take_succ_eq_append_getElem hk, lookL_snoc]

end Go.Proofs.Ytmlmcpopkcgflab
