/- FOR THE LAWS OF LAYER 4: Look. -/
import Derived.Test.YtklkminlkfnidacDoorLAid
namespace Go.Proofs.YtklkminlkfnidacDoor
open Go.RowKit

theorem Is.look {B : World} {tb : Nat} {rs : List Rt} {a x : Int} (h : Is B tb rs) (hT : Tab rs) (e : lookL rs a = x) :
    Calls Tryd.prog 12 #[pv tb, .int .i64 a] B fun e w' => e = .returned (iv x) ∧ Gr B w' := by
  obtain ⟨M, v, hS⟩ := h
  refine (look_is hS (by have := hT.len; omega) e ⟨B, Gr.refl B⟩).mono ?_
  rintro e _ ⟨rfl, d, rfl⟩
  exact ⟨rfl, d.gr⟩

end Go.Proofs.YtklkminlkfnidacDoor
