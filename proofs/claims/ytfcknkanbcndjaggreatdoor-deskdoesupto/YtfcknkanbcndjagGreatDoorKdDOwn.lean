/- DeskDoes holds at every input of at most 1048576 values and letters: every Do of the desk is as the document says, one behind the other. Conditions: what comes in holds together at most 1048576 values and letters (the second form); the library's variables that the row lists start as the program's text lays them (the card ties them). -/
import Derived.Test.YtfcknkanbcndjagGreatDoorKdD
import Derived.Test.YtfcknkanbcndjagGreatDoorDkLaid
import Derived.Test.YtfcknkanbcndjagGreatDoorCards
import Derived.Test.YtfcknkanbcndjagGreatDoorTie
import Derived.Deep.DeepWitnessRowRef
namespace Go.Proofs.YtfcknkanbcndjagGreatDoor
open Go.ChangeShapes Go.WideShapes Go.ChangeAt Go.RowKit Go.Joins

set_option maxRecDepth 100000 in
theorem deskDoes_contract (H : Type) (enc : TypeId × Value → H) (W : World) (base : Nat) (args : Array Value) (ds gs : List (DataW H)) (before : List MemPlace)
    (hval0 : ∀ (j : Nat) t v, Tryz.f6.params[j]? = some t → args[j]? = some v → Value.okWide Tryz.prog W .any base t v)
    (hW : DataW.Whole enc Tryz.prog Tryz.f6.params.toList Rows.deskDoesSpec.vars false W args.toList ds gs before) (hk : Rows.uptoSmall H (ds ++ gs) = true) (hL : laidMetH Tryz.prog Rows.deskDoesUptoRow.laid W) (hSh : W.ShapedOpen Tryz.prog) :
    Calls Tryz.prog 6 args W fun e W' => ∃ v, e = .returned v ∧ Rows.deskDoesSpec.post enc Tryz.prog Tryz.f6 false true false false W args v W' := by
  have hval := hval0
  have hW' := hW
  obtain ⟨p, q, hA0, hV, rfl, _, _⟩ := hW
  have hA : DataW.TrodAll enc Tryz.prog W 0 (fun _ => true) true Tryz.f6.params.toList args.toList ds p := hA0
  rw [Tryz.params6] at hA hval
  obtain ⟨v0, v1, d0, d1, p0, p1, rfl, rfl, rfl, h0, h1⟩ := trodAll_two hA
  obtain ⟨rfl, rfl⟩ := trodVars_none hV
  obtain ⟨ao0, ls0, c0, rfl, hv0, hc0, ha0, hn0, hy0⟩ := open_lines (hval 0 58 v0 rfl rfl) h0
  obtain ⟨ao1, ls1, c1, rfl, hv1, hc1, ha1, hn1, hy1⟩ := open_lines (hval 1 58 v1 rfl rfl) h1
  clear hA0 hval0
  simp only [List.append_nil] at hW' hk
  have hB := of_decide_eq_true hk
  simp only [Rows.uptoBulkAll] at hB
  have hlt0 : ∀ x ∈ p0, x.block < W.heap.size := fun x hx => by simpa using hW'.lt x (List.mem_append.2 (.inl hx))
  have hlt1 : ∀ x ∈ p1, x.block < W.heap.size := fun x hx => by simpa using hW'.lt x (List.mem_append.2 (.inr hx))
  refine (deskDoes_any (lb_of hL hSh) hv0 hv1 (by omega) (by omega) (fun y hy => by have := hy0 y hy; omega) (fun y hy => by have := hy1 y hy; omega)).mono fun e W' ⟨he, x⟩ => ?_
  subst he
  exact ⟨_, rfl, _, _, _, [], p0 ++ p1, [], hW', trodAll_mk1 (shut_bool Tryz.underlying4 _), (by have hz := trodAll_mk2 (Below.trod Tryz.laidOutB (by kernel_rfl) (of_decide_eq_true (by kernel_rfl)) h0 x hlt0) (Below.trod Tryz.laidOutB (by kernel_rfl) (of_decide_eq_true (by kernel_rfl)) h1 x hlt1); first | exact hz | (simp only [List.append_nil] at hz; exact hz)), rfl, Below.frame x _, fun h => by cases h⟩

theorem deskDoes_met (os : Os) : laidMet Tryz.prog Rows.deskDoesUptoRow.laid ((World.laidAll Tryz.prog os Rows.deskDoesUptoRow.laid).forCall (fun _ _ => 0) ⟨#[], #[.slice none 0 0, .slice none 0 0], []⟩).memory :=
  laidMet_laidAll _ (by kernel_rfl) (by kernel_rfl)
theorem deskDoes_reads (os : Os) {H : Type} (enc : TypeId × Value → H) : ∃ places, DataW.whole enc Tryz.prog ((World.laidAll Tryz.prog os Rows.deskDoesUptoRow.laid).forCall (fun _ _ => 0) ⟨#[], #[.slice none 0 0, .slice none 0 0], []⟩).memory Tryz.f6.params.toList Rows.deskDoesSpec.vars false (#[.slice none 0 0, .slice none 0 0] : Array Value).toList 8 = some ([.nil, .nil], [], places) :=
  ⟨[], by kernel_rfl⟩

set_option maxRecDepth 100000 in
theorem deskDoes_lifted (os : Os) (started : os.Started) (H : Type) (enc : TypeId × Value → H) (F : Stop.Interp) :
    ReturnsInHanded {} Tryz.checked os 6 .any ((Rows.OpenSpec.upto Rows.deskDoesSpec).preRow enc Tryz.prog Tryz.f6 Rows.deskDoesUptoRow.domain false Rows.deskDoesUptoRow.laid) (((Rows.OpenSpec.upto Rows.deskDoesSpec).at F).post enc Tryz.prog Tryz.f6 false true false false) := by
  obtain ⟨places, hx⟩ := deskDoes_reads os enc
  refine returnsInHanded_of_row (C := Tryz.checked) (s := Rows.OpenSpec.upto Rows.deskDoesSpec) Tryz.own started (by kernel_rfl) Tryz.func6
    (witness_row_atRef (enc := enc) (C := Tryz.checked) false (World.laidAll Tryz.prog os Rows.deskDoesUptoRow.laid) #[.slice none 0 0, .slice none 0 0] (World.laidAll_os _ _ _) (by kernel_rfl) (by kernel_rfl) (by kernel_rfl)
      (OpenSpec.preRow_of_cond 8 hx (by kernel_rfl) (fun k hk => by cases hk; kernel_rfl) (by kernel_rfl) (deskDoes_met os))) ?_
  intro W base args ds gs before hval hW _ hcond _ hL hSh _
  exact deskDoes_contract H enc W base args ds gs before hval hW (hcond _ rfl) hL hSh

theorem deskDoes_row : Rows.DeskDoesUptoSaid :=
  OpenClaim.holds_of_cond 6 Tryz.f6 rfl rfl rfl rfl rfl rfl rfl ⟨rfl, rfl, rfl, rfl, rfl⟩ rfl rfl rfl rfl rfl (by kernel_rfl) Tryz.func6 (by kernel_rfl)
    (of_decide_eq_true (by kernel_rfl)) (by unfold Func.isWrapper; first | (rw [if_pos (by decide +kernel)]; kernel_rfl) | (rw [if_neg (by decide +kernel)]; exact ⟨rfl, rfl⟩))
    (fun os started H enc _ F => by rw [OpenClaim.pre_eq_preRow]; exact deskDoes_lifted os started H enc F)

theorem deskDoes_holds : Rows.DeskDoesUptoCardSaid :=
  Claim7.holds_tied_plain_at .later [] _ _ _ _
    deskDoes_row (fun _ h => by cases h) (by kernel_rfl) (fun _ h => by cases h) deskDoesUpto_row_tie rfl ⟨rfl, rfl⟩ (by kernel_rfl) rfl
    (fun f fn hf hfn => by
      obtain rfl : f = 6 := Option.some.inj ((show Tryz.prog.funcNamed "handpost/handpostlaw.DeskDoes" = some 6 by kernel_rfl).symm.trans hf) |>.symm
      obtain rfl : fn = Tryz.f6 := (Option.some.inj (Tryz.func6.symm.trans hfn)).symm
      exact ⟨by kernel_rfl, fun j t ht => by
        rw [Tryz.params6] at ht
        have hm : t ∈ [58] := by
          have hm0 : t ∈ [58, 58] := by simpa using Array.mem_of_getElem? ht
          simpa using hm0
        have hall : ([58].all fun u => !Tryz.prog.wantsStandIn u) = true := by kernel_rfl
        exact (show Tryz.prog.wantsStandIn t = false by simpa using List.all_eq_true.1 hall t hm)⟩)
    (by kernel_rfl)
#print axioms deskDoes_holds

end Go.Proofs.YtfcknkanbcndjagGreatDoor
