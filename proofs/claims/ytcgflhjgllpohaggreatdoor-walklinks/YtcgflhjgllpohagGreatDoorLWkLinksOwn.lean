/- WalkLinks holds at every input: a letter goes from each node where it was to one with which that is linked; what it costs is what these links cost; from each node on its way it goes on as it would have from there. No condition but that the library's two tables of bits start as the program's text lays them (the card ties them). -/
import Derived.Test.YtcgflhjgllpohagGreatDoorLWkLinks
import Derived.Test.YtcgflhjgllpohagGreatDoorWk1
import Derived.Test.YtcgflhjgllpohagGreatDoorCards
import Derived.Test.YtcgflhjgllpohagGreatDoorTie
namespace Go.Proofs.YtcgflhjgllpohagGreatDoor
open Go.ChangeShapes Go.WideShapes Go.ChangeAt Go.RowKit Go.Joins

set_option maxRecDepth 100000 in
theorem walkLinks_lifted (os : Os) (started : os.Started) (H : Type) (enc : TypeId × Value → H) :
    ReturnsInHanded {} Tryz.checked os 5 .any (fun w args => (Rows.walkLinksSpec.pre enc Tryz.prog Tryz.f5 Rows.walkLinksRow.domain false w args ∧ laidMetH Tryz.prog Rows.walkLinksRow.laid w) ∧ sizedMet enc Tryz.prog Tryz.f5 (OpenSpec.ofChange Rows.walkLinksSpec) false w args)
      (Rows.walkLinksSpec.post enc Tryz.prog Tryz.f5 false true false false) := by
  refine returnsInHanded_of_change_and (C := Tryz.checked) (X := fun w _ => laidMetH Tryz.prog Rows.walkLinksRow.laid w) (fun _ _ _ hh h => h.of_heap hh) Tryz.own started (by kernel_rfl) Tryz.func5
    (ChangeSpec.witness_shaped (enc := enc) (C := Tryz.checked) (os := os) (X := fun w _ => laidMetH Tryz.prog Rows.walkLinksRow.laid w) false (World.laidAll Tryz.prog os Rows.walkLinksRow.laid) #[.slice none 0 0, .int .i64 0, .int .i64 0] 8 (World.laidAll_os _ _ _)
      (World.shaped_of_ZipB (by kernel_rfl) (by kernel_rfl)) (by kernel_rfl) (by kernel_rfl) (by kernel_rfl)
      (by rw [MakeChecks.laidMetH_plain _ _ _ (by kernel_rfl)]; exact laidMet_laidAll _ (by kernel_rfl) (by kernel_rfl))) ?_
  intro W base args ds gs before hval0 hW hc _ hL _
  have hval : ∀ (j : Nat) t v, Tryz.f5.params[j]? = some t → args[j]? = some v → Value.okWide Tryz.prog W .any base t v := hval0
  have hW' := hW
  obtain ⟨p, q, hA0, hV, rfl, _, _⟩ := hW
  have hA : DataW.TrodAll enc Tryz.prog W 0 (fun _ => true) true Tryz.f5.params.toList args.toList ds p := hA0
  rw [Tryz.params5] at hA hval
  obtain ⟨v0, v1, v2, d0, d1, d2, p0, p1, p2, rfl, rfl, rfl, h0, h1, h2⟩ := trodAll_three hA
  obtain ⟨rfl, rfl⟩ := trodVars_none hV
  obtain ⟨ao0, n0, c0, rfl, ls0, hrow0, hlen0⟩ := open_steps (hval 0 22 v0 rfl rfl) h0
  obtain ⟨a1, rfl, rfl, rfl, wf1⟩ := open_int Tryz.underlying3 (hval 1 3 v1 rfl rfl) h1
  obtain ⟨a2, rfl, rfl, rfl, wf2⟩ := open_int Tryz.underlying3 (hval 2 3 v2 rfl rfl) h2
  clear hA0 hval0
  simp only [List.append_nil] at hW'
  have hlt0 : ∀ x ∈ p0, x.block < W.heap.size := fun x hx => by simpa using hW'.lt x hx
  refine (walkLinks_any W (tab64_of hL) ao0 n0 c0 ls0 a1 a2 hrow0 hlen0).mono fun e W' ⟨he, x⟩ => ?_
  subst he
  exact ⟨_, rfl, _, _, _, [], p0, [], hW', trodAll_mk1 (shut_bool Tryz.underlying4 _), (by have hz := trodAll_mk3 (Below.trod Tryz.laidOutB (by kernel_rfl) (of_decide_eq_true (by kernel_rfl)) h0 x hlt0) (shut_int (enc := enc) (w := W') Tryz.underlying3 wf1) (shut_int (enc := enc) (w := W') Tryz.underlying3 wf2); first | exact hz | (simp only [List.append_nil] at hz; exact hz)), rfl, Below.frame x _, fun h => by cases h⟩

theorem walkLinks_row : Rows.WalkLinksSaid :=
  OpenClaim.holds_of_wide 5 Tryz.f5 rfl rfl rfl rfl rfl rfl rfl ⟨rfl, rfl, rfl, rfl, rfl⟩ rfl rfl rfl rfl rfl (by kernel_rfl) Tryz.func5 (by kernel_rfl)
    (of_decide_eq_true (by kernel_rfl)) (by unfold Func.isWrapper; first | (rw [if_pos (by decide +kernel)]; kernel_rfl) | (rw [if_neg (by decide +kernel)]; exact ⟨rfl, rfl⟩))
    (fun os started H enc _ => walkLinks_lifted os started H enc)

theorem walkLinks_holds : Rows.WalkLinksCardSaid :=
  Claim7.holds_tied_plain_at .later [] [.data, .data] true (true, "b40e5bededee0b48d66017bceeaea4bdf43249f6d26eb07a98fa7299b2716e0b") false
    walkLinks_row (fun _ h => by cases h) (by kernel_rfl) (fun _ h => by cases h) walkLinks_row_tie rfl ⟨rfl, rfl⟩ (by kernel_rfl) rfl
    (fun f fn hf hfn => by
      obtain rfl : f = 5 := Option.some.inj ((show Tryz.prog.funcNamed "handpost/handpostlaw.WalkLinks" = some 5 by kernel_rfl).symm.trans hf) |>.symm
      obtain rfl : fn = Tryz.f5 := (Option.some.inj (Tryz.func5.symm.trans hfn)).symm
      exact ⟨by kernel_rfl, fun j t ht => by
        rw [Tryz.params5] at ht
        have hm : t ∈ [22, 3] := by
          have hm0 : t ∈ [22, 3, 3] := by simpa using Array.mem_of_getElem? ht
          simpa using hm0
        have hall : ([22, 3].all fun u => !Tryz.prog.wantsStandIn u) = true := by kernel_rfl
        exact (show Tryz.prog.wantsStandIn t = false by simpa using List.all_eq_true.1 hall t hm)⟩)
    (by kernel_rfl)
#print axioms walkLinks_holds

end Go.Proofs.YtcgflhjgllpohagGreatDoor
