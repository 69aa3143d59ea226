/- PrefixDoes holds at every input: every Check, Address, First, Last, Has, Covers, Child, Parent, Less, Text and Parse is as the document says (a text of more than 1000 bytes is not asked). No condition. -/
import Derived.Test.YtceclaboeajcaaaDoes
import Derived.Test.YtceclaboeajcaaaDoesFacts
import Derived.Test.YtceclaboeajcaaaFrame
namespace Go.Proofs.Ytceclaboeajcaaa
open Go.ChangeShapes Go.WideShapes Go.ChangeAt Go.RowKit Go.Joins
open Go.WideMaps Go.WideElems
open Go.ChangeMaps (open_string shut_string)

theorem does_any (l b m c a t : Int) (s : ByteArray) (hs : s.size ≤ maxLen) (w : World) :
    Calls Try.prog 3 #[pfx l b, pfx m c, .int .i64 a, .int .i64 t, .string s] w fun e w' => e = .returned (.bool true) ∧ ∃ d : Ext w, w' = d.out := by
  by_cases h : s.size ≤ 1000
  · obtain ⟨cl, cb, cv, TP, TT, c1, c2, c3, c4⟩ := child_facts l b t
    obtain ⟨pl, pb, pv, TD, TX, n, p1, p2, p3, p4⟩ := parent_facts l b
    cases hr : parseL s.data.toList with
    | none => exact does_short l b m c a t s h 0 0 false (parse_nil s hs hr) (rparse_nil s h hr) cl cb cv c1 pl pb pv p1 c2 p2 c3 p3 TP TT TD TX n c4 p4 w
    | some x =>
      obtain ⟨k, v⟩ := x
      exact does_short l b m c a t s h k v true (parse_some s k v hr) (rparse_some s k v h hr) cl cb cv c1 pl pb pv p1 c2 p2 c3 p3 TP TT TD TX n c4 p4 w
  · exact does_long l b m c a t s hs (by omega) w

set_option maxRecDepth 100000 in
theorem does_lifted (os : Os) (started : os.Started) (H : Type) (enc : TypeId × Value → H) :
    ReturnsInHanded {} Try.checked os 3 .any (Rows.prefixDoesSpec.pre6 enc Try.prog Try.f3 Rows.prefixDoesRow.domain false) (Rows.prefixDoesSpec.post enc Try.prog Try.f3 false true false false) := by
  refine returnsInHanded_of_change (C := Try.checked) Try.own started (by kernel_rfl) Try.func3
    (ChangeSpec.witness6 (enc := enc) (C := Try.checked) false ⟨#[], #[.agg #[.int .i64 0, .int .i64 0], .agg #[.int .i64 0, .int .i64 0], .int .i64 0, .int .i64 0, .string ByteArray.empty], []⟩ 8 (by kernel_rfl) (by kernel_rfl) (by kernel_rfl) (by kernel_rfl)) ?_
  intro W base args ds gs before hval0 hW hcnd _
  have hval : ∀ (j : Nat) t v, Try.f3.params[j]? = some t → args[j]? = some v → Value.okWide Try.prog W .any base t v := hval0
  have hW' := hW
  obtain ⟨p, q, hA0, hV, rfl, hfz, hnd⟩ := hW
  have hA : DataW.TrodAll enc Try.prog W 0 (fun _ => true) true Try.f3.params.toList args.toList ds p := hA0
  rw [Try.params3] at hA hval
  obtain ⟨v0, vs0, d0, ds0, p0, q0, hargs, rfl, rfl, h0, r0⟩ := trodAll_cons hA
  obtain ⟨v1, vs1, d1, ds1, p1, q1, rfl, rfl, rfl, h1, r1⟩ := trodAll_cons r0
  obtain ⟨v2, vs2, d2, ds2, p2, q2, rfl, rfl, rfl, h2, r2⟩ := trodAll_cons r1
  obtain ⟨v3, vs3, d3, ds3, p3, q3, rfl, rfl, rfl, h3, r3⟩ := trodAll_cons r2
  obtain ⟨v4, vs4, d4, ds4, p4, q4, rfl, rfl, rfl, h4, r4⟩ := trodAll_cons r3
  obtain ⟨rfl, rfl, rfl⟩ := trodAll_nil r4
  obtain rfl : args = #[v0, v1, v2, v3, v4] := by cases args; simp_all
  obtain ⟨rfl, rfl⟩ := trodVars_none hV
  obtain ⟨l, b, rfl, rfl, rfl, wl, wb⟩ := open_pfx (hval 0 23 v0 rfl rfl) h0
  obtain ⟨m, c, rfl, rfl, rfl, wm, wc⟩ := open_pfx (hval 1 23 v1 rfl rfl) h1
  obtain ⟨a, rfl, rfl, rfl, wa⟩ := open_int Try.underlying3 (hval 2 3 v2 rfl rfl) h2
  obtain ⟨t, rfl, rfl, rfl, wt⟩ := open_int Try.underlying3 (hval 3 3 v3 rfl rfl) h3
  obtain ⟨s, rfl, rfl, rfl, hs⟩ := open_string Try.underlying9 (hval 4 9 v4 rfl rfl) h4
  clear hA0 hval0
  simp only [List.append_nil] at hW'
  refine (does_any l b m c a t s hs W).mono fun e W' ⟨he, x, hx⟩ => ?_
  subst he
  subst hx
  exact ⟨_, rfl, _, _, _, [], [], [], hW', trodAll_mk1 (shut_bool Try.underlying4 _), (trodAll_cons_mk (shut_pfx wl wb _ _ _ _) (trodAll_cons_mk (shut_pfx wm wc _ _ _ _) (trodAll_cons_mk (shut_int Try.underlying3 wa) (trodAll_cons_mk (shut_int Try.underlying3 wt) (trodAll_cons_mk (shut_string Try.underlying9 hs) trodAll_mk0))))), rfl, Below.frame x.gr _, fun h => by cases h⟩

theorem prefixDoes_holds : Rows.PrefixDoesSaid :=
  OpenClaim.holds_of_wide 3 Try.f3 rfl rfl rfl rfl rfl rfl rfl ⟨rfl, rfl, rfl, rfl, rfl⟩ rfl rfl rfl rfl rfl (by kernel_rfl) Try.func3 (by kernel_rfl)
    (of_decide_eq_true (by kernel_rfl)) (by unfold Func.isWrapper; first | (rw [if_pos (by decide +kernel)]; kernel_rfl) | (rw [if_neg (by decide +kernel)]; exact ⟨rfl, rfl⟩))
    (fun os started H enc _ => does_lifted os started H enc)
#print axioms prefixDoes_holds

end Go.Proofs.Ytceclaboeajcaaa
