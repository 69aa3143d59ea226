/- FOR THE ROWS: a prefix that comes in, opened and shut; what a world that has only grown gives. -/
import Derived.Test.YtceclaboeajcaaaE
import Derived.ProofKit
import Derived.OpenShut
import Derived.Lib.SmallJoins
namespace Go.Proofs.Ytceclaboeajcaaa
open Go.ChangeShapes Go.WideShapes Go.ChangeAt Go.RowKit Go.Joins

theorem Try.own : ownKnob Try.prog.godebug = none := by kernel_rfl
theorem Try.cells3 : Try.prog.cellsOf 3 = 1 := by kernel_rfl
theorem Try.cells23 : Try.prog.cellsOf 23 = 2 := by kernel_rfl

section
variable {H : Type} {enc : TypeId × Value → H}

/-- A prefix as a datum. -/
abbrev pfxD (l b : Int) : DataW H := .agg [.lit (.int .i64 l), .lit (.int .i64 b)]

theorem open_pfx {W : World} {base : Nat} {v : Value} {d : DataW H} {p : List MemPlace} (hval : Value.okWide Try.prog W .any base 23 v) (h : DataW.Trod enc Try.prog W 0 (fun _ => true) true 23 v d p) :
    ∃ l b : Int, v = pfx l b ∧ d = pfxD l b ∧ p = [] ∧ (Lit.int .i64 l).wf = true ∧ (Lit.int .i64 b).wf = true := by
  obtain ⟨c0, c1, y0, y1, m, rfl, rfl, rfl, hy0, hy1⟩ := open_agg2 Try.underlying23 (by kernel_rfl) Try.cells23 hval h
  obtain ⟨a, e0, rfl, wa⟩ := DataW.trod_int Try.underlying3 hy0
  obtain ⟨b, e1, rfl, wb⟩ := DataW.trod_int Try.underlying3 hy1
  simp at e0 e1
  subst e0 e1
  exact ⟨a, b, rfl, rfl, rfl, wa, wb⟩

theorem shut_pfx {l b : Int} (wl : (Lit.int .i64 l).wf = true) (wb : (Lit.int .i64 b).wf = true) (W' : World) (k : Nat) (sp : Nat → Bool) (hd : Bool) :
    DataW.Trod enc Try.prog W' k sp hd 23 (pfx l b) (pfxD l b) [] :=
  shut_agg2 (y0 := (.lit (.int .i64 l), [])) (y1 := (.lit (.int .i64 b), [])) Try.underlying23 (by kernel_rfl) Try.cells23 ⟨1, by simp [DataW.trod, Try.underlying3, wl]⟩ ⟨1, by simp [DataW.trod, Try.underlying3, wb]⟩
end

end Go.Proofs.Ytceclaboeajcaaa
