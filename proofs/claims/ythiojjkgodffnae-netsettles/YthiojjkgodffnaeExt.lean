/- WORLDS THAT HAVE ONLY GROWN: 'Gr a w': w is a with new blocks behind it (and draws); 'Ext a': such a world, as a datum; a region that draws its order, all of whose operations read old memory or call what only grows, walked once in the text's order. -/
import Derived.WalkKit
import Derived.WalkSpells
import Derived.BigQuiet
import Derived.Handy
import Derived.RowKit3
import Derived.WalkSmall
import Derived.Deep.QuietTactic
import Derived.Deep.RegionWith
namespace Go.Proofs.Ythiojjkgodffnae
open Go.RowKit

/-- w is a, grown. -/
def Gr (a w : World) : Prop := Below a.heap.size a w
theorem Gr.refl (a : World) : Gr a a := Below.refl _ _
theorem Gr.trans {a b c : World} (h : Gr a b) (k : Gr b c) : Gr a c := Below.trans h (Below.mono k (Below.size h))
theorem Gr.alloc {a w : World} (h : Gr a w) (o : Obj) : Gr a (w.alloc o) := Below.alloc h (Below.size h) o
theorem Gr.drew {a w : World} (h : Gr a w) : Gr a w.drew := Below.drew h
theorem Gr.drewN {a w : World} (h : Gr a w) (n : Nat) : Gr a (w.drewN n) := below_drewN h n
theorem Gr.setCell {a w : World} (h : Gr a w) {p : Addr} (hp : a.heap.size ≤ p.block) (u : Value) : Gr a (w.setCell p u) := Below.setCell h hp u

theorem Gr.grown {a w w' : World} {row : Option Nat} (h : Gr a w) (hg : w.grownBy w' row) (hr : ∀ k, row = some k → a.heap.size ≤ k) : Gr a w' := Below.grown h hg (Below.size h) hr

/-- A world that has grown out of a. -/
structure Ext (a : World) where
  out : World
  gr : Gr a out

theorem Gr.ext {a w : World} (h : Gr a w) (d : Ext w) : Gr a d.out := h.trans d.gr
theorem ext_mk {a w : World} (h : Gr a w) : ∃ d : Ext a, w = d.out := ⟨⟨w, h⟩, rfl⟩

theorem Ext.cell {a : World} (d : Ext a) (b o : Nat) (h : b < a.heap.size) : d.out.cell? ⟨b, o, none⟩ = a.cell? ⟨b, o, none⟩ := Below.cell d.gr (p := ⟨b, o, none⟩) h
theorem Ext.frozen {a : World} (d : Ext a) (b o : Nat) (h : b < a.heap.size) : d.out.frozen? ⟨b, o, none⟩ = a.frozen? ⟨b, o, none⟩ := Below.frozen d.gr (p := ⟨b, o, none⟩) h
theorem Ext.lt {a : World} (d : Ext a) (b : Nat) (h : b < a.heap.size) : b < d.out.heap.size := Nat.lt_of_lt_of_le h (Below.size d.gr)
theorem Ext.lt1 {a : World} (d : Ext a) (b : Nat) (h : b < a.heap.size) : b < d.out.heap.size + 1 := Nat.lt_succ_of_lt (d.lt b h)
theorem Ext.lt2 {a : World} (d : Ext a) (b : Nat) (h : b < a.heap.size) : b < d.out.heap.size + 2 := Nat.lt_succ_of_lt (d.lt1 b h)
theorem Ext.ne {a : World} (d : Ext a) (b : Nat) (h : b < a.heap.size) : (d.out.heap.size = b) = False := eq_false (Nat.ne_of_gt (d.lt b h))
theorem Ext.ne' {a : World} (d : Ext a) (b : Nat) (h : b < a.heap.size) : (b = d.out.heap.size) = False := eq_false (Nat.ne_of_lt (d.lt b h))

theorem Ext.all {a : World} (p : Prop) : (Ext a → p) ↔ p := ⟨fun h => h ⟨a, Gr.refl a⟩, fun h _ => h⟩

/-- A callee that only makes memory, met in a world that has grown. -/
theorem Calls.ext_of {P : Program} {f : FuncId} {args : Array Value} {a : World} {d : Ext a} {v : Value}
    (h : Calls P f args d.out fun e w' => e = .returned v ∧ ∃ d' : Ext d.out, w' = d'.out) : Calls P f args d.out fun e w'' => e = .returned v ∧ ∃ m : Ext a, w'' = m.out :=
  h.mono fun _ _ ⟨he, d', hm⟩ => ⟨he, ext_mk (by rw [hm]; exact d.gr.ext d')⟩

/-- A region that draws, at the class of worlds that have grown. -/
theorem wp_region_ext {P : Program} {id : Nat} {Q : Exit → Act → World → Prop} {a : Act} {w : World} {l : List Oper} (hm : P.follows .mixedOrders = true) (hB : Region.lexB .any l.toArray = true)
    (h : wpQuiet P l.toArray (fun w' => ∃ d : Ext w, w' = d.out) (fun a' => ∀ w', (∃ d : Ext w, w' = d.out) → Q .normal a' w') l a) : (Code.region id l.toArray true).wp P Q a w :=
  wp_region_quiet (C := fun w' => ∃ d : Ext w, w' = d.out) hm hB (ext_mk (Gr.drew (Gr.refl w))) (by simpa using h)

/-- The same where the world at hand has grown already. -/
theorem wp_region_ext_of {P : Program} {id : Nat} {Q : Exit → Act → World → Prop} {a : Act} {B : World} {d : Ext B} {l : List Oper} (hm : P.follows .mixedOrders = true) (hB : Region.lexB .any l.toArray = true)
    (h : wpQuiet P l.toArray (fun w' => ∃ d : Ext B, w' = d.out) (fun a' => ∀ w', (∃ d : Ext B, w' = d.out) → Q .normal a' w') l a) : (Code.region id l.toArray true).wp P Q a d.out :=
  wp_region_quiet (C := fun w' => ∃ d : Ext B, w' = d.out) hm hB (ext_mk (Gr.drew d.gr)) (by simpa using h)

theorem hide {p : Prop} (h : p) : Hid p := h
theorem ret_int {k : IntKind} {a b : Int} (h : a = b) : Ending.returned (.int k a) = .returned (.int k b) := by rw [h]
theorem ret_bool {a b : Bool} (h : a = b) : Ending.returned (.bool a) = .returned (.bool b) := by rw [h]

end Go.Proofs.Ythiojjkgodffnae
