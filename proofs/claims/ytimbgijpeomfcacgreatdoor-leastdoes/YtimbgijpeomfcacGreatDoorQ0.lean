/- A ROW OF PREFIXES THAT IS BEING SORTED, the comparison making memory as it goes: what is known of the world in between. -/
import Derived.Test.YtimbgijpeomfcacGreatDoorTMem
import Derived.Test.YtimbgijpeomfcacGreatDoorPlainAll
import Derived.Shelf.GgSortFunc.SmallK
namespace Go.Proofs.YtimbgijpeomfcacGreatDoor
open Go.RowKit Go.Sort

abbrev encP (p : Pf) : List Value := [iv p.1, iv p.2]
/-- Block g holds d; all other blocks of B are as they were. -/
structure SG (B : World) (g : Nat) (d : Array Pf) (W : World) : Prop where
  kp : Kp (fun k => k ≠ g) B W
  holds : HoldsK encP 2 W g 0 d
  lt : g < B.heap.size
theorem holds_gr {W X : World} {g : Nat} {d : Array Pf} (h : HoldsK encP 2 W g 0 d) (hg : g < W.heap.size) (k : Gr W X) : HoldsK encP 2 X g 0 d := fun j hj => by
  have := h j hj
  rw [show X.cell? ⟨g, 0 + j, none⟩ = W.cell? ⟨g, 0 + j, none⟩ from Below.cell k (p := ⟨g, 0 + j, none⟩) hg, show X.frozen? ⟨g, 0 + j, none⟩ = W.frozen? ⟨g, 0 + j, none⟩ from Below.frozen k (p := ⟨g, 0 + j, none⟩) hg]
  exact this
theorem SG.gLt {B W : World} {g : Nat} {d : Array Pf} (h : SG B g d W) : g < W.heap.size := Nat.lt_of_lt_of_le h.lt h.kp.size
theorem SG.gr {B W X : World} {g : Nat} {d : Array Pf} (h : SG B g d W) (k : Gr W X) : SG B g d X :=
  ⟨h.kp.trans (k.kp _), holds_gr h.holds h.gLt k, h.lt⟩
theorem SG.start {W : World} {g : Nat} {d : Array Pf} (h : HoldsK encP 2 W g 0 d) (hg : g < W.heap.size) : SG W g d W := ⟨Kp.refl _ _, h, hg⟩
theorem SG.self {B W : World} {g : Nat} {d : Array Pf} (h : SG B g d W) : SG W g d W := SG.start h.holds h.gLt
theorem SG.trans {B W X : World} {g : Nat} {d e : Array Pf} (h : SG B g d W) (k : SG W g e X) : SG B g e X := ⟨h.kp.trans k.kp, k.holds, h.lt⟩
theorem kp_putRow (enc : Value → Value) (w : World) (g off : Nat) (d : Array Value) : Kp (fun k => k ≠ g) w (putRow enc w g off d) :=
  ⟨rfl, rfl, rfl, by simp, fun k _ hne => by
    show (w.heap.modify g _)[k]? = _
    rw [Array.getElem?_modify, if_neg (fun e => hne e.symm)]⟩
/-- The two stores of a swap. -/
theorem SG.swap {B W : World} {g : Nat} {d : Array Pf} (h : SG B g d W) {i j : Nat} (hi : i < d.size) (hj : j < d.size) :
    SG B g (swp d i j) ((W.setCells g (0 + i * 2) (encP d[j]!)).setCells g (0 + j * 2) (encP d[i]!)) := by
  have e := swap_worldK encP 2 (fun _ => rfl) W 0 0 g 0 d i j hi hj
  rw [show Sort.ahead W (0 + 0) = W from rfl, putRowK_self encP 2 W g 0 d h.holds, show W.drewN 0 = W from rfl] at e
  rw [e]
  refine ⟨h.kp.trans (kp_putRow _ _ _ _ _), ?_, h.lt⟩
  exact holdsK_putRowK encP 2 W g 0 d _ h.holds (by rw [size_swp])
/-- A cell of another block. -/
theorem SG.other {B X : World} {g : Nat} {d : Array Pf} (h : SG B g d X) {b : Nat} (hb : b < B.heap.size) (hn : b ≠ g) (o : Nat) : X.cell? ⟨b, o, none⟩ = B.cell? ⟨b, o, none⟩ :=
  World.cell?_of_block (a := ⟨b, o, none⟩) (h.kp.block b hb hn)

abbrev lesV (lb : Array Value) : Value := .func (.func 52) #[] lb
abbrev swaV (sb : Array Value) : Value := .func (.func 87) #[] sb
/-- What comparing and swapping do. -/
structure Cx (B : World) (g n : Nat) (lb sb : Array Value) : Prop where
  less : ∀ (d : Array Pf) (W : World), d.size = n → SG B g d W → ∀ i j : Nat, i < n → j < n →
    Calls Tryz.prog 52 (#[.int .i64 i, .int .i64 j] ++ lb) W fun e w' => e = .returned (.bool (ltP d[i]! d[j]!)) ∧ Gr W w'
  swap : SwapSwapsK Tryz.prog 87 sb encP 2 g 0 n
theorem Cx.up {B W : World} {g n : Nat} {lb sb : Array Value} {d : Array Pf} (h : Cx B g n lb sb) (k : SG B g d W) : Cx W g n lb sb :=
  ⟨fun d' X hs hX i j hi hj => h.less d' X hs (k.trans hX) i j hi hj, h.swap⟩
/-- Inside a function: its box has the two. -/
structure In (A : World) (bx g n : Nat) (lb sb : Array Value) (d : Array Pf) (X : World) : Prop where
  sg : SG A g d X
  size : d.size = n
  c0 : X.cell? ⟨bx, 0, none⟩ = some (lesV lb)
  c1 : X.cell? ⟨bx, 1, none⟩ = some (swaV sb)
/-- The world of a function with its box. -/
structure Door (A : World) (bx g n : Nat) (lb sb : Array Value) : Prop where
  cx : Cx A g n lb sb
  c0 : A.cell? ⟨bx, 0, none⟩ = some (lesV lb)
  c1 : A.cell? ⟨bx, 1, none⟩ = some (swaV sb)
  lt : bx < A.heap.size
  ne : bx ≠ g
theorem Door.in {A X : World} {bx g n : Nat} {lb sb : Array Value} {d : Array Pf} (h : Door A bx g n lb sb) (k : SG A g d X) (hs : d.size = n) : In A bx g n lb sb d X :=
  ⟨k, hs, by rw [k.other h.lt h.ne]; exact h.c0, by rw [k.other h.lt h.ne]; exact h.c1⟩
theorem Door.less {A X : World} {bx g n : Nat} {lb sb : Array Value} {d : Array Pf} (h : Door A bx g n lb sb) (k : In A bx g n lb sb d X) {i j : Nat} {v : Bool} (hi : i < n) (hj : j < n) (hv : ltP d[i]! d[j]! = v) :
    Calls Tryz.prog 52 (#[.int .i64 i, .int .i64 j] ++ lb) X fun e w' => e = .returned (.bool v) ∧ In A bx g n lb sb d w' := by
  subst hv
  refine (h.cx.less d X k.size k.sg i j hi hj).mono ?_
  rintro e w' ⟨rfl, g'⟩
  exact ⟨rfl, h.in (k.sg.gr g') k.size⟩
theorem Door.swap {A X : World} {bx g n : Nat} {lb sb : Array Value} {d : Array Pf} (h : Door A bx g n lb sb) (k : In A bx g n lb sb d X) {i j : Nat} (hi : i < n) (hj : j < n) :
    ∃ Y, (callFunc 87 (#[.int .i64 i, .int .i64 j] ++ sb)).run Tryz.prog X = .ok (.value (.tuple #[])) Y ∧ In A bx g n lb sb (swp d i j) Y := by
  have hs := k.size
  refine ⟨_, h.cx.swap X d k.sg.holds k.size i j hi hj, h.in (k.sg.swap (by omega) (by omega)) (by rw [size_swp]; exact hs)⟩
theorem In.gr {A X Y : World} {bx g n : Nat} {lb sb : Array Value} {d : Array Pf} (h : Door A bx g n lb sb) (k : In A bx g n lb sb d X) (e : Gr X Y) : In A bx g n lb sb d Y := h.in (k.sg.gr e) k.size
/-- A function's door. -/
theorem Cx.door {B W : World} {g n : Nat} {lb sb : Array Value} {d : Array Pf} (h : Cx B g n lb sb) (k : SG B g d W) (hs : d.size = n) :
    ∃ A, A = W.alloc (.cells #[lesV lb, swaV sb] 112) ∧ Door A W.heap.size g n lb sb ∧ In A W.heap.size g n lb sb d A ∧ ∀ e X, SG A g e X → SG B g e X := by
  have hg := (Gr.refl W).alloc (.cells #[lesV lb, swaV sb] 112)
  have hB : SG B g d (W.alloc (.cells #[lesV lb, swaV sb] 112)) := k.gr hg
  have hD : Door (W.alloc (.cells #[lesV lb, swaV sb] 112)) W.heap.size g n lb sb :=
    ⟨h.up hB, by simp [go_sem], by simp [go_sem], by simp, by have := k.gLt; omega⟩
  exact ⟨_, rfl, hD, hD.in hB.self hs, fun e X hX => hB.trans hX⟩

end Go.Proofs.YtimbgijpeomfcacGreatDoor
