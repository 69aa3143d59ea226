import Derived.WalkKit
import Derived.WalkSpells
import Derived.BigQuiet
import Derived.Handy
import Derived.RowKit3
import Derived.WalkSmall
import Derived.Deep.QuietTactic
import Derived.Deep.RegionWith
import Derived.Test.YtfcknkanbcndjagGreatDoorRows
/- WORLDS THAT HAVE ONLY GROWN: 'Gr a w': w is a with new blocks behind it (and draws); 'Ext a': such a world, as a datum; a region that draws its order, all of whose operations read old memory or call what only grows, walked once in the text's order. -/
namespace Go.Proofs.YtfcknkanbcndjagGreatDoor
open Go.RowKit

/-- w is a, grown. -/
def Gr (a w : World) : Prop := Below a.heap.size a w
theorem Gr.refl (a : World) : Gr a a := Below.refl _ _
theorem Gr.trans {a b c : World} (h : Gr a b) (k : Gr b c) : Gr a c := Below.trans h (Below.mono k (Below.size h))
theorem Gr.alloc {a w : World} (h : Gr a w) (o : Obj) : Gr a (w.alloc o) := Below.alloc h (Below.size h) o
theorem Gr.drew {a w : World} (h : Gr a w) : Gr a w.drew := Below.drew h
theorem Gr.drewN {a w : World} (h : Gr a w) (n : Nat) : Gr a (w.drewN n) := below_drewN h n
theorem Gr.setCell {a w : World} (h : Gr a w) {p : Addr} (hp : a.heap.size ≤ p.block) (u : Value) : Gr a (w.setCell p u) := Below.setCell h hp u

theorem Gr.grown {a w w' : World} {row : Option Nat} (h : Gr a w) (hg : w.grownBy w' row) (hr : ∀ k, row = some k → a.heap.size ≤ k) : Gr a w' := Below.grown h hg (Below.size h) hr

/-- A world that has grown out of a. -/
structure Ext (a : World) where
  out : World
  gr : Gr a out

theorem Gr.ext {a w : World} (h : Gr a w) (d : Ext w) : Gr a d.out := h.trans d.gr
theorem ext_mk {a w : World} (h : Gr a w) : ∃ d : Ext a, w = d.out := ⟨⟨w, h⟩, rfl⟩

theorem Ext.cell {a : World} (d : Ext a) (b o : Nat) (h : b < a.heap.size) : d.out.cell? ⟨b, o, none⟩ = a.cell? ⟨b, o, none⟩ := Below.cell d.gr (p := ⟨b, o, none⟩) h
theorem Ext.frozen {a : World} (d : Ext a) (b o : Nat) (h : b < a.heap.size) : d.out.frozen? ⟨b, o, none⟩ = a.frozen? ⟨b, o, none⟩ := Below.frozen d.gr (p := ⟨b, o, none⟩) h
theorem Ext.lt {a : World} (d : Ext a) (b : Nat) (h : b < a.heap.size) : b < d.out.heap.size := Nat.lt_of_lt_of_le h (Below.size d.gr)
theorem Ext.lt1 {a : World} (d : Ext a) (b : Nat) (h : b < a.heap.size) : b < d.out.heap.size + 1 := Nat.lt_succ_of_lt (d.lt b h)
theorem Ext.lt2 {a : World} (d : Ext a) (b : Nat) (h : b < a.heap.size) : b < d.out.heap.size + 2 := Nat.lt_succ_of_lt (d.lt1 b h)
theorem Ext.ne {a : World} (d : Ext a) (b : Nat) (h : b < a.heap.size) : (d.out.heap.size = b) = False := eq_false (Nat.ne_of_gt (d.lt b h))
theorem Ext.ne' {a : World} (d : Ext a) (b : Nat) (h : b < a.heap.size) : (b = d.out.heap.size) = False := eq_false (Nat.ne_of_lt (d.lt b h))

theorem Ext.all {a : World} (p : Prop) : (Ext a → p) ↔ p := ⟨fun h => h ⟨a, Gr.refl a⟩, fun h _ => h⟩

/-- A callee that only makes memory, met in a world that has grown. -/
theorem Calls.ext_of {P : Program} {f : FuncId} {args : Array Value} {a : World} {d : Ext a} {v : Value}
    (h : Calls P f args d.out fun e w' => e = .returned v ∧ ∃ d' : Ext d.out, w' = d'.out) : Calls P f args d.out fun e w'' => e = .returned v ∧ ∃ m : Ext a, w'' = m.out :=
  h.mono fun _ _ ⟨he, d', hm⟩ => ⟨he, ext_mk (by rw [hm]; exact d.gr.ext d')⟩

/-- A region that draws, at the class of worlds that have grown. -/
theorem wp_region_ext {P : Program} {id : Nat} {Q : Exit → Act → World → Prop} {a : Act} {w : World} {l : List Oper} (hm : P.follows .mixedOrders = true) (hB : Region.lexB .any l.toArray = true)
    (h : wpQuiet P l.toArray (fun w' => ∃ d : Ext w, w' = d.out) (fun a' => ∀ w', (∃ d : Ext w, w' = d.out) → Q .normal a' w') l a) : (Code.region id l.toArray true).wp P Q a w :=
  wp_region_quiet (C := fun w' => ∃ d : Ext w, w' = d.out) hm hB (ext_mk (Gr.drew (Gr.refl w))) (by simpa using h)

/-- The same where the world at hand has grown already. -/
theorem wp_region_ext_of {P : Program} {id : Nat} {Q : Exit → Act → World → Prop} {a : Act} {B : World} {d : Ext B} {l : List Oper} (hm : P.follows .mixedOrders = true) (hB : Region.lexB .any l.toArray = true)
    (h : wpQuiet P l.toArray (fun w' => ∃ d : Ext B, w' = d.out) (fun a' => ∀ w', (∃ d : Ext B, w' = d.out) → Q .normal a' w') l a) : (Code.region id l.toArray true).wp P Q a d.out :=
  wp_region_quiet (C := fun w' => ∃ d : Ext B, w' = d.out) hm hB (ext_mk (Gr.drew d.gr)) (by simpa using h)

theorem hide {p : Prop} (h : p) : Hid p := h
theorem ret_int {k : IntKind} {a b : Int} (h : a = b) : Ending.returned (.int k a) = .returned (.int k b) := by rw [h]
theorem ret_bool {a b : Bool} (h : a = b) : Ending.returned (.bool a) = .returned (.bool b) := by rw [h]

end Go.Proofs.YtfcknkanbcndjagGreatDoor

/- WHAT ALL TEXTS OF NUMBERS AND NODES IN MEMORY NAME. -/
namespace Go.Proofs.YtfcknkanbcndjagGreatDoor
open Go.RowKit

abbrev iv (x : Int) : Value := .int .i64 x
abbrev pv (q : Nat) : Value := .pointer (some ⟨q, 0, none⟩)
theorem wp_gen {P : Program} {c : Code} {Q : Exit → Act → World → Prop} {a : Act} {w : World} (S : World → Prop) (hS : S w) (k : ∀ X, S X → c.wp P Q a X) : c.wp P Q a w := k w hS
theorem bp_gen' {P : Program} {f : Func} {Q : Ending → World → Prop} {e : Exit} {a : Act} {w : World} (S : World → Prop) (hS : S w) (k : ∀ X, S X → bodyPost P f Q e a X) : bodyPost P f Q e a w := k w hS
theorem Tryz.info3 : (Tryz.prog.info? 3).map (fun i => (i.zero, i.size, i.bytes)) = some (some (iv 0), 1, 8) := by kernel_rfl
/-- M's blocks are as they were. -/
structure Kp (M : Nat → Prop) (w w' : World) : Prop where
  os : w'.os = w.os
  tape : w'.tape = w.tape
  output : w'.output = w.output
  size : w.heap.size ≤ w'.heap.size
  block : ∀ k, k < w.heap.size → M k → w'.heap[k]? = w.heap[k]?

theorem Kp.refl (M : Nat → Prop) (w : World) : Kp M w w := ⟨rfl, rfl, rfl, Nat.le_refl _, fun _ _ _ => rfl⟩
theorem Kp.trans {M : Nat → Prop} {a b c : World} (h : Kp M a b) (k : Kp M b c) : Kp M a c :=
  ⟨k.os.trans h.os, k.tape.trans h.tape, k.output.trans h.output, Nat.le_trans h.size k.size, fun i hi hm => (k.block i (Nat.lt_of_lt_of_le hi h.size) hm).trans (h.block i hi hm)⟩
theorem Kp.mono {M N : Nat → Prop} {a b : World} (h : Kp N a b) (hm : ∀ k, k < a.heap.size → M k → N k) : Kp M a b :=
  ⟨h.os, h.tape, h.output, h.size, fun i hi hM => h.block i hi (hm i hi hM)⟩
theorem Gr.kp {a b : World} (h : Gr a b) (M : Nat → Prop) : Kp M a b := ⟨h.os, h.tape, h.output, h.size, fun k hk _ => h.block k hk⟩
theorem Ext.kp {a : World} (d : Ext a) (M : Nat → Prop) : Kp M a d.out := d.gr.kp M
theorem Kp.below {M : Nat → Prop} {B : Nat} {a b : World} (h : Kp M a b) (hB : B ≤ a.heap.size) (hm : ∀ k, k < B → M k) : Below B a b :=
  ⟨h.os, h.tape, h.output, h.size, fun k hk => h.block k (Nat.lt_of_lt_of_le hk hB) (hm k hk)⟩
theorem Kp.grown {M : Nat → Prop} {a b : World} {row : Option Nat} (h : a.grownBy b row) (hr : ∀ k, row = some k → ¬ M k) : Kp M a b :=
  ⟨h.os, h.tape, h.output, h.size, fun k hk hm => h.block k hk (fun e => hr k e.symm hm)⟩

theorem Kp.ext {M : Nat → Prop} {B w w' : World} (h : Kp M B w) (g : Gr w w') : Kp M B w' := h.trans (g.kp M)
theorem Kp.set {M : Nat → Prop} {B w : World} (h : Kp M B w) {p : Nat} (hp : ¬ M p) (j : Nat) (v : Value) : Kp M B (w.setCell ⟨p, j, none⟩ v) := by
  refine ⟨h.os, h.tape, h.output, by have := h.size; simpa using this, fun k hk hm => ?_⟩
  have e : k ≠ p := fun e => hp (e ▸ hm)
  rw [Below.heap_setCell w ⟨p, j, none⟩ v k e]; exact h.block k hk hm
/-- Blocks of different kinds are different ones. -/
theorem blk_ne {w : World} {p q : Nat} {cs cs' : Array Value} {t t' : TypeId} {f f' : Nat × Nat} (h : w.heap[p]? = some (.cells cs t f)) (k : w.heap[q]? = some (.cells cs' t' f')) (ht : t ≠ t') : p ≠ q := by
  intro e
  subst e
  rw [h] at k
  simp only [Option.some.injEq, Obj.cells.injEq] at k
  exact ht k.2.1

end Go.Proofs.YtfcknkanbcndjagGreatDoor

/- A NODE, AS NUMBERS: what it knows, which of what neighbours said may be gone, its ways and the best. No Go here. -/
namespace Go.Proofs.YtfcknkanbcndjagGreatDoor

/-- Is a way of an age and a length better than another one? -/
def bet (s d s2 d2 : Int) : Bool := if s = s2 then decide (d < d2) else decide (s2 < s)
theorem bet_iff {s d s2 d2 : Int} : bet s d s2 d2 = true ↔ s2 < s ∨ (s = s2 ∧ d < d2) := by
  unfold bet
  split
  · next h => simp [h]
  · next h => simp [h]
theorem bet_not {s d s2 d2 : Int} : bet s d s2 d2 = false ↔ s < s2 ∨ (s = s2 ∧ d2 ≤ d) := by
  have := bet_iff (s := s) (d := d) (s2 := s2) (d2 := d2)
  constructor
  · intro h
    have hn : ¬ (s2 < s ∨ (s = s2 ∧ d < d2)) := fun e => by rw [this.2 e] at h; cases h
    omega
  · intro h
    cases e : bet s d s2 d2
    · rfl
    · have := this.1 e; omega

/-- What a node knows: costs, what was said (age, length), ways (age, length, hop), the best. -/
structure Md where
  me : Nat
  cost : Nat → Int
  heard : Nat → Nat → Int × Int
  ways : Nat → Int × Int × Int
  bests : Nat → Int × Int

/-- May what k said of 'to' be gone? -/
def mayB (m : Md) (to k : Nat) : Bool := decide (m.cost k ≠ 0) && decide ((m.heard k to).2 + m.cost k < 200) && bet (m.heard k to).1 (m.heard k to).2 (m.bests to).1 (m.bests to).2
def wayBy (m : Md) (to k : Nat) : Int × Int × Int := ((m.heard k to).1, (m.heard k to).2 + m.cost k, (k : Int))
theorem may_iff {m : Md} {to k : Nat} : mayB m to k = true ↔ m.cost k ≠ 0 ∧ (m.heard k to).2 + m.cost k < 200 ∧ bet (m.heard k to).1 (m.heard k to).2 (m.bests to).1 (m.bests to).2 = true := by
  unfold mayB
  simp only [Bool.and_eq_true, decide_eq_true_eq]
  constructor
  · rintro ⟨⟨h1, h2⟩, h3⟩; exact ⟨h1, h2, h3⟩
  · rintro ⟨h1, h2, h3⟩; exact ⟨⟨h1, h2⟩, h3⟩

/-- Which one is gone, as the document says it: the youngest, then the shortest, then the lowest neighbour's. -/
def IsPick (m : Md) (to : Nat) (w : Int × Int × Int) : Prop :=
  (∃ k, k < 6 ∧ mayB m to k = true ∧ w = wayBy m to k ∧ ∀ j, j < 6 → mayB m to j = true → bet (wayBy m to j).1 (wayBy m to j).2.1 w.1 w.2.1 = false ∧ (bet w.1 w.2.1 (wayBy m to j).1 (wayBy m to j).2.1 = false → k ≤ j)) ∨
  ((∀ j, j < 6 → mayB m to j = false) ∧ w = ((m.bests to).1, 200, -1))
theorem IsPick.unique {m : Md} {to : Nat} {w v : Int × Int × Int} (h : IsPick m to w) (h' : IsPick m to v) : w = v := by
  rcases h with ⟨k, hk, mk, rfl, hw⟩ | ⟨hn, rfl⟩
  · rcases h' with ⟨j, hj, mj, rfl, hv⟩ | ⟨hn, _⟩
    · obtain ⟨a1, a2⟩ := hw j hj mj
      obtain ⟨b1, b2⟩ := hv k hk mk
      have c1 := a2 b1
      have c2 := b2 a1
      have : k = j := by omega
      rw [this]
    · rw [hn k hk] at mk; cases mk
  · rcases h' with ⟨j, hj, mj, rfl, hv⟩ | ⟨_, rfl⟩
    · rw [hn j hj] at mj; cases mj
    · rfl

/-- The reference's search, down from the greatest number: the first s of them. -/
def pkD (m : Md) (to : Nat) : Nat → Int × Int × Int
  | 0 => ((m.bests to).1, 200, -1)
  | s + 1 =>
    if mayB m to (5 - s) = true then
      (if (pkD m to s).2.2 = -1 ∨ bet (pkD m to s).1 (pkD m to s).2.1 (wayBy m to (5 - s)).1 (wayBy m to (5 - s)).2.1 = false then wayBy m to (5 - s) else pkD m to s)
    else pkD m to s
theorem pkD_part (m : Md) (to : Nat) : ∀ s, s ≤ 6 →
    (∃ k, 6 - s ≤ k ∧ k < 6 ∧ mayB m to k = true ∧ pkD m to s = wayBy m to k ∧ ∀ j, 6 - s ≤ j → j < 6 → mayB m to j = true → bet (wayBy m to j).1 (wayBy m to j).2.1 (wayBy m to k).1 (wayBy m to k).2.1 = false ∧ (bet (wayBy m to k).1 (wayBy m to k).2.1 (wayBy m to j).1 (wayBy m to j).2.1 = false → k ≤ j)) ∨
    ((∀ j, 6 - s ≤ j → j < 6 → mayB m to j = false) ∧ pkD m to s = ((m.bests to).1, 200, -1))
  | 0, _ => .inr ⟨fun j h1 h2 => by omega, rfl⟩
  | s + 1, hs => by
    have e : 6 - (s + 1) = 5 - s := by omega
    rcases pkD_part m to s (by omega) with ⟨k, k1, k2, mk, hp, hall⟩ | ⟨hn, hp⟩
    · rw [pkD, hp]
      by_cases hm : mayB m to (5 - s) = true
      · rw [if_pos hm]
        by_cases hb : (wayBy m to k).2.2 = -1 ∨ bet (wayBy m to k).1 (wayBy m to k).2.1 (wayBy m to (5 - s)).1 (wayBy m to (5 - s)).2.1 = false
        · rw [if_pos hb]
          have hb2 : bet (wayBy m to k).1 (wayBy m to k).2.1 (wayBy m to (5 - s)).1 (wayBy m to (5 - s)).2.1 = false := by
            rcases hb with h | h
            · exfalso
              have : (k : Int) = -1 := h
              omega
            · exact h
          refine .inl ⟨5 - s, by omega, by omega, hm, rfl, fun j j1 j2 mj => ?_⟩
          by_cases ej : j = 5 - s
          · subst ej
            refine ⟨?_, fun _ => Nat.le_refl _⟩
            rw [bet_not]; omega
          · obtain ⟨a1, a2⟩ := hall j (by omega) j2 mj
            refine ⟨?_, fun _ => by omega⟩
            rw [bet_not] at a1 hb2 ⊢
            omega
        · rw [if_neg hb]
          have hb2 : bet (wayBy m to k).1 (wayBy m to k).2.1 (wayBy m to (5 - s)).1 (wayBy m to (5 - s)).2.1 = true := by
            cases h : bet (wayBy m to k).1 (wayBy m to k).2.1 (wayBy m to (5 - s)).1 (wayBy m to (5 - s)).2.1
            · exact absurd (.inr h) hb
            · rfl
          refine .inl ⟨k, by omega, k2, mk, rfl, fun j j1 j2 mj => ?_⟩
          by_cases ej : j = 5 - s
          · subst ej
            rw [hb2]
            refine ⟨?_, fun h => by cases h⟩
            rw [bet_iff] at hb2
            rw [bet_not]
            omega
          · exact hall j (by omega) j2 mj
      · rw [if_neg hm]
        refine .inl ⟨k, by omega, k2, mk, rfl, fun j j1 j2 mj => ?_⟩
        by_cases ej : j = 5 - s
        · subst ej; exact absurd mj hm
        · exact hall j (by omega) j2 mj
    · rw [pkD, hp]
      by_cases hm : mayB m to (5 - s) = true
      · rw [if_pos hm, if_pos (.inl rfl)]
        refine .inl ⟨5 - s, by omega, by omega, hm, rfl, fun j j1 j2 mj => ?_⟩
        by_cases ej : j = 5 - s
        · subst ej
          refine ⟨?_, fun _ => Nat.le_refl _⟩
          rw [bet_not]; omega
        · rw [hn j (by omega) j2] at mj; cases mj
      · rw [if_neg hm]
        refine .inr ⟨fun j j1 j2 => ?_, rfl⟩
        by_cases ej : j = 5 - s
        · subst ej
          cases h : mayB m to (5 - s)
          · rfl
          · exact absurd h hm
        · exact hn j (by omega) j2
/-- The reference's search finds what the document says. -/
theorem pkD_is (m : Md) (to : Nat) : IsPick m to (pkD m to 6) := by
  rcases pkD_part m to 6 (Nat.le_refl _) with ⟨k, _, k2, mk, hp, hall⟩ | ⟨hn, hp⟩
  · rw [hp]
    exact .inl ⟨k, k2, mk, rfl, fun j hj mj => hall j (by omega) hj mj⟩
  · rw [hp]
    exact .inr ⟨fun j hj => hn j (by omega) hj, rfl⟩

def updW {α : Type} (f : Nat → α) (i : Nat) (v : α) : Nat → α := fun j => if j = i then v else f j
theorem updW_same {α : Type} (f : Nat → α) (i : Nat) (v : α) : updW f i v i = v := by unfold updW; rw [if_pos rfl]
theorem updW_ne {α : Type} (f : Nat → α) {i j : Nat} (v : α) (h : j ≠ i) : updW f i v j = f j := by unfold updW; rw [if_neg h]
/-- The way to another node anew. -/
def lookM (m : Md) (to : Nat) : Md :=
  if to = m.me then m else
    { m with
      ways := updW m.ways to (pkD m to 6)
      bests := if (pkD m to 6).2.2 ≠ -1 ∧ bet (pkD m to 6).1 (pkD m to 6).2.1 (m.bests to).1 (m.bests to).2 = true then updW m.bests to ((pkD m to 6).1, (pkD m to 6).2.1) else m.bests }
def lookTo (m : Md) : Nat → Md
  | 0 => m
  | k + 1 => lookM (lookTo m k) k
def newM (me : Nat) : Md := { me := me, cost := fun _ => 0, heard := fun _ _ => (0, 200), ways := updW (fun _ => (0, 200, -1)) me (0, 0, (me : Int)), bests := updW (fun _ => (0, 200)) me (0, 0) }
def linkM (m : Md) (who : Nat) (c : Int) : Md :=
  lookTo { m with cost := updW m.cost who c, heard := if c = 0 then updW m.heard who (fun _ => (0, 200)) else m.heard } 6
def hearM (m : Md) (f to : Nat) (s d : Int) : Md := lookM { m with heard := updW m.heard f (updW (m.heard f) to (s, d)) } to
def tickM (m : Md) : Md :=
  { m with ways := updW m.ways m.me ((m.ways m.me).1 + 1, (m.ways m.me).2.1, (m.ways m.me).2.2), bests := updW m.bests m.me ((m.ways m.me).1 + 1, 0) }

theorem look_me (m : Md) (to : Nat) : (lookM m to).me = m.me := by unfold lookM; split <;> rfl
theorem look_cost (m : Md) (to : Nat) : (lookM m to).cost = m.cost := by unfold lookM; split <;> rfl
theorem look_heard (m : Md) (to : Nat) : (lookM m to).heard = m.heard := by unfold lookM; split <;> rfl
theorem look_other (m : Md) {to k : Nat} (h : k ≠ to) : (lookM m to).ways k = m.ways k ∧ (lookM m to).bests k = m.bests k := by
  unfold lookM
  split
  · exact ⟨rfl, rfl⟩
  · refine ⟨updW_ne _ _ h, ?_⟩
    dsimp only
    split
    · exact updW_ne _ _ h
    · rfl
/-- What is known of a way. -/
structure WayOk (m : Md) (k : Nat) : Prop where
  drop : (m.ways k).2.2 = -1 → (m.ways k).2.1 = 200
  notBetter : (m.ways k).2.2 ≠ -1 → bet (m.ways k).1 (m.ways k).2.1 (m.bests k).1 (m.bests k).2 = false
  by_ : (m.ways k).2.2 ≠ -1 → k ≠ m.me → ∃ j, j < 6 ∧ m.ways k = wayBy m k j ∧ m.cost j ≠ 0 ∧ (m.heard j k).2 + m.cost j < 200 ∧ bet (m.heard j k).1 (m.heard j k).2 (m.bests k).1 (m.bests k).2 = true
theorem look_ok (m : Md) {to : Nat} (h : to ≠ m.me) (hc : ∀ j, j < 6 → 0 ≤ m.cost j) : WayOk (lookM m to) to ∧ bet (m.bests to).1 (m.bests to).2 ((lookM m to).bests to).1 ((lookM m to).bests to).2 = false := by
  have hp := pkD_is m to
  have ew : (lookM m to).ways to = pkD m to 6 := by unfold lookM; rw [if_neg h]; exact updW_same _ _ _
  have eb : (lookM m to).bests to = if (pkD m to 6).2.2 ≠ -1 ∧ bet (pkD m to 6).1 (pkD m to 6).2.1 (m.bests to).1 (m.bests to).2 = true then ((pkD m to 6).1, (pkD m to 6).2.1) else m.bests to := by
    unfold lookM
    rw [if_neg h]
    dsimp only
    split
    · exact updW_same _ _ _
    · rfl
  rcases hp with ⟨k, hk, mk, hw, _⟩ | ⟨_, hw⟩
  · obtain ⟨c0, c1, c2⟩ := may_iff.1 mk
    have hck := hc k hk
    have hne : (pkD m to 6).2.2 ≠ -1 := by rw [hw]; show (k : Int) ≠ -1; omega
    have e1 : (pkD m to 6).1 = (m.heard k to).1 := by rw [hw]; rfl
    have e2 : (pkD m to 6).2.1 = (m.heard k to).2 + m.cost k := by rw [hw]; rfl
    by_cases hb : bet (pkD m to 6).1 (pkD m to 6).2.1 (m.bests to).1 (m.bests to).2 = true
    · rw [if_pos ⟨hne, hb⟩] at eb
      refine ⟨⟨fun e => ?_, fun _ => ?_, fun _ _ => ⟨k, hk, ?_, ?_, ?_, ?_⟩⟩, ?_⟩
      · rw [ew] at e; exact absurd e hne
      · rw [ew, eb, bet_not]; simp
      · rw [ew, hw]; unfold wayBy; rw [look_heard, look_cost]
      · rw [look_cost]; exact c0
      · rw [look_heard, look_cost]; exact c1
      · rw [look_heard, eb, bet_iff]; simp only; omega
      · rw [eb, bet_not]
        rw [bet_iff] at hb
        simp only; omega
    · rw [if_neg (fun q => hb q.2)] at eb
      have hb' : bet (pkD m to 6).1 (pkD m to 6).2.1 (m.bests to).1 (m.bests to).2 = false := by
        cases q : bet (pkD m to 6).1 (pkD m to 6).2.1 (m.bests to).1 (m.bests to).2
        · rfl
        · exact absurd q hb
      refine ⟨⟨fun e => ?_, fun _ => ?_, fun _ _ => ⟨k, hk, ?_, ?_, ?_, ?_⟩⟩, ?_⟩
      · rw [ew] at e; exact absurd e hne
      · rw [ew, eb]; exact hb'
      · rw [ew, hw]; unfold wayBy; rw [look_heard, look_cost]
      · rw [look_cost]; exact c0
      · rw [look_heard, look_cost]; exact c1
      · rw [look_heard, eb]; exact c2
      · rw [eb, bet_not]; omega
  · have hd : (pkD m to 6).2.2 = -1 := by rw [hw]
    rw [if_neg (fun q => q.1 hd)] at eb
    refine ⟨⟨fun _ => by rw [ew, hw], fun e => ?_, fun e => ?_⟩, ?_⟩
    · rw [ew] at e; exact absurd hd e
    · rw [ew] at e; exact absurd hd e
    · rw [eb, bet_not]; omega

end Go.Proofs.YtfcknkanbcndjagGreatDoor

/- A NODE, AS NUMBERS: whatever it hears, the best is never worse, and each way is as its neighbour said. No Go here. -/
namespace Go.Proofs.YtfcknkanbcndjagGreatDoor

structure MdOk (m : Md) : Prop where
  me : m.me < 6
  cost : ∀ j, 0 ≤ m.cost j ∧ m.cost j ≤ 15
  said : ∀ j k, 0 ≤ (m.heard j k).1 ∧ 0 ≤ (m.heard j k).2 ∧ (m.heard j k).2 ≤ 200
  best : ∀ k, 0 ≤ (m.bests k).1
  self : ∃ s, 0 ≤ s ∧ m.ways m.me = (s, 0, (m.me : Int)) ∧ m.bests m.me = (s, 0)
  way : ∀ k, k < 6 → k ≠ m.me → WayOk m k
theorem WayOk.keep {m m' : Md} {k : Nat} (h : WayOk m k) (e1 : m'.ways k = m.ways k) (e2 : m'.bests k = m.bests k) (e3 : m'.cost = m.cost) (e4 : ∀ j, m'.heard j k = m.heard j k) (e5 : m'.me = m.me) : WayOk m' k := by
  refine ⟨fun e => ?_, fun e => ?_, fun e hk => ?_⟩
  · rw [e1] at e ⊢; exact h.drop e
  · rw [e1] at e; rw [e1, e2]; exact h.notBetter e
  · rw [e1] at e
    rw [e5] at hk
    obtain ⟨j, hj, hw, hc, hd, hb⟩ := h.by_ e hk
    refine ⟨j, hj, ?_, ?_, ?_, ?_⟩
    · rw [e1, hw]; unfold wayBy; rw [e3, e4]
    · rw [e3]; exact hc
    · rw [e3, e4]; exact hd
    · rw [e4, e2]; exact hb
theorem look_best0 (m : Md) (to : Nat) (hb : ∀ k, 0 ≤ (m.bests k).1) (hs : ∀ j k, 0 ≤ (m.heard j k).1) : ∀ k, 0 ≤ ((lookM m to).bests k).1 := by
  intro k
  by_cases e : k = to
  · subst e
    unfold lookM
    split
    · exact hb k
    · dsimp only
      split
      · rw [updW_same]
        rcases pkD_is m k with ⟨j, _, _, hw, _⟩ | ⟨_, hw⟩
        · rw [hw]; exact hs j k
        · rw [hw]; exact hb k
      · exact hb k
  · rw [(look_other m e).2]; exact hb k
theorem look_self (m : Md) (to : Nat) : (lookM m to).ways m.me = m.ways m.me ∧ (lookM m to).bests m.me = m.bests m.me := by
  by_cases e : m.me = to
  · unfold lookM; rw [if_pos e.symm]; exact ⟨rfl, rfl⟩
  · exact look_other m e
theorem lookTo_all (m : Md) : ∀ n, (lookTo m n).me = m.me ∧ (lookTo m n).cost = m.cost ∧ (lookTo m n).heard = m.heard ∧ (lookTo m n).ways m.me = m.ways m.me ∧ (lookTo m n).bests m.me = m.bests m.me
  | 0 => ⟨rfl, rfl, rfl, rfl, rfl⟩
  | n + 1 => by
    obtain ⟨h1, h2, h3, h4, h5⟩ := lookTo_all m n
    have hs := look_self (lookTo m n) n
    rw [h1] at hs
    refine ⟨?_, ?_, ?_, ?_, ?_⟩
    · rw [lookTo, look_me, h1]
    · rw [lookTo, look_cost, h2]
    · rw [lookTo, look_heard, h3]
    · rw [lookTo, hs.1, h4]
    · rw [lookTo, hs.2, h5]
theorem bet_refl (s d : Int) : bet s d s d = false := by rw [bet_not]; omega
theorem bet_trans {a b c d e f : Int} (h : bet a b c d = false) (k : bet c d e f = false) : bet a b e f = false := by
  rw [bet_not] at *; omega
theorem lookTo_ok (m : Md) (hc : ∀ j, 0 ≤ m.cost j) : ∀ n k, (k < n → k ≠ m.me → WayOk (lookTo m n) k) ∧ bet (m.bests k).1 (m.bests k).2 ((lookTo m n).bests k).1 ((lookTo m n).bests k).2 = false
  | 0, k => ⟨fun h => by omega, bet_refl _ _⟩
  | n + 1, k => by
    obtain ⟨h1, h2⟩ := lookTo_ok m hc n k
    obtain ⟨e1, e2, e3, e4, e5⟩ := lookTo_all m n
    by_cases e : k = n
    · subst e
      by_cases hk : k = m.me
      · refine ⟨fun _ hne => absurd hk hne, ?_⟩
        have hs := (look_self (lookTo m k) k).2
        rw [e1, ← hk] at hs
        rw [lookTo, hs]; exact h2
      · have := look_ok (lookTo m k) (to := k) (by rw [e1]; exact hk) (fun j _ => by rw [e2]; exact hc j)
        exact ⟨fun _ _ => this.1, bet_trans h2 this.2⟩
    · obtain ⟨o1, o2⟩ := look_other (lookTo m n) e
      refine ⟨fun hlt hne => ?_, ?_⟩
      · exact (h1 (by omega) hne).keep o1 o2 (look_cost _ _) (fun j => by rw [lookTo, look_heard]) (look_me _ _)
      · rw [lookTo, o2]; exact h2
theorem lookTo_best0 (m : Md) (hb : ∀ k, 0 ≤ (m.bests k).1) (hs : ∀ j k, 0 ≤ (m.heard j k).1) : ∀ n k, 0 ≤ ((lookTo m n).bests k).1
  | 0, k => hb k
  | n + 1, k => look_best0 (lookTo m n) n (lookTo_best0 m hb hs n) (fun j k => by rw [(lookTo_all m n).2.2.1]; exact hs j k) k

theorem new_ok {me : Nat} (h : me < 6) : MdOk (newM me) := by
  have ew : (newM me).ways me = (0, 0, (me : Int)) := by unfold newM; dsimp only; exact updW_same _ _ _
  have eb : (newM me).bests me = (0, 0) := by unfold newM; dsimp only; exact updW_same _ _ _
  refine ⟨h, fun j => ⟨by simp [newM], by simp [newM]⟩, fun j k => by simp [newM], fun k => ?_, ⟨0, by omega, ew, eb⟩, fun k _ hk => ?_⟩
  · unfold newM updW; dsimp only; split <;> simp
  · have e : (newM me).ways k = (0, 200, -1) := by
      unfold newM
      dsimp only
      exact updW_ne _ _ hk
    exact ⟨fun _ => by rw [e], fun q => absurd (by rw [e]) q, fun q => absurd (by rw [e]) q⟩
theorem link_ok {m : Md} (h : MdOk m) {who : Nat} {c : Int} (hc0 : 0 ≤ c) (hc : c ≤ 15) : MdOk (linkM m who c) ∧ ∀ k, bet (m.bests k).1 (m.bests k).2 ((linkM m who c).bests k).1 ((linkM m who c).bests k).2 = false := by
  obtain ⟨m1, hm1⟩ : ∃ m1 : Md, m1 = { m with cost := updW m.cost who c, heard := if c = 0 then updW m.heard who (fun _ => (0, 200)) else m.heard } := ⟨_, rfl⟩
  have el : linkM m who c = lookTo m1 6 := by rw [hm1]; rfl
  have b1 : m1.bests = m.bests := by rw [hm1]
  have w1 : m1.ways = m.ways := by rw [hm1]
  have me1 : m1.me = m.me := by rw [hm1]
  have cs : ∀ j, 0 ≤ m1.cost j ∧ m1.cost j ≤ 15 := fun j => by
    rw [hm1]
    show 0 ≤ updW m.cost who c j ∧ updW m.cost who c j ≤ 15
    unfold updW
    split
    · exact ⟨hc0, hc⟩
    · exact h.cost j
  have hs : ∀ j k, 0 ≤ (m1.heard j k).1 ∧ 0 ≤ (m1.heard j k).2 ∧ (m1.heard j k).2 ≤ 200 := fun j k => by
    rw [hm1]
    dsimp only
    split
    · unfold updW
      split
      · simp
      · exact h.said j k
    · exact h.said j k
  obtain ⟨e1, e2, e3, e4, e5⟩ := lookTo_all m1 6
  rw [el]
  refine ⟨⟨by rw [e1, me1]; exact h.me, fun j => by rw [e2]; exact cs j, fun j k => by rw [e3]; exact hs j k, lookTo_best0 m1 (fun k => by rw [b1]; exact h.best k) (fun j k => (hs j k).1) 6, ?_, fun k hk hne => ?_⟩, fun k => ?_⟩
  · obtain ⟨s, h0, hw, hb⟩ := h.self
    refine ⟨s, h0, ?_, ?_⟩
    · rw [e1, e4, w1, me1]; exact hw
    · rw [e1, e5, b1, me1]; exact hb
  · exact (lookTo_ok m1 (fun j => (cs j).1) 6 k).1 hk (by rw [e1] at hne; exact hne)
  · have := (lookTo_ok m1 (fun j => (cs j).1) 6 k).2
    rw [b1] at this; exact this
theorem hear_ok {m : Md} (h : MdOk m) {f to : Nat} {s d : Int} (hs : 0 ≤ s) (hd0 : 0 ≤ d) (hd : d ≤ 200) : MdOk (hearM m f to s d) ∧ ∀ k, bet (m.bests k).1 (m.bests k).2 ((hearM m f to s d).bests k).1 ((hearM m f to s d).bests k).2 = false := by
  obtain ⟨m1, hm1⟩ : ∃ m1 : Md, m1 = { m with heard := updW m.heard f (updW (m.heard f) to (s, d)) } := ⟨_, rfl⟩
  have el : hearM m f to s d = lookM m1 to := by rw [hm1]; rfl
  have b1 : m1.bests = m.bests := by rw [hm1]
  have w1 : m1.ways = m.ways := by rw [hm1]
  have me1 : m1.me = m.me := by rw [hm1]
  have c1 : m1.cost = m.cost := by rw [hm1]
  have hh : ∀ j k, m1.heard j k = if j = f ∧ k = to then (s, d) else m.heard j k := fun j k => by
    rw [hm1]
    show updW m.heard f (updW (m.heard f) to (s, d)) j k = _
    unfold updW
    by_cases e : j = f
    · rw [if_pos e]
      by_cases e2 : k = to
      · rw [if_pos e2, if_pos ⟨e, e2⟩]
      · rw [if_neg e2, if_neg (fun q => e2 q.2), e]
    · rw [if_neg e, if_neg (fun q => e q.1)]
  have hsd : ∀ j k, 0 ≤ (m1.heard j k).1 ∧ 0 ≤ (m1.heard j k).2 ∧ (m1.heard j k).2 ≤ 200 := fun j k => by
    rw [hh]
    split
    · exact ⟨hs, hd0, hd⟩
    · exact h.said j k
  rw [el]
  have hsf := look_self m1 to
  refine ⟨⟨by rw [look_me, me1]; exact h.me, fun j => by rw [look_cost, c1]; exact h.cost j, fun j k => by rw [look_heard]; exact hsd j k, look_best0 m1 to (fun k => by rw [b1]; exact h.best k) (fun j k => (hsd j k).1), ?_, fun k hk hne => ?_⟩, fun k => ?_⟩
  · obtain ⟨s', h0, hw, hb⟩ := h.self
    rw [look_me]
    refine ⟨s', h0, ?_, ?_⟩
    · rw [hsf.1, w1, me1]; exact hw
    · rw [hsf.2, b1, me1]; exact hb
  · rw [look_me, me1] at hne
    by_cases e : k = to
    · subst e
      exact (look_ok m1 (by rw [me1]; exact hne) (fun j _ => by rw [c1]; exact (h.cost j).1)).1
    · obtain ⟨o1, o2⟩ := look_other m1 e
      exact (h.way k hk hne).keep (by rw [o1, w1]) (by rw [o2, b1]) (by rw [look_cost, c1]) (fun j => by rw [look_heard, hh, if_neg (fun q => e q.2)]) (by rw [look_me, me1])
  · by_cases e : k = to
    · subst e
      by_cases hk : k = m1.me
      · have := hsf.2
        rw [← hk] at this
        rw [this, b1]; exact bet_refl _ _
      · have := (look_ok m1 hk (fun j _ => by rw [c1]; exact (h.cost j).1)).2
        rw [b1] at this; exact this
    · rw [(look_other m1 e).2, b1]; exact bet_refl _ _
theorem tick_ok {m : Md} (h : MdOk m) : MdOk (tickM m) ∧ ∀ k, bet (m.bests k).1 (m.bests k).2 ((tickM m).bests k).1 ((tickM m).bests k).2 = false := by
  obtain ⟨s, h0, hw, hb⟩ := h.self
  have ew : (tickM m).ways m.me = (s + 1, 0, (m.me : Int)) := by
    show updW m.ways m.me _ m.me = _
    rw [updW_same, hw]
  have eb : (tickM m).bests m.me = (s + 1, 0) := by
    show updW m.bests m.me _ m.me = _
    rw [updW_same, hw]
  refine ⟨⟨h.me, h.cost, h.said, fun k => ?_, ⟨s + 1, by omega, ew, eb⟩, fun k hk hne => ?_⟩, fun k => ?_⟩
  · by_cases e : k = m.me
    · rw [e, eb]; simp only; omega
    · show 0 ≤ (updW m.bests m.me _ k).1
      rw [updW_ne _ _ e]; exact h.best k
  · exact (h.way k hk hne).keep (updW_ne _ _ hne) (updW_ne _ _ hne) rfl (fun _ => rfl) rfl
  · by_cases e : k = m.me
    · rw [e, eb, hb, bet_not]; simp only; omega
    · show bet (m.bests k).1 (m.bests k).2 (updW m.bests m.me _ k).1 (updW m.bests m.me _ k).2 = false
      rw [updW_ne _ _ e]; exact bet_refl _ _

end Go.Proofs.YtfcknkanbcndjagGreatDoor

/- A NODE, AS NUMBERS: a new one that is told all learns all. No Go here. -/
namespace Go.Proofs.YtfcknkanbcndjagGreatDoor

theorem pick_none {m : Md} {to : Nat} (h : ∀ j, j < 6 → mayB m to j = false) : pkD m to 6 = ((m.bests to).1, 200, -1) := (pkD_is m to).unique (.inr ⟨h, rfl⟩)
theorem look_none {m : Md} {to : Nat} (h : ∀ j, j < 6 → mayB m to j = false) (hne : to ≠ m.me) : (lookM m to).ways to = ((m.bests to).1, 200, -1) ∧ (lookM m to).bests to = m.bests to := by
  have hp := pick_none h
  unfold lookM
  rw [if_neg hne]
  dsimp only
  rw [updW_same, hp]
  refine ⟨rfl, ?_⟩
  rw [if_neg (by simp)]
/-- All that a node tells, one behind the other. -/
def tellAll (x : Md) (me : Nat) (w : Nat → Int × Int × Int) : Nat → Md
  | 0 => x
  | j + 1 => hearM (tellAll x me w j) me j (w j).1 (w j).2.1
theorem way_seq {m : Md} (h : MdOk m) {k : Nat} (hk : k < 6) (hd : (m.ways k).2.2 ≠ -1) : 0 ≤ (m.ways k).1 ∧ 0 ≤ (m.ways k).2.1 ∧ (m.ways k).2.1 < 200 := by
  by_cases e : k = m.me
  · obtain ⟨s, h0, hw, _⟩ := h.self
    rw [e, hw]; simp only; omega
  · obtain ⟨j, hj, hw, hc, hlt, _⟩ := (h.way k hk e).by_ hd e
    have h1 := h.said j k
    have h2 := h.cost j
    rw [hw]
    unfold wayBy
    simp only
    omega
end Go.Proofs.YtfcknkanbcndjagGreatDoor
