/- A POST IN MEMORY: a Net and a table of owners; objects beside each other. -/
import Derived.Test.YtgiifgjjmffphafGreatDoorFwA
import Derived.Test.YtgiifgjjmffphafGreatDoorTMem
namespace Go.Proofs.YtgiifgjjmffphafGreatDoor
open Go.RowKit

/-- An object whose own blocks were S has changed: all else is as it was; its own blocks are now S'. -/
structure Chg (w w' : World) (S S' : Nat → Prop) : Prop where
  kp : Kp (fun b => b < w.heap.size ∧ ¬ S b) w w'
  nw : ∀ b, S' b → S b ∨ w.heap.size ≤ b
theorem Gr.chg {w w' : World} (g : Gr w w') (S : Nat → Prop) : Chg w w' S S := ⟨g.kp _, fun _ h => .inl h⟩
theorem Chg.trans {w w1 w2 : World} {S S1 S2 : Nat → Prop} (h : Chg w w1 S S1) (k : Chg w1 w2 S1 S2) : Chg w w2 S S2 := by
  refine ⟨h.kp.trans (k.kp.mono fun b _ hb => ⟨Nat.lt_of_lt_of_le hb.1 h.kp.size, fun hs => ?_⟩), fun b hb => ?_⟩
  · rcases h.nw b hs with q | q
    · exact hb.2 q
    · have := hb.1; omega
  · rcases k.nw b hb with q | q
    · exact h.nw b q
    · exact .inr (Nat.le_trans h.kp.size q)
/-- The own blocks of a table. -/
def ownB (tb : Nat) (u : Value) (b : Nat) : Prop := b = tb ∨ u.ownBlock = some b
section
variable {M N : Nat → Prop} {B w w' : World} {P p k : Nat} {q : Nat → Nat} {v v' : Value} {tb : Nat} {u u' : Value} {c c' : Nat → Nat → Nat} {t t' : Tn} {n n' : Nat} {rs rs' : List Rt}
theorem TabS.own_lt (h : TabS w M tb u rs) {b : Nat} (hb : ownB tb u b) : b < w.heap.size := by
  rcases hb with rfl | e
  · exact h.lt
  · exact (h.own.lt b e).2
/-- All that is not the table's stays. -/
theorem TabS.all (h : TabS w M tb u rs) : TabS w (fun b => b < w.heap.size ∧ ¬ ownB tb u b) tb u rs :=
  ⟨h.cell, h.own, fun e => e.2 (.inl rfl), fun _ hg e => e.2 (.inr hg), fun _ e => e.1⟩
theorem Nl.keep (H : Nl M B w p k q v c t n) (hk : Kp N w w') (hMN : ∀ b, M b → N b) (hS : ∀ b, own p k q v b → N b) : Nl M B w' p k q v c t n :=
  ⟨H.h.keep hk hMN (hS _ (.inl rfl)) (hS _ (.inr (.inl rfl))) (fun a ha => hS _ (.inr (.inr (.inl ⟨a, ha, rfl⟩)))) (fun _ e => hS _ (.inr (.inr (.inr e)))), H.a, H.l, H.g⟩
theorem rest_of {b : Nat} (hb : b < w.heap.size) (h : ¬ own p k q v b) : rest w p k q v b :=
  ⟨hb, fun e => h (.inl e), fun e => h (.inr (.inl e)), fun a ha e => h (.inr (.inr (.inl ⟨a, ha, e⟩))), fun e => h (.inr (.inr (.inr e)))⟩
theorem rest_not {b : Nat} (hb : rest w p k q v b) : ¬ own p k q v b := by
  rintro (e | e | ⟨a, ha, e⟩ | e)
  · exact hb.2.1 e
  · exact hb.2.2.1 e
  · exact hb.2.2.2.1 a ha e
  · exact hb.2.2.2.2 e
theorem Fr.chg (f : Fr w p k q v w' v') : Chg w w' (own p k q v) (own p k q v') :=
  ⟨f.kp.mono fun _ _ hb => rest_of hb.1 hb.2, fun b hb => by
    by_cases h : own p k q v b
    · exact .inl h
    · by_cases hl : b < w.heap.size
      · exact absurd hb (rest_not (f.rst (rest_of hl h)))
      · exact .inr (by omega)⟩
/-- A Post at P: its Net, its table of owners. -/
structure Po (M : Nat → Prop) (B w : World) (P p k : Nat) (q : Nat → Nat) (v : Value) (tb : Nat) (u : Value) (c : Nat → Nat → Nat) (t : Tn) (n : Nat) (rs : List Rt) : Prop where
  blk : w.heap[P]? = some (.cells #[pv p, pv tb] 63 (0, 0))
  net : Nl M B w p k q v c t n
  tab : TabS w M tb u rs
  ows : Ows rs
  nop : ¬ M P
  a1 : ∀ b, own p k q v b → ¬ ownB tb u b
  a2 : ¬ own p k q v P
  a3 : ¬ ownB tb u P
def ownP (P p k : Nat) (q : Nat → Nat) (v : Value) (tb : Nat) (u : Value) (b : Nat) : Prop := b = P ∨ own p k q v b ∨ ownB tb u b
theorem Po.lt (H : Po M B w P p k q v tb u c t n rs) {b : Nat} (hb : ownP P p k q v tb u b) : b < w.heap.size := by
  rcases hb with rfl | h | h
  · exact lt_of_block H.blk
  · exact H.net.h.own_lt h
  · exact H.tab.own_lt h
theorem Po.out (H : Po M B w P p k q v tb u c t n rs) {b : Nat} (hm : M b) : b < w.heap.size ∧ ¬ ownP P p k q v tb u b := by
  refine ⟨Nat.lt_of_lt_of_le (H.net.h.bd b hm) H.net.h.kp.size, ?_⟩
  rintro (rfl | h | h)
  · exact H.nop hm
  · exact rest_not (H.net.h.sub hm) h
  · rcases h with rfl | h
    · exact H.tab.notTb hm
    · exact H.tab.notRow b h hm
theorem Po.gr (H : Po M B w P p k q v tb u c t n rs) (g : Gr w w') : Po M B w' P p k q v tb u c t n rs :=
  ⟨(Below.block g P (lt_of_block H.blk)).trans H.blk, H.net.ext g, H.tab.gr g, H.ows, H.nop, H.a1, H.a2, H.a3⟩
theorem Po.keep (H : Po M B w P p k q v tb u c t n rs) (hk : Kp N w w') (hMN : ∀ b, M b → N b) (hS : ∀ b, ownP P p k q v tb u b → N b) : Po M B w' P p k q v tb u c t n rs :=
  ⟨(hk.block P (lt_of_block H.blk) (hS P (.inl rfl))).trans H.blk, H.net.keep hk hMN (fun b hb => hS b (.inr (.inl hb))), H.tab.kept hk (hS tb (.inr (.inr (.inl rfl)))) (fun g hg => hS g (.inr (.inr (.inr hg)))), H.ows, H.nop, H.a1, H.a2, H.a3⟩
/-- The Net has changed. -/
theorem Po.netStep (H : Po M B w P p k q v tb u c t n rs) (H' : Nl M B w' p k q v' c' t' n') (f : Fr w p k q v w' v') : Po M B w' P p k q v' tb u c' t' n' rs ∧ Chg w w' (ownP P p k q v tb u) (ownP P p k q v' tb u) := by
  have hB : ∀ b, ownB tb u b → rest w p k q v b := fun b hb => rest_of (H.tab.own_lt hb) (fun h => H.a1 b h hb)
  have hP : rest w p k q v P := rest_of (lt_of_block H.blk) H.a2
  have fc := f.chg
  refine ⟨⟨(f.kp.block P hP.1 hP).trans H.blk, H', H.tab.kept f.kp (hB tb (.inl rfl)) (fun g hg => hB g (.inr hg)), H.ows, H.nop, fun b ho hb => rest_not (f.rst (hB b hb)) ho, rest_not (f.rst hP), H.a3⟩, ?_, ?_⟩
  · exact fc.kp.mono fun b _ hb => ⟨hb.1, fun h => hb.2 (.inr (.inl h))⟩
  · rintro b (h | h | h)
    · exact .inl (.inl h)
    · rcases fc.nw b h with q | q
      · exact .inl (.inr (.inl q))
      · exact .inr q
    · exact .inl (.inr (.inr h))
/-- The owners have changed. -/
theorem Po.tabStep (H : Po M B w P p k q v tb u c t n rs) (H' : TabS w' (fun b => b < w.heap.size ∧ ¬ ownB tb u b) tb u' rs') (k' : Kp (fun b => b < w.heap.size ∧ ¬ ownB tb u b) w w') (o : Ows rs') : Po M B w' P p k q v tb u' c t n rs' ∧ Chg w w' (ownP P p k q v tb u) (ownP P p k q v tb u') := by
  have hnw : ∀ b, ownB tb u' b → ownB tb u b ∨ w.heap.size ≤ b := by
    rintro b (h | h)
    · exact .inl (.inl h)
    · by_cases hl : b < w.heap.size
      · by_cases ho : ownB tb u b
        · exact .inl ho
        · exact absurd ⟨hl, ho⟩ (H'.notRow b h)
      · exact .inr (by omega)
  have hM : ∀ b, M b → b < w.heap.size ∧ ¬ ownB tb u b := fun b hm => ⟨(H.out hm).1, fun h => (H.out hm).2 (.inr (.inr h))⟩
  have hPl := lt_of_block H.blk
  have hN : ∀ b, own p k q v b → b < w.heap.size ∧ ¬ ownB tb u b := fun b hb => ⟨H.net.h.own_lt hb, H.a1 b hb⟩
  refine ⟨⟨(k'.block P hPl ⟨hPl, H.a3⟩).trans H.blk, H.net.keep k' hM hN, ⟨H'.cell, H'.own, H.tab.notTb, fun g hg hm => H'.notRow g hg (hM g hm), fun b hm => Nat.lt_of_lt_of_le (hM b hm).1 k'.size⟩, o, H.nop, fun b hb ho => ?_, H.a2, fun ho => ?_⟩, ?_, ?_⟩
  · rcases hnw b ho with z | z
    · exact H.a1 b hb z
    · have := (hN b hb).1; omega
  · rcases hnw P ho with z | z
    · exact H.a3 z
    · omega
  · exact k'.mono fun b _ hb => ⟨hb.1, fun h => hb.2 (.inr (.inr h))⟩
  · rintro b (h | h | h)
    · exact .inl (.inl h)
    · exact .inl (.inr (.inl h))
    · rcases hnw b h with z | z
      · exact .inl (.inr (.inr z))
      · exact .inr z
end

end Go.Proofs.YtgiifgjjmffphafGreatDoor
