/- WHAT BOTH THE PROGRAM'S Net AND THE REFERENCE'S Town NAME: news as numbers in memory, frames. -/
import Derived.Test.YtihamicnbihgnaeTwMem
import Derived.Test.YtihamicnbihgnaePlainAll
namespace Go.Proofs.Ytihamicnbihgnae
open Go.RowKit

def newsL (l : List Nw) : List Nws := l.map fun x => ((x.f : Int), (x.g : Int), (x.to : Int), x.s, x.d)
theorem newsL_len (l : List Nw) : (newsL l).length = l.length := List.length_map _
theorem newsL_app (a b : List Nw) : newsL (a ++ b) = newsL a ++ newsL b := List.map_append
theorem NwO.own_lt {lo : Nat} {w : World} {v : Value} {l : List Nws} (h : NwO lo w v l) {b : Nat} (e : v.ownBlock = some b) : b < w.heap.size := by
  rcases h.2 with ⟨rfl, _⟩ | ⟨g, cap, cur, rfl, hb, hgg, _⟩
  · cases e
  · cases e; exact lt_of_block hgg
theorem NwO.apart {lo : Nat} {w : World} {v : Value} {l : List Nws} (h : NwO lo w v l) {b : Nat} (e : v.ownBlock = some b) {t : TypeId} {cs : Array Value} {fr : Nat × Nat} {k : Nat} (hk : w.heap[k]? = some (.cells cs t fr)) (ht : t ≠ 53) : b ≠ k := by
  rcases h.2 with ⟨rfl, _⟩ | ⟨g, cap, cur, rfl, hb, hgg, _⟩
  · cases e
  · cases e
    exact blk_ne hgg hk (fun q => ht q.symm)
theorem tell_news {t : Tn} {a b : Nat} (hme : (t.nd a).me = a) : newsL (tellT t a b) = tellL (t.nd a) (b : Int) 6 := by
  unfold newsL tellT
  simp [List.range, List.range.loop, tellL, hme]
theorem Wr.kp {M : Nat → Prop} {p : Nat} {w w' : World} (h : Wr p w w') (hp : ¬ M p) : Kp M w w' := ⟨h.os, h.tape, h.output, h.size, fun k hk hm => h.block k hk (fun e => hp (e ▸ hm))⟩
theorem Kp.wr {M : Nat → Prop} {B w w' : World} {p : Nat} (h : Kp M B w) (k : Wr p w w') (hp : ¬ M p) : Kp M B w' := h.trans (k.kp hp)
/-- A call of a Go function whose contract is known, as one step of a region that draws. -/
theorem step_call2 {P : Program} {ops : Array Oper} {oo : Oper} {a : Act} {w : World} {K : Act → World → Prop} {Q : Exit → Act → World → Prop} {E : Prop}
    (hg : oo.guard = none) (f : FuncId) (args : Array Value) (he : (execOp a.eval oo).run P w = .ok (.enter f args) w)
    {R : Value → World → Prop} (hC : Calls P f args w fun e w' => ∃ r, e = .returned r ∧ R r w') (hK : ∀ r w', R r w' → K (a.put oo.dst r) w') :
    if Region.wanted oo (yielded ops a.tmps) = true then Oper.wp P oo a w K Q else E := by
  have hw : Region.wanted oo (yielded ops a.tmps) = true := by simp [Region.wanted, hg]
  rw [if_pos hw]
  unfold Oper.wp
  rw [he, Oper.upon_enter]
  refine hC.mono fun e w' ⟨r, he, hr⟩ => ?_
  subst he
  exact hK r w' hr

end Go.Proofs.Ytihamicnbihgnae
