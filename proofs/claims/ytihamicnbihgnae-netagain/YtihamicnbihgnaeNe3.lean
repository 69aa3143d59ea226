/- THE PROGRAM'S Net: Way, Best, News. -/
import Derived.Test.YtihamicnbihgnaeNe1
import Derived.Test.YtihamicnbihgnaeD8
import Derived.Lib.AppendZerosOnto
import Derived.Laws.Externs
namespace Go.Proofs.Ytihamicnbihgnae
open Go.RowKit
theorem nil_eq (w : World) : (binOp .eql 37 (.slice none 0 0) (.slice none 0 0)).run Try.prog w = .ok (.bool true) w := by kernel_rfl
theorem nil_ne (a : Addr) (n c : Nat) (w : World) : (binOp .eql 37 (.slice (some a) n c) (.slice none 0 0)).run Try.prog w = .ok (.bool false) w := by kernel_rfl
attribute [local go_sem] nil_eq nil_ne
attribute [local go_sem] Ext.all Ext.cell Ext.frozen Ext.lt Ext.lt1 Ext.lt2 Ext.ne Ext.ne'

/-- The Net's Way and Best. -/
def wayTn (t : Tn) (a k : Int) : Int × Int × Int := if 0 ≤ a ∧ a < 6 then wayOf (t.nd a.toNat) k else (0, 200, -1)
def bestTn (t : Tn) (a k : Int) : Int × Int := if 0 ≤ a ∧ a < 6 then bestOf (sel (t.nd a.toNat)) k else (0, 200)
section
variable {M : Nat → Prop} {B w : World} {p k : Nat} {q : Nat → Nat} {v : Value} {c : Nat → Nat → Nat} {t : Tn}
set_option maxRecDepth 20000 in
set_option maxHeartbeats 8000000 in
theorem netWay_any (H : Ne M B w p k q v c t) (a z : Int) :
    Calls Try.prog 11 #[pv p, iv a, iv z] w fun e w' => e = .returned (wayV (wayTn t a z)) ∧ ∃ d : Ext w, w' = d.out := by
  have hp := H.blk.lt
  by_cases e : 0 ≤ a ∧ a < 6
  · have B1 : Hid (decide (0 ≤ a ∧ a < 6) = true) := decide_eq_true e
    obtain ⟨x, rfl⟩ : ∃ x : Nat, a = (x : Int) := ⟨a.toNat, by omega⟩
    have hx : x < 6 := by omega
    have hxi : (x : Int) < 6 := by omega
    have c0 := H.node hx
    have HV : Hid (wayTn t x z = wayOf (sel (t.nd x)) z) := by unfold Hid wayTn; rw [if_pos e, Int.toNat_natCast]; rfl
    have HW := hide (fun (X : World) (g : Gr w X) => nway_any ((H.six.at_ x hx).gr g) z)
    generalize wayOf (sel (t.nd x)) z = vv at *
    obtain ⟨s, d, h⟩ := vv
    simp only [wayV] at HW
    clear H e
    go_enter Try.func11, Try.ntmps11
    go_wp2_with (first | (go_at_call 28; with_reducible refine (lnode_is B1.out _).mono ?_; rintro e w1 ⟨rfl, hw1⟩; subst hw1) | (go_at_call 29; with_reducible refine (HW.out _ ((Gr.refl _).alloc _)).mono ?_; rintro e _ ⟨rfl, d1, rfl⟩))
    refine bodyPost_ret (v := .agg #[iv s, iv d, iv h]) (by simp [results, Try.results11, go_sem]) rfl ⟨by rw [HV.out]; rfl, ext_mk ?_⟩
    exact (((((Gr.refl _).alloc _).trans d1.gr).setCell (by simp) _).setCell (by simp) _).setCell (by simp) _
  · have B1 : Hid (decide (0 ≤ a ∧ a < 6) = false) := decide_eq_false e
    have HV : Hid (wayTn t a z = (0, 200, -1)) := by unfold Hid wayTn; rw [if_neg e]
    clear H e
    go_enter Try.func11, Try.ntmps11
    go_wp2_with (go_at_call 28; with_reducible refine (lnode_is B1.out _).mono ?_; rintro e w1 ⟨rfl, hw1⟩; subst hw1)
    refine bodyPost_ret (v := .agg #[iv 0, iv 200, iv (-1)]) (by simp [results, Try.results11, go_sem]) rfl ⟨by rw [HV.out]; rfl, ext_mk ?_⟩
    first
      | exact (Gr.refl _).alloc _
      | exact (((((Gr.refl _).alloc _).setCell (by simp) _).setCell (by simp) _).setCell (by simp) _)
set_option maxRecDepth 20000 in
set_option maxHeartbeats 8000000 in
theorem netBest_any (H : Ne M B w p k q v c t) (a z : Int) :
    Calls Try.prog 16 #[pv p, iv a, iv z] w fun e w' => e = .returned (.tuple #[iv (bestTn t a z).1, iv (bestTn t a z).2]) ∧ ∃ d : Ext w, w' = d.out := by
  have hp := H.blk.lt
  by_cases e : 0 ≤ a ∧ a < 6
  · have B1 : Hid (decide (0 ≤ a ∧ a < 6) = true) := decide_eq_true e
    obtain ⟨x, rfl⟩ : ∃ x : Nat, a = (x : Int) := ⟨a.toNat, by omega⟩
    have hx : x < 6 := by omega
    have hxi : (x : Int) < 6 := by omega
    have c0 := H.node hx
    have HV : Hid (bestTn t x z = bestOf (sel (t.nd x)) z) := by unfold Hid bestTn; rw [if_pos e, Int.toNat_natCast]
    have HW := hide (nbest_any (H.six.at_ x hx) z)
    generalize bestOf (sel (t.nd x)) z = vv at *
    obtain ⟨s, d⟩ := vv
    simp only at HW
    clear H e
    go_enter Try.func16, Try.ntmps16
    go_wp2_with (first | (go_at_call 28; with_reducible refine (lnode_is B1.out _).mono ?_; rintro e w1 ⟨rfl, hw1⟩; have hw2 := hw1.symm; clear hw1; subst hw2) | (go_at_call 33; with_reducible refine HW.out.mono ?_; rintro e _ ⟨rfl, d1, rfl⟩))
    go_ret2
    exact ⟨by rw [HV.out]; rfl, d1, rfl⟩
  · have B1 : Hid (decide (0 ≤ a ∧ a < 6) = false) := decide_eq_false e
    have HV : Hid (bestTn t a z = (0, 200)) := by unfold Hid bestTn; rw [if_neg e]
    clear H e
    go_enter Try.func16, Try.ntmps16
    go_wp2_with (go_at_call 28; with_reducible refine (lnode_is B1.out _).mono ?_; rintro e w1 ⟨rfl, hw1⟩; have hw2 := hw1.symm; clear hw1; subst hw2)
    go_ret2
    exact ⟨by rw [HV.out]; rfl, ext_mk (Gr.refl _)⟩
/-- A copy of the news, in new memory. -/
theorem clone_run {w : World} {g n cap : Nat} {cur : Array Value} {l : List Nws} (hg : w.heap[g]? = some (.cells cur 53 (0, 0))) (hn : l.length = n) (ht : cur.toList.take (n * 5) = celn l) (hm : n ≤ 1000) (ty : TypeId) :
    ∃ v' w', (Builtin.append_ #[37, 37] ty #[.slice (some ⟨w.heap.size, 0, none⟩) 0 0, .slice (some ⟨g, 0, none⟩) n cap]).run Try.prog (w.alloc (.cells #[] 53)) = .ok v' w' ∧ OwnN w w' v' l ∧ Gr w w' := by
  obtain ⟨i0, hi, hz0, hz1, hz2⟩ := info_parts Try.info53
  have hO : (w.alloc (.cells #[] 53)).ownsRow w.heap.size 53 5 (.slice (some ⟨w.heap.size, 0, none⟩) 0 0) 0 [] := ⟨rfl, .inr ⟨w.heap.size, 0, #[], rfl, Nat.le_refl _, heap_alloc_new w _, Nat.le_refl _, by unfold maxLen; omega, rfl, rfl⟩⟩
  have hlt := lt_of_block hg
  obtain ⟨v', w', h1, h2, h3, _⟩ := run_append_own (P := Try.prog) (w.alloc (.cells #[] 53)) w.heap.size 37 ty 53 i0 _ 5 40 Try.underlying37 hi hz0 hz1 hz2 (by rfl) (by decide) _ 0 [] hO
      ⟨g, 0, none⟩ n cap (celn l) (by rw [celn_length, hn]) (fun j u hj => by
        have hl : j < n * 5 := by
          have := (List.getElem?_eq_some_iff.1 hj).1
          rwa [celn_length, hn] at this
        rw [← ht, List.getElem?_take_of_lt hl] at hj
        rw [Addr.add_lit]
        have : (w.alloc (.cells #[] 53)).heap[g]? = some (.cells cur 53 (0, 0)) := (Below.block ((Gr.refl w).alloc _) g hlt).trans hg
        simp [World.cell?, this]
        simpa using hj) (celn_one l) (by unfold maxLen; omega) (by omega) (by simp)
  refine ⟨v', w', h1, ?_, ((Gr.refl w).alloc _).grown h3 (fun k hk => by cases hk; exact Nat.le_refl _)⟩
  unfold OwnN
  rw [hn]
  simpa using h2
set_option maxRecDepth 20000 in
set_option maxHeartbeats 8000000 in
theorem cloneN_any {lo : Nat} {w : World} {v : Value} {l : List Nws} (H : NwO lo w v l) (hm : l.length ≤ 1000) : Calls Try.prog 32 #[v] w fun e w' => ∃ u, e = .returned u ∧ OwnN w w' u l ∧ Gr w w' := by
  rcases H.2 with ⟨rfl, hn⟩ | ⟨g, cap, cur, rfl, hb, hg, hn, hc, hs, ht⟩
  · have h0 : l = [] := List.eq_nil_of_length_eq_zero hn
    subst h0
    clear H
    go_enter Try.func32, Try.ntmps32
    go_wp2_with fail
    go_ret
    exact ⟨_, rfl, OwnN.nil _ _, Gr.refl _⟩
  · obtain ⟨v', w', hrun, ho, hgr⟩ := clone_run (cap := cap) hg rfl ht hm 37
    have HR := hide hrun
    have HO := hide ho
    have HG := hide hgr
    have hlt := lt_of_block hg
    clear H hrun ho hgr hg ht hs hc hn hb
    go_enter Try.func32, Try.ntmps32
    go_wp2_with (at_builtin; refine Lib.wpList_append_run _ rfl _ _ _ _ rfl _ _ rfl rfl _ _ HR.out ?_)
    go_ret
    exact ⟨_, rfl, HO.out, HG.out⟩
set_option maxRecDepth 20000 in
set_option maxHeartbeats 8000000 in
theorem netNews_any (H : Ne M B w p k q v c t) (hl : t.news.length ≤ 40) :
    Calls Try.prog 13 #[pv p] w fun e w' => ∃ u, e = .returned u ∧ OwnN w w' u (newsL t.news) ∧ Gr w w' := by
  have hp := H.blk.lt
  have c0 := H.news
  have HC := hide (cloneN_any H.nw (by rw [newsL_len]; omega))
  obtain ⟨ao, cv, hv, _, _, _⟩ := H.nw.shape
  subst hv
  clear H
  go_enter Try.func13, Try.ntmps13
  go_wp2_with (go_at_call 32; with_reducible refine HC.out.mono ?_; rintro e V1 ⟨u, rfl, O1', G1'⟩; have O1 := hide O1'; have G1 := hide G1'; clear O1' G1')
  go_ret
  exact ⟨_, rfl, O1.out, G1.out⟩
end

end Go.Proofs.Ytihamicnbihgnae
