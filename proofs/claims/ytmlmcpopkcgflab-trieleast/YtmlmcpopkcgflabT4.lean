/- CONTRACTS OF package trie: behind, Leaves: the leaves, from the left, in new memory; of handpostref.LeavesOf. -/
import Derived.Test.YtmlmcpopkcgflabT3
import Derived.Test.YtmlmcpopkcgflabS9
namespace Go.Proofs.Ytmlmcpopkcgflab
open Go.RowKit
attribute [local go_sem] Ext.all Ext.cell Ext.frozen Ext.lt Ext.lt1 Ext.lt2 Ext.ne Ext.ne'

/-- A list of routes in memory that is younger than B. -/
def Own (B w : World) (v : Value) (rs : List Rt) : Prop := w.ownsRow B.heap.size 35 3 v rs.length (cels rs)
theorem Own.gr {B w w' : World} {v : Value} {rs : List Rt} (h : Own B w v rs) (g : Gr w w') : Own B w' v rs := own_gr h g
theorem Own.nil (B w : World) : Own B w (.slice none 0 0) [] := World.ownsRow_nil _ _ _ _
/-- Where such a list stands. -/
theorem Own.shape {B w : World} {v : Value} {rs : List Rt} (h : Own B w v rs) : ∃ ao c, v = .slice ao rs.length c ∧ rs.length ≤ c ∧ RowAt w (fun k => B.heap.size ≤ k) ao rs := by
  obtain ⟨ao, c, rfl, hb⟩ := own_shape h
  obtain ⟨h1, _, h3, _⟩ := rowAt_own (M := fun k => B.heap.size ≤ k) h hb
  exact ⟨ao, c, rfl, h3, h1⟩

/-- 'append(l, x...)', l a list of the call's own. -/
theorem run_app {B w : World} {v : Value} {rs xs : List Rt} {M : Nat → Prop} {ao : Option Addr} {m c : Nat} (ty : TypeId) (hO : Own B w v rs) (g : Gr B w) (H : RowAt w M ao xs) (hl : xs.length = m) (h0 : 0 < m) (hm : rs.length + m ≤ 2000) :
    ∃ v' w', (Builtin.append_ #[22, 22] ty #[v, .slice ao m c]).run Try.prog w = .ok v' w' ∧ Own B w' v' (rs ++ xs) ∧ Gr B w' := by
  obtain ⟨i0, hi, hz0, hz1, hz2⟩ := info_parts Try.info35
  rcases H with h | ⟨b, o, rfl, _, _, hcs⟩
  · subst h; simp at hl; omega
  · obtain ⟨v', w', h1, h2, h3, _⟩ := run_append_own (P := Try.prog) w B.heap.size 22 ty 35 i0 _ 3 24 Try.underlying22 hi hz0 hz1 hz2 (by rfl) (by decide) v rs.length (cels rs) hO
      ⟨b, o, none⟩ m c (cels xs) (by rw [cels_length, hl]) (fun j u hj => by rw [Addr.add_lit]; exact cels_cells hcs j u hj) (cels_one xs) (by unfold maxLen; omega) (by omega) (Below.size g)
    refine ⟨v', w', h1, ?_, g.grown h3 (fun k hk => (hO.lt k hk).1)⟩
    unfold Own
    rw [cels_append, List.length_append, hl]
    exact h2

theorem leaf_as {w : World} {T : TT} {q : Nat} {v : Bool} (h : Tr w T q) (e : T.isLeaf = v) :
    Calls Try.prog 31 #[pv q] w fun e w' => e = .returned (.bool v) ∧ ∃ d : Ext w, w' = d.out := by
  subst e
  exact leaf_any h

set_option maxHeartbeats 1000000 in
theorem behind_any (B : World) : ∀ (T : TT) (q : Nat) (w : World) (v : Value) (rs : List Rt), Tr B T q → Gr B w → Own B w v rs → rs.length + T.leaves.length ≤ 1000 →
    Calls Try.prog 46 #[pv q, v] w fun e w' => ∃ v', e = .returned v' ∧ Gr B w' ∧ Own B w' v' (rs ++ T.leaves)
  | .leaf l b hp, q, w, v, rs, h, g, ho, hm => by
    have HL := hide (leaf_as (h.gr g) (v := true) rfl)
    have HX := hide (fun (wX : World) (gX : Gr B wX) => (show wX.cell? ⟨q, 0, none⟩ = some (iv l) ∧ wX.cell? ⟨q, 1, none⟩ = some (iv b) ∧ wX.cell? ⟨q, 2, none⟩ = some (iv hp) from (h.gr gX).cells))
    have hm1 : rs.length ≤ 999 := by simp [TT.leaves] at hm; omega
    have HO := hide ho
    clear h ho hm
    go_enter Try.func46, Try.ntmps46
    go_upto_region 4 with (first
      | (go_at_call 31; refine HL.out.mono ?_; rintro e _ ⟨rfl, d1, rfl⟩))
    refine wp_gen (fun X => Gr B X ∧ Own B X v rs) ⟨g.ext d1, HO.out.gr d1.gr⟩ ?_
    rintro X ⟨gX, OX⟩
    obtain ⟨c0, c1, c2⟩ := HX.out X gX
    obtain ⟨Y, hY⟩ : ∃ Y, Y = (X.alloc (.cells #[iv l, iv b, iv hp] 35)).drew := ⟨_, rfl⟩
    have gXY : Gr X Y := by rw [hY]; exact ((Gr.refl X).alloc _).drew
    have hrow : RowAt Y (fun _ => True) (some ⟨X.heap.size, 0, none⟩) [(l, b, hp)] := by
      refine .inr ⟨X.heap.size, 0, rfl, by rw [hY]; simp, trivial, fun i hi => ?_⟩
      have : i = 0 := by simpa using hi
      subst this
      rw [hY]
      refine ⟨?_, ?_, ?_⟩ <;> simp [go_sem]
    obtain ⟨v', w', hrun, hown, hgr⟩ := run_app (m := 1) (c := 1) 22 (OX.gr gXY) (gX.trans gXY) hrow rfl (by decide) (by omega)
    have HR := hide hrun
    have HOW := hide hown
    have HY := hide hY
    clear HL HO hrun hown hY hrow OX
    go_wp2_with fail
    go_region_held3 (fun w' => w'.cell? ⟨q, 0, none⟩ = some (iv l) ∧ w'.cell? ⟨q, 1, none⟩ = some (iv b) ∧ w'.cell? ⟨q, 2, none⟩ = some (iv hp)) (first | exact HX.out _ hgr | go_keep)
      (first | (refine step_append_eq rfl (.tmp 12) (.tmp 22) 22 22 rfl v (.slice (some ⟨X.heap.size, 0, none⟩) 1 1) rfl rfl (v' := v') (w' := w') (by rw [← HY.out]; exact HR.out) ?_) | fail)
    all_goals
      go_wp2
      go_ret
      exact ⟨_, rfl, hgr, HOW.out⟩
  | .node l b lo hi, q, w, v, rs, h, g, ho, hm => by
    have HL := hide (leaf_as (h.gr g) (v := false) rfl)
    have HO := hide ho
    obtain ⟨x, y, c3, c4, hlo, hhi⟩ := h.nodec
    have hq := h.lt
    have HK := hide (fun (wX : World) (gX : Gr B wX) => (show wX.cell? ⟨q, 3, none⟩ = some (pv x) ∧ wX.cell? ⟨q, 4, none⟩ = some (pv y) from ⟨(Below.cell gX (p := ⟨q, 3, none⟩) hq).trans c3, (Below.cell gX (p := ⟨q, 4, none⟩) hq).trans c4⟩))
    have hm2 : rs.length + (lo.leaves.length + hi.leaves.length) ≤ 1000 := by simpa [TT.leaves] using hm
    have H1 := hide (fun (wX : World) (gX : Gr B wX) (o : Own B wX v rs) => behind_any B lo x wX v rs hlo gX o (by omega))
    have H2 := hide (fun (wX : World) (v1 : Value) (gX : Gr B wX) (o : Own B wX v1 (rs ++ lo.leaves)) => behind_any B hi y wX v1 (rs ++ lo.leaves) hhi gX o (by simp; omega))
    clear h ho hm c3 c4 hlo hhi
    go_enter Try.func46, Try.ntmps46
    go_upto_region 5 with (first
      | (go_at_call 31; refine HL.out.mono ?_; rintro e _ ⟨rfl, d1, rfl⟩))
    refine wp_gen (fun X => Gr B X ∧ Own B X v rs) ⟨g.ext d1, HO.out.gr d1.gr⟩ ?_
    rintro X ⟨gX, OX⟩
    obtain ⟨c3, c4⟩ := HK.out X gX
    have OD := hide (OX.gr (Gr.refl X).drew)
    have gD := hide gX.drew
    clear OX HO HL
    go_wp2_with fail
    go_region_held3 (fun w' => w'.cell? ⟨q, 3, none⟩ = some (pv x) ∧ w'.cell? ⟨q, 4, none⟩ = some (pv y)) (first | exact HK.out _ G2.out | exact HK.out _ G1.out | exact HK.out _ gD.out | go_keep)
      (first
      | (go_at_call 46; with_reducible refine (H1.out _ gD.out OD.out).mono ?_; rintro e w1 ⟨v1, rfl, g1, o1⟩; have G1 := hide g1; have O1 := hide o1; clear g1 o1)
      | (go_at_call 46; with_reducible refine (H2.out _ v1 G1.out O1.out).mono ?_; rintro e w2 ⟨v2, rfl, g2, o2⟩; have G2 := hide g2; have O2 := hide o2; clear g2 o2)
      | fail)
    all_goals
      go_wp2
      go_ret
      exact ⟨_, rfl, G2.out, by rw [TT.leaves, ← List.append_assoc]; exact O2.out⟩

end Go.Proofs.Ytmlmcpopkcgflab
