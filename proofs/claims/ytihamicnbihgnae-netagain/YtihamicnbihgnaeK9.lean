/- CONTRACT OF handpostlaw.far: of all nodes how far they are, as an array. -/
import Derived.Test.YtihamicnbihgnaeK3
namespace Go.Proofs.Ytihamicnbihgnae
open Go.RowKit
attribute [local go_sem] Ext.all Ext.cell Ext.frozen Ext.lt Ext.lt1 Ext.lt2 Ext.ne Ext.ne'

theorem run_idx6 (g : Nat → Nat) {j : Nat} (hj : j < 6) (w : World) : (Instr.index 32 (.agg (ncells 6 g)) (.int .i64 j)).run Try.prog w = .ok (iv (g j)) w := by
  rcases six hj with rfl | rfl | rfl | rfl | rfl | rfl <;> kernel_rfl
theorem NArr.set2 {w : World} {t n p : Nat} {g g' : Nat → Nat} (h : NArr w t n p g) {j v : Nat} {u : Value} (e : ∀ i, i < n → g' i = if i = j then v else g i) : NArr ((w.setCell ⟨p, j, none⟩ u).setCell ⟨p, j, none⟩ (iv v)) t n p g' := by
  have h1 := NArr.set (g' := g') h e
  unfold NArr at h h1 ⊢
  have a : (w.setCell ⟨p, j, none⟩ (iv v)).heap[p]? = some (.cells ((ncells n g).setIfInBounds j (iv v)) t (0, 0)) := by
    simp [World.setCell, Array.getElem?_modify, h]
  have b : (w.setCell ⟨p, j, none⟩ u).heap[p]? = some (.cells ((ncells n g).setIfInBounds j u) t (0, 0)) := by
    simp [World.setCell, Array.getElem?_modify, h]
  have c : ((w.setCell ⟨p, j, none⟩ u).setCell ⟨p, j, none⟩ (iv v)).heap[p]? = some (.cells (((ncells n g).setIfInBounds j u).setIfInBounds j (iv v)) t (0, 0)) := by
    simp [World.setCell, Array.getElem?_modify, h]
  rw [c]
  rw [a] at h1
  rw [← h1]
  congr 2
  simp
theorem NArr.all6 {w : World} {t p : Nat} {g : Nat → Nat} (h : NArr w t 6 p g) : w.cell? ⟨p, 0, none⟩ = some (iv (g 0)) ∧ w.cell? ⟨p, 1, none⟩ = some (iv (g 1)) ∧ w.cell? ⟨p, 2, none⟩ = some (iv (g 2)) ∧ w.cell? ⟨p, 3, none⟩ = some (iv (g 3)) ∧ w.cell? ⟨p, 4, none⟩ = some (iv (g 4)) ∧ w.cell? ⟨p, 5, none⟩ = some (iv (g 5)) :=
  ⟨h.cell (by decide), h.cell (by decide), h.cell (by decide), h.cell (by decide), h.cell (by decide), h.cell (by decide)⟩
abbrev nput (w : World) (p : Nat) (g : Nat → Nat) : World := (((((w.setCell ⟨p, 0, none⟩ (iv (g 0))).setCell ⟨p, 1, none⟩ (iv (g 1))).setCell ⟨p, 2, none⟩ (iv (g 2))).setCell ⟨p, 3, none⟩ (iv (g 3))).setCell ⟨p, 4, none⟩ (iv (g 4))).setCell ⟨p, 5, none⟩ (iv (g 5))
def updn (g : Nat → Nat) (j v : Nat) : Nat → Nat := fun i => if i = j then v else g i
theorem NArr.put {w : World} {t p : Nat} {g : Nat → Nat} (h : NArr w t 6 p g) (G : Nat → Nat) : NArr (nput w p G) t 6 p G := by
  have k0 := h.set (g' := updn g 0 (G 0)) (fun _ _ => rfl)
  have k1 := k0.set (g' := updn (updn g 0 (G 0)) 1 (G 1)) (fun _ _ => rfl)
  have k2 := k1.set (g' := updn (updn (updn g 0 (G 0)) 1 (G 1)) 2 (G 2)) (fun _ _ => rfl)
  have k3 := k2.set (g' := updn (updn (updn (updn g 0 (G 0)) 1 (G 1)) 2 (G 2)) 3 (G 3)) (fun _ _ => rfl)
  have k4 := k3.set (g' := updn (updn (updn (updn (updn g 0 (G 0)) 1 (G 1)) 2 (G 2)) 3 (G 3)) 4 (G 4)) (fun _ _ => rfl)
  have k5 := k4.set (g' := updn (updn (updn (updn (updn (updn g 0 (G 0)) 1 (G 1)) 2 (G 2)) 3 (G 3)) 4 (G 4)) 5 (G 5)) (fun _ _ => rfl)
  refine k5.congr fun j hj => ?_
  rcases six hj with rfl | rfl | rfl | rfl | rfl | rfl <;> rfl
theorem gr_nput {w X : World} {p : Nat} (g : Gr w X) (hp : w.heap.size ≤ p) (G : Nat → Nat) : Gr w (nput X p G) :=
  (((((g.setCell hp _).setCell hp _).setCell hp _).setCell hp _).setCell hp _).setCell hp _

set_option maxRecDepth 20000 in
set_option maxHeartbeats 4000000 in
theorem lfar_any {w : World} {p : Nat} {c : Nat → Nat → Nat} (H : KL w p c) (hc : Lk c) (f : Int) :
    Calls Try.prog 10 #[pv p, iv f] w fun e w' => e = .returned (.agg (ncells 6 (dst c f))) ∧ Gr w w' := by
  have hp := H.lt
  have HF := hide (fun (wX : World) (gX : Gr w wX) => far_any (H.gr gX) hc f)
  clear H hc
  generalize dst c f = G at *
  have N0 := hide (NArr.new w 32 6 fun _ => 0)
  have HF1 := hide (HF.out _ ((Gr.refl w).alloc (.cells (ncells 6 fun _ => 0) 32)))
  go_enter Try.func10, Try.ntmps10
  go_upto_region 3 with (first | (go_at_call 27; refine HF1.out.mono ?_; rintro e w1 ⟨g, rfl, n1, lg, g1⟩))
  refine wp_gen (fun Y => Hid (NArr Y 32 6 w.heap.size (fun _ => 0)) ∧ Hid (NArr Y 32 6 g G) ∧ Hid (NArr Y 32 6 w1.heap.size (fun _ => 0)) ∧ Gr w Y) ⟨(N0.out.gr g1).gr ((Gr.refl _).alloc _), n1.gr ((Gr.refl _).alloc _), NArr.new w1 32 6 (fun _ => 0), (((Gr.refl _).alloc _).trans g1).alloc _⟩ ?_
  rintro Y ⟨YR, YG, YQ, gY⟩
  have e1 : w.heap.size ≠ w1.heap.size := by
    have h1 := n1.lt
    have h2 := lg
    simp at h2
    omega
  have e2 : g ≠ w1.heap.size := by have := n1.lt; omega
  have e3 : w.heap.size ≤ w1.heap.size := by have := Below.size g1; simp at this; omega
  clear N0 n1 g1 HF HF1 lg
  generalize w1.heap.size = q at *
  go_wp2_with fail
  go_loopw [7] (fun v7 wr => ∃ k : Nat, k ≤ 6 ∧ v7 = .int .i64 k ∧ Hid (NArr wr 32 6 w.heap.size (fun _ => 0)) ∧ Hid (NArr wr 32 6 g G) ∧ Hid (NArr wr 32 6 q (fun j => if j < k then G j else 0)) ∧ Gr w wr) (fun v7 _ => 6 - (intOf v7).toNat)
  case atStart => exact ⟨0, by omega, rfl, YR, YG, YQ.out.congr (fun j _ => by simp), gY⟩
  case round =>
    obtain ⟨k, hk, rfl, kR, kG, kQ, gk⟩ := hrel
    clear YR YG YQ gY
    by_cases hlt : k < 6
    · have hki : (k : Int) < 6 := by omega
      have cg := kG.out.cell hlt
      have cq := kQ.out.cell hlt
      have fz := kQ.out.free k
      have lq := kQ.out.lt
      have lg := kG.out.lt
      have HR := hide ((kR.out.other e1 k (iv (-1))).other e1 k (iv (G k)))
      have HG := hide ((kG.out.other e2 k (iv (-1))).other e2 k (iv (G k)))
      have HQ : Hid (NArr ((wr.setCell ⟨q, k, none⟩ (iv (-1))).setCell ⟨q, k, none⟩ (iv (G k))) 32 6 q (fun j => if j < k + 1 then G j else 0)) := kQ.out.set2 fun i _ => by
        by_cases e : i = k
        · subst e; rw [if_pos (by omega), if_pos rfl]
        · rw [if_neg e]
          by_cases e2 : i < k
          · rw [if_pos (by omega), if_pos e2]
          · rw [if_neg (by omega), if_neg e2]
      have HW := hide ((gk.setCell (p := ⟨q, k, none⟩) e3 (iv (-1))).setCell (p := ⟨q, k, none⟩) e3 (iv (G k)))
      clear kR kG kQ
      go_wp2_with fail
      go_roundw
      case rel => exact ⟨k + 1, by omega, by go_num, HR, HG, HQ, HW.out⟩
      case measure => simp [intOf]; omega
    · have hki : ¬ (k : Int) < 6 := by omega
      have og : NArr wr 32 6 q G := kQ.out.congr fun j hj => by rw [if_pos (by omega)]
      obtain ⟨a0, a1, a2, a3, a4, a5⟩ := og.all6
      obtain ⟨b0, b1, b2, b3, b4, b5⟩ := kR.out.all6
      have fr := kR.out.free
      have HR := hide (kR.out.put G)
      have HG := hide (gr_nput gk (Nat.le_refl _) G)
      clear kR kG kQ og
      go_wp2_with fail
      refine bp_gen' (fun V => NArr V 32 6 w.heap.size G ∧ Gr w V) ⟨HR.out, HG.out⟩ ?_
      rintro V ⟨vR, gV⟩
      clear a0 a1 a2 a3 a4 a5 b0 b1 b2 b3 b4 b5 fr
      obtain ⟨b0, b1, b2, b3, b4, b5⟩ := vR.all6
      exact bodyPost_ret (v := .agg (ncells 6 G)) (by simp [results, Try.results10, go_sem, *]; rfl) rfl ⟨rfl, gV⟩

end Go.Proofs.Ytihamicnbihgnae
