/- THE PROGRAM'S Net: hear. -/
import Derived.Test.YtihamicnbihgnaeNe5
namespace Go.Proofs.Ytihamicnbihgnae
open Go.RowKit
attribute [local go_sem] Ext.all Ext.cell Ext.frozen Ext.lt Ext.lt1 Ext.lt2 Ext.ne Ext.ne'

section
variable {M : Nat → Prop} {B w w' : World} {p k : Nat} {q : Nat → Nat} {v : Value} {c : Nat → Nat → Nat} {t : Tn}
/-- What the node says, as the Net's own word. -/
theorem hear_step (A : TnA t c) {y : Nw} (hy : y ∈ t.news) : hcode (t.nd y.g) y.f y.to y.s y.d = (hearC t y).2 ∧ { t with nd := updW t.nd y.g (hrM (t.nd y.g) y.f y.to y.s y.d) } = (hearC t y).1 := by
  obtain ⟨h1, h2, h3, h4, h5, h6, h7, _⟩ := A.ok.news y hy
  have hme := A.s.tc.me y.g h2
  have ok : hrOk (t.nd y.g) y.f y.to y.s y.d := ⟨⟨⟨by omega, by omega⟩, by rw [hme]; omega⟩, ⟨by omega, by omega⟩, h5, h6, h7⟩
  unfold hcode hrM hearC
  rw [Int.toNat_natCast, Int.toNat_natCast, if_pos ok]
  by_cases e : (t.nd y.g).cost y.f = 0
  · rw [if_pos e, if_pos e, if_neg (fun x => x.2 e)]
    exact ⟨rfl, by rw [updW_id _ _ _ rfl]⟩
  · rw [if_neg e, if_neg e, if_pos ⟨ok, e⟩]
    exact ⟨rfl, rfl⟩
theorem nodeHear (H : Ne M B w p k q v c t) (A : TnA t c) {y : Nw} (hy : y ∈ t.news) {t' : Tn} (hnd : t'.nd = t.nd) (H' : Ne M B w p k q v c t') :
    Calls Try.prog 37 #[pv (q y.g), nwV y] w fun e w' => e = .returned (iv (hearC t y).2) ∧ Ne M B w' p k q v c { t' with nd := (hearC t y).1.nd } ∧ Wr (q y.g) w w' := by
  obtain ⟨h1, h2, h3, h4, h5, h6, h7, _⟩ := A.ok.news y hy
  obtain ⟨e1, e2⟩ := hear_step A hy
  refine (nhearN (H.six.at_ y.g h2) (A.s.z y.g h2) (y.f : Int) (y.g : Int) (y.to : Int) y.s y.d).mono fun e w' ⟨he, hm, hw⟩ => ⟨by rw [he, e1], ?_, hw⟩
  have := H'.put h2 hw hm
  rw [hnd] at this
  rw [← e2]
  exact this
end
set_option maxRecDepth 20000 in
set_option maxHeartbeats 8000000 in
theorem hear_none {M : Nat → Prop} {B w : World} {p k : Nat} {q : Nat → Nat} {v : Value} {c : Nat → Nat → Nat} {t : Tn} (H : Ne M B w p k q v c t) {n : Int} (hn : ¬ (0 ≤ n ∧ n < (t.news.length : Int))) :
    Calls Try.prog 24 #[pv p, iv n] w fun e w' => e = .returned (iv 6) ∧ Gr w w' := by
  have HT := hide (take_none H hn)
  clear H hn
  go_enter Try.func24, Try.ntmps24
  go_wp2_with (go_at_call 25; with_reducible refine HT.out.mono ?_; rintro e V ⟨rfl, G1'⟩; have G1 := hide G1'; clear G1')
  go_ret
  exact ⟨rfl, by first | exact G1.out.alloc _ | exact (((((G1.out.alloc _).setCell (by have := Below.size G1.out; simp; omega) _).setCell (by have := Below.size G1.out; simp; omega) _).setCell (by have := Below.size G1.out; simp; omega) _).setCell (by have := Below.size G1.out; simp; omega) _).setCell (by have := Below.size G1.out; simp; omega) _⟩
set_option maxRecDepth 20000 in
set_option maxHeartbeats 8000000 in
theorem hear_ok' {M : Nat → Prop} {B w : World} {p k : Nat} {q : Nat → Nat} {v : Value} {c : Nat → Nat → Nat} {t : Tn} (H : Ne M B w p k q v c t) (A : TnA t c) (hl : t.news.length ≤ 40) {n : Nat} (hn : n < t.news.length) {x : Nw} (hx : t.news[n] = x) :
    Calls Try.prog 24 #[pv p, iv (n : Int)] w fun e w' => ∃ v', e = .returned (iv (hearC { t with news := dropAt t.news n } x).2) ∧ Ne M B w' p k q v' c (hearC { t with news := dropAt t.news n } x).1 := by
  have hm : x ∈ t.news := by rw [← hx]; exact List.getElem_mem hn
  have HT := hide (take_ok H hl hn hx)
  simp only [nwV] at HT
  obtain ⟨h1, h2, h3, h4, h5, h6, h7, _⟩ := A.ok.news x hm
  have hg6 : (x.g : Int) < 6 := by omega
  have E1 : (hearC { t with news := dropAt t.news n } x).2 = (hearC t x).2 := by unfold hearC; dsimp only; split <;> rfl
  have E2 : (hearC { t with news := dropAt t.news n } x).1 = { t with news := dropAt t.news n, nd := (hearC t x).1.nd } := by unfold hearC hearT; dsimp only; split <;> rfl
  rw [E1, E2]
  have HC : Hid (∀ (V : World) (v' : Value), Ne M B V p k q v' c { t with news := dropAt t.news n } → Calls Try.prog 37 #[pv (q x.g), nwV x] V fun e w' => e = .returned (iv (hearC t x).2) ∧ Ne M B w' p k q v' c { t with news := dropAt t.news n, nd := (hearC t x).1.nd } ∧ Wr (q x.g) V w') := fun V v' h => by
    obtain ⟨e1, e2⟩ := hear_step A hm
    refine (nhearN (h.six.at_ x.g h2) (A.s.z x.g h2) (x.f : Int) (x.g : Int) (x.to : Int) x.s x.d).mono fun e w' ⟨he, hm, hw⟩ => ⟨by rw [he, e1], ?_, hw⟩
    have := h.put h2 hw hm
    rw [← e2]
    exact this
  clear H A hx hm E1 E2 h1 h3 h4 h5 h6 h7
  generalize (hearC t x).2 = r at *
  generalize (hearC t x).1.nd = nd' at *
  go_enter Try.func24, Try.ntmps24
  go_upto_region 4 with (go_at_call 25; with_reducible refine HT.out.mono ?_; rintro e V ⟨v', rfl, H1'⟩; have H1 := hide H1'; clear H1')
  refine wp_gen (fun W => Hid (Ne M B W p k q v' c { t with news := dropAt t.news n }) ∧ Hid (ZArr W 53 5 V.heap.size (nsF x))) ⟨H1.out.ext ((Gr.refl _).alloc _), (show ZArr _ 53 5 V.heap.size (nsF x) from heap_alloc_new V _)⟩ ?_
  clear H1
  generalize V.heap.size = X at *
  rintro W ⟨H1, Z1⟩
  obtain ⟨y0, y1, y2, y3, y4⟩ := nsF_cells Z1.out
  have hX := Z1.out.lt
  have hp := H1.out.blk.lt
  have n0 := H1.out.node h2
  have HCW := hide (HC.out _ _ (H1.out.ext (Gr.refl W).drew))
  have hXq : Hid (X ≠ q x.g) := blk_ne Z1.out (H1.out.six.at_ x.g h2) (by decide)
  simp only [nwV] at HCW
  clear HC HT
  go_region_held3 (fun W => W.cell? ⟨p, 1 + x.g, none⟩ = some (pv (q x.g)) ∧ W.cell? ⟨X, 0, none⟩ = some (iv (x.f : Int)) ∧ W.cell? ⟨X, 1, none⟩ = some (iv (x.g : Int)) ∧ W.cell? ⟨X, 2, none⟩ = some (iv (x.to : Int)) ∧ W.cell? ⟨X, 3, none⟩ = some (iv x.s) ∧ W.cell? ⟨X, 4, none⟩ = some (iv x.d)) (first | exact ⟨n0, y0, y1, y2, y3, y4⟩ | exact ⟨H2.out.node h2, nsF_cells Z2.out⟩ | go_keep) (first | (go_at_call 37; with_reducible refine HCW.out.mono ?_; rintro e V2 ⟨rfl, H2', W2'⟩; have H2 := hide H2'; have Z2 := hide (W2'.arr (Z1.out.gr (Gr.refl W).drew) hXq.out); clear H2' W2'))
  all_goals
    go_wp2_with fail
    go_ret
    exact ⟨_, rfl, H2.out⟩

end Go.Proofs.Ytihamicnbihgnae
