/- handpostlaw.NodeBest ANSWERS true. -/
import Derived.Test.YtohbkhmpdegapadLN
namespace Go.Proofs.Ytohbkhmpdegapad
open Go.RowKit
attribute [local go_sem] Ext.all Ext.cell Ext.frozen Ext.lt Ext.lt1 Ext.lt2 Ext.ne Ext.ne' field_hop

theorem step_worse {m : Md} (h : MdZ m) (x : Stp) (k : Nat) : bet (m.bests k).1 (m.bests k).2 ((stepM m x).bests k).1 ((stepM m x).bests k).2 = false := by
  unfold stepM lnkM hrM
  split
  · split
    · next q => exact (link_ok h.ok q.2.1 q.2.2).2 k
    · exact bet_refl _ _
  · split
    · split
      · next q => exact (hear_ok h.ok q.1.2.2.1 q.1.2.2.2.1 q.1.2.2.2.2).2 k
      · exact bet_refl _ _
    · split
      · exact (tick_ok h.ok).2 k
      · exact bet_refl _ _
/-- What the law keeps of what was said: it is what the node heard, where that may be gone. -/
def SdRel (m : Md) (S : Nat → Nat → Int × Int) : Prop := ∀ f k, m.heard f k = S f k ∨ (m.heard f k).2 = 200
theorem sd_link {m : Md} {S : Nat → Nat → Int × Int} (h : SdRel m S) (f : Nat) (c : Int) : SdRel (linkM m f c) S := by
  intro j k
  have e : (linkM m f c).heard = if c = 0 then updW m.heard f (fun _ => (0, 200)) else m.heard := by unfold linkM; exact (lookTo_all _ 6).2.2.1
  rw [e]
  split
  · by_cases q : j = f
    · rw [q, updW_same]; exact .inr rfl
    · rw [updW_ne _ _ q]; exact h j k
  · exact h j k
theorem sd_hear {m : Md} {S : Nat → Nat → Int × Int} (h : SdRel m S) (f z : Nat) (s d : Int) : SdRel (hearM m f z s d) (updW S f (updW (S f) z (s, d))) := by
  intro j k
  have e : (hearM m f z s d).heard = updW m.heard f (updW (m.heard f) z (s, d)) := by unfold hearM; exact look_heard _ _
  rw [e]
  by_cases q : j = f
  · rw [q, updW_same, updW_same]
    by_cases q2 : k = z
    · rw [q2, updW_same, updW_same]; exact .inl rfl
    · rw [updW_ne _ _ q2, updW_ne _ _ q2]; exact h f k
  · rw [updW_ne _ _ q, updW_ne _ _ q]; exact h j k
theorem link_cost (m : Md) (f : Nat) (c : Int) : (linkM m f c).cost = updW m.cost f c := by unfold linkM; exact (lookTo_all _ 6).2.1
theorem hear_cost (m : Md) (f z : Nat) (s d : Int) : (hearM m f z s d).cost = m.cost := by unfold hearM; exact look_cost _ _
def sdG (S : Nat → Nat → Int × Int) : Nat → Int := fun i => if i % 2 = 0 then (S (i / 12) (i % 12 / 2)).1 else (S (i / 12) (i % 12 / 2)).2
theorem sdG_at (S : Nat → Nat → Int × Int) (f : Nat) {k : Nat} (hk : k < 6) : sdG S (f * 12 + k * 2) = (S f k).1 ∧ sdG S (f * 12 + k * 2 + 1) = (S f k).2 := by
  unfold sdG
  constructor
  · rw [if_pos (by omega), show (f * 12 + k * 2) / 12 = f by omega, show (f * 12 + k * 2) % 12 / 2 = k by omega]
  · rw [if_neg (by omega), show (f * 12 + k * 2 + 1) / 12 = f by omega, show (f * 12 + k * 2 + 1) % 12 / 2 = k by omega]
theorem sdG_put {w : World} {t p : Nat} {S : Nat → Nat → Int × Int} (h : ZArr w t 72 p (sdG S)) {f k : Nat} (hk : k < 6) (s d : Int) :
    ZArr ((w.setCell ⟨p, f * 12 + k * 2, none⟩ (iv s)).setCell ⟨p, f * 12 + k * 2 + 1, none⟩ (iv d)) t 72 p (sdG (updW S f (updW (S f) k (s, d)))) := by
  refine ZArr.set (ZArr.set h (g' := fun i => if i = f * 12 + k * 2 then s else sdG S i) (fun _ _ => rfl)) fun i hi => ?_
  obtain ⟨a0, a1⟩ := sdG_at (updW S f (updW (S f) k (s, d))) f hk
  by_cases e1 : i = f * 12 + k * 2 + 1
  · rw [if_pos e1, e1, a1, updW_same, updW_same]
  · rw [if_neg e1]
    by_cases e0 : i = f * 12 + k * 2
    · rw [if_pos e0, e0, a0, updW_same, updW_same]
    · rw [if_neg e0]
      unfold sdG
      have e : updW S f (updW (S f) k (s, d)) (i / 12) (i % 12 / 2) = S (i / 12) (i % 12 / 2) := by
        by_cases q : i / 12 = f
        · rw [q, updW_same, updW_ne _ _ (by omega)]
        · rw [updW_ne _ _ q]
      rw [e]
/-- The bests of the first k nodes. -/
def btF (m : Md) (k : Nat) : Nat → Int := fun i => if i < k * 2 then (if i % 2 = 0 then (m.bests (i / 2)).1 else (m.bests (i / 2)).2) else 0
theorem btF_at (m : Md) {n k : Nat} (h : k < n) : btF m n (k * 2) = (m.bests k).1 ∧ btF m n (k * 2 + 1) = (m.bests k).2 := by
  unfold btF
  constructor
  · rw [if_pos (by omega), if_pos (by omega), show k * 2 / 2 = k by omega]
  · rw [if_pos (by omega), if_neg (by omega), show (k * 2 + 1) / 2 = k by omega]
theorem bt_put {w : World} {t p : Nat} {m : Md} {k : Nat} (h : ZArr w t 12 p (btF m k)) :
    ZArr ((w.setCell ⟨p, k * 2, none⟩ (iv (m.bests k).1)).setCell ⟨p, k * 2 + 1, none⟩ (iv (m.bests k).2)) t 12 p (btF m (k + 1)) := by
  refine ZArr.set (ZArr.set h (g' := fun i => if i = k * 2 then (m.bests k).1 else btF m k i) (fun _ _ => rfl)) fun i hi => ?_
  obtain ⟨a0, a1⟩ := btF_at m (n := k + 1) (k := k) (by omega)
  by_cases e1 : i = k * 2 + 1
  · rw [if_pos e1, e1, a1]
  · rw [if_neg e1]
    by_cases e0 : i = k * 2
    · rw [if_pos e0, e0, a0]
    · rw [if_neg e0]
      unfold btF
      by_cases e : i < k * 2
      · rw [if_pos e, if_pos (by omega)]
      · rw [if_neg e, if_neg (by omega)]
theorem bt_cells {w : World} {t p : Nat} {m : Md} (h : ZArr w t 12 p (btF m 6)) {k : Nat} (hk : k < 6) :
    w.cell? ⟨p, k * 2, none⟩ = some (iv (m.bests k).1) ∧ w.cell? ⟨p, k * 2 + 1, none⟩ = some (iv (m.bests k).2) := by
  obtain ⟨a0, a1⟩ := btF_at m hk
  have h0 := h.cell (j := k * 2) (by omega)
  have h1 := h.cell (j := k * 2 + 1) (by omega)
  rw [a0] at h0
  rw [a1] at h1
  exact ⟨h0, h1⟩
/-- What the law asks of a way, in numbers. -/
theorem way_asks {m : Md} (h : MdZ m) {S : Nat → Nat → Int × Int} (hS : SdRel m S) {k : Nat} (hk : k < 6) :
    ((m.ways k).2.2 = -1 → (m.ways k).2.1 = 200) ∧ ((m.ways k).2.2 ≠ -1 → bet (m.ways k).1 (m.ways k).2.1 (m.bests k).1 (m.bests k).2 = false) ∧
    ((m.ways k).2.2 ≠ -1 → k ≠ m.me → ∃ j : Nat, j < 6 ∧ m.ways k = ((S j k).1, (S j k).2 + m.cost j, (j : Int)) ∧ m.cost j ≠ 0 ∧ 0 ≤ (S j k).2 ∧ (S j k).2 ≤ 200 ∧ 0 ≤ m.cost j ∧ m.cost j ≤ 15 ∧ bet (S j k).1 (S j k).2 (m.bests k).1 (m.bests k).2 = true) := by
  refine ⟨fun e => by rw [h.x.none_ k e], fun e => ?_, fun e hne => ?_⟩
  · by_cases q : k = m.me
    · obtain ⟨s, _, hw, hb⟩ := h.ok.self
      rw [q, hw, hb]; exact bet_refl _ _
    · exact (h.ok.way k hk q).notBetter e
  · obtain ⟨j, hj, hw, hc, hl, hb⟩ := (h.ok.way k hk hne).by_ e hne
    have hcb := h.ok.cost j
    have hsb := h.ok.said j k
    have hs : m.heard j k = S j k := by
      rcases hS j k with q | q
      · exact q
      · exfalso; omega
    refine ⟨j, hj, ?_, hc, by rw [← hs]; exact hsb.2.1, by rw [← hs]; exact hsb.2.2, hcb.1, hcb.2, by rw [← hs]; exact hb⟩
    rw [hw, ← hs]; rfl

theorem hrq_same {m : Md} {f z s d : Int} (h : hcode m f z s d ≠ 0) : hrM m f z s d = m := by
  unfold hcode at h
  unfold hrM
  by_cases q : hrOk m f z s d
  · rw [if_pos q] at h
    by_cases hc : m.cost f.toNat = 0
    · rw [if_neg (fun x => x.2 hc)]
    · rw [if_neg hc] at h
      exact absurd rfl h
  · rw [if_neg (fun x => q x.1)]
theorem hrq_is {m : Md} {f z s d : Int} (h : hcode m f z s d = 0) : ∃ i k : Nat, f = (i : Int) ∧ z = (k : Int) ∧ i < 6 ∧ k < 6 ∧ hrM m f z s d = hearM m i k s d := by
  unfold hcode at h
  by_cases q : hrOk m f z s d
  · rw [if_pos q] at h
    by_cases hc : m.cost f.toNat = 0
    · rw [if_pos hc] at h; omega
    · refine ⟨f.toNat, z.toNat, by omega, by omega, by omega, by omega, ?_⟩
      unfold hrM
      rw [if_pos ⟨q, hc⟩]
  · rw [if_neg q] at h; omega
theorem lkq_is {m : Md} {f c : Int} (h : lcode m f c = 0) : ∃ i : Nat, f = (i : Int) ∧ i < 6 ∧ lnkM m f c = linkM m i c := by
  unfold lcode at h
  by_cases q : lkOk m f c
  · refine ⟨f.toNat, by omega, by omega, ?_⟩
    unfold lnkM
    rw [if_pos q]
  · rw [if_neg q] at h; omega
theorem lkq_same {m : Md} {f c : Int} (h : lcode m f c ≠ 0) : lnkM m f c = m := by
  unfold lcode at h
  unfold lnkM
  by_cases q : lkOk m f c
  · rw [if_pos q] at h
    exact absurd rfl h
  · rw [if_neg q]

theorem zero_saids (w : World) : (zeroValue 58).run Try.prog w = .ok (.agg (zcells 72 (sdG (fun _ _ => (0, 0))))) w := by kernel_rfl

end Go.Proofs.Ytohbkhmpdegapad
