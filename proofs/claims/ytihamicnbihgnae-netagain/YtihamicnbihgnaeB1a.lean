/- THE PROGRAM'S NODE: Link, Hear and Tick of whatever is handed in. -/
import Derived.Test.YtihamicnbihgnaeD6
namespace Go.Proofs.Ytihamicnbihgnae
open Go.RowKit

abbrev lkOk (m : Md) (f c : Int) : Prop := ((0 ≤ f ∧ f < 6) ∧ f ≠ (m.me : Int)) ∧ 0 ≤ c ∧ c ≤ 15
def lcode (m : Md) (f c : Int) : Int := if lkOk m f c then 0 else 1
def lnkM (m : Md) (f c : Int) : Md := if lkOk m f c then linkM m f.toNat c else m
abbrev hrOk (m : Md) (f z s d : Int) : Prop := ((0 ≤ f ∧ f < 6) ∧ f ≠ (m.me : Int)) ∧ (0 ≤ z ∧ z < 6) ∧ 0 ≤ s ∧ 0 ≤ d ∧ d ≤ 200
def hcode (m : Md) (f z s d : Int) : Int := if hrOk m f z s d then (if m.cost f.toNat = 0 then 6 else 0) else 1
def hrM (m : Md) (f z s d : Int) : Md := if hrOk m f z s d ∧ m.cost f.toNat ≠ 0 then hearM m f.toNat z.toNat s d else m
theorem lnk_z {m : Md} (h : MdZ m) (f c : Int) : MdZ (lnkM m f c) := by
  unfold lnkM
  split
  · next q => exact link_z h q.2.1 q.2.2
  · exact h
theorem hr_z {m : Md} (h : MdZ m) (f z s d : Int) : MdZ (hrM m f z s d) := by
  unfold hrM
  split
  · next q => exact hear_z h q.1.2.2.1 q.1.2.2.2.1 q.1.2.2.2.2
  · exact h
theorem lnk_me (m : Md) (f c : Int) : (lnkM m f c).me = m.me := by
  unfold lnkM
  split
  · unfold linkM; rw [(lookTo_all _ 6).1]
  · rfl
theorem hr_me (m : Md) (f z s d : Int) : (hrM m f z s d).me = m.me := by
  unfold hrM
  split
  · exact look_me _ _
  · rfl
theorem MdZ.bd {m : Md} (h : MdZ m) : Bd (sel m) := by
  refine ⟨h.ok.cost, fun r k => (h.ok.said r k).2, fun k => ?_⟩
  show (updW m.bests m.me (0, 200) k).2 ≤ 200
  unfold updW
  split
  · exact Int.le_refl _
  · exact (h.x.b200 k).2
theorem DAt.gr' {w w' : World} {p : Nat} {m : Md} (h : DAt w p m) (g : Gr w w') : DAt w' p m := NdAt.gr h g

theorem nlinkN {w : World} {p : Nat} {m : Md} (H : DAt w p (sel m)) (hz : MdZ m) (f c : Int) :
    Calls Try.prog 39 #[pv p, iv f, iv c] w fun e w' => e = .returned (iv (lcode m f c)) ∧ DAt w' p (sel (lnkM m f c)) ∧ Wr p w w' := by
  unfold lcode lnkM
  by_cases q : lkOk m f c
  · rw [if_pos q, if_pos q]
    obtain ⟨k, rfl⟩ : ∃ k : Nat, f = (k : Int) := ⟨f.toNat, by omega⟩
    have := nlink_ok H hz.bd (f := k) (c := c) (by omega) (show k ≠ m.me by omega) q.2.1 q.2.2
    rw [sel_link] at this
    rw [Int.toNat_natCast]
    exact this
  · rw [if_neg q, if_neg q]
    refine (nlink_bad H (f := f) (c := c) ?_).mono fun e w' ⟨h1, h2⟩ => ⟨h1, by rw [h2]; exact H, by rw [h2]; exact Wr.refl _ _⟩
    show ¬ (0 ≤ f ∧ f < 6) ∨ f = (m.me : Int) ∨ c < 0 ∨ 15 < c
    omega
theorem nhearN {w : World} {p : Nat} {m : Md} (H : DAt w p (sel m)) (hz : MdZ m) (f o z s d : Int) :
    Calls Try.prog 37 #[pv p, .agg #[iv f, iv o, iv z, iv s, iv d]] w fun e w' => e = .returned (iv (hcode m f z s d)) ∧ DAt w' p (sel (hrM m f z s d)) ∧ Wr p w w' := by
  unfold hcode hrM
  by_cases q : hrOk m f z s d
  · rw [if_pos q]
    obtain ⟨k, rfl⟩ : ∃ k : Nat, f = (k : Int) := ⟨f.toNat, by omega⟩
    obtain ⟨i, rfl⟩ : ∃ i : Nat, z = (i : Int) := ⟨z.toNat, by omega⟩
    rw [Int.toNat_natCast, Int.toNat_natCast]
    by_cases hc : m.cost k = 0
    · rw [if_pos hc, if_neg (fun x => x.2 hc)]
      exact (nhear_none H (f := k) (z := i) (o := o) (s := s) (d := d) (by omega) (by omega) (show k ≠ m.me by omega) hc q.2.2.1 q.2.2.2.1 q.2.2.2.2).mono fun e w' ⟨h1, h2⟩ => ⟨h1, H.gr h2, h2.wr p⟩
    · rw [if_neg hc, if_pos ⟨q, hc⟩]
      have := nhear_ok H hz.bd (f := k) (z := i) (o := o) (s := s) (d := d) (by omega) (by omega) (show k ≠ m.me by omega) hc q.2.2.1 q.2.2.2.1 q.2.2.2.2
      rw [sel_hear hz.l (show i < 6 by omega)] at this
      exact this
  · rw [if_neg q, if_neg (fun x => q x.1)]
    refine (nhear_bad H (f := f) (o := o) (z := z) (s := s) (d := d) ?_).mono fun e w' ⟨h1, h2⟩ => ⟨h1, H.gr h2, h2.wr p⟩
    show ¬ (0 ≤ f ∧ f < 6) ∨ ¬ (0 ≤ z ∧ z < 6) ∨ f = (m.me : Int) ∨ s < 0 ∨ d < 0 ∨ 200 < d
    omega
/-- How often the age of a node's way to itself rose. -/
def age (m : Md) : Int := (m.ways m.me).1
theorem ntickN {w : World} {p : Nat} {m : Md} (H : DAt w p (sel m)) (hz : MdZ m) (ha : age m < 4611686018427387904) :
    Calls Try.prog 19 #[pv p] w fun e w' => e = .returned (.tuple #[]) ∧ DAt w' p (sel (tickM m)) ∧ Wr p w w' := by
  obtain ⟨s, h0, hw, _⟩ := hz.ok.self
  have := ntick_any H hz.ok.me (show 0 ≤ (m.ways m.me).1 by rw [hw]; exact h0) ha
  rw [sel_tick] at this
  exact this

end Go.Proofs.Ytihamicnbihgnae
