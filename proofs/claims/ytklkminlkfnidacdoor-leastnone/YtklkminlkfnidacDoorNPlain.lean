/- ONE ROUTE LESS IS NOT ENOUGH, as lists. No Go here. -/
import Derived.Test.YtklkminlkfnidacDoorLAid
namespace Go.Proofs.YtklkminlkfnidacDoor

theorem eqF_neg {f g : Nat → Int} (h : ¬ ∀ j : Nat, j < 256 → g j = f j) : eqF f g = false := by
  have : ∃ j : Nat, j < 256 ∧ g j ≠ f j := by
    apply Classical.byContradiction
    intro hn
    apply h
    intro j hj
    apply Classical.byContradiction
    intro e
    exact hn ⟨j, hj, e⟩
  obtain ⟨j, hj, e⟩ := this
  exact eqF_no hj (fun e' => e e'.symm)
theorem less_plain {rs : List Rt} (hR : Tab rs) {l b h : Int} (hm : (l, b, h) ∈ lstL rs) :
    ∃ ss1, setL (lstL rs) l b (-2) = (ss1, 0) ∧ Tab ss1 ∧ eqF (fun j => lookL rs j) (fun j => lookL ss1 j) = false ∧
      ∀ g, hopB g = true → g ≠ h → ∃ ss2, setL ss1 l b g = (ss2, 0) ∧ Tab ss2 ∧ eqF (fun j => lookL rs j) (fun j => lookL ss2 j) = false := by
  have hS := lst_tab hR
  have hL : leastT (fun j : Nat => lookL rs j) = lstL rs := rfl
  obtain ⟨hg, hn⟩ := (hS.mem_get l b h).1 hm
  have hn' : getL (lstL rs) l b ≠ -2 := by rw [hg]; exact hn
  obtain ⟨hok, hhop⟩ := hS.get_hop hn'
  have hc := hS.can_del hn'
  obtain ⟨gs1, gs2⟩ := hS.get_set hc
  have hT1 := hS.set_tab l b (-2)
  refine ⟨(setL (lstL rs) l b (-2)).1, Prod.ext rfl hc, hT1, ?_, fun g hg' hne => ?_⟩
  · rcases hS.set l b (-2) with ⟨_, e⟩ | ⟨_, _, A, B, _, _, _, ⟨_, h0, _, e, _, _, e'⟩ | ⟨hh, _⟩⟩
    · exact absurd hc e
    · rw [e']
      refine eqF_neg (least_less hR.hops (A := A) (B := B) (r := (l, b, h0)) ?_)
      rw [hL, e]
    · simp [hopB] at hh
  · have hlen : (setL (lstL rs) l b (-2)).1.length < 40 := by
      rcases hS.set l b (-2) with ⟨_, e⟩ | ⟨_, _, A, B, _, _, _, ⟨_, h0, _, e, _, _, e'⟩ | ⟨hh, _⟩⟩
      · exact absurd hc e
      · have := hS.len
        rw [e', List.length_append]
        rw [e, List.length_append, List.length_cons] at this
        omega
      · simp [hopB] at hh
    have hc2 := hT1.can_set (l := l) (b := b) (h' := g) hok hg' (.inr hlen)
    obtain ⟨gt1, gt2⟩ := hT1.get_set hc2
    have hT2 := hT1.set_tab l b g
    have hc3 := hS.can_set (l := l) (b := b) (h' := g) hok hg' (.inl hn')
    obtain ⟨gu1, gu2⟩ := hS.get_set hc3
    have hT3 := hS.set_tab l b g
    have e23 : (setL (setL (lstL rs) l b (-2)).1 l b g).1 = (setL (lstL rs) l b g).1 := tab_ext hT2 hT3 fun m c => by
      by_cases e : m = l ∧ c = b
      · obtain ⟨rfl, rfl⟩ := e
        rw [gt1, gu1]
      · rw [gt2 m c e, gs2 m c e, gu2 m c e]
    refine ⟨(setL (setL (lstL rs) l b (-2)).1 l b g).1, Prod.ext rfl hc2, hT2, ?_⟩
    rw [e23]
    rcases hS.set l b g with ⟨_, e⟩ | ⟨_, _, A, B, _, _, _, ⟨hh, _⟩ | ⟨_, _, e', ⟨_, _, _, e3⟩ | ⟨h0, _, e, _, e4⟩⟩⟩
    · exact absurd hc3 e
    · rw [hh] at hg'; simp [hopB] at hg'
    · exact absurd e3 hn'
    · rw [e']
      have h0h : h0 = h := e4.symm.trans hg
      refine eqF_neg (least_other hR.hops (A := A) (B := B) (l := l) (b := b) (g := h0) (g' := g) ?_ (by rw [h0h]; exact hne))
      rw [hL, e]

end Go.Proofs.YtklkminlkfnidacDoor
