/- WHAT IS TO BE A TABLE's LIST: the code of its first fault. No Go here. -/
import Derived.Test.YtmlmcpopkcgflabTPlain
namespace Go.Proofs.Ytmlmcpopkcgflab

/-- The fault of a route behind another one (or the first). -/
def fltL (p : Option Rt) (r : Rt) : Int :=
  if okB r.1 r.2.1 = false ∨ hopB r.2.2 = false then 1
  else match p with
  | none => 0
  | some q => if sameB q r.1 r.2.1 then 5 else if lessB q.1 q.2.1 r.1 r.2.1 then 0 else 4
def chkGo : Option Rt → List Rt → Int
  | _, [] => 0
  | p, r :: rs => if fltL p r = 0 then chkGo (some r) rs else fltL p r
def chkL (rs : List Rt) : Int := if 40 < rs.length then 3 else chkGo none rs

/-- The one ahead of place k. -/
def prevL (rs : List Rt) (k : Nat) : Option Rt := if k = 0 then none else rs[k - 1]?
theorem prevL_zero (rs : List Rt) : prevL rs 0 = none := rfl
theorem prevL_succ {rs : List Rt} {k : Nat} (hk : k < rs.length) : prevL rs (k + 1) = some rs[k] := by simp [prevL, hk]
theorem chkGo_drop {rs : List Rt} {k : Nat} (hk : k < rs.length) : chkGo (prevL rs k) (rs.drop k) = if fltL (prevL rs k) rs[k] = 0 then chkGo (prevL rs (k + 1)) (rs.drop (k + 1)) else fltL (prevL rs k) rs[k] := by
  conv => lhs; rw [List.drop_eq_getElem_cons hk]
  rw [prevL_succ hk]; rfl

theorem fltL_ok {p : Option Rt} {r : Rt} (h : fltL p r = 0) : okB r.1 r.2.1 = true ∧ hopB r.2.2 = true ∧ ∀ q, p = some q → lessB q.1 q.2.1 r.1 r.2.1 = true := by
  unfold fltL at h
  split at h
  · cases h
  · rename_i hn
    have h1 : okB r.1 r.2.1 = true := by cases e : okB r.1 r.2.1 with | true => rfl | false => exact absurd (.inl e) hn
    have h2 : hopB r.2.2 = true := by cases e : hopB r.2.2 with | true => rfl | false => exact absurd (.inr e) hn
    refine ⟨h1, h2, fun q hq => ?_⟩
    subst hq
    simp only at h
    split at h
    · cases h
    · split at h
      · assumption
      · cases h

theorem chkGo_tab : ∀ (rs : List Rt) (p : Option Rt), chkGo p rs = 0 → (∀ r ∈ rs, okB r.1 r.2.1 = true ∧ hopB r.2.2 = true) ∧ rs.Pairwise (fun r s => lessB r.1 r.2.1 s.1 s.2.1 = true) ∧ ∀ q, p = some q → ∀ r ∈ rs, lessB q.1 q.2.1 r.1 r.2.1 = true
  | [], _, _ => ⟨by simp, by simp, by simp⟩
  | r :: rs, p, h => by
    rw [chkGo] at h
    split at h
    · rename_i hf
      obtain ⟨h1, h2, h3⟩ := fltL_ok hf
      obtain ⟨i1, i2, i3⟩ := chkGo_tab rs (some r) h
      refine ⟨?_, List.pairwise_cons.2 ⟨i3 r rfl, i2⟩, ?_⟩
      · intro s hs
        rcases List.mem_cons.1 hs with rfl | hs
        · exact ⟨h1, h2⟩
        · exact i1 s hs
      · intro q hq s hs
        rcases List.mem_cons.1 hs with rfl | hs
        · exact h3 q hq
        · exact less_tr (h3 q hq) (i3 r rfl s hs)
    · rename_i hf; exact absurd h hf
theorem chk_tab {rs : List Rt} (h : chkL rs = 0) : Tab rs := by
  unfold chkL at h
  split at h
  · cases h
  · obtain ⟨h1, h2, _⟩ := chkGo_tab rs none h
    exact ⟨h1, h2, by omega⟩

end Go.Proofs.Ytmlmcpopkcgflab
