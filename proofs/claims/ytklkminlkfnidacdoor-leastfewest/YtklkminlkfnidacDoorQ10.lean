/- LISTS OF CHANGES OF A CALL's OWN; CONTRACT OF package least: Diff. -/
import Derived.Test.YtklkminlkfnidacDoorQ9
import Derived.Test.YtklkminlkfnidacDoorS12
import Derived.Test.YtklkminlkfnidacDoorChMem
import Derived.Deep.RegionHeld3
import Derived.Deep.DeepCutAuto
namespace Go.Proofs.YtklkminlkfnidacDoor
open Go.RowKit Go.Sort Go.Lib
attribute [local go_sem] Ext.all Ext.cell Ext.frozen Ext.lt Ext.lt1 Ext.lt2 Ext.ne Ext.ne'

theorem TabS.getGr {B : World} {M : Nat → Prop} {tb : Nat} {v : Value} {rs : List Rt} {l b x : Int} (h : TabS B M tb v rs) (hT : Tab rs) (e : getL rs l b = x) (wX : World) (gX : Gr B wX) :
    Calls Tryd.prog 23 #[pv tb, pfx l b] wX fun e w' => e = .returned (iv x) ∧ Gr wX w' := by
  refine (get_is (h.gr gX) hT e ⟨wX, Gr.refl wX⟩).mono ?_
  rintro e w' ⟨rfl, d, rfl⟩
  exact ⟨rfl, d.gr⟩

/-- Cells of changes. -/
def chel (c : Ch) : List Value := [iv c.1, iv c.2.1, iv c.2.2.1, iv c.2.2.2]
def chels (cs : List Ch) : List Value := cs.flatMap chel
theorem chels_append (a b : List Ch) : chels (a ++ b) = chels a ++ chels b := by simp [chels]
theorem chels_length : ∀ cs : List Ch, (chels cs).length = cs.length * 4
  | [] => rfl
  | c :: cs => by
    show (chel c ++ chels cs).length = _
    rw [List.length_append, chels_length cs]; simp [chel]; omega
theorem chels_one : ∀ (cs : List Ch), ∀ u ∈ chels cs, u.oneCell' = true
  | [], u, h => by cases h
  | c :: cs, u, h => by
    have : u = iv c.1 ∨ u = iv c.2.1 ∨ u = iv c.2.2.1 ∨ u = iv c.2.2.2 ∨ u ∈ chels cs := by simpa [chels, chel] using h
    rcases this with rfl | rfl | rfl | rfl | h
    · rfl
    · rfl
    · rfl
    · rfl
    · exact chels_one cs u h
theorem chels_at : ∀ (cs : List Ch) (i : Nat) (h : i < cs.length), (chels cs)[i * 4]? = some (iv cs[i].1) ∧ (chels cs)[i * 4 + 1]? = some (iv cs[i].2.1) ∧ (chels cs)[i * 4 + 2]? = some (iv cs[i].2.2.1) ∧ (chels cs)[i * 4 + 3]? = some (iv cs[i].2.2.2)
  | c :: cs, 0, _ => by simp [chels, chel]
  | c :: cs, i + 1, h => by
    have ih := chels_at cs i (by simpa using h)
    show (iv c.1 :: iv c.2.1 :: iv c.2.2.1 :: iv c.2.2.2 :: chels cs)[(i + 1) * 4]? = _ ∧ (iv c.1 :: iv c.2.1 :: iv c.2.2.1 :: iv c.2.2.2 :: chels cs)[(i + 1) * 4 + 1]? = _ ∧ (iv c.1 :: iv c.2.1 :: iv c.2.2.1 :: iv c.2.2.2 :: chels cs)[(i + 1) * 4 + 2]? = _ ∧ (iv c.1 :: iv c.2.1 :: iv c.2.2.1 :: iv c.2.2.2 :: chels cs)[(i + 1) * 4 + 3]? = _
    rw [show (i + 1) * 4 = i * 4 + 4 by omega, show i * 4 + 4 + 1 = i * 4 + 1 + 4 by omega, show i * 4 + 4 + 2 = i * 4 + 2 + 4 by omega, show i * 4 + 4 + 3 = i * 4 + 3 + 4 by omega]
    simpa using ih
/-- A list of changes in memory that is younger than B. -/
def OwnC (B w : World) (v : Value) (cs : List Ch) : Prop := w.ownsRow B.heap.size 55 4 v cs.length (chels cs)
theorem OwnC.gr {B w w' : World} {v : Value} {cs : List Ch} (h : OwnC B w v cs) (g : Gr w w') : OwnC B w' v cs := own_gr h g
theorem OwnC.nil (B w : World) : OwnC B w (.slice none 0 0) [] := World.ownsRow_nil _ _ _ _
theorem OwnC.shape {B w : World} {v : Value} {cs : List Ch} (h : OwnC B w v cs) : ∃ ao c, v = .slice ao cs.length c ∧ ChAt w (fun k => B.heap.size ≤ k) ao cs := by
  rcases h.2 with ⟨rfl, h2⟩ | ⟨g, cap, cur, h1, hb, hg, hn, hc, hs, ht⟩
  · have : cs = [] := List.eq_nil_of_length_eq_zero h2
    subst this
    exact ⟨none, 0, rfl, .inl rfl⟩
  · refine ⟨_, cap, h1, .inr ⟨g, 0, rfl, (Array.getElem?_eq_some_iff.1 hg).1, hb, fun i hi => ?_⟩⟩
    have e : ∀ j, j < cs.length * 4 → w.cell? ⟨g, 0 + j, none⟩ = (chels cs)[j]? := by
      intro j hj
      rw [← ht, List.getElem?_take_of_lt hj]
      simp [World.cell?, hg]
    have ha := chels_at cs i hi
    rw [Nat.add_assoc, Nat.add_assoc, Nat.add_assoc, e _ (by omega), e _ (by omega), e _ (by omega), e _ (by omega)]
    exact ha
theorem Tryd.infoC : (Tryd.prog.info? 55).map (fun i => (i.zero, i.size, i.bytes)) = some (some (.agg #[iv 0, iv 0, iv 0, iv 0]), 4, 32) := by kernel_rfl
/-- 'append(l, c)'. -/
theorem run_appC {B w : World} {v : Value} {cs : List Ch} {b : Nat} (c : Ch) (ty : TypeId) (hO : OwnC B w v cs) (g : Gr B w) (hb : w.heap[b]? = some (.cells #[iv c.1, iv c.2.1, iv c.2.2.1, iv c.2.2.2] 55 (0, 0))) (hm : cs.length ≤ 1000) :
    ∃ v' w', (Builtin.append_ #[52, 52] ty #[v, .slice (some ⟨b, 0, none⟩) 1 1]).run Tryd.prog w = .ok v' w' ∧ OwnC B w' v' (cs ++ [c]) ∧ Gr B w' := by
  obtain ⟨i0, hi, hz0, hz1, hz2⟩ := info_parts Tryd.infoC
  obtain ⟨v', w', h1, h2, h3, _⟩ := run_append_own (P := Tryd.prog) w B.heap.size 52 ty 55 i0 _ 4 32 Tryd.underlying52 hi hz0 hz1 hz2 (by rfl) (by decide) v cs.length (chels cs) hO
    ⟨b, 0, none⟩ 1 1 (chels [c]) (by rw [chels_length]; rfl) (fun j u hj => by
      have hj2 : j < 4 := by
        have := (List.getElem?_eq_some_iff.1 hj).1
        rw [chels_length] at this; simpa using this
      rw [Addr.add_lit]
      rcases (show j = 0 ∨ j = 1 ∨ j = 2 ∨ j = 3 by omega) with rfl | rfl | rfl | rfl <;>
      · simp [chels, chel] at hj; subst hj; simp [World.cell?, hb])
    (chels_one _) (by unfold maxLen; omega) (by omega) (Below.size g)
  refine ⟨v', w', h1, ?_, g.grown h3 (fun k hk => (hO.lt k hk).1)⟩
  unfold OwnC
  rw [chels_append, List.length_append]
  exact h2

end Go.Proofs.YtklkminlkfnidacDoor
