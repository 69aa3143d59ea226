/- LISTS OF ROUTES OF A CALL's OWN: appended to, one or many. -/
import Derived.Test.YtimbgijpeomfcacGreatDoorS3
import Derived.Deep.RegionHeld3
import Derived.Deep.DeepCutAuto
namespace Go.Proofs.YtimbgijpeomfcacGreatDoor
open Go.RowKit
attribute [local go_sem] Ext.all Ext.cell Ext.frozen Ext.lt Ext.lt1 Ext.lt2 Ext.ne Ext.ne'

/-- A list of routes in memory that is younger than B. -/
def Own (B w : World) (v : Value) (rs : List Rt) : Prop := w.ownsRow B.heap.size 49 3 v rs.length (cels rs)
theorem Own.gr {B w w' : World} {v : Value} {rs : List Rt} (h : Own B w v rs) (g : Gr w w') : Own B w' v rs := own_gr h g
theorem Own.nil (B w : World) : Own B w (.slice none 0 0) [] := World.ownsRow_nil _ _ _ _
/-- Where such a list stands. -/
theorem Own.shape {B w : World} {v : Value} {rs : List Rt} (h : Own B w v rs) : ∃ ao c, v = .slice ao rs.length c ∧ rs.length ≤ c ∧ RowAt w (fun k => B.heap.size ≤ k) ao rs := by
  obtain ⟨ao, c, rfl, hb⟩ := own_shape h
  obtain ⟨h1, _, h3, _⟩ := rowAt_own (M := fun k => B.heap.size ≤ k) h hb
  exact ⟨ao, c, rfl, h3, h1⟩

/-- 'append(l, x...)', l a list of the call's own. -/
theorem run_app {B w : World} {v : Value} {rs xs : List Rt} {M : Nat → Prop} {ao : Option Addr} {m c : Nat} (ty : TypeId) (hO : Own B w v rs) (g : Gr B w) (H : RowAt w M ao xs) (hl : xs.length = m) (h0 : 0 < m) (hm : rs.length + m ≤ 2000) :
    ∃ v' w', (Builtin.append_ #[22, 22] ty #[v, .slice ao m c]).run Tryz.prog w = .ok v' w' ∧ Own B w' v' (rs ++ xs) ∧ Gr B w' := by
  obtain ⟨i0, hi, hz0, hz1, hz2⟩ := info_parts Tryz.info49
  rcases H with h | ⟨b, o, rfl, _, _, hcs⟩
  · subst h; simp at hl; omega
  · obtain ⟨v', w', h1, h2, h3, _⟩ := run_append_own (P := Tryz.prog) w B.heap.size 22 ty 49 i0 _ 3 24 Tryz.underlying22 hi hz0 hz1 hz2 (by rfl) (by decide) v rs.length (cels rs) hO
      ⟨b, o, none⟩ m c (cels xs) (by rw [cels_length, hl]) (fun j u hj => by rw [Addr.add_lit]; exact cels_cells hcs j u hj) (cels_one xs) (by unfold maxLen; omega) (by omega) (Below.size g)
    refine ⟨v', w', h1, ?_, g.grown h3 (fun k hk => (hO.lt k hk).1)⟩
    unfold Own
    rw [cels_append, List.length_append, hl]
    exact h2

theorem Own.mono {A B w : World} {v : Value} {rs : List Rt} (h : Own B w v rs) (g : Gr A B) : Own A w v rs := by
  have hs := Below.size g
  refine ⟨h.1, ?_⟩
  rcases h.2 with hn | ⟨g', cap, cur, rfl, hb, rest⟩
  · exact .inl hn
  · exact .inr ⟨g', cap, cur, rfl, by omega, rest⟩
theorem own_one {B X : World} (g : Gr B X) (l b h : Int) : Own B (X.alloc (.cells #[iv l, iv b, iv h] 49)) (.slice (some ⟨X.heap.size, 0, none⟩) 1 1) [(l, b, h)] :=
  ⟨rfl, .inr ⟨X.heap.size, 1, _, rfl, Below.size g, heap_alloc_new X _, Nat.le_refl _, by unfold maxLen; decide, rfl, rfl⟩⟩

theorem wrap_in (x : Int) (h : -1000 ≤ x) (k : x ≤ 1000) : IntKind.i64.wrap x = x := by
  rw [IntKind.wrap_i64]; omega

end Go.Proofs.YtimbgijpeomfcacGreatDoor
