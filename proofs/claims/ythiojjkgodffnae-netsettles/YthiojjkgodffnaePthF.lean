/- Path AS THE DOCUMENT SAYS IT; as the laws ask it. -/
import Derived.Test.YthiojjkgodffnaeLPl
namespace Go.Proofs.Ythiojjkgodffnae
open Go.RowKit

theorem pathP_is (hop : Nat → Int) (z : Int) : ∀ f p out, pathP hop z f p out = pathF hop z f p out
  | 0, _, _ => rfl
  | f + 1, p, out => by
    rw [pathP, pathF, pathP_is hop z f]
    rfl
theorem pathF_congr {h h' : Nat → Int} (z : Int) (e : ∀ x, h x = h' x) (f : Nat) (p : Int) (out : List Nat) : pathF h z f p out = pathF h' z f p out := by
  have : h = h' := funext e
  rw [this]
theorem hopZ_is (t : Tn) {z : Nat} (hz : z < 6) (x : Nat) : hopZ t (z : Int) x = hopT t z x := by
  unfold hopZ hopT
  rw [wayOf_nat _ hz]
section
variable {M : Nat → Prop} {B w : World} {p k : Nat} {q : Nat → Nat} {v : Value} {c : Nat → Nat → Nat} {t : Tn} {n : Nat}
theorem Nl.path (H : Nl M B w p k q v c t n) {a z : Nat} (hz : z < 6) {l : List Nat} (hl : pathF (hopT t z) (z : Int) 7 (a : Int) [] = (l, true)) :
    Calls Try.prog 15 #[pv p, iv (a : Int), iv (z : Int)] w fun e w' => ∃ ao m cp, e = .returned (.tuple #[.slice ao m cp, .bool true]) ∧ m = l.length ∧ NumAt w' ao l ∧ Gr w w' := by
  have h : pathP (hopZ t (z : Int)) (z : Int) 7 (a : Int) [] = (l, true) := by rw [pathP_is, pathF_congr _ (hopZ_is t hz), hl]
  refine (netPath_any H.h (a : Int) (z : Int) h).mono fun e w' ⟨u, he, ho, hg⟩ => ?_
  obtain ⟨ao, cp, hu, hn⟩ := ho.shape
  exact ⟨ao, _, cp, by rw [he, hu], rfl, hn, hg⟩
theorem Nl.costE (H : Nl M B w p k q v c t n) {x y : Nat} (hx : x < 6) (hy : y < 6) (d : Ext w) : Calls Try.prog 23 #[pv k, iv (x : Int), iv (y : Int)] d.out fun e w' => e = .returned (iv (c x y : Int)) ∧ ∃ m : Ext w, w' = m.out :=
  (cost_nat (H.h.lk.gr d.gr) H.a.s.tc.lk hx hy).mono fun _ _ ⟨he, hw⟩ => ⟨he, d, hw⟩
end

end Go.Proofs.Ythiojjkgodffnae
