/- FOR THE LAWS: a table and a list beside it, in a world that has kept what was there. -/
import Derived.Test.YtimbgijpeomfcacGreatDoorS12
import Derived.Deep.DeepCutAuto
namespace Go.Proofs.YtimbgijpeomfcacGreatDoor
open Go.RowKit
attribute [local go_sem] Ext.all Ext.cell Ext.frozen Ext.lt Ext.lt1 Ext.lt2 Ext.ne Ext.ne'

/-- In wX: the table at tb has the routes rs; the list at aw reads as 'was'; all below w's size is as it was in w. -/
structure St (w wX : World) (tb : Nat) (rs : List Rt) (aw : Option Addr) (was : List Rt) : Prop where
  tab : ∃ M v, TabS wX M tb v rs ∧ RowAt wX M aw was ∧ (∀ k, k < w.heap.size → M k)
  old : Below w.heap.size w wX

theorem Both.st {w w' : World} {tb : Nat} {ro : Option Addr} {rs : List Rt} (h : Both w w' tb ro rs) : St w w' tb rs ro rs := ⟨h.tab, h.old⟩
theorem St.gr {w w1 w2 : World} {tb : Nat} {ro : Option Addr} {rs was : List Rt} (h : St w w1 tb rs ro was) (g : Gr w1 w2) : St w w2 tb rs ro was := by
  obtain ⟨M, v, hS, hR, hM⟩ := h.tab
  exact ⟨⟨M, v, hS.gr g, hR.gr g, hM⟩, Below.trans h.old (Below.mono g (Below.size h.old))⟩
theorem St.cell {w w1 : World} {tb : Nat} {ro : Option Addr} {rs was : List Rt} (h : St w w1 tb rs ro was) {b o : Nat} {v : Value} (hb : b < w.heap.size) (hc : w.cell? ⟨b, o, none⟩ = some v) : w1.cell? ⟨b, o, none⟩ = some v :=
  (Below.cell h.old (p := ⟨b, o, none⟩) hb).trans hc
theorem St.set {w w1 : World} {tb : Nat} {ro : Option Addr} {rs was rs' : List Rt} {l b hp code : Int} (h : St w w1 tb rs ro was) (hT : Tab rs) (e : setL rs l b hp = (rs', code)) :
    Calls Tryz.prog 18 #[.pointer (some ⟨tb, 0, none⟩), pfx l b, .int .i64 hp] w1 fun e w2 => e = .returned (.int .i64 code) ∧ St w w2 tb rs' ro was := by
  obtain ⟨M, v, hS, hR, hM⟩ := h.tab
  refine (set_is hS hT e).mono ?_
  rintro e w2 ⟨rfl, v', hS', hK⟩
  exact ⟨rfl, ⟨M, v', hS', hR.kept hK, hM⟩, Below.trans h.old (hK.below (Below.size h.old) hM)⟩
theorem St.look {w w1 : World} {tb : Nat} {ro : Option Addr} {rs was : List Rt} {a x : Int} (h : St w w1 tb rs ro was) (hT : Tab rs) (e : lookL rs a = x) :
    Calls Tryz.prog 60 #[.pointer (some ⟨tb, 0, none⟩), .int .i64 a] w1 fun e w2 => e = .returned (.int .i64 x) ∧ ∃ d : Ext w1, w2 = d.out := by
  obtain ⟨M, v, hS, hR, hM⟩ := h.tab
  exact look_is hS (by have := hT.len; omega) e ⟨w1, Gr.refl w1⟩
theorem St.get {w w1 : World} {tb : Nat} {ro : Option Addr} {rs was : List Rt} {l b x : Int} (h : St w w1 tb rs ro was) (hT : Tab rs) (e : getL rs l b = x) :
    Calls Tryz.prog 29 #[.pointer (some ⟨tb, 0, none⟩), pfx l b] w1 fun e w2 => e = .returned (.int .i64 x) ∧ ∃ d : Ext w1, w2 = d.out := by
  obtain ⟨M, v, hS, hR, hM⟩ := h.tab
  exact get_is hS hT e ⟨w1, Gr.refl w1⟩
theorem St.list {w w1 : World} {tb : Nat} {ro : Option Addr} {rs was : List Rt} (h : St w w1 tb rs ro was) (hT : Tab rs) :
    Calls Tryz.prog 10 #[.pointer (some ⟨tb, 0, none⟩)] w1 fun e w2 => ∃ ao' c', e = .returned (.slice ao' rs.length c') ∧ St w w2 tb rs ao' rs ∧ St w w2 tb rs ro was ∧ ∃ d : Ext w1, w2 = d.out := by
  obtain ⟨M, v, hS, hR, hM⟩ := h.tab
  refine (list_is hS (by have := hT.len; omega)).mono ?_
  rintro e _ ⟨ao', c', rfl, hrow, d, rfl⟩
  refine ⟨ao', c', rfl, ⟨⟨_, v, hS.more d.gr, hrow.mono fun k hk hge => .inr ⟨hge, hk⟩, fun k hk => .inl (hM k hk)⟩, (h.gr d.gr).old⟩, h.gr d.gr, d, rfl⟩
theorem St.all {w w1 : World} {tb : Nat} {ro : Option Addr} {rs was : List Rt} (h : St w w1 tb rs ro was) (hT : Tab rs) :
    Calls Tryz.prog 41 #[.pointer (some ⟨tb, 0, none⟩)] w1 fun e w2 => ∃ g, e = .returned (.slice (some ⟨g, 0, none⟩) 256 256) ∧ g < w2.heap.size ∧ (∀ j : Nat, j < 256 → w2.cell? ⟨g, j, none⟩ = some (iv (lookL rs j))) ∧ ∃ d : Ext w1, w2 = d.out := by
  obtain ⟨M, v, hS, hR, hM⟩ := h.tab
  refine (all_is hS (by have := hT.len; omega) ⟨w1, Gr.refl w1⟩).mono ?_
  rintro e w2 ⟨g, rfl, _, h2, h3, d, hd⟩
  exact ⟨g, rfl, h2, h3, d, hd⟩
/-- The two lists read alike. -/
theorem St.same {w w1 : World} {tb : Nat} {ro bo : Option Addr} {rs was : List Rt} (h : St w w1 tb rs ro was) (k : St w w1 tb rs bo was) (c c' : Nat) (hm : was.length ≤ 1000) :
    Calls Tryz.prog 9 #[.slice ro was.length c, .slice bo was.length c'] w1 fun e w2 => e = .returned (.bool true) ∧ ∃ d : Ext w1, w2 = d.out := by
  obtain ⟨_, _, _, hR, _⟩ := h.tab
  obtain ⟨_, _, _, hK, _⟩ := k.tab
  exact same_any w1 _ _ ro bo was.length c c' was hR hK rfl hm
theorem St.gr0 {w0 w w1 : World} {tb : Nat} {ro : Option Addr} {rs was : List Rt} (h : St w w1 tb rs ro was) (g : Gr w0 w) : Gr w0 w1 :=
  Below.trans g (Below.mono h.old (Below.size g))
/-- tables, as the laws meet it. -/
theorem tables_st {W : World} (d : Ext W) (N : Nat → Prop) (ao : Option Addr) (c : Nat) (ls : List Rt) (H : RowAt W N ao ls) (hm : ls.length ≤ 120) :
    Calls Tryz.prog 5 #[.slice ao ls.length c] d.out fun e w' => ∃ tb ro c', e = .returned (.tuple #[.pointer (some ⟨tb, 0, none⟩), .slice ro (setAll ls).length c', .bool true]) ∧ St d.out w' tb (setAll ls) ro (setAll ls) := by
  refine (tables_any d.out N ao c ls (H.gr d.gr) hm).mono ?_
  rintro e w' ⟨tb, ro, c', rfl, B⟩
  exact ⟨tb, ro, c', rfl, B.st⟩

end Go.Proofs.YtimbgijpeomfcacGreatDoor
