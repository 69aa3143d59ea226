/- FOR THE LAWS: tables and lists in a world; what each call says in whatever world has grown out of it. -/
import Derived.Test.YtimbgijpeomfcacGreatDoorT7
namespace Go.Proofs.YtimbgijpeomfcacGreatDoor
open Go.RowKit
attribute [local go_sem] Ext.all Ext.cell Ext.frozen Ext.lt Ext.lt1 Ext.lt2 Ext.ne Ext.ne'

theorem leaf_gr {B : World} {T : TT} {q : Nat} {v : Bool} (h : Tr B T q) (e : T.isLeaf = v) (wX : World) (gX : Gr B wX) :
    Calls Tryz.prog 65 #[pv q] wX fun e w' => e = .returned (.bool v) ∧ Gr wX w' := by
  refine (leaf_as (h.gr gX) e).mono ?_
  rintro e _ ⟨rfl, d, rfl⟩
  exact ⟨rfl, d.gr⟩
/-- In B the table at tb and the list at ro have the routes rs. -/
def Laid (B : World) (tb : Nat) (ro : Option Addr) (rs : List Rt) : Prop := ∃ M v, TabS B M tb v rs ∧ RowAt B M ro rs
theorem St.laid {w wX : World} {tb : Nat} {ro : Option Addr} {rs : List Rt} (h : St w wX tb rs ro rs) : Laid wX tb ro rs := by
  obtain ⟨M, v, hS, hR, _⟩ := h.tab
  exact ⟨M, v, hS, hR⟩
theorem Laid.gr {B wX : World} {tb : Nat} {ro : Option Addr} {rs : List Rt} (h : Laid B tb ro rs) (g : Gr B wX) : Laid wX tb ro rs := by
  obtain ⟨M, v, hS, hR⟩ := h
  exact ⟨M, v, hS.gr g, hR.gr g⟩
theorem Laid.tof {B : World} {tb : Nat} {ro : Option Addr} {rs : List Rt} (h : Laid B tb ro rs) (hT : Tab rs) (wX : World) (gX : Gr B wX) :
    Calls Tryz.prog 25 #[.pointer (some ⟨tb, 0, none⟩)] wX fun e w' => ∃ q, e = .returned (pv q) ∧ Tr w' (trT rs) q ∧ Gr wX w' := by
  obtain ⟨M, v, hS, hR⟩ := h
  exact tof_is hS (by have := hT.len; omega) wX gX
theorem Laid.tsame {B : World} {tb ub : Nat} {ro so : Option Addr} {rs ss : List Rt} (h : Laid B tb ro rs) (k : Laid B ub so ss) (hT : Tab rs) (hU : Tab ss) (wX : World) (gX : Gr B wX) :
    Calls Tryz.prog 19 #[.pointer (some ⟨tb, 0, none⟩), .pointer (some ⟨ub, 0, none⟩)] wX fun e w' => e = .returned (.bool (eqF (fun j => lookL rs j) (fun j => lookL ss j))) ∧ Gr wX w' := by
  obtain ⟨M, v, hS, hR⟩ := h
  obtain ⟨N, u, kS, kR⟩ := k
  exact tsame_is hS kS (by have := hT.len; omega) (by have := hU.len; omega) wX gX
theorem Laid.look {B : World} {tb : Nat} {ro : Option Addr} {rs : List Rt} {a x : Int} (h : Laid B tb ro rs) (hT : Tab rs) (e : lookL rs a = x) (wX : World) (gX : Gr B wX) :
    Calls Tryz.prog 60 #[.pointer (some ⟨tb, 0, none⟩), .int .i64 a] wX fun e w' => e = .returned (.int .i64 x) ∧ Gr wX w' := by
  obtain ⟨M, v, hS, hR⟩ := h
  refine (look_is (hS.gr gX) (by have := hT.len; omega) e ⟨wX, Gr.refl wX⟩).mono ?_
  rintro e _ ⟨rfl, d, rfl⟩
  exact ⟨rfl, d.gr⟩
theorem Laid.rlook {B : World} {tb : Nat} {ro : Option Addr} {rs : List Rt} {a x : Int} (h : Laid B tb ro rs) (hT : Tab rs) (e : lookL rs a = x) (c : Nat) (wX : World) (gX : Gr B wX) :
    Calls Tryz.prog 23 #[.slice ro rs.length c, .int .i64 a] wX fun e w' => e = .returned (.int .i64 x) ∧ Gr wX w' := by
  subst e
  obtain ⟨M, v, hS, hR⟩ := h
  refine (rlook_any wX M ro rs.length c rs a (hR.gr gX) rfl hT.toSrt).mono ?_
  rintro e _ ⟨rfl, d, rfl⟩
  exact ⟨rfl, d.gr⟩

/-- AllOf of any sorted list. -/
theorem allOf_gr {B : World} {M : Nat → Prop} {ro : Option Addr} {rs : List Rt} (h : RowAt B M ro rs) (hT : Srt rs) (c : Nat) (wX : World) (gX : Gr B wX) :
    Calls Tryz.prog 7 #[.slice ro rs.length c] wX fun e w' => ∃ g, e = .returned (.slice (some ⟨g, 0, none⟩) 256 256) ∧ Nums w' g 0 256 (fun j => lookL rs j) ∧ Gr wX w' := by
  refine (allOf_any wX M ro rs.length c rs (h.gr gX) rfl hT).mono ?_
  rintro e w' ⟨g, rfl, h2, h3, d, hd⟩
  exact ⟨g, rfl, ⟨h2, fun j hj => by rw [Nat.zero_add]; exact h3 j hj⟩, by rw [hd]; exact d.gr⟩
theorem Laid.allOf {B : World} {tb : Nat} {ro : Option Addr} {rs : List Rt} (h : Laid B tb ro rs) (hT : Tab rs) (c : Nat) (wX : World) (gX : Gr B wX) :
    Calls Tryz.prog 7 #[.slice ro rs.length c] wX fun e w' => ∃ g, e = .returned (.slice (some ⟨g, 0, none⟩) 256 256) ∧ Nums w' g 0 256 (fun j => lookL rs j) ∧ Gr wX w' := by
  obtain ⟨M, v, hS, hR⟩ := h
  exact allOf_gr hR hT.toSrt c wX gX
theorem same_gr {wX : World} {M N : Nat → Prop} {ao bo : Option Addr} {rs ss : List Rt} {z : Bool} (H : RowAt wX M ao rs) (K : RowAt wX N bo ss) (hm : rs.length ≤ 1000) (hn : ss.length ≤ 1000) (e : decide (rs = ss) = z) (c c' : Nat) :
    Calls Tryz.prog 9 #[.slice ao rs.length c, .slice bo ss.length c'] wX fun e w' => e = .returned (.bool z) ∧ Gr wX w' := by
  subst e
  refine (same2_any wX M N ao bo c c' rs ss H K hm hn).mono ?_
  rintro e _ ⟨rfl, d, rfl⟩
  exact ⟨rfl, d.gr⟩
theorem len_trT (rs : List Rt) : (trT rs).leaves.length ≤ 256 := len_T _
/-- tables, of a list that has stayed. -/
theorem tables_gr {w : World} {N : Nat → Prop} {ao : Option Addr} {ls : List Rt} (H : RowAt w N ao ls) (hm : ls.length ≤ 120) (c : Nat) (wX : World) (gX : Gr w wX) :
    Calls Tryz.prog 5 #[.slice ao ls.length c] wX fun e w' => ∃ tb ro c', e = .returned (.tuple #[.pointer (some ⟨tb, 0, none⟩), .slice ro (setAll ls).length c', .bool true]) ∧ Laid w' tb ro (setAll ls) ∧ Gr wX w' := by
  refine (tables_st ⟨wX, gX⟩ N ao c ls H hm).mono ?_
  rintro e w' ⟨tb, ro, c', rfl, B⟩
  exact ⟨tb, ro, c', rfl, B.laid, B.old⟩

end Go.Proofs.YtimbgijpeomfcacGreatDoor
