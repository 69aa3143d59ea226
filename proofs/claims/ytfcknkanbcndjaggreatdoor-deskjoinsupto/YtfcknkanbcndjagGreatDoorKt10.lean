import Derived.Test.YtfcknkanbcndjagGreatDoorWk2
import Derived.Test.YtfcknkanbcndjagGreatDoorWg1
import Derived.Test.YtfcknkanbcndjagGreatDoorDkBd
import Derived.Test.YtfcknkanbcndjagGreatDoorKt11
import Derived.Test.YtfcknkanbcndjagGreatDoorKt3
import Derived.Laws.EntriesVeiled
/- FOR THE LAWS OF LETTERS: a Post, a Town, and walks beside them. -/
namespace Go.Proofs.YtfcknkanbcndjagGreatDoor
open Go.RowKit

section
variable {M : Nat → Prop} {B w w' : World} {T : Nat} {S : Nat → Prop} {c : Nat → Nat → Nat} {t : Tn} {n : Nat} {rs : List Rt}
theorem Tq.go (H : Tq M B w T S c t n rs) (ho : Ows rs) (fr a : Int) (sm : Bool) {l : List Nat} {kk ee : Int} (hl : goN (letH t rs a) (fun u v => (c u v : Int)) 7 fr [] 0 = (l, kk, ee)) : Calls Tryz.prog 99 #[pv T, iv fr, iv a, .bool sm] w fun e w' => TripO w w' e l kk ee := by
  obtain ⟨Q, V, ao, cp, h, hc, hr, e⟩ := H
  exact wgo_any h.h hr ho h.a fr a sm hl
end
/-- The trip of a letter, whatever its address: where nobody owns it, it stays where it is. -/
theorem trip_any {t : Tn} {c : Nat → Nat → Nat} (H : TnA t c) {rs : List Rt} (ho : Ows rs) (a : Int) {x : Nat} (hx : x < 6) :
    (lookL rs a = -1 ∧ goN (letH t rs a) (fun u v => (c u v : Int)) 7 (x : Int) [] 0 = ([x], 0, -1)) ∨
    ∃ (z : Nat) (l : List Nat) (e : Nat), z < 6 ∧ lookL rs a = (z : Int) ∧ Trip t c z x l e ∧ goN (letH t rs a) (fun u v => (c u v : Int)) 7 (x : Int) [] 0 = (l, ((sumC c l (l.length - 1) : Nat) : Int), if e = z then (z : Int) else -1) := by
  rcases Ows.look ho.hop a with q | q
  · exact .inl ⟨q, go_none _ hx (let_none ho q x)⟩
  · obtain ⟨z, hz⟩ : ∃ z : Nat, lookL rs a = (z : Int) := ⟨(lookL rs a).toNat, by have := q.1; omega⟩
    have hz6 : z < 6 := by have := q.2; omega
    obtain ⟨l, e, tr⟩ := trip_of H hx hz6
    refine .inr ⟨z, l, e, hz6, hz, tr, ?_⟩
    rw [goN_congr (g := hopT t z) (fun y hy => let_own ho hz6 hz hy), tr.go H hz6]
/-- By the tables of one time no letter goes round, whatever links cost. -/
theorem go_straight {t0 : Tn} {c0 : Nat → Nat → Nat} (A0 : TnA t0 c0) {rs0 : List Rt} (h0 : Ows rs0) (cs : Nat → Nat → Int) (fr a : Int) : (goN (letH t0 rs0 a) cs 7 fr [] 0).2.2 ≠ -2 := by
  rw [(goN_free (cs := cs) (ds := fun u v => (c0 u v : Int)) 7 fr [] 0 0).2]
  by_cases hf : isN fr
  · obtain ⟨x, rfl⟩ : ∃ x : Nat, fr = (x : Int) := ⟨fr.toNat, by have := hf.1; omega⟩
    rcases trip_any A0 h0 a (x := x) (by have := hf.2; omega) with ⟨_, q⟩ | ⟨z, l, e, _, _, _, q⟩
    · rw [q]; show (-1 : Int) ≠ -2; decide
    · rw [q]
      by_cases r : e = z
      · show (if e = z then (z : Int) else -1) ≠ -2
        rw [if_pos r]; omega
      · show (if e = z then (z : Int) else -1) ≠ -2
        rw [if_neg r]; decide
  · rw [go_out _ _ hf]; decide
section
variable {M : Nat → Prop} {B w w' : World} {X P : Nat} {SW S : Nat → Prop} {c : Nat → Nat → Nat} {t : Tn} {n : Nat} {rs : List Rt} {t0 : Tn} {c0 : Nat → Nat → Nat} {rs0 : List Rt} {sm : Bool}
/-- A letter by tables that were made when the net was t0, the owners rs0; the links cost c now. -/
theorem Wq.go (HW : Wq w X P SW (tabL t0 rs0 sm)) (H : Pq M B w P S c t n rs) (A0 : TnA t0 c0) (h0 : Ows rs0) (fr a : Int) {l : List Nat} {kk ee : Int} (hl : goN (letH t0 rs0 a) (fun u v => (c u v : Int)) 7 fr [] 0 = (l, kk, ee)) : Calls Tryz.prog 13 #[pv X, iv fr, iv a] w fun e w' => TripO w w' e l kk ee := by
  refine walkGo_any HW H (fun x _ => (tabL_look A0 h0.tab sm x a).1) fr a (fun e => ?_) ?_
  · have := go_straight A0 h0 (fun u v => (c u v : Int)) fr a
    rw [hl] at this
    exact this e
  rw [← hl]
  congr 1
  funext x
  exact (tabL_look A0 h0.tab sm x a).2
end

end Go.Proofs.YtfcknkanbcndjagGreatDoor

/- BOUNDS OF A TRIP. -/
namespace Go.Proofs.YtfcknkanbcndjagGreatDoor

theorem sumC_le {c : Nat → Nat → Nat} (h : Lk c) (l : List Nat) : ∀ k, sumC c l k ≤ 15 * k
  | 0 => by simp [sumC]
  | k + 1 => by
    have ih := sumC_le h l k
    unfold sumC
    split
    · have := h.le (l[k]'(by omega)) l[k + 1]
      omega
    · omega
/-- A trip's nodes, cost and end. -/
theorem trip_bd {t : Tn} {c : Nat → Nat → Nat} (H : TnA t c) {rs : List Rt} (ho : Ows rs) (a fr : Int) {l : List Nat} {kk ee : Int} (e : goN (letH t rs a) (fun u v => (c u v : Int)) 7 fr [] 0 = (l, kk, ee)) : l.length ≤ 6 ∧ (∀ y ∈ l, y < 6) ∧ i64B kk ∧ i64B ee := by
  by_cases hf : isN fr
  · obtain ⟨x, rfl⟩ := Int.eq_ofNat_of_zero_le hf.1
    have hx : x < 6 := by omega
    rcases trip_any H ho a hx with ⟨_, q⟩ | ⟨z, l', e', hz, _, ht, q⟩
    · rw [q] at e
      simp only [Prod.mk.injEq] at e
      obtain ⟨rfl, rfl, rfl⟩ := e
      exact ⟨by simp, by simpa using hx, ⟨by decide, by decide⟩, ⟨by decide, by decide⟩⟩
    · rw [q] at e
      simp only [Prod.mk.injEq] at e
      obtain ⟨rfl, rfl, rfl⟩ := e
      have := sumC_le H.s.tc.lk l' (l'.length - 1)
      have h6 := ht.len
      refine ⟨h6, ht.lt, i64_of ⟨by omega, by omega⟩, i64_of ?_⟩
      split <;> constructor <;> omega
  · rw [go_out _ _ hf] at e
    simp only [Prod.mk.injEq] at e
    obtain ⟨rfl, rfl, rfl⟩ := e
    exact ⟨by simp, by simp, ⟨by decide, by decide⟩, ⟨by decide, by decide⟩⟩

end Go.Proofs.YtfcknkanbcndjagGreatDoor

/- CONTRACT OF the program's talk: letter. -/
namespace Go.Proofs.YtfcknkanbcndjagGreatDoor
open Go.RowKit
attribute [local go_sem] Ext.all Ext.cell Ext.frozen Ext.lt Ext.lt1 Ext.lt2 Ext.ne Ext.ne'
/-- Numbers put behind two that were just made. -/
theorem app_two (Y : World) (a b : Int) (ty : TypeId) {ao : Option Addr} {cp : Nat} {l : List Nat} (hl : NmAt (Y.alloc (.cells #[iv a, iv b] 3)) ao l) (hm : l.length ≤ 1000) (hc : l.length ≤ cp) :
    ∃ v' w', (Builtin.append_ #[34, 34] ty #[.slice (some ⟨Y.heap.size, 0, none⟩) 2 2, .slice ao l.length cp]).run Tryz.prog (Y.alloc (.cells #[iv a, iv b] 3)) = .ok v' w' ∧ OwnV 3 Y w' v' ((a :: b :: l.map fun (n : Nat) => (n : Int)).map iv) ∧ Gr Y w' := by
  obtain ⟨i0, hi, hz0, hz1, hz2⟩ := info_parts Tryz.info3
  have hY := heap_alloc_new Y (.cells #[iv a, iv b] 3)
  have hO : (Y.alloc (.cells #[iv a, iv b] 3)).ownsRow Y.heap.size 3 1 (.slice (some ⟨Y.heap.size, 0, none⟩) 2 2) 2 [iv a, iv b] :=
    ⟨rfl, .inr ⟨Y.heap.size, 2, #[iv a, iv b], rfl, Nat.le_refl _, hY, Nat.le_refl _, by unfold maxLen; omega, rfl, rfl⟩⟩
  have hg : Gr Y (Y.alloc (.cells #[iv a, iv b] 3)) := (Gr.refl Y).alloc _
  by_cases h0 : l = []
  · subst h0
    refine ⟨.slice (some ⟨Y.heap.size, 0, none⟩) 2 2, Y.alloc (.cells #[iv a, iv b] 3), ?_, hO, hg⟩
    cases ao <;> simp [Builtin.append_, run_underlying Tryz.underlying34, sizeOf, typeInfo, hi, Builtin.lenOf, Builtin.firstCells, loadCells, loadCellsFrom, storeCells]
  · rcases hl with h | ⟨q, o, rfl, hq, hcs⟩
    · exact absurd h h0
    obtain ⟨v', w', h1, h2, h3, _⟩ := run_append_own (P := Tryz.prog) _ Y.heap.size 34 ty 3 i0 _ 1 8 Tryz.underlying34 hi hz0 hz1 hz2 (by rfl) (by decide) _ 2 [iv a, iv b] hO
      ⟨q, o, none⟩ l.length cp (l.map fun (n : Nat) => iv (n : Int)) (by simp)
      (fun j u hj => by
        rw [List.getElem?_map, Option.map_eq_some_iff] at hj
        obtain ⟨y, hy, rfl⟩ := hj
        obtain ⟨hj', rfl⟩ := List.getElem?_eq_some_iff.1 hy
        rw [Addr.add_lit]
        exact hcs j hj')
      (by intro u hu; obtain ⟨y, _, rfl⟩ := List.mem_map.1 hu; rfl) (by unfold maxLen; omega) (by omega) (by simp)
    refine ⟨v', w', h1, ?_, hg.grown h3 (fun k hk => by cases hk; exact Nat.le_refl _)⟩
    unfold OwnV
    have e : (a :: b :: l.map fun (n : Nat) => (n : Int)).map iv = [iv a, iv b] ++ l.map fun (n : Nat) => iv (n : Int) := by simp
    rw [e]
    have e2 : ([iv a, iv b] ++ l.map fun (n : Nat) => iv (n : Int)).length = 2 + l.length := by simp; omega
    rw [e2]
    exact h2
section
variable {W : World} {M : Nat → Prop} {B w w' : World} {t P : Nat} {S S' : Nat → Prop} {v v' : Value} {s s' : Dk} {n n' : Nat} {told told' : Tx}
set_option maxRecDepth 20000 in
set_option maxHeartbeats 8000000 in
/-- The program's letter. -/
theorem Td.letter (H : Td W M B w t P S v s n told) (hL : Lb W) (fr x : Int) (h1 : told.length ≤ 2900000) :
    Calls Tryz.prog 86 #[pv t, iv fr, iv x] w fun e w' => e = .returned (.tuple #[]) ∧ ∃ v', Td W M B w' t P S v' s n (told ++ toldA s (.letter fr x)) ∧ Chg w w' (ownK t v) (ownK t v') := by
  have HE : Hid (toldA s (.letter fr x) = trpT (goN (letH s.t s.rs x) (fun u v => (s.c u v : Int)) 7 fr [] 0)) := rfl
  rw [HE.out]
  clear HE
  obtain ⟨l, kk, ee, hl⟩ : ∃ l kk ee, goN (letH s.t s.rs x) (fun u v => (s.c u v : Int)) 7 fr [] 0 = (l, kk, ee) := ⟨_, _, _, rfl⟩
  obtain ⟨hl6, hlt, hkk, hee⟩ := trip_bd H.post.a H.post.ows x fr hl
  have HN := hide (walkNew_any H.post (hL.gr H.gW).t64 true)
  have HG : Hid (∀ V, Gr w V → ∀ X SW, Wq V X P SW (tabL s.t s.rs true) → Calls Tryz.prog 13 #[pv X, iv fr, iv x] V fun e w' => TripO V w' e l kk ee) := fun V g X SW hw => hw.go (H.post.gr g) H.post.a H.post.ows fr x hl
  rw [hl]
  have HT : Hid (trpT (l, kk, ee) = sayD ([116, 114, 105, 112] :: (ee :: kk :: l.map fun (n : Nat) => (n : Int)).map ito)) := by
    unfold Hid trpT
    simp [wTrip, Function.comp_def]
  rw [HT.out]
  have HI : Hid (∀ n ∈ (ee :: kk :: l.map fun (n : Nat) => (n : Int)), i64B n) := by
    intro n hn
    simp only [List.mem_cons, List.mem_map] at hn
    rcases hn with rfl | rfl | ⟨y, hy, rfl⟩
    · exact hee
    · exact hkk
    · have := hlt y hy
      exact i64_of ⟨by omega, by omega⟩
  obtain ⟨ct, ltt⟩ := H.cell0
  have HH := hide H
  have HL := hide hL
  clear H hL hl hlt hkk hee HT
  go_enter Tryz.func86, Tryz.ntmps86
  go_upto_region 1 with (first
    | (go_at_call 12; refine HN.out.mono ?_; rintro e w1 ⟨X, SW, rfl, hq, g1, hy⟩; have HQ := hide hq; have G1 := hide g1; clear hq g1 hy)
    | (go_at_call 13; (with_reducible refine (HG.out _ G1.out X SW HQ.out).mono ?_); rintro e w2 ⟨ao, cp, rfl, ⟨hn, _, hc⟩, g2⟩; have NA := hide hn; have G2 := hide (G1.out.trans g2); clear hn g2))
  have h0 := heap_alloc_new w2 (.cells #[.slice ao l.length cp, iv kk, iv ee] 36)
  refine wp_gen (fun Y => Hid (Gr w Y) ∧ Hid (NmAt Y ao l) ∧ Y.cell? ⟨w2.heap.size, 0, none⟩ = some (.slice ao l.length cp) ∧ Y.cell? ⟨w2.heap.size, 1, none⟩ = some (iv kk) ∧ Y.cell? ⟨w2.heap.size, 2, none⟩ = some (iv ee) ∧ w2.heap.size < Y.heap.size) ⟨G2.out.alloc _, NA.out.gr ((Gr.refl w2).alloc _), by unfold World.cell?; rw [h0]; rfl, by unfold World.cell?; rw [h0]; rfl, by unfold World.cell?; rw [h0]; rfl, by simp⟩ ?_
  rintro Y ⟨GY, NY, q0, q1, q2, lq⟩
  clear h0 HN HG HQ ct ltt
  generalize w2.heap.size = q at *
  obtain ⟨v', w3, hr, ho, g3⟩ := app_two Y ee kk 34 (NY.out.gr ((Gr.refl Y).alloc _)) (by omega) hc
  obtain ⟨ao', c', hv, hva, hcl⟩ := ho.shape
  have hlen : ((ee :: kk :: l.map fun (n : Nat) => (n : Int)).map iv).length = (ee :: kk :: l.map fun (n : Nat) => (n : Int)).length := List.length_map ..
  rw [hlen] at hv
  have hnb : ∀ b o, (ee :: kk :: l.map fun (n : Nat) => (n : Int)) ≠ [] → ao' = some ⟨b, o, none⟩ → ¬ ownK t v b := fun b o _ e hb => by
    have h1 := HH.out.tk.own_lt hb
    have h2 := Below.size GY.out
    rcases ho.2 with ⟨h3, _⟩ | ⟨y, cap, cur, h3, h4, _⟩
    · rw [hv, e] at h3
      simp only [Value.slice.injEq] at h3
      exact absurd h3.1 (by simp)
    · rw [hv, e] at h3
      simp only [Value.slice.injEq, Option.some.injEq, Addr.mk.injEq] at h3
      have := h3.1.1
      omega
  have HS := hide ((HH.out.gr (GY.out.trans g3)).say HL.out [116, 114, 105, 112] (cp := c') hva hnb HI.out (by omega) (by decide) (by simp; omega))
  have HR := hide hr
  have G3 := hide (GY.out.trans g3)
  rw [hv] at HR
  clear hr ho g3 hv hva hcl hlen hnb NA NY hc HI
  have HZ : Hid (sayN [116, 114, 105, 112] (ee :: kk :: l.map fun (n : Nat) => (n : Int)) = sayD ([116, 114, 105, 112] :: (ee :: kk :: l.map fun (n : Nat) => (n : Int)).map ito)) := sayN_is _ _
  rw [HZ.out] at HS
  clear HZ
  generalize (ee :: kk :: l.map fun (n : Nat) => (n : Int)).length = m at *
  go_wp2_with (first
    | (at_builtin; refine Lib.wpList_append_run _ rfl _ _ _ _ rfl _ _ rfl rfl _ _ HR.out ?_)
    | (go_at_call 89; refine HS.out.mono ?_; rintro e w4 ⟨rfl, v4, t4, k4⟩; have T4 := hide t4; have K4 := hide ((G3.out.chg _).trans k4); clear t4 k4))
  exact bodyPost_end (results_none rfl _ _ _) rfl ⟨rfl, v4, T4.out, K4.out⟩
end

end Go.Proofs.YtfcknkanbcndjagGreatDoor

/- CONTRACTS OF the program's talk: what the table's closures do. -/
namespace Go.Proofs.YtfcknkanbcndjagGreatDoor
open Go.RowKit
attribute [local go_sem] Ext.all Ext.cell Ext.frozen Ext.lt Ext.lt1 Ext.lt2 Ext.ne Ext.ne'
/-- The own blocks of a talk and its Post. -/
def ownA (S : Nat → Prop) (t : Nat) (v : Value) (b : Nat) : Prop := S b ∨ ownK t v b
section
variable {W : World} {M : Nat → Prop} {B w w' : World} {t P tb : Nat} {S S' : Nat → Prop} {v v' : Value} {s s' : Dk} {n n' : Nat} {told told' : Tx}
theorem Chg.left (k : Chg w w' S S') : Chg w w' (ownA S t v) (ownA S' t v) :=
  ⟨k.kp.mono fun _ _ hb => ⟨hb.1, fun e => hb.2 (.inl e)⟩, fun b hb => hb.elim (fun h => (k.nw b h).imp .inl id) (fun h => .inl (.inr h))⟩
theorem Chg.right (k : Chg w w' (ownK t v) (ownK t v')) : Chg w w' (ownA S t v) (ownA S t v') :=
  ⟨k.kp.mono fun _ _ hb => ⟨hb.1, fun e => hb.2 (.inr e)⟩, fun b hb => hb.elim (fun h => .inl (.inl h)) (fun h => (k.nw b h).imp .inr id)⟩
/-- What a closure reads. -/
abbrev CC (X : World) (tb t P q : Nat) (x : Sy) : Prop := X.cell? ⟨tb, 0, none⟩ = some (pv t) ∧ X.cell? ⟨t, 0, none⟩ = some (pv P) ∧ X.cell? ⟨q, 0, none⟩ = some (iv x.k) ∧ X.cell? ⟨q, 1, none⟩ = some (iv x.a) ∧ X.cell? ⟨q, 2, none⟩ = some (iv x.b) ∧ X.cell? ⟨q, 3, none⟩ = some (iv x.n) ∧ X.cell? ⟨q, 4, none⟩ = some (iv x.l) ∧ X.cell? ⟨q, 5, none⟩ = some (iv x.p)
/-- What is left behind a thing done and told. -/
def TdO (W : World) (M : Nat → Prop) (B w : World) (t P : Nat) (S : Nat → Prop) (v : Value) (s' : Dk) (n' : Nat) (told' : Tx) (e : Ending) (w' : World) : Prop :=
  e = .returned (.tuple #[]) ∧ ∃ S' v', Td W M B w' t P S' v' s' n' told' ∧ Chg w w' (ownA S t v) (ownA S' t v')
theorem TdO.of {w0 : World} {e : Ending} (h : e = .returned (.tuple #[]) ∧ ∃ v', Td W M B w' t P S v' s n told' ∧ Chg w w' (ownK t v) (ownK t v')) (g : Gr w0 w) (h0 : n ≤ n') : TdO W M B w0 t P S v s n' told' e w' := by
  obtain ⟨he, v', ht, k⟩ := h
  exact ⟨he, S, v', ht.more h0, ((g.chg _).trans k).right⟩
/-- The box of a closure's variable. -/
structure Bxt (w : World) (t tb : Nat) (S : Nat → Prop) (v : Value) : Prop where
  c : w.cell? ⟨tb, 0, none⟩ = some (pv t)
  l : tb < w.heap.size
  n : ¬ ownA S t v tb
theorem Bxt.gr (h : Bxt w t tb S v) (g : Gr w w') : Bxt w' t tb S v := ⟨(Below.cell g (p := ⟨tb, 0, none⟩) h.l).trans h.c, Nat.lt_of_lt_of_le h.l (Below.size g), h.n⟩
theorem Bxt.chg (h : Bxt w t tb S v) (k : Chg w w' (ownA S t v) (ownA S' t v')) : Bxt w' t tb S' v' :=
  ⟨(World.cell?_of_block (a := ⟨tb, 0, none⟩) (k.kp.block tb h.l ⟨h.l, h.n⟩)).trans h.c, Nat.lt_of_lt_of_le h.l k.kp.size, fun e => (k.nw tb e).elim h.n (fun q => by have := h.l; omega)⟩
set_option maxRecDepth 20000 in
set_option maxHeartbeats 4000000 in
/-- A step. -/
theorem do_step (H : Td W M B w t P S v s n told) (hL : Lb W) (hb : Bxt w t tb S v) (hn : n ≤ 100000) (h1 : told.length ≤ 2900000) (x : Sy) :
    Calls Tryz.prog 76 #[.agg (sxC x), pv tb] w fun e w' => TdO W M B w t P S v (doneA s (.step ⟨x.k, x.a, x.b, x.n⟩ x.l x.p)) (n + 1) (told ++ toldA s (.step ⟨x.k, x.a, x.b, x.n⟩ x.l x.p)) e w' := by
  obtain ⟨q0, q1⟩ := fdo_code s.t s.rs ⟨x.k, x.a, x.b, x.n⟩ x.l x.p
  have HD : Hid (∀ V, Gr w V → Calls Tryz.prog 16 #[pv P, .agg (sxC x)] V fun e w' => e = .returned (iv (fdoC s.t s.rs ⟨x.k, x.a, x.b, x.n⟩ x.l x.p).2) ∧ ∃ S', Td W M B w' t P S' v (doneA s (.step ⟨x.k, x.a, x.b, x.n⟩ x.l x.p)) (n + 1) told ∧ Chg V w' S S') := fun V g =>
    ((H.post.gr g).do hn ⟨x.k, x.a, x.b, x.n⟩ x.l x.p).mono fun e w' ⟨he, S', hp, k⟩ => ⟨he, S', (H.gr g).done (s' := doneA s (.step ⟨x.k, x.a, x.b, x.n⟩ x.l x.p)) hp k, k⟩
  have HT : Hid (toldA s (.step ⟨x.k, x.a, x.b, x.n⟩ x.l x.p) = codeT (fdoC s.t s.rs ⟨x.k, x.a, x.b, x.n⟩ x.l x.p).2) := rfl
  rw [HT.out]
  clear HT
  have HC : Hid (∀ V S' s' n', Td W M B V t P S' v s' n' told → Calls Tryz.prog 77 #[pv t, iv (fdoC s.t s.rs ⟨x.k, x.a, x.b, x.n⟩ x.l x.p).2] V fun e w' => e = .returned (.tuple #[]) ∧ ∃ v', Td W M B w' t P S' v' s' n' (told ++ codeT (fdoC s.t s.rs ⟨x.k, x.a, x.b, x.n⟩ x.l x.p).2) ∧ Chg V w' (ownK t v) (ownK t v')) := fun V S' s' n' h => h.code hL (i64_of ⟨by omega, by omega⟩) h1
  obtain ⟨ct, ltt⟩ := H.cell0
  obtain ⟨cb, lb, nb⟩ := hb
  have HH := hide H
  have HNB := hide nb
  clear H hL q0 q1 nb
  generalize doneA s (.step ⟨x.k, x.a, x.b, x.n⟩ x.l x.p) = s' at *
  generalize (fdoC s.t s.rs ⟨x.k, x.a, x.b, x.n⟩ x.l x.p).2 = code at *
  generalize hcd : codeT code = ctx at *
  clear hcd
  obtain ⟨xk, xa, xb, xn, xl, xp⟩ := x
  go_enter Tryz.func76, Tryz.ntmps76
  go_upto_region 1 with (fail)
  have g0 : Gr w (w.alloc (.cells (sxC ⟨xk, xa, xb, xn, xl, xp⟩) 54)) := (Gr.refl w).alloc _
  refine wp_gen (fun V => Hid (Gr w V) ∧ Hid (SxAt V w.heap.size ⟨xk, xa, xb, xn, xl, xp⟩)) ⟨g0, heap_alloc_new w _⟩ ?_
  clear g0
  rintro V ⟨GV, QV⟩
  have gD := hide (GV.out.drew)
  have HQ : Hid (∀ b, ownA S t v b → b < w.heap.size) := fun b hb => hb.elim (fun h => HH.out.post.lt h) (fun h => HH.out.tk.own_lt h)
  obtain ⟨q, hq⟩ : ∃ q, q = w.heap.size := ⟨_, rfl⟩
  rw [← hq] at QV HQ ⊢
  clear hq
  have HCC : Hid (∀ V', Kp (fun b => b = tb ∨ b = t ∨ b = q) V V' → CC V' tb t P q ⟨xk, xa, xb, xn, xl, xp⟩) := fun V' k =>
    ⟨(World.cell?_of_block (a := ⟨tb, 0, none⟩) (k.block tb (Nat.lt_of_lt_of_le lb (Below.size GV.out)) (.inl rfl))).trans ((Below.cell GV.out (p := ⟨tb, 0, none⟩) lb).trans cb),
     (World.cell?_of_block (a := ⟨t, 0, none⟩) (k.block t (Nat.lt_of_lt_of_le ltt (Below.size GV.out)) (.inr (.inl rfl)))).trans ((Below.cell GV.out (p := ⟨t, 0, none⟩) ltt).trans ct),
     (QV.out.kp k (.inr (.inr rfl))).cells⟩
  have HK1 : Hid (∀ w1 S1, Chg V.drew w1 S S1 → Kp (fun b => b = tb ∨ b = t ∨ b = q) V w1) := fun w1 S1 k1 => by
    refine ((Gr.refl V).drew.kp _).trans (k1.kp.mono fun b hb e => ⟨hb, fun hs => ?_⟩)
    rcases e with rfl | rfl | rfl
    · exact HNB.out (.inl hs)
    · exact HH.out.ap b hs (.inl rfl)
    · have := HQ.out b (.inl hs); omega
  have HDD : Hid (Calls Tryz.prog 16 #[pv P, .agg (sxC ⟨xk, xa, xb, xn, xl, xp⟩)] V.drew fun e w' => e = .returned (iv code) ∧ ∃ S', Td W M B w' t P S' v s' (n + 1) told ∧ Chg V.drew w' S S' ∧ CC w' tb t P q ⟨xk, xa, xb, xn, xl, xp⟩) :=
    (HD.out V.drew gD.out).mono fun e w' ⟨he, S', ht, k⟩ => ⟨he, S', ht, k, HCC.out w' (HK1.out w' S' k)⟩
  have HCD : Hid (∀ w1 S1, Td W M B w1 t P S1 v s' (n + 1) told → Chg V.drew w1 S S1 → Calls Tryz.prog 77 #[pv t, iv code] w1 fun e w' => e = .returned (.tuple #[]) ∧ TdO W M B w t P S v s' (n + 1) (told ++ ctx) e w' ∧ CC w' tb t P q ⟨xk, xa, xb, xn, xl, xp⟩) := fun w1 S1 h k => by
    refine (HC.out w1 S1 s' (n + 1) h).mono ?_
    rintro e w2 ⟨he, v2, t2, k2⟩
    have kA : Chg w w2 (ownA S t v) (ownA S1 t v2) := ((gD.out.chg _).trans k.left).trans k2.right
    refine ⟨he, ⟨he, S1, v2, t2, kA⟩, ?_⟩
    have k1 := HK1.out w1 S1 k
    have c1 := HCC.out w1 k1
    have hs1 := k1.size
    have lw := Below.size GV.out
    have kp2 : Kp (fun b => b = tb ∨ b = q) w1 w2 := k2.kp.mono fun b hb e => ⟨hb, fun ho => by
      rcases e with rfl | rfl
      · exact HNB.out (.inr ho)
      · have := HQ.out b (.inr ho); omega⟩
    have qx : SxAt w1 q ⟨xk, xa, xb, xn, xl, xp⟩ := QV.out.kp k1 (.inr (.inr rfl))
    exact ⟨(World.cell?_of_block (a := ⟨tb, 0, none⟩) (kp2.block tb (by omega) (.inl rfl))).trans c1.1, t2.cell0.1, (qx.kp kp2 (.inr rfl)).cells⟩
  clear HD HC HNB HK1
  have C0 := hide (HCC.out V.drew ((Gr.refl V).drew.kp _))
  clear HCC cb ct
  go_region_held3 (fun X => CC X tb t P q ⟨xk, xa, xb, xn, xl, xp⟩) (first | exact C0.out | exact C1.out | exact C2.out | go_keep)
    (first
    | (go_at_call 16; with_reducible refine HDD.out.mono ?_; rintro e w1 ⟨rfl, S1, t1, k1, c1⟩; have T1 := hide t1; have K1 := hide k1; have C1 := hide c1; clear t1 k1 c1)
    | (go_at_call 77; with_reducible refine (HCD.out _ S1 T1.out K1.out).mono ?_; rintro e w2 ⟨rfl, t2, c2⟩; have T2 := hide t2; have C2 := hide c2; clear t2 c2)
    | fail)
  all_goals
    go_wp2_with fail
    exact bodyPost_end (results_none rfl _ _ _) rfl T2.out
set_option maxRecDepth 20000 in
set_option maxHeartbeats 4000000 in
/-- Ways. -/
theorem do_ways (H : Td W M B w t P S v s n told) (hL : Lb W) (hb : Bxt w t tb S v) (hn : n ≤ 100000) (h1 : told.length ≤ 2900000) (x : Sy) :
    Calls Tryz.prog 78 #[.agg (sxC x), pv tb] w fun e w' => TdO W M B w t P S v s (n + 1) (told ++ toldA s (.ways x.a)) e w' := by
  have HX : Hid (∀ V, Gr w V → Calls Tryz.prog 79 #[pv t, iv x.a] V fun e w' => TdO W M B w t P S v s (n + 1) (told ++ toldA s (.ways x.a)) e w') := fun V g => ((H.gr g).ways hL hn x.a h1).mono fun e w' h => TdO.of h g (by omega)
  obtain ⟨cb, lb, _⟩ := hb
  obtain ⟨xk, xa, xb, xn, xl, xp⟩ := x
  clear H hL hn h1
  generalize told ++ toldA s _ = z at *
  go_enter Tryz.func78, Tryz.ntmps78
  go_upto_region 1 with (fail)
  have g0 : Gr w (w.alloc (.cells (sxC ⟨xk, xa, xb, xn, xl, xp⟩) 54)) := (Gr.refl w).alloc _
  refine wp_gen (fun V => Hid (Gr w V) ∧ Hid (SxAt V w.heap.size ⟨xk, xa, xb, xn, xl, xp⟩)) ⟨g0, heap_alloc_new w _⟩ ?_
  clear g0
  rintro V ⟨GV, QV⟩
  have c0 := (Below.cell GV.out (p := ⟨tb, 0, none⟩) lb).trans cb
  obtain ⟨q0, q1, q2, q3, q4, q5⟩ := QV.out.cells
  go_wp2_with (go_at_call 79; refine (HX.out V GV.out).mono ?_; rintro e w1 ⟨rfl, h⟩; have HH := hide h; clear h)
  exact bodyPost_end (results_none rfl _ _ _) rfl ⟨rfl, HH.out⟩
set_option maxRecDepth 20000 in
set_option maxHeartbeats 4000000 in
/-- News. -/
theorem do_news (H : Td W M B w t P S v s n told) (hL : Lb W) (hb : Bxt w t tb S v) (hn : n ≤ 100000) (h1 : told.length ≤ 2900000) (x : Sy) :
    Calls Tryz.prog 80 #[.agg (sxC x), pv tb] w fun e w' => TdO W M B w t P S v s (n + 1) (told ++ toldA s (.news)) e w' := by
  have HX : Hid (∀ V, Gr w V → Calls Tryz.prog 81 #[pv t] V fun e w' => TdO W M B w t P S v s (n + 1) (told ++ toldA s (.news)) e w') := fun V g => ((H.gr g).news hL hn h1).mono fun e w' h => TdO.of h g (by omega)
  obtain ⟨cb, lb, _⟩ := hb
  obtain ⟨xk, xa, xb, xn, xl, xp⟩ := x
  clear H hL hn h1
  generalize told ++ toldA s _ = z at *
  go_enter Tryz.func80, Tryz.ntmps80
  go_upto_region 1 with (fail)
  have g0 : Gr w (w.alloc (.cells (sxC ⟨xk, xa, xb, xn, xl, xp⟩) 54)) := (Gr.refl w).alloc _
  refine wp_gen (fun V => Hid (Gr w V) ∧ Hid (SxAt V w.heap.size ⟨xk, xa, xb, xn, xl, xp⟩)) ⟨g0, heap_alloc_new w _⟩ ?_
  clear g0
  rintro V ⟨GV, QV⟩
  have c0 := (Below.cell GV.out (p := ⟨tb, 0, none⟩) lb).trans cb
  obtain ⟨q0, q1, q2, q3, q4, q5⟩ := QV.out.cells
  go_wp2_with (go_at_call 81; refine (HX.out V GV.out).mono ?_; rintro e w1 ⟨rfl, h⟩; have HH := hide h; clear h)
  exact bodyPost_end (results_none rfl _ _ _) rfl ⟨rfl, HH.out⟩
set_option maxRecDepth 20000 in
set_option maxHeartbeats 4000000 in
/-- A letter. -/
theorem do_letter (H : Td W M B w t P S v s n told) (hL : Lb W) (hb : Bxt w t tb S v) (_hn : n ≤ 100000) (h1 : told.length ≤ 2900000) (x : Sy) :
    Calls Tryz.prog 85 #[.agg (sxC x), pv tb] w fun e w' => TdO W M B w t P S v s (n + 1) (told ++ toldA s (.letter x.a x.n)) e w' := by
  have HX : Hid (∀ V, Gr w V → Calls Tryz.prog 86 #[pv t, iv x.a, iv x.n] V fun e w' => TdO W M B w t P S v s (n + 1) (told ++ toldA s (.letter x.a x.n)) e w') := fun V g => ((H.gr g).letter hL x.a x.n h1).mono fun e w' h => TdO.of h g (by omega)
  obtain ⟨cb, lb, _⟩ := hb
  obtain ⟨xk, xa, xb, xn, xl, xp⟩ := x
  clear H hL h1
  generalize told ++ toldA s _ = z at *
  go_enter Tryz.func85, Tryz.ntmps85
  go_upto_region 1 with (fail)
  have g0 : Gr w (w.alloc (.cells (sxC ⟨xk, xa, xb, xn, xl, xp⟩) 54)) := (Gr.refl w).alloc _
  refine wp_gen (fun V => Hid (Gr w V) ∧ Hid (SxAt V w.heap.size ⟨xk, xa, xb, xn, xl, xp⟩)) ⟨g0, heap_alloc_new w _⟩ ?_
  clear g0
  rintro V ⟨GV, QV⟩
  have c0 := (Below.cell GV.out (p := ⟨tb, 0, none⟩) lb).trans cb
  obtain ⟨q0, q1, q2, q3, q4, q5⟩ := QV.out.cells
  go_wp2_with (go_at_call 86; refine (HX.out V GV.out).mono ?_; rintro e w1 ⟨rfl, h⟩; have HH := hide h; clear h)
  exact bodyPost_end (results_none rfl _ _ _) rfl ⟨rfl, HH.out⟩
theorem is_gr {w w' : World} {tb : Nat} {rs : List Rt} (h : Is w tb rs) (g : Gr w w') : Is w' tb rs := by
  obtain ⟨M, v, hS⟩ := h
  exact ⟨M, v, hS.gr g⟩
set_option maxRecDepth 20000 in
set_option maxHeartbeats 4000000 in
/-- A full table. -/
theorem do_full (H : Td W M B w t P S v s n told) (hL : Lb W) (hb : Bxt w t tb S v) (h1 : told.length ≤ 2900000) (x : Sy) :
    Calls Tryz.prog 82 #[.agg (sxC x), pv tb] w fun e w' => TdO W M B w t P S v s (n + 1) (told ++ toldA s (.full x.a)) e w' := by
  have HF : Hid (∀ V, Gr w V → Calls Tryz.prog 32 #[pv P, iv x.a] V fun e w1 => ∃ r, e = .returned r ∧ (∀ V', Gr w1 V' → Calls Tryz.prog 83 #[pv t, r] V' fun e w' => e = .returned (.tuple #[]) ∧ ∃ v', Td W M B w' t P S v' s n (told ++ toldA s (.full x.a)) ∧ Chg V' w' (ownK t v) (ownK t v')) ∧ Gr V w1) := fun V g => by
    by_cases hx : isN x.a
    · obtain ⟨y, hy⟩ : ∃ y : Nat, x.a = (y : Int) := ⟨x.a.toNat, by have := hx.1; omega⟩
      have hT := (tabL_look H.post.a H.post.ows.tab false y 0).1
      refine ((H.post.gr g).full hx).mono ?_
      rintro e w1 ⟨ub, rfl, hi, g1⟩
      refine ⟨_, rfl, fun V' g' => ?_, g1⟩
      have hE : toldA s (.full x.a) = (tabL s.t s.rs false y).flatMap rouL ++ sayD [wEnd] := by
        show tabT x.a _ = _
        unfold tabT
        rw [if_pos hx, hy]
        rfl
      rw [hE]
      rw [hy] at hi
      exact ((H.gr (g.trans (g1.trans g'))).routes hL h1 (tb := ub) (l := tabL s.t s.rs false y) (is_gr hi g') hT)
    · refine ((H.post.gr g).full_no hx).mono ?_
      rintro e w1 ⟨rfl, g1⟩
      refine ⟨_, rfl, fun V' g' => ?_, g1⟩
      have hE : toldA s (.full x.a) = sayD [wNo, ito 1] := by
        show tabT x.a _ = _
        unfold tabT
        rw [if_neg hx]
      rw [hE]
      exact (H.gr (g.trans (g1.trans g'))).routes_no hL h1
  obtain ⟨ct, ltt⟩ := H.cell0
  obtain ⟨cb, lb, nb⟩ := hb
  have HH := hide H
  have HNB := hide nb
  clear H hL nb
  obtain ⟨xk, xa, xb, xn, xl, xp⟩ := x
  generalize hz : told ++ toldA s _ = z at *
  clear hz
  go_enter Tryz.func82, Tryz.ntmps82
  go_upto_region 1 with (fail)
  have g0 : Gr w (w.alloc (.cells (sxC ⟨xk, xa, xb, xn, xl, xp⟩) 54)) := (Gr.refl w).alloc _
  refine wp_gen (fun V => Hid (Gr w V) ∧ Hid (SxAt V w.heap.size ⟨xk, xa, xb, xn, xl, xp⟩)) ⟨g0, heap_alloc_new w _⟩ ?_
  clear g0
  rintro V ⟨GV, QV⟩
  have gD := hide (GV.out.drew)
  have HQ : Hid (∀ b, ownA S t v b → b < w.heap.size) := fun b hb => hb.elim (fun h => HH.out.post.lt h) (fun h => HH.out.tk.own_lt h)
  obtain ⟨q, hq⟩ : ∃ q, q = w.heap.size := ⟨_, rfl⟩
  rw [← hq] at QV HQ ⊢
  clear hq
  have HCC : Hid (∀ V', Kp (fun b => b = tb ∨ b = t ∨ b = q) V V' → CC V' tb t P q ⟨xk, xa, xb, xn, xl, xp⟩) := fun V' k =>
    ⟨(World.cell?_of_block (a := ⟨tb, 0, none⟩) (k.block tb (Nat.lt_of_lt_of_le lb (Below.size GV.out)) (.inl rfl))).trans ((Below.cell GV.out (p := ⟨tb, 0, none⟩) lb).trans cb),
     (World.cell?_of_block (a := ⟨t, 0, none⟩) (k.block t (Nat.lt_of_lt_of_le ltt (Below.size GV.out)) (.inr (.inl rfl)))).trans ((Below.cell GV.out (p := ⟨t, 0, none⟩) ltt).trans ct),
     (QV.out.kp k (.inr (.inr rfl))).cells⟩
  have HCD : Hid (∀ w1 r, Gr V.drew w1 → (∀ V', Gr w1 V' → Calls Tryz.prog 83 #[pv t, r] V' fun e w' => e = .returned (.tuple #[]) ∧ ∃ v', Td W M B w' t P S v' s n z ∧ Chg V' w' (ownK t v) (ownK t v')) → Calls Tryz.prog 83 #[pv t, r] w1 fun e w' => e = .returned (.tuple #[]) ∧ TdO W M B w t P S v s (n + 1) z e w' ∧ CC w' tb t P q ⟨xk, xa, xb, xn, xl, xp⟩) := fun w1 r g1 h => by
    refine (h w1 (Gr.refl w1)).mono ?_
    rintro e w2 ⟨he, v2, t2, k2⟩
    refine ⟨he, TdO.of ⟨he, v2, t2, k2⟩ (gD.out.trans g1) (by omega), ?_⟩
    have gV : Gr V w1 := ((Gr.refl V).drew).trans g1
    have c1 := HCC.out w1 (gV.kp _)
    have hs1 := Below.size gV
    have lw := Below.size GV.out
    have kp2 : Kp (fun b => b = tb ∨ b = q) w1 w2 := k2.kp.mono fun b hb e => ⟨hb, fun ho => by
      rcases e with rfl | rfl
      · exact HNB.out (.inr ho)
      · have := HQ.out b (.inr ho); omega⟩
    exact ⟨(World.cell?_of_block (a := ⟨tb, 0, none⟩) (kp2.block tb (by omega) (.inl rfl))).trans c1.1, t2.cell0.1, ((QV.out.gr gV).kp kp2 (.inr rfl)).cells⟩
  have HFF := hide (HF.out V.drew gD.out)
  have C0 := hide (HCC.out V.drew ((Gr.refl V).drew.kp _))
  clear HF HNB cb ct
  go_region_held3 (fun X => CC X tb t P q ⟨xk, xa, xb, xn, xl, xp⟩) (first | exact C0.out | exact C1.out | exact C2.out | go_keep)
    (first
    | (go_at_call 32; with_reducible refine HFF.out.mono ?_; rintro e w1 ⟨r, rfl, hr, g1⟩; have HR := hide hr; have G1 := hide g1; have C1 := hide (HCC.out w1 ((((Gr.refl V).drew).trans g1).kp _)); clear hr g1)
    | (go_at_call 83; with_reducible refine (HCD.out w1 r G1.out HR.out).mono ?_; rintro e w2 ⟨rfl, t2, c2⟩; have T2 := hide t2; have C2 := hide c2; clear t2 c2)
    | fail)
  all_goals
    go_wp2_with fail
    exact bodyPost_end (results_none rfl _ _ _) rfl T2.out
set_option maxRecDepth 20000 in
set_option maxHeartbeats 4000000 in
/-- A small table. -/
theorem do_small (H : Td W M B w t P S v s n told) (hL : Lb W) (hb : Bxt w t tb S v) (h1 : told.length ≤ 2900000) (x : Sy) :
    Calls Tryz.prog 84 #[.agg (sxC x), pv tb] w fun e w' => TdO W M B w t P S v s (n + 1) (told ++ toldA s (.small x.a)) e w' := by
  have HF : Hid (∀ V, Gr w V → Calls Tryz.prog 31 #[pv P, iv x.a] V fun e w1 => ∃ r, e = .returned r ∧ (∀ V', Gr w1 V' → Calls Tryz.prog 83 #[pv t, r] V' fun e w' => e = .returned (.tuple #[]) ∧ ∃ v', Td W M B w' t P S v' s n (told ++ toldA s (.small x.a)) ∧ Chg V' w' (ownK t v) (ownK t v')) ∧ Gr V w1) := fun V g => by
    by_cases hx : isN x.a
    · obtain ⟨y, hy⟩ : ∃ y : Nat, x.a = (y : Int) := ⟨x.a.toNat, by have := hx.1; omega⟩
      have hT := (tabL_look H.post.a H.post.ows.tab true y 0).1
      refine ((H.post.gr g).small (hL.gr (H.gW.trans g)).t64 hx).mono ?_
      rintro e w1 ⟨ub, rfl, hi, g1⟩
      refine ⟨_, rfl, fun V' g' => ?_, g1⟩
      have hE : toldA s (.small x.a) = (tabL s.t s.rs true y).flatMap rouL ++ sayD [wEnd] := by
        show tabT x.a _ = _
        unfold tabT
        rw [if_pos hx, hy]
        rfl
      rw [hE]
      rw [hy] at hi
      exact ((H.gr (g.trans (g1.trans g'))).routes hL h1 (tb := ub) (l := tabL s.t s.rs true y) (is_gr hi g') hT)
    · refine ((H.post.gr g).small_no hx).mono ?_
      rintro e w1 ⟨rfl, g1⟩
      refine ⟨_, rfl, fun V' g' => ?_, g1⟩
      have hE : toldA s (.small x.a) = sayD [wNo, ito 1] := by
        show tabT x.a _ = _
        unfold tabT
        rw [if_neg hx]
      rw [hE]
      exact (H.gr (g.trans (g1.trans g'))).routes_no hL h1
  obtain ⟨ct, ltt⟩ := H.cell0
  obtain ⟨cb, lb, nb⟩ := hb
  have HH := hide H
  have HNB := hide nb
  clear H hL nb
  obtain ⟨xk, xa, xb, xn, xl, xp⟩ := x
  generalize hz : told ++ toldA s _ = z at *
  clear hz
  go_enter Tryz.func84, Tryz.ntmps84
  go_upto_region 1 with (fail)
  have g0 : Gr w (w.alloc (.cells (sxC ⟨xk, xa, xb, xn, xl, xp⟩) 54)) := (Gr.refl w).alloc _
  refine wp_gen (fun V => Hid (Gr w V) ∧ Hid (SxAt V w.heap.size ⟨xk, xa, xb, xn, xl, xp⟩)) ⟨g0, heap_alloc_new w _⟩ ?_
  clear g0
  rintro V ⟨GV, QV⟩
  have gD := hide (GV.out.drew)
  have HQ : Hid (∀ b, ownA S t v b → b < w.heap.size) := fun b hb => hb.elim (fun h => HH.out.post.lt h) (fun h => HH.out.tk.own_lt h)
  obtain ⟨q, hq⟩ : ∃ q, q = w.heap.size := ⟨_, rfl⟩
  rw [← hq] at QV HQ ⊢
  clear hq
  have HCC : Hid (∀ V', Kp (fun b => b = tb ∨ b = t ∨ b = q) V V' → CC V' tb t P q ⟨xk, xa, xb, xn, xl, xp⟩) := fun V' k =>
    ⟨(World.cell?_of_block (a := ⟨tb, 0, none⟩) (k.block tb (Nat.lt_of_lt_of_le lb (Below.size GV.out)) (.inl rfl))).trans ((Below.cell GV.out (p := ⟨tb, 0, none⟩) lb).trans cb),
     (World.cell?_of_block (a := ⟨t, 0, none⟩) (k.block t (Nat.lt_of_lt_of_le ltt (Below.size GV.out)) (.inr (.inl rfl)))).trans ((Below.cell GV.out (p := ⟨t, 0, none⟩) ltt).trans ct),
     (QV.out.kp k (.inr (.inr rfl))).cells⟩
  have HCD : Hid (∀ w1 r, Gr V.drew w1 → (∀ V', Gr w1 V' → Calls Tryz.prog 83 #[pv t, r] V' fun e w' => e = .returned (.tuple #[]) ∧ ∃ v', Td W M B w' t P S v' s n z ∧ Chg V' w' (ownK t v) (ownK t v')) → Calls Tryz.prog 83 #[pv t, r] w1 fun e w' => e = .returned (.tuple #[]) ∧ TdO W M B w t P S v s (n + 1) z e w' ∧ CC w' tb t P q ⟨xk, xa, xb, xn, xl, xp⟩) := fun w1 r g1 h => by
    refine (h w1 (Gr.refl w1)).mono ?_
    rintro e w2 ⟨he, v2, t2, k2⟩
    refine ⟨he, TdO.of ⟨he, v2, t2, k2⟩ (gD.out.trans g1) (by omega), ?_⟩
    have gV : Gr V w1 := ((Gr.refl V).drew).trans g1
    have c1 := HCC.out w1 (gV.kp _)
    have hs1 := Below.size gV
    have lw := Below.size GV.out
    have kp2 : Kp (fun b => b = tb ∨ b = q) w1 w2 := k2.kp.mono fun b hb e => ⟨hb, fun ho => by
      rcases e with rfl | rfl
      · exact HNB.out (.inr ho)
      · have := HQ.out b (.inr ho); omega⟩
    exact ⟨(World.cell?_of_block (a := ⟨tb, 0, none⟩) (kp2.block tb (by omega) (.inl rfl))).trans c1.1, t2.cell0.1, ((QV.out.gr gV).kp kp2 (.inr rfl)).cells⟩
  have HFF := hide (HF.out V.drew gD.out)
  have C0 := hide (HCC.out V.drew ((Gr.refl V).drew.kp _))
  clear HF HNB cb ct
  go_region_held3 (fun X => CC X tb t P q ⟨xk, xa, xb, xn, xl, xp⟩) (first | exact C0.out | exact C1.out | exact C2.out | go_keep)
    (first
    | (go_at_call 31; with_reducible refine HFF.out.mono ?_; rintro e w1 ⟨r, rfl, hr, g1⟩; have HR := hide hr; have G1 := hide g1; have C1 := hide (HCC.out w1 ((((Gr.refl V).drew).trans g1).kp _)); clear hr g1)
    | (go_at_call 83; with_reducible refine (HCD.out w1 r G1.out HR.out).mono ?_; rintro e w2 ⟨rfl, t2, c2⟩; have T2 := hide t2; have C2 := hide c2; clear t2 c2)
    | fail)
  all_goals
    go_wp2_with fail
    exact bodyPost_end (results_none rfl _ _ _) rfl T2.out
end

end Go.Proofs.YtfcknkanbcndjagGreatDoor

/- CONTRACTS OF the program's talk: the table of orders. -/
namespace Go.Proofs.YtfcknkanbcndjagGreatDoor
open Go.RowKit
attribute [local go_sem] Ext.all Ext.cell Ext.frozen Ext.lt Ext.lt1 Ext.lt2 Ext.ne Ext.ne'
/-- The closure of an order. -/
def fnK (k : Nat) : Nat := if k < 8 then 76 else if k = 8 then 78 else if k = 9 then 80 else if k = 10 then 82 else if k = 11 then 84 else 85
/-- An order's form, and its step. -/
def frmQ (k : Nat) : List Tx × Sy := frmL.getD k ([], ⟨0, 0, 0, 0, 0, 0⟩)
theorem frmQ_at {k : Nat} (hk : k < 13) : frmL[k]? = some (frmQ k) := by
  have : k < frmL.length := hk
  unfold frmQ
  rw [List.getD_eq_getElem?_getD, List.getElem?_eq_getElem this]
  rfl
/-- The orders, as they lie in memory. -/
def OrdAt (w : World) (ob o tb : Nat) : Prop := ∀ k, k < 13 → w.cell? ⟨ob, o + k * 8, none⟩ = some (sv (joinT (frmQ k).1)) ∧ w.cell? ⟨ob, o + k * 8 + 1, none⟩ = some (iv (frmQ k).2.k) ∧ w.cell? ⟨ob, o + k * 8 + 2, none⟩ = some (iv (frmQ k).2.a) ∧ w.cell? ⟨ob, o + k * 8 + 3, none⟩ = some (iv (frmQ k).2.b) ∧ w.cell? ⟨ob, o + k * 8 + 4, none⟩ = some (iv (frmQ k).2.n) ∧ w.cell? ⟨ob, o + k * 8 + 5, none⟩ = some (iv (frmQ k).2.l) ∧ w.cell? ⟨ob, o + k * 8 + 6, none⟩ = some (iv (frmQ k).2.p) ∧ w.cell? ⟨ob, o + k * 8 + 7, none⟩ = some (.func (.func (fnK k)) #[] #[pv tb])
theorem OrdAt.gr {w w' : World} {ob o tb : Nat} (h : OrdAt w ob o tb) (g : Gr w w') (hl : ob < w.heap.size) : OrdAt w' ob o tb := fun k hk => by
  obtain ⟨h0, h1, h2, h3, h4, h5, h6, h7⟩ := h k hk
  exact ⟨(Below.cell g (p := ⟨ob, _, none⟩) hl).trans h0, (Below.cell g (p := ⟨ob, _, none⟩) hl).trans h1, (Below.cell g (p := ⟨ob, _, none⟩) hl).trans h2, (Below.cell g (p := ⟨ob, _, none⟩) hl).trans h3, (Below.cell g (p := ⟨ob, _, none⟩) hl).trans h4, (Below.cell g (p := ⟨ob, _, none⟩) hl).trans h5, (Below.cell g (p := ⟨ob, _, none⟩) hl).trans h6, (Below.cell g (p := ⟨ob, _, none⟩) hl).trans h7⟩
theorem OrdAt.kp {w w' : World} {ob o tb : Nat} {N : Nat → Prop} (h : OrdAt w ob o tb) (g : Kp N w w') (hl : ob < w.heap.size) (hn : N ob) : OrdAt w' ob o tb := fun k hk => by
  have e := g.block ob hl hn
  have c : ∀ j, w'.cell? ⟨ob, j, none⟩ = w.cell? ⟨ob, j, none⟩ := fun j => World.cell?_of_block (a := ⟨ob, j, none⟩) e
  have := h k hk
  simp only [c]
  exact this
/-- The cells of an order. -/
def ordV (tb k : Nat) : List Value := [sv (joinT (frmQ k).1), iv (frmQ k).2.k, iv (frmQ k).2.a, iv (frmQ k).2.b, iv (frmQ k).2.n, iv (frmQ k).2.l, iv (frmQ k).2.p, .func (.func (fnK k)) #[] #[pv tb]]
theorem ord_new (w : World) (tb : Nat) (T : TypeId) : OrdAt (w.alloc (.cells ((List.range 13).flatMap (ordV tb)).toArray T)) w.heap.size 0 tb := by
  intro k hk
  have h := heap_alloc_new w (.cells ((List.range 13).flatMap (ordV tb)).toArray T)
  have c : ∀ j, (w.alloc (.cells ((List.range 13).flatMap (ordV tb)).toArray T)).cell? ⟨w.heap.size, j, none⟩ = ((List.range 13).flatMap (ordV tb))[j]? := fun j => by
    unfold World.cell?
    simp only [h]
    simp
  simp only [c]
  have hh : k = 0 ∨ k = 1 ∨ k = 2 ∨ k = 3 ∨ k = 4 ∨ k = 5 ∨ k = 6 ∨ k = 7 ∨ k = 8 ∨ k = 9 ∨ k = 10 ∨ k = 11 ∨ k = 12 := by omega
  rcases hh with rfl | rfl | rfl | rfl | rfl | rfl | rfl | rfl | rfl | rfl | rfl | rfl | rfl <;> exact ⟨rfl, rfl, rfl, rfl, rfl, rfl, rfl, rfl⟩
set_option maxRecDepth 100000 in
set_option maxHeartbeats 8000000 in
/-- The table of orders. -/
theorem orders_any (w : World) (t : Nat) : Calls Tryz.prog 41 #[pv t] w fun e w' => ∃ ob tb, e = .returned (.slice (some ⟨ob, 0, none⟩) 13 13) ∧ OrdAt w' ob 0 tb ∧ w'.cell? ⟨tb, 0, none⟩ = some (pv t) ∧ w.heap.size ≤ ob ∧ w.heap.size ≤ tb ∧ ob < w'.heap.size ∧ tb < w'.heap.size ∧ Gr w w' := by
  go_enter Tryz.func41, Tryz.ntmps41
  go_upto_region 2 with (fail)
  have g0 : Gr w (w.alloc (.cells #[pv t] 90)) := (Gr.refl w).alloc _
  have h0 := heap_alloc_new w (.cells #[pv t] 90)
  refine wp_gen (fun V => Hid (Gr w V) ∧ Hid (V.cell? ⟨w.heap.size, 0, none⟩ = some (pv t)) ∧ Hid (w.heap.size < V.heap.size)) ⟨g0, by unfold Hid World.cell?; rw [h0]; rfl, by unfold Hid; simp⟩ ?_
  clear g0 h0
  rintro V ⟨GV, CV, LV⟩
  obtain ⟨tb, hq⟩ : ∃ q, q = w.heap.size := ⟨_, rfl⟩
  rw [← hq] at CV LV ⊢
  have HQ := hide hq
  clear hq
  go_wp2_with fail
  go_ret
  have g1 : Gr V (V.alloc (.cells ((List.range 13).flatMap (ordV tb)).toArray 150)) := (Gr.refl V).alloc _
  refine ⟨V.heap.size, tb, rfl, ord_new V tb 150, (Below.cell g1 (p := ⟨tb, 0, none⟩) LV.out).trans CV.out, Below.size GV.out, Nat.le_of_eq HQ.out.symm, by simp, ?_, GV.out.trans g1⟩
  have := LV.out
  simp
  omega

end Go.Proofs.YtfcknkanbcndjagGreatDoor

/- CONTRACT OF the program's talk: a line. -/
namespace Go.Proofs.YtfcknkanbcndjagGreatDoor
open Go.RowKit
attribute [local go_sem] Ext.all Ext.cell Ext.frozen Ext.lt Ext.lt1 Ext.lt2 Ext.ne Ext.ne'
/-- Split makes of each order's form its places. -/
theorem frm_split : ∀ k < 13, SplT (joinT (frmQ k).1) (frmQ k).1 := by
  unfold SplT
  decide +kernel
section
variable {W : World} {M : Nat → Prop} {B w w' : World} {t P tb : Nat} {S S' : Nat → Prop} {v v' : Value} {s s' : Dk} {n n' : Nat} {told told' : Tx}
/-- What an order does. -/
theorem do_any (H : Td W M B w t P S v s n told) (hL : Lb W) (hb : Bxt w t tb S v) (hn : n ≤ 100000) (h1 : told.length ≤ 2900000) {k : Nat} (hk : k < 13) (x : Sy) :
    Calls Tryz.prog (fnK k) #[.agg (sxC x), pv tb] w fun e w' => TdO W M B w t P S v (doneA s (askO k x)) (n + 1) (told ++ toldA s (askO k x)) e w' := by
  by_cases h8 : k < 8
  · have e1 : fnK k = 76 := by unfold fnK; rw [if_pos h8]
    have e2 : askO k x = .step ⟨x.k, x.a, x.b, x.n⟩ x.l x.p := by unfold askO; rw [if_pos h8]
    rw [e1, e2]
    exact do_step H hL hb hn h1 x
  · have hh : k = 8 ∨ k = 9 ∨ k = 10 ∨ k = 11 ∨ k = 12 := by omega
    rcases hh with rfl | rfl | rfl | rfl | rfl
    · exact do_ways H hL hb hn h1 x
    · exact do_news H hL hb hn h1 x
    · exact do_full H hL hb h1 x
    · exact do_small H hL hb h1 x
    · exact do_letter H hL hb hn h1 x
theorem eight_new (w : World) (a0 a1 a2 a3 a4 a5 a6 a7 : Value) (T : TypeId) : Gr w (w.alloc (.cells #[a0, a1, a2, a3, a4, a5, a6, a7] T)) ∧ (w.alloc (.cells #[a0, a1, a2, a3, a4, a5, a6, a7] T)).cell? ⟨w.heap.size, 0, none⟩ = some a0 ∧ (w.alloc (.cells #[a0, a1, a2, a3, a4, a5, a6, a7] T)).cell? ⟨w.heap.size, 1, none⟩ = some a1 ∧ (w.alloc (.cells #[a0, a1, a2, a3, a4, a5, a6, a7] T)).cell? ⟨w.heap.size, 2, none⟩ = some a2 ∧ (w.alloc (.cells #[a0, a1, a2, a3, a4, a5, a6, a7] T)).cell? ⟨w.heap.size, 3, none⟩ = some a3 ∧ (w.alloc (.cells #[a0, a1, a2, a3, a4, a5, a6, a7] T)).cell? ⟨w.heap.size, 4, none⟩ = some a4 ∧ (w.alloc (.cells #[a0, a1, a2, a3, a4, a5, a6, a7] T)).cell? ⟨w.heap.size, 5, none⟩ = some a5 ∧ (w.alloc (.cells #[a0, a1, a2, a3, a4, a5, a6, a7] T)).cell? ⟨w.heap.size, 6, none⟩ = some a6 ∧ (w.alloc (.cells #[a0, a1, a2, a3, a4, a5, a6, a7] T)).cell? ⟨w.heap.size, 7, none⟩ = some a7 ∧ w.heap.size < (w.alloc (.cells #[a0, a1, a2, a3, a4, a5, a6, a7] T)).heap.size := by
  have h := heap_alloc_new w (.cells #[a0, a1, a2, a3, a4, a5, a6, a7] T)
  refine ⟨(Gr.refl w).alloc _, ?_, ?_, ?_, ?_, ?_, ?_, ?_, ?_, by simp⟩ <;> (unfold World.cell?; rw [h]; rfl)
theorem fn_cases {k : Nat} : fnK k = 76 ∨ fnK k = 78 ∨ fnK k = 80 ∨ fnK k = 82 ∨ fnK k = 84 ∨ fnK k = 85 := by
  unfold fnK
  repeat' split
  all_goals simp
set_option maxRecDepth 20000 in
set_option maxHeartbeats 8000000 in
/-- A line. -/
theorem Td.line (H : Td W M B w t P S v s n told) (hL : Lb W) (hb : Bxt w t tb S v) {ob o : Nat} (ho : OrdAt w ob o tb) (hol : ob < w.heap.size) (hn : n ≤ 100000) (h1 : told.length ≤ 2900000) (ln : Tx) (hl : ln.length ≤ 90000) :
    Calls Tryz.prog 42 #[pv t, .slice (some ⟨ob, o, none⟩) 13 13, sv ln] w fun e w' => TdO W M B w t P S v (doneA s (askT ln)) (n + 1) (told ++ toldA s (askT ln)) e w' := by
  have HH := hide H
  have HL := hide hL
  have HB := hide hb
  have HO := hide ho
  obtain ⟨b, hbl⟩ : ∃ b, decide (wordsT ln = []) = b := ⟨_, rfl⟩
  have HBl := hide (blank_is hbl w)
  clear H hL hb ho
  cases b with
  | true =>
    have hw := of_decide_eq_true hbl
    have hA : askT ln = .nil := by unfold askT; rw [hw]; rfl
    have HE : Hid (TdO W M B w t P S v (doneA s (askT ln)) (n + 1) (told ++ toldA s (askT ln)) (.returned (.tuple #[])) w) := by
      unfold Hid
      rw [hA]
      refine ⟨rfl, S, v, ?_, (Gr.refl w).chg _⟩
      have := HH.out.more (m := n + 1) (by omega)
      show Td W M B w t P S v s (n + 1) (told ++ [])
      rw [List.append_nil]
      exact this
    clear hbl hw hA
    go_enter Tryz.func42, Tryz.ntmps42
    go_wp2_with (go_at_call 87; refine HBl.out.mono ?_; rintro e w1 ⟨rfl, hw1⟩; subst hw1)
    exact bodyPost_ret (results_none rfl _ _ _) rfl HE.out
  | false =>
    have HW : Hid (wordsT ln ≠ []) := of_decide_eq_false hbl
    clear hbl
    go_enter Tryz.func42, Tryz.ntmps42
    go_wp2_with (go_at_call 87; refine HBl.out.mono ?_; rintro e w1 ⟨rfl, hw1⟩; have hw2 := hw1.symm; clear hw1; subst hw2)
    go_loopw [14] (fun v14 wr => ∃ k : Nat, k ≤ 13 ∧ v14 = .int .i64 (k : Int) ∧ Hid (∀ j, j < k → rdT (frmQ j).1 ln (frmQ j).2 = none) ∧ Hid (Gr w wr)) (fun v14 _ => 13 - (intOf v14).toNat)
    case atStart => exact ⟨0, by omega, rfl, fun j hj => by omega, Gr.refl w⟩
    case round =>
      obtain ⟨k, hk, rfl, HN, GR⟩ := hrel
      by_cases hlt : k < 13
      · have hkI : (k : Int) < 13 := by omega
        obtain ⟨c0, c1, c2, c3, c4, c5, c6, c7⟩ := (HO.out.gr GR.out hol) k hlt
        have lob := Nat.lt_of_lt_of_le hol (Below.size GR.out)
        have HR := hide (fun V (g : Gr wr V) => read_any (HL.out.gr (HH.out.gW.trans (GR.out.trans g))) (frm_split k hlt) (frmQ k).2 (.func (.func (fnK k)) #[] #[pv tb]) ln hl)
        cases hx : rdT (frmQ k).1 ln (frmQ k).2 with
        | none =>
          have HN2 : Hid (∀ j, j < k + 1 → rdT (frmQ j).1 ln (frmQ j).2 = none) := fun j hj => by
            by_cases e : j = k
            · rw [e]; exact hx
            · exact HN.out j (by omega)
          have HR2 : Hid (∀ V, Gr wr V → Calls Tryz.prog 88 #[.agg #[sv (joinT (frmQ k).1), iv (frmQ k).2.k, iv (frmQ k).2.a, iv (frmQ k).2.b, iv (frmQ k).2.n, iv (frmQ k).2.l, iv (frmQ k).2.p, .func (.func (fnK k)) #[] #[pv tb]], sv ln] V fun e w' => (∃ y : Sy, e = .returned (.tuple #[.agg (sxC y), .bool false])) ∧ Gr V w') := fun V g => by
            refine (HR.out V g).mono ?_
            rintro e w' ⟨⟨y, b, he, hh⟩, g'⟩
            rcases hh with ⟨_, q⟩ | ⟨rfl, _⟩
            · rw [hx] at q; cases q
            · exact ⟨⟨y, he⟩, g'⟩
          clear HR hx
          generalize fnK k = F at *
          generalize joinT (frmQ k).1 = ft at *
          generalize (frmQ k).2 = x0 at *
          obtain ⟨xk, xa, xb, xn, xl, xp⟩ := x0
          simp only at c1 c2 c3 c4 c5 c6
          go_upto_region 4 with (fail)
          refine wp_gen (fun V => Hid (Gr wr V) ∧ V.cell? ⟨wr.heap.size, 0, none⟩ = some (sv ft) ∧ V.cell? ⟨wr.heap.size, 1, none⟩ = some (iv xk) ∧ V.cell? ⟨wr.heap.size, 2, none⟩ = some (iv xa) ∧ V.cell? ⟨wr.heap.size, 3, none⟩ = some (iv xb) ∧ V.cell? ⟨wr.heap.size, 4, none⟩ = some (iv xn) ∧ V.cell? ⟨wr.heap.size, 5, none⟩ = some (iv xl) ∧ V.cell? ⟨wr.heap.size, 6, none⟩ = some (iv xp) ∧ V.cell? ⟨wr.heap.size, 7, none⟩ = some (.func (.func F) #[] #[pv tb]) ∧ wr.heap.size < V.heap.size) (eight_new wr _ _ _ _ _ _ _ _ _) ?_
          rintro V ⟨GV, q0, q1, q2, q3, q4, q5, q6, q7, lq⟩
          generalize wr.heap.size = q at *
          clear c0 c1 c2 c3 c4 c5 c6 c7
          go_wp2_with (go_at_call 88; refine (HR2.out V GV.out).mono ?_; rintro e w2 ⟨⟨⟨yk, ya, yb, yn, yl, yp⟩, rfl⟩, g2⟩; have G2 := hide g2; clear g2)
          go_roundw
          case rel => exact ⟨k + 1, by omega, by go_num, HN2, (GR.out.trans (GV.out.trans G2.out)).alloc _⟩
          case measure => simp [intOf]; omega
        | some x =>
          have HR2 : Hid (∀ V, Gr wr V → Calls Tryz.prog 88 #[.agg #[sv (joinT (frmQ k).1), iv (frmQ k).2.k, iv (frmQ k).2.a, iv (frmQ k).2.b, iv (frmQ k).2.n, iv (frmQ k).2.l, iv (frmQ k).2.p, .func (.func (fnK k)) #[] #[pv tb]], sv ln] V fun e w' => e = .returned (.tuple #[.agg (sxC x), .bool true]) ∧ Gr V w') := fun V g => by
            refine (HR.out V g).mono ?_
            rintro e w' ⟨⟨y, b, he, hh⟩, g'⟩
            rcases hh with ⟨rfl, q⟩ | ⟨_, q⟩
            · rw [hx] at q; cases q; exact ⟨he, g'⟩
            · rw [hx] at q; cases q
          have hA : askT ln = askO k x := rd_hit hlt (frmQ_at hlt) hx
          have HX : Hid (∀ V, Gr w V → Calls Tryz.prog (fnK k) #[.agg (sxC x), pv tb] V fun e w' => TdO W M B w t P S v (doneA s (askT ln)) (n + 1) (told ++ toldA s (askT ln)) e w') := fun V g => by
            rw [hA]
            refine (do_any (HH.out.gr g) HL.out (HB.out.gr g) hn h1 hlt x).mono ?_
            rintro e w' ⟨he, S', v', ht, k'⟩
            exact ⟨he, S', v', ht, (g.chg _).trans k'⟩
          clear HR hx hA HN
          have hF := fn_cases (k := k)
          generalize fnK k = F at *
          generalize joinT (frmQ k).1 = ft at *
          generalize (frmQ k).2 = x0 at *
          obtain ⟨xk, xa, xb, xn, xl, xp⟩ := x0
          obtain ⟨yk, ya, yb, yn, yl, yp⟩ := x
          simp only at c1 c2 c3 c4 c5 c6
          go_upto_region 4 with (fail)
          refine wp_gen (fun V => Hid (Gr wr V) ∧ V.cell? ⟨wr.heap.size, 0, none⟩ = some (sv ft) ∧ V.cell? ⟨wr.heap.size, 1, none⟩ = some (iv xk) ∧ V.cell? ⟨wr.heap.size, 2, none⟩ = some (iv xa) ∧ V.cell? ⟨wr.heap.size, 3, none⟩ = some (iv xb) ∧ V.cell? ⟨wr.heap.size, 4, none⟩ = some (iv xn) ∧ V.cell? ⟨wr.heap.size, 5, none⟩ = some (iv xl) ∧ V.cell? ⟨wr.heap.size, 6, none⟩ = some (iv xp) ∧ V.cell? ⟨wr.heap.size, 7, none⟩ = some (.func (.func F) #[] #[pv tb]) ∧ wr.heap.size < V.heap.size) (eight_new wr _ _ _ _ _ _ _ _ _) ?_
          rintro V ⟨GV, q0, q1, q2, q3, q4, q5, q6, q7, lq⟩
          generalize wr.heap.size = q at *
          clear c0 c1 c2 c3 c4 c5 c6 c7
          rcases hF with rfl | rfl | rfl | rfl | rfl | rfl <;>
          · go_wp2_with (first
              | (go_at_call 88; refine (HR2.out V GV.out).mono ?_; rintro e w2 ⟨rfl, g2⟩; have G2 := hide g2; have e7 := (Below.cell g2 (p := ⟨q, 7, none⟩) lq).trans q7; have l7 := Nat.lt_of_lt_of_le lq (Below.size g2); clear g2)
              | ((first | go_at_call 76 | go_at_call 78 | go_at_call 80 | go_at_call 82 | go_at_call 84 | go_at_call 85); refine (HX.out _ ((GR.out.trans (GV.out.trans G2.out)).alloc _)).mono ?_; rintro e w3 ⟨rfl, h3⟩; have H3 := hide h3; clear h3))
            exact bodyPost_ret (results_none rfl _ _ _) rfl ⟨rfl, H3.out⟩
      · have hkl : decide ((k : Int) < 13) = false := decide_eq_false (by omega)
        have hA : askT ln = .what := rd_miss HW.out fun j f hf => by
          by_cases hj : j < 13
          · have := frmQ_at hj
            rw [hf] at this
            cases this
            exact HN.out j (by omega)
          · have : frmL[j]? = none := List.getElem?_eq_none (by show 13 ≤ j; omega)
            rw [this] at hf; cases hf
        have HX : Hid (Calls Tryz.prog 89 #[pv t, sv [119, 104, 97, 116], .slice none 0 0] wr fun e w' => TdO W M B w t P S v (doneA s (askT ln)) (n + 1) (told ++ toldA s (askT ln)) e w') := by
          rw [hA]
          exact ((HH.out.gr GR.out).say0 HL.out [119, 104, 97, 116] (by omega) (by decide)).mono fun e w' h => TdO.of h GR.out (by omega)
        clear hA
        go_wp2_with (go_at_call 89; refine HX.out.mono ?_; rintro e w3 ⟨rfl, h3⟩; have H3 := hide h3; clear h3)
        exact bodyPost_end (results_none rfl _ _ _) rfl ⟨rfl, H3.out⟩
end

end Go.Proofs.YtfcknkanbcndjagGreatDoor
