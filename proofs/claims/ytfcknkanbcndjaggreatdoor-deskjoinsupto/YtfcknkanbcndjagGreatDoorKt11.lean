import Derived.Test.YtfcknkanbcndjagGreatDoorDkMem
import Derived.Test.YtfcknkanbcndjagGreatDoorPo0
import Derived.Lib.Builder
import Derived.Lib.AppendStr
import Derived.Lib.UnsafeStr
import Derived.Laws.Externs
import Derived.Maps.AppendAt
import Derived.Test.YtfcknkanbcndjagGreatDoorDkBd
import Derived.Deep.RegionHeld3
import Derived.Test.YtfcknkanbcndjagGreatDoorFb1p
import Derived.Test.YtfcknkanbcndjagGreatDoorRInv
import Derived.Test.YtfcknkanbcndjagGreatDoorShelf
/- THE PROGRAM'S TALK IN MEMORY: a Post's pointer, and a builder of what is told; CONTRACTS OF the builder's copyCheck, WriteString, WriteByte. -/
namespace Go.Proofs.YtfcknkanbcndjagGreatDoor
open Go.RowKit

/-- The talk at t over the Post P: what was told lies in v, which is younger than B. -/
structure Tk (B w : World) (t P : Nat) (v : Value) (told : Tx) : Prop where
  blk : ∃ q, w.heap[t]? = some (.cells #[pv P, q, v] 96 (0, 0)) ∧ (q = .pointer none ∨ q = .pointer (some ⟨t, 1, none⟩))
  own : w.ownsRow B.heap.size 5 1 v told.length (Lib.byteCells told)
/-- Its own blocks. -/
def ownK (t : Nat) (v : Value) (b : Nat) : Prop := b = t ∨ v.ownBlock = some b
theorem Tryz.infoB : (Tryz.prog.info? 5).map (fun i => (i.zero, i.size, i.bytes)) = some (some (.int .u8 0), 1, 1) := by kernel_rfl
section
variable {B w w' : World} {t P : Nat} {v v' : Value} {told : Tx}
theorem Tk.lt (H : Tk B w t P v told) : t < w.heap.size := by
  obtain ⟨q, h, _⟩ := H.blk
  exact lt_of_block h
theorem Tk.ne (H : Tk B w t P v told) : v.ownBlock ≠ some t := by
  obtain ⟨q, h, _⟩ := H.blk
  intro e
  rcases H.own.2 with ⟨hn, _⟩ | ⟨y, cap, cur, hv, _, hgg, _⟩
  · rw [hn] at e; cases e
  · rw [hv] at e
    simp only [Value.ownBlock, Option.some.injEq] at e
    subst e
    exact blk_ne hgg h (by decide) rfl
theorem Tk.own_lt (H : Tk B w t P v told) {b : Nat} (hb : ownK t v b) : b < w.heap.size := by
  rcases hb with rfl | e
  · exact H.lt
  · exact (H.own.lt b e).2
theorem Tk.shape (H : Tk B w t P v told) : ∃ ao c, v = .slice ao told.length c := by
  rcases H.own.2 with ⟨hn, h0⟩ | ⟨y, cap, cur, hv, _⟩
  · exact ⟨none, 0, by rw [hn, h0]⟩
  · exact ⟨_, _, hv⟩
theorem Tk.gr (H : Tk B w t P v told) (g : Gr w w') : Tk B w' t P v told := by
  obtain ⟨q, h, hq⟩ := H.blk
  exact ⟨⟨q, (Below.block g t (lt_of_block h)).trans h, hq⟩, own_gr H.own g⟩
theorem Tk.keep {N : Nat → Prop} (H : Tk B w t P v told) (hk : Kp N w w') (hS : ∀ b, ownK t v b → N b) : Tk B w' t P v told := by
  obtain ⟨q, h, hq⟩ := H.blk
  refine ⟨⟨q, (hk.block t (lt_of_block h) (hS t (.inl rfl))).trans h, hq⟩, H.own.1, ?_⟩
  rcases H.own.2 with h0 | ⟨y, cap, cur, hv, hb, hg, r⟩
  · exact .inl h0
  · exact .inr ⟨y, cap, cur, hv, hb, (hk.block y (lt_of_block hg) (hS y (.inr (by rw [hv]; rfl)))).trans hg, r⟩
set_option maxHeartbeats 1000000 in
set_option maxRecDepth 100000 in
/-- The builder's copyCheck. -/
theorem cc_any (H : Tk B w t P v told) : Calls Tryz.prog 167 #[.pointer (some ⟨t, 1, none⟩)] w fun e w' => e = .returned (.tuple #[]) ∧ w'.heap[t]? = some (.cells #[pv P, .pointer (some ⟨t, 1, none⟩), v] 96 (0, 0)) ∧ Tk B w' t P v told ∧ Chg w w' (ownK t v) (ownK t v) ∧ w'.heap.size = w.heap.size := by
  obtain ⟨q, h, hq⟩ := H.blk
  have hne := H.ne
  have ho := H.own
  obtain ⟨j, hj, hjs⟩ : ∃ j, Tryz.prog.info? 94 = some j ∧ j.size = 2 := Option.map_eq_some_iff.1 (show (Tryz.prog.info? 94).map (·.size) = some 2 by kernel_rfl)
  have hsh : w.shape? t = some (96, 3) := by simp [World.shape?, h]
  have c1 : w.cell? ⟨t, 1, none⟩ = some q := by simp [World.cell?, h]
  have f1 : w.frozen? ⟨t, 1, none⟩ = false := frozen_of_row w t 1 _ _ h
  rcases hq with rfl | rfl
  · have HL : liesAt Tryz.prog Tryz.prog.depth 96 (3 / Tryz.prog.cellsOf 96) 1 94 1 = true := by kernel_rfl
    have hlt := lt_of_block h
    have HB := hide (heap_setCell_same w t 1 _ _ (.pointer (some ⟨t, 1, none⟩)) h)
    have HO : Hid (∀ x, (w.setCell ⟨t, 1, none⟩ x).ownsRow B.heap.size 5 1 v told.length (Lib.byteCells told)) := fun x => ownsRow_setCell_other ho hne x
    clear H h ho
    go_enter Tryz.func167, Tryz.ntmps167
    go_wp2
    rw [Lib.run_to_unsafe w ⟨t, 1, none⟩ Tryz.underlying91 Tryz.underlying251 hj (by rw [hjs]; decide) hsh (show 1 < 3 by decide)]
    simp only [Result.andThen]
    rw [Oper.upon_value]
    go_wp2
    rw [run_callFunc_extern Tryz.func199 (by kernel_rfl) (by kernel_rfl) (by kernel_rfl) (e := Extern.AbiNoEscape.same) (by kernel_rfl)]
    rw [Lib.run_noEscape]
    simp only [Result.andThen]
    rw [Oper.upon_value]
    go_wp2
    rw [Lib.run_from_unsafe w ⟨t, 1, none⟩ Tryz.underlying251 Tryz.underlying91 hj hsh HL]
    simp only [Result.andThen]
    rw [Oper.upon_value]
    go_wp2
    refine bodyPost_end (results_none rfl _ _ _) rfl ⟨rfl, HB.out, ⟨⟨_, HB.out, .inr rfl⟩, HO.out _⟩, ⟨(Kp.refl _ w).set (fun e => e.2 (.inl rfl)) _ _, fun _ h => .inl h⟩, by simp⟩
  · have HH := hide H
    have HB := hide h
    clear H h ho
    go_enter Tryz.func167, Tryz.ntmps167
    go_wp2
    rw [Lib.run_neq_ptr_same w _ Tryz.underlying91 hj]
    go_wp2
    refine bodyPost_end (results_none rfl _ _ _) rfl ⟨rfl, HB.out, HH.out, ⟨Kp.refl _ w, fun _ h => .inl h⟩, rfl⟩
/-- A text put behind what is owned: in its own block, or in a new one. -/
theorem app_str (ty : TypeId) {n : Nat} {xs : List Value} (ho : w.ownsRow B.heap.size 5 1 v n xs) (s : ByteArray) (hm : n + s.size ≤ 100000000) (hB : B.heap.size ≤ w.heap.size) :
    ∃ v' w', (Builtin.append_ #[92, 9] ty #[v, .string s]).run Tryz.prog w = .ok v' w' ∧ w'.ownsRow B.heap.size 5 1 v' (n + s.size) (xs ++ Lib.strCells s) ∧ w.grownBy w' v.ownBlock ∧ ∀ k, v'.ownBlock = some k → v.ownBlock = some k ∨ w.heap.size ≤ k := by
  obtain ⟨i0, hi, hz0, hz1, hz2⟩ := info_parts Tryz.infoB
  have hl : n + s.size ≤ maxLen := by unfold maxLen; omega
  obtain ⟨v', w', hr, h2, h3, _⟩ := Lib.run_append_own_string (P := Tryz.prog) w B.heap.size 92 9 ty 5 i0 Tryz.underlying92 Tryz.underlying9 hi hz0 hz1 hz2 v n xs ho s hl (by omega) hB
  refine ⟨v', w', hr, h2, h3, fun k hk => ?_⟩
  have hxl : xs.length = n := by simpa using ho.1
  rcases ho.2 with ⟨rfl, rfl⟩ | ⟨g, cap, cur, rfl, hbg, hg, hnc, hcm, hcs, htake⟩
  · have hx : xs = [] := List.eq_nil_of_length_eq_zero hxl
    subst hx
    obtain ⟨v2, w2, hr2, o2, _, _⟩ := Lib.run_append_own_string (P := Tryz.prog) w w.heap.size 92 9 ty 5 i0 Tryz.underlying92 Tryz.underlying9 hi hz0 hz1 hz2 (.slice none 0 0) 0 [] (World.ownsRow_nil w _ _ 1) s hl (by omega) (Nat.le_refl _)
    rw [hr] at hr2
    cases hr2
    exact .inr (o2.lt k hk).1
  · by_cases hroom : n + s.size ≤ cap
    · have hcs' : cur.size = cap := by simpa using hcs
      have hr2 := Lib.run_append_room_string (P := Tryz.prog) w 92 9 ty 5 i0 Tryz.underlying92 Tryz.underlying9 hi hz1 g n cap cur hg s hroom (by omega)
      rw [hr] at hr2
      cases hr2
      exact .inl hk
    · have hr2 := Lib.run_append_grow_string (P := Tryz.prog) w 92 9 ty 5 i0 _ Tryz.underlying92 Tryz.underlying9 hi hz0 ⟨g, 0, none⟩ n cap xs (by rw [hz1]; simpa using hxl) (ho.cells (g := g) rfl) s (by omega) (by omega) (by rw [hz2]; exact growslice_fits (by omega) (by omega))
      rw [hr] at hr2
      cases hr2
      simp only [Value.ownBlock, Option.some.injEq] at hk
      exact .inr (by omega)
/-- What the builder's block is behind a text more. -/
theorem Tk.put {s : Tx} {w1 w2 : World} {v' : Value} (h : w1.heap[t]? = some (.cells #[pv P, .pointer (some ⟨t, 1, none⟩), v] 96 (0, 0))) (H : Tk B w1 t P v told) (ho : w2.ownsRow B.heap.size 5 1 v' (told.length + s.length) (Lib.byteCells told ++ Lib.byteCells s)) (hg : w1.grownBy w2 v.ownBlock) (hn : ∀ k, v'.ownBlock = some k → v.ownBlock = some k ∨ w1.heap.size ≤ k) :
    w2.cell? ⟨t, 2, none⟩ = some v ∧ w2.frozen? ⟨t, 2, none⟩ = false ∧ t < w2.heap.size ∧ Tk B (w2.setCell ⟨t, 2, none⟩ v') t P v' (told ++ s) ∧ Chg w1 (w2.setCell ⟨t, 2, none⟩ v') (ownK t v) (ownK t v') := by
  have h2 : w2.heap[t]? = some (.cells #[pv P, .pointer (some ⟨t, 1, none⟩), v] 96 (0, 0)) := (hg.block t (lt_of_block h) (fun e => H.ne e.symm)).trans h
  have hs := heap_setCell_same w2 t 2 _ _ v' h2
  have hne : v'.ownBlock ≠ some t := by
    intro e
    rcases ho.2 with ⟨hn, _⟩ | ⟨y, cap, cur, hv, _, hgg, _⟩
    · rw [hn] at e; cases e
    · rw [hv] at e
      simp only [Value.ownBlock, Option.some.injEq] at e
      subst e
      exact blk_ne hgg h2 (by decide) rfl
  have ho' : (w2.setCell ⟨t, 2, none⟩ v').ownsRow B.heap.size 5 1 v' (told ++ s).length (Lib.byteCells (told ++ s)) := by
    have e : Lib.byteCells (told ++ s) = Lib.byteCells told ++ Lib.byteCells s := by simp [Lib.byteCells]
    rw [e, List.length_append]
    exact ownsRow_setCell_other ho hne v'
  refine ⟨by simp [World.cell?, h2], frozen_of_row w2 t 2 _ _ h2, lt_of_block h2, ⟨⟨_, hs, .inr rfl⟩, ho'⟩, ?_, ?_⟩
  · exact (Kp.grown hg (fun k hk e => e.2 (.inr hk))).set (fun e => e.2 (.inl rfl)) _ _
  · rintro b (e | e)
    · exact .inl (.inl e)
    · rcases hn b e with q | q
      · exact .inl (.inr q)
      · exact .inr q
theorem strC (s : Tx) : Lib.strCells ⟨s.toArray⟩ = Lib.byteCells s := by simp [Lib.strCells, Lib.byteCells]
set_option maxHeartbeats 2000000 in
set_option maxRecDepth 100000 in
/-- The builder's WriteString. -/
theorem ws_any (H : Tk B w t P v told) (hB : Gr B w) (s : Tx) (h1 : told.length ≤ 4000000) (h2 : s.length ≤ 4000000) :
    Calls Tryz.prog 131 #[.pointer (some ⟨t, 1, none⟩), sv s] w fun e w' => (∃ r, e = .returned r) ∧ ∃ v', Tk B w' t P v' (told ++ s) ∧ Chg w w' (ownK t v) (ownK t v') := by
  have HC := hide (cc_any H)
  have HB := hide hB
  have hs := Below.size hB
  clear hB H
  go_enter Tryz.func131, Tryz.ntmps131
  go_wp2_with (go_at_call 167; refine HC.out.mono ?_)
  rintro e w1 ⟨rfl, hb, h3, h4, h5⟩
  have hsz : (⟨s.toArray⟩ : ByteArray).size = s.length := by simp [ByteArray.size]
  obtain ⟨v', w2, hr, ho, hg, hn⟩ := app_str (B := B) 92 h3.own ⟨s.toArray⟩ (by rw [hsz]; omega) (by omega)
  rw [strC, hsz] at ho
  obtain ⟨c2, f2, l2, T2, k2⟩ := Tk.put hb h3 ho hg hn
  have c0 : w1.cell? ⟨t, 2, none⟩ = some v := by simp [World.cell?, hb]
  have l1 := lt_of_block hb
  have HR := hide hr
  have HT := hide T2
  have HK := hide (h4.trans k2)
  obtain ⟨ao, nn, cp, hv'⟩ : ∃ ao n c, v' = .slice ao n c := by
    obtain ⟨a, c, h⟩ := T2.shape
    exact ⟨a, _, c, h⟩
  subst hv'
  clear hr T2 k2 h4 h3 hg hn ho HC
  go_wp2_with (at_builtin; refine Lib.wpList_append_run _ rfl _ _ _ _ rfl _ _ rfl rfl _ _ HR.out ?_)
  go_ret2
  exact ⟨⟨_, rfl⟩, _, HT.out, HK.out⟩
end

end Go.Proofs.YtfcknkanbcndjagGreatDoor

/- CONTRACT OF the builder's WriteByte, in the talk. -/
namespace Go.Proofs.YtfcknkanbcndjagGreatDoor
open Go.RowKit

theorem chg_gr0 {W w w' : World} {S S' : Nat → Prop} (h : Chg w w' S S') (g : Gr W w) (hS : ∀ b, S b → W.heap.size ≤ b) : Gr W w' ∧ ∀ b, S' b → W.heap.size ≤ b := by
  have hs := Below.size g
  refine ⟨Below.trans g (h.kp.below hs (fun b hb => ⟨by omega, fun k => by have := hS b k; omega⟩)), fun b hb => ?_⟩
  rcases h.nw b hb with q | q
  · exact hS b q
  · omega
section
variable {B w w' : World} {t P : Nat} {v v' : Value} {told : Tx}
set_option maxHeartbeats 2000000 in
set_option maxRecDepth 100000 in
/-- The builder's WriteByte. -/
theorem wb_any (H : Tk B w t P v told) (hB : Gr B w) (c : UInt8) (h1 : told.length ≤ 4000000) :
    Calls Tryz.prog 132 #[.pointer (some ⟨t, 1, none⟩), .int .u8 c.toNat] w fun e w' => (∃ r, e = .returned r) ∧ ∃ v', Tk B w' t P v' (told ++ [c]) ∧ Chg w w' (ownK t v) (ownK t v') := by
  have HC := hide (cc_any H)
  have hs := Below.size hB
  have hbc : Lib.byteCells [c] = [.int .u8 (c.toNat : Int)] := rfl
  have hlc : ([c] : Tx).length = 1 := rfl
  clear hB H
  generalize (c.toNat : Int) = n at *
  generalize ([c] : Tx) = s at *
  go_enter Tryz.func132, Tryz.ntmps132
  go_wp2_with (go_at_call 167; refine HC.out.mono ?_)
  rintro e w1 ⟨rfl, hb, h3, h4, h5⟩
  obtain ⟨i0, hi, hz0, hz1, hz2⟩ := info_parts Tryz.infoB
  have g1 : Gr w1 (w1.alloc (.cells #[.int .u8 n] 5)) := (Gr.refl w1).alloc _
  have hb' := (Below.block g1 t (lt_of_block hb)).trans hb
  have h3' := h3.gr g1
  obtain ⟨v', w2, hr, ho, hg, _, hn⟩ := run_append_own_at (P := Tryz.prog) (w1.alloc (.cells #[.int .u8 n] 5)) B.heap.size 92 92 5 i0 _ 1 1 Tryz.underlying92 hi hz0 hz1 hz2 (by rfl) (by decide) v told.length (Lib.byteCells told) h3'.own
      ⟨w1.heap.size, 0, none⟩ 1 1 [.int .u8 n] rfl
      (fun j u hj => by
        have hl : j < 1 := (List.getElem?_eq_some_iff.1 hj).1
        have : j = 0 := by omega
        subst this; simp at hj; subst hj; simp [Addr.add, go_sem])
      (by simp [Value.oneCell']) (by unfold maxLen; omega) (by omega) (by simp; omega)
  obtain ⟨c2, f2, l2, T2, k2⟩ := Tk.put (s := s) hb' h3' (by rw [hlc, hbc]; exact ho) hg (fun k hk => by
    rcases hn with q | q
    · exact .inl (q ▸ hk)
    · rw [q] at hk; cases hk; exact .inr (Nat.le_refl _))
  have c0 : w1.cell? ⟨t, 2, none⟩ = some v := by simp [World.cell?, hb]
  have l1 := lt_of_block hb
  have HR := hide hr
  have HT := hide T2
  have HK := hide ((h4.trans (g1.chg _)).trans k2)
  obtain ⟨ao, nn, cp, hv'⟩ : ∃ ao n c, v' = .slice ao n c := by
    obtain ⟨a, c, h⟩ := T2.shape
    exact ⟨a, _, c, h⟩
  subst hv'
  clear hr T2 k2 h4 h3 h3' hb' hg hn ho HC g1 h5
  go_wp2_with (at_builtin; refine Lib.wpList_append_run _ rfl _ _ _ _ rfl _ _ rfl rfl _ _ HR.out ?_)
  go_ret
  exact ⟨⟨_, rfl⟩, _, HT.out, HK.out⟩
end

end Go.Proofs.YtfcknkanbcndjagGreatDoor

/- THE PROGRAM'S TALK: a Post, and what was told; CONTRACT OF say. -/
namespace Go.Proofs.YtfcknkanbcndjagGreatDoor
open Go.RowKit
attribute [local go_sem] Ext.all Ext.cell Ext.frozen Ext.lt Ext.lt1 Ext.lt2 Ext.ne Ext.ne'
/-- A thing told: a word, and numbers. -/
def sayN (wd : Tx) (ns : List Int) : Tx := (wd ++ ns.flatMap fun n => 32 :: ito n) ++ [10]
theorem sayN_is (wd : Tx) : ∀ ns : List Int, sayN wd ns = sayD (wd :: ns.map ito) := by
  intro ns
  have h : ∀ (ns : List Int) (a : Tx), a ++ ns.flatMap (fun n => 32 :: ito n) = joinT (a :: ns.map ito) := by
    intro ns
    induction ns with
    | nil => intro a; simp [joinT]
    | cons n ns ih =>
      intro a
      simp only [List.flatMap_cons, List.map_cons, joinT]
      rw [← ih (ito n)]
      simp
  unfold sayN sayD
  rw [h]
section
variable {B w w' : World} {t P : Nat} {v v' : Value} {told : Tx}
theorem nums_len' : ∀ {ns : List Int}, (∀ n ∈ ns, i64B n) → (ns.flatMap fun n => 32 :: ito n).length ≤ 22 * ns.length
  | [], _ => by simp
  | n :: ns, h => by
    have h1 := ito_len (h n (by simp))
    have h2 := nums_len' (ns := ns) (fun x hx => h x (by simp [hx]))
    simp only [List.flatMap_cons, List.length_append, List.length_cons]
    omega
theorem nums_succ {ns : List Int} {k : Nat} (hk : k < ns.length) : (ns.take (k + 1)).flatMap (fun n => 32 :: ito n) = (ns.take k).flatMap (fun n => 32 :: ito n) ++ 32 :: ito ns[k] := by
  rw [List.take_succ_eq_append_getElem hk, List.flatMap_append]
  simp
set_option maxRecDepth 20000 in
set_option maxHeartbeats 4000000 in
/-- The program's say. -/
theorem ksay_any (H : Tk B w t P v told) (hB : Gr B w) (hL : Lb B) (hy : ∀ b, ownK t v b → B.heap.size ≤ b) (wd : Tx) {ao : Option Addr} {cp : Nat} {ns : List Int} (hn : ValAt w ao (ns.map iv)) (hnb : ∀ b o, ns ≠ [] → ao = some ⟨b, o, none⟩ → ¬ ownK t v b) (hi : ∀ n ∈ ns, i64B n) (h1 : told.length ≤ 3000000) (h2 : wd.length ≤ 1000) (h3 : ns.length ≤ 100) :
    Calls Tryz.prog 89 #[pv t, sv wd, .slice ao ns.length cp] w fun e w' => e = .returned (.tuple #[]) ∧ ∃ v', Tk B w' t P v' (told ++ sayN wd ns) ∧ Chg w w' (ownK t v) (ownK t v') := by
  have HW := hide (ws_any H hB wd (by omega) (by omega))
  have HH : Hid (∀ V, (∃ u x, Tk B V t P u x ∧ Chg w V (ownK t v) (ownK t u)) → Gr B V) := fun V ⟨u, x, _, k⟩ => (chg_gr0 k hB hy).1
  have HI := hide hi
  have HL := hide (fun V (g : Gr B V) => hL.gr g)
  have HV : Hid (∀ V, (∃ u x, Tk B V t P u x ∧ Chg w V (ownK t v) (ownK t u)) → ∀ k (hk : k < ns.length), ∃ b o, ao = some ⟨b, o, none⟩ ∧ V.cell? ⟨b, o + k, none⟩ = some (iv ns[k])) := fun V ⟨u, x, _, k⟩ j hj => by
    rcases hn with h | ⟨b, o, ha, hb, hc⟩
    · rw [List.map_eq_nil_iff] at h; rw [h] at hj; simp at hj
    · have e := hc j (by simpa using hj)
      rw [List.getElem_map] at e
      refine ⟨b, o, ha, ?_⟩
      rw [World.cell?_of_block (w := w) (k.kp.block b hb ⟨hb, hnb b o (fun e => by rw [e] at hj; simp at hj) ha⟩)]
      exact e
  clear H hB hL hy hn hnb hi
  go_enter Tryz.func89, Tryz.ntmps89
  go_wp2_with (go_at_call 131; refine HW.out.mono ?_; rintro e w1 ⟨⟨r, rfl⟩, v1, t1, k1⟩; have T1 := hide t1; have K1 := hide k1; clear t1 k1)
  go_loopw [15] (fun v15 wr => ∃ (k : Nat) (u : Value), k ≤ ns.length ∧ v15 = .int .i64 k ∧ Hid (Tk B wr t P u ((told ++ wd) ++ (ns.take k).flatMap fun n => 32 :: ito n)) ∧ Hid (Chg w wr (ownK t v) (ownK t u))) (fun v15 _ => ns.length - (intOf v15).toNat)
  case atStart => exact ⟨0, v1, by omega, rfl, by simpa [Hid] using T1.out, K1⟩
  case round =>
    clear T1 K1 HW
    obtain ⟨k, u, hk, rfl, T2, K2⟩ := hrel
    have hbd := nums_len' (ns := ns.take k) (fun n hn => HI.out n (List.mem_of_mem_take hn))
    have hbt : (ns.take k).length ≤ 100 := by rw [List.length_take]; omega
    have hlen : ((told ++ wd) ++ (ns.take k).flatMap fun n => 32 :: ito n).length ≤ 3500000 := by simp only [List.length_append]; omega
    have hG := HH.out wr ⟨_, _, T2.out, K2.out⟩
    by_cases hlt : k < ns.length
    · have hkI : (k : Int) < (ns.length : Int) := by omega
      obtain ⟨b, o, hao, hc⟩ := HV.out wr ⟨_, _, T2.out, K2.out⟩ k hlt
      have HS := hide (nums_succ hlt)
      have hik := HI.out ns[k] (List.getElem_mem hlt)
      have hil := ito_len hik
      have HC := hide (wb_any T2.out hG 32 (by omega))
      have HN := hide (fun V (g : Gr B V) => itoa_any (HL.out V g) hik)
      generalize ns[k] = n at *
      generalize ito n = tn at *
      generalize hA : (told ++ wd) ++ (ns.take k).flatMap (fun n => 32 :: ito n) = A at *
      have HA := hide hA
      subst hao
      clear hA hik hbd hbt hG
      have h1' := Nat.le_trans (Nat.le_of_eq (by rw [← HA.out])) hlen
      go_upto_region 5 with (first | (go_at_call 132; refine HC.out.mono ?_; rintro e w2 ⟨⟨r2, rfl⟩, v2, t2, k2⟩; have T3 := hide t2; have K3 := hide (K2.out.trans k2); have hG2 := HH.out w2 ⟨_, _, T3.out, K3.out⟩; clear t2 k2))
      have gD := hide ((Gr.refl w2).drew)
      have HX : Hid (∀ V, Gr w2 V → Calls Tryz.prog 131 #[.pointer (some ⟨t, 1, none⟩), sv tn] V fun e w' => (∃ r, e = .returned r) ∧ ∃ v', Tk B w' t P v' ((A ++ [32]) ++ tn) ∧ Chg V w' (ownK t v2) (ownK t v')) := fun V g => ws_any (T3.out.gr g) (hG2.trans g) tn (by simp; omega) (by omega)
      have HN2 : Hid (∀ V, Gr w2 V → Calls Tryz.prog 133 #[iv n] V fun e w' => e = .returned (sv tn) ∧ Gr V w') := fun V g => HN.out V (hG2.trans g)
      clear HN HC HI HV h1' hlen hil hG2
      go_region_held3 (fun _ => True) (first | exact trivial) (first
          | (go_at_call 133; with_reducible refine (HN2.out _ gD.out).mono ?_; rintro e w3 ⟨rfl, g3⟩; have G3 := hide (gD.out.trans g3); clear g3)
          | (go_at_call 131; with_reducible refine (HX.out _ G3.out).mono ?_; rintro e w4 ⟨⟨r4, rfl⟩, v4, t4, k4⟩; have T4 := hide t4; have K4 := hide ((K3.out.trans (G3.out.chg _)).trans k4); clear t4 k4)
          | fail)
      all_goals
        go_wp2_with fail
        go_roundw
        case rel => exact ⟨k + 1, v4, by omega, by go_num, by
          unfold Hid
          rw [HS.out, ← List.append_assoc, HA.out]
          have := T4.out
          rwa [List.append_assoc] at this, K4⟩
        case measure => simp [intOf]; omega
    · have hkl : decide ((k : Int) < (ns.length : Int)) = false := decide_eq_false (by omega)
      have HE : Hid (ns.take k = ns) := List.take_of_length_le (by omega)
      have HC := hide (wb_any T2.out hG 10 (by omega))
      clear hG hbd hbt hlen
      go_wp2_with (first | (go_at_call 132; refine HC.out.mono ?_; rintro e w2 ⟨⟨r2, rfl⟩, v2, t2, k2⟩; have T3 := hide t2; have K3 := hide (K2.out.trans k2); clear t2 k2))
      refine bodyPost_end (results_none rfl _ _ _) rfl ⟨rfl, v2, ?_, K3.out⟩
      have := T3.out
      rw [HE.out] at this
      simpa [sayN] using this
end

end Go.Proofs.YtfcknkanbcndjagGreatDoor

/- THE PROGRAM'S TALK over a Post, as one object; CONTRACTS OF code, ways. -/
namespace Go.Proofs.YtfcknkanbcndjagGreatDoor
open Go.RowKit
attribute [local go_sem] Ext.all Ext.cell Ext.frozen Ext.lt Ext.lt1 Ext.lt2 Ext.ne Ext.ne'
/-- A talk at t over the Post P, all younger than W: what the Post knows, what was told. -/
structure Td (W : World) (M : Nat → Prop) (B w : World) (t P : Nat) (S : Nat → Prop) (v : Value) (s : Dk) (n : Nat) (told : Tx) : Prop where
  tk : Tk W w t P v told
  post : Pq M B w P S s.c s.t n s.rs
  ap : ∀ b, S b → ¬ ownK t v b
  nM : ∀ b, M b → ¬ ownK t v b
  gW : Gr W w
  hU : ∀ b, ownK t v b → W.heap.size ≤ b
  hS : ∀ b, S b → W.heap.size ≤ b
section
variable {W : World} {M : Nat → Prop} {B w w' : World} {t P : Nat} {S S' : Nat → Prop} {v v' : Value} {s s' : Dk} {n n' : Nat} {told told' : Tx}
theorem Td.gr (H : Td W M B w t P S v s n told) (g : Gr w w') : Td W M B w' t P S v s n told :=
  ⟨H.tk.gr g, H.post.gr g, H.ap, H.nM, H.gW.trans g, H.hU, H.hS⟩
/-- More is told. -/
theorem Td.says (H : Td W M B w t P S v s n told) (h : Tk W w' t P v' told') (k : Chg w w' (ownK t v) (ownK t v')) : Td W M B w' t P S v' s n told' := by
  obtain ⟨g, y⟩ := chg_gr0 k H.gW H.hU
  refine ⟨h, H.post.keep k.kp (fun b hb => ⟨(H.post.out hb).1, H.nM b hb⟩) (fun b hb => ⟨H.post.lt hb, H.ap b hb⟩), fun b hb e => ?_, fun b hb e => ?_, g, y, H.hS⟩
  · rcases k.nw b e with q | q
    · exact H.ap b hb q
    · have := H.post.lt hb; omega
  · rcases k.nw b e with q | q
    · exact H.nM b hb q
    · have := (H.post.out hb).1; omega
/-- The Post has changed. -/
theorem Td.done (H : Td W M B w t P S v s n told) (h : Pq M B w' P S' s'.c s'.t n' s'.rs) (k : Chg w w' S S') : Td W M B w' t P S' v s' n' told := by
  obtain ⟨g, y⟩ := chg_gr0 k H.gW H.hS
  refine ⟨H.tk.keep k.kp (fun b hb => ⟨H.tk.own_lt hb, fun e => H.ap b e hb⟩), h, fun b hb e => ?_, H.nM, g, H.hU, y⟩
  rcases k.nw b hb with q | q
  · exact H.ap b q e
  · have := H.tk.own_lt e; omega
theorem Td.more (H : Td W M B w t P S v s n told) {m : Nat} (h : n ≤ m) : Td W M B w t P S v s m told := by
  refine ⟨H.tk, ?_, H.ap, H.nM, H.gW, H.hU, H.hS⟩
  obtain ⟨p, k, q, u, tb, z, hp, e⟩ := H.post
  exact ⟨p, k, q, u, tb, z, ⟨hp.blk, ⟨hp.net.h, hp.net.a, hp.net.l, fun j hj => by have := hp.net.g j hj; omega⟩, hp.tab, hp.ows, hp.nop, hp.a1, hp.a2, hp.a3⟩, e⟩
/-- A list that was just made. -/
theorem val_new (w : World) (l : List Value) (T : TypeId) : ValAt (w.alloc (.cells l.toArray T)) (some ⟨w.heap.size, 0, none⟩) l := by
  refine .inr ⟨w.heap.size, 0, rfl, by simp, fun i hi => ?_⟩
  have h := heap_alloc_new w (.cells l.toArray T)
  unfold World.cell?
  simp only [h]
  simp [hi]
/-- The program's say, of a talk. -/
theorem Td.say (H : Td W M B w t P S v s n told) (hL : Lb W) (wd : Tx) {ao : Option Addr} {cp : Nat} {ns : List Int} (hn : ValAt w ao (ns.map iv)) (hnb : ∀ b o, ns ≠ [] → ao = some ⟨b, o, none⟩ → ¬ ownK t v b) (hi : ∀ n ∈ ns, i64B n) (h1 : told.length ≤ 3000000) (h2 : wd.length ≤ 1000) (h3 : ns.length ≤ 100) :
    Calls Tryz.prog 89 #[pv t, sv wd, .slice ao ns.length cp] w fun e w' => e = .returned (.tuple #[]) ∧ ∃ v', Td W M B w' t P S v' s n (told ++ sayN wd ns) ∧ Chg w w' (ownK t v) (ownK t v') :=
  (ksay_any H.tk H.gW hL H.hU wd hn hnb hi h1 h2 h3).mono fun _ _ ⟨he, v', ht, k⟩ => ⟨he, v', H.says ht k, k⟩
/-- .. numbers that were just made. -/
theorem Td.sayNew {w : World} (H : Td W M B w t P S v s n told) (hL : Lb W) (wd : Tx) (ns : List Int) (T : TypeId) (hi : ∀ n ∈ ns, i64B n) (h1 : told.length ≤ 3000000) (h2 : wd.length ≤ 1000) (h3 : ns.length ≤ 100) :
    Calls Tryz.prog 89 #[pv t, sv wd, .slice (some ⟨w.heap.size, 0, none⟩) ns.length ns.length] (w.alloc (.cells (ns.map iv).toArray T)) fun e w' => e = .returned (.tuple #[]) ∧ ∃ v', Td W M B w' t P S v' s n (told ++ sayN wd ns) ∧ Chg w w' (ownK t v) (ownK t v') := by
  have g : Gr w (w.alloc (.cells (ns.map iv).toArray T)) := (Gr.refl w).alloc _
  refine ((H.gr g).say hL wd (cp := ns.length) (val_new w (ns.map iv) T) (fun b o _ e hb => ?_) hi h1 h2 h3).mono fun _ _ ⟨he, v', ht, k⟩ => ⟨he, v', ht, (g.chg _).trans k⟩
  cases e
  have := H.tk.own_lt hb
  omega
theorem Td.sayAt {w : World} (H : Td W M B w t P S v s n told) (hL : Lb W) {q : Nat} (hq : w.heap.size = q) (wd : Tx) (ns : List Int) (T : TypeId) (hi : ∀ n ∈ ns, i64B n) (h1 : told.length ≤ 3000000) (h2 : wd.length ≤ 1000) (h3 : ns.length ≤ 100) :
    Calls Tryz.prog 89 #[pv t, sv wd, .slice (some ⟨q, 0, none⟩) ns.length ns.length] (w.alloc (.cells (ns.map iv).toArray T)) fun e w' => e = .returned (.tuple #[]) ∧ ∃ v', Td W M B w' t P S v' s n (told ++ sayD (wd :: ns.map ito)) ∧ Chg w w' (ownK t v) (ownK t v') := by
  subst hq
  have := H.sayNew hL wd ns T hi h1 h2 h3
  rw [sayN_is] at this
  exact this
/-- .. without numbers. -/
theorem Td.say0 (H : Td W M B w t P S v s n told) (hL : Lb W) (wd : Tx) (h1 : told.length ≤ 3000000) (h2 : wd.length ≤ 1000) :
    Calls Tryz.prog 89 #[pv t, sv wd, .slice none 0 0] w fun e w' => e = .returned (.tuple #[]) ∧ ∃ v', Td W M B w' t P S v' s n (told ++ sayD [wd]) ∧ Chg w w' (ownK t v) (ownK t v') := by
  refine (H.say (ao := none) (cp := 0) (ns := []) hL wd (.inl rfl) (fun b o h _ => absurd rfl h) (by simp) h1 h2 (by simp)).mono ?_
  rintro e w' ⟨he, v', ht, k⟩
  rw [sayN_is] at ht
  exact ⟨he, v', ht, k⟩
/-- The program's code. -/
theorem Td.code (H : Td W M B w t P S v s n told) (hL : Lb W) {c : Int} (hc : i64B c) (h1 : told.length ≤ 2900000) :
    Calls Tryz.prog 77 #[pv t, iv c] w fun e w' => e = .returned (.tuple #[]) ∧ ∃ v', Td W M B w' t P S v' s n (told ++ codeT c) ∧ Chg w w' (ownK t v) (ownK t v') := by
  by_cases hz : c = 0
  · subst hz
    have HS := hide (H.say0 hL [111, 107] (by omega) (by decide))
    have HE : Hid (codeT 0 = sayD [[111, 107]]) := rfl
    rw [HE.out]
    clear HE H hL hc
    generalize sayD [[111, 107]] = x at *
    go_enter Tryz.func77, Tryz.ntmps77
    go_wp2_with (go_at_call 89; refine HS.out.mono ?_; rintro e w1 ⟨rfl, h⟩; have HH := hide h; clear h)
    exact bodyPost_end (results_none rfl _ _ _) rfl ⟨rfl, HH.out⟩
  · have e0 : (c != 0) = true := by simpa using hz
    have HS : Hid (Calls Tryz.prog 89 #[pv t, sv [110, 111], .slice (some ⟨w.heap.size, 0, none⟩) 1 1] (w.alloc (.cells #[iv c] 3)) fun e w' => e = .returned (.tuple #[]) ∧ ∃ v', Td W M B w' t P S v' s n (told ++ codeT c) ∧ Chg w w' (ownK t v) (ownK t v')) := by
      have := H.sayNew hL [110, 111] [c] 3 (by simpa using hc) (by omega) (by decide) (by simp)
      rw [sayN_is] at this
      have e : codeT c = sayD ([110, 111] :: [c].map ito) := by unfold codeT; rw [if_neg hz]; rfl
      unfold Hid
      rw [e]
      exact this
    clear H hL hc
    generalize codeT c = x at *
    go_enter Tryz.func77, Tryz.ntmps77
    go_wp2_with (go_at_call 89; refine HS.out.mono ?_; rintro e w1 ⟨rfl, h⟩; have HH := hide h; clear h)
    exact bodyPost_ret (results_none rfl _ _ _) rfl ⟨rfl, HH.out⟩
theorem flatK_succ {α : Type} (f : α → Tx) {l : List α} {k : Nat} (hk : k < l.length) : (l.take (k + 1)).flatMap f = (l.take k).flatMap f ++ f l[k] := by
  rw [List.take_succ_eq_append_getElem hk, List.flatMap_append]
  simp
theorem flatK_len {α : Type} {f : α → Tx} {N : Nat} : ∀ {l : List α}, (∀ x ∈ l, (f x).length ≤ N) → (l.flatMap f).length ≤ N * l.length
  | [], _ => by simp
  | r :: l, h => by
    have h1 := h r (by simp)
    have h2 := flatK_len (l := l) (fun x hx => h x (by simp [hx]))
    simp only [List.flatMap_cons, List.length_append, List.length_cons]
    rw [Nat.mul_add]
    omega
theorem sayN_len {wd : Tx} {ns : List Int} (hi : ∀ n ∈ ns, i64B n) : (sayN wd ns).length ≤ wd.length + 22 * ns.length + 1 := by
  have := nums_len' hi
  unfold sayN
  simp only [List.length_append, List.length_cons, List.length_nil]
  omega
/-- The embedded Net, asked for a way. -/
theorem Pq.way3 {c : Nat → Nat → Nat} {t : Tn} {rs : List Rt} (H : Pq M B w P S c t n rs) : ∃ p, P < w.heap.size ∧ w.cell? ⟨P, 0, none⟩ = some (pv p) ∧ ∀ X, Gr w X → ∀ a z : Int, Calls Tryz.prog 57 #[pv p, iv a, iv z] X fun e w' => e = .returned (.agg #[iv (wayTn t a z).1, iv (wayTn t a z).2.1, iv (wayTn t a z).2.2]) ∧ Gr X w' := by
  obtain ⟨p, k, q, v, tb, u, h, e⟩ := H
  refine ⟨p, lt_of_block h.blk, (cells2 h.blk).1, fun X g a z => ?_⟩
  exact (netWay_any (h.net.h.ext g) a z).mono fun e w' ⟨he, d', hd'⟩ => ⟨he, by rw [hd']; exact d'.gr⟩
theorem Pq.ways_bd {c : Nat → Nat → Nat} {t : Tn} {rs : List Rt} (H : Pq M B w P S c t n rs) (hn : n ≤ 100000) (a k : Int) : i64B (wayTn t a k).1 ∧ i64B (wayTn t a k).2.1 ∧ i64B (wayTn t a k).2.2 := by
  obtain ⟨p, k', q, v, tb, u, h, e⟩ := H
  obtain ⟨h1, h2, h3⟩ := way_bd h.net.a h.net.g hn a k
  exact ⟨i64_of h1, i64_of h2, i64_of h3⟩
/-- The talk's Post. -/
theorem Td.cell0 (H : Td W M B w t P S v s n told) : w.cell? ⟨t, 0, none⟩ = some (pv P) ∧ t < w.heap.size := by
  obtain ⟨q, h, _⟩ := H.tk.blk
  exact ⟨by simp [World.cell?, h], lt_of_block h⟩
set_option maxRecDepth 20000 in
set_option maxHeartbeats 4000000 in
/-- The program's ways. -/
theorem Td.ways (H : Td W M B w t P S v s n told) (hL : Lb W) (hn : n ≤ 100000) (a : Int) (h1 : told.length ≤ 2900000) :
    Calls Tryz.prog 79 #[pv t, iv a] w fun e w' => e = .returned (.tuple #[]) ∧ ∃ v', Td W M B w' t P S v' s n (told ++ toldA s (.ways a)) ∧ Chg w w' (ownK t v) (ownK t v') := by
  have HH := hide H
  have HL := hide hL
  have HB := hide (fun k => H.post.ways_bd hn a k)
  have HE : Hid (toldA s (.ways a) = (List.range 6).flatMap fun (k : Nat) => wayL (wayTn s.t a (k : Int)) k) := rfl
  clear H hL
  go_enter Tryz.func79, Tryz.ntmps79
  go_wp2_with fail
  go_loopw [6] (fun v6 wr => ∃ (k : Nat) (u : Value), k ≤ 6 ∧ v6 = .int .i64 (k : Int) ∧ Hid (Td W M B wr t P S u s n (told ++ ((List.range 6).take k).flatMap fun (k : Nat) => wayL (wayTn s.t a (k : Int)) k)) ∧ Hid (Chg w wr (ownK t v) (ownK t u))) (fun v6 _ => 6 - (intOf v6).toNat)
  case atStart => exact ⟨0, v, by omega, rfl, by simpa [Hid] using HH.out, (Gr.refl w).chg _⟩
  case round =>
    obtain ⟨k, u, hk, rfl, T2, K2⟩ := hrel
    have hlw : ∀ j : Nat, (wayL (wayTn s.t a (j : Int)) j).length ≤ 200 ∨ 6 ≤ j := fun j => by
      by_cases hj : j < 6
      · obtain ⟨b1, b2, b3⟩ := HB.out (j : Int)
        have b0 : i64B (j : Int) := i64_of ⟨by omega, by omega⟩
        have := sayN_len (wd := wWay) (ns := [(j : Int), (wayTn s.t a j).1, (wayTn s.t a j).2.1, (wayTn s.t a j).2.2]) (by simp; exact ⟨b0, b1, b2, b3⟩)
        rw [sayN_is] at this
        left
        exact Nat.le_trans this (by simp [wWay])
      · exact .inr (by omega)
    have hlen : (told ++ ((List.range 6).take k).flatMap fun (k : Nat) => wayL (wayTn s.t a (k : Int)) k).length ≤ 2950000 := by
      have := flatK_len (f := fun (k : Nat) => wayL (wayTn s.t a (k : Int)) k) (N := 200) (l := (List.range 6).take k) (fun x hx => by
        have hm := List.mem_of_mem_take hx
        rw [List.mem_range] at hm
        rcases hlw x with q | q
        · exact q
        · omega)
      have h2 : ((List.range 6).take k).length ≤ 6 := by rw [List.length_take, List.length_range]; omega
      rw [List.length_append]
      omega
    clear hlw
    by_cases hlt : k < 6
    · have hkI : (k : Int) < 6 := by omega
      obtain ⟨b1, b2, b3⟩ := HB.out (k : Int)
      have b0 : i64B (k : Int) := i64_of ⟨by omega, by omega⟩
      obtain ⟨p, lP, cP, hW⟩ := T2.out.post.way3
      have HW := hide (hW wr (Gr.refl wr) a (k : Int))
      clear hW
      obtain ⟨ct, lt⟩ := T2.out.cell0
      have HF : Hid (((List.range 6).take (k + 1)).flatMap (fun (k : Nat) => wayL (wayTn s.t a (k : Int)) k) = ((List.range 6).take k).flatMap (fun (k : Nat) => wayL (wayTn s.t a (k : Int)) k) ++ wayL (wayTn s.t a (k : Int)) k) := by
        have := flatK_succ (fun (k : Nat) => wayL (wayTn s.t a (k : Int)) k) (l := List.range 6) (k := k) (by simpa using hlt)
        unfold Hid
        rw [this]
        simp
      have HX : Hid (∀ V X, Gr wr V → Calls Tryz.prog 89 #[pv t, sv [119, 97, 121], .slice (some ⟨V.heap.size + 1, 0, none⟩) 4 4] ((V.alloc X).alloc (.cells #[iv (k : Int), iv (wayTn s.t a k).1, iv (wayTn s.t a k).2.1, iv (wayTn s.t a k).2.2] 3)) fun e w' => e = .returned (.tuple #[]) ∧ ∃ v', Td W M B w' t P S v' s n ((told ++ ((List.range 6).take k).flatMap fun (k : Nat) => wayL (wayTn s.t a (k : Int)) k) ++ wayL (wayTn s.t a (k : Int)) k) ∧ Chg (V.alloc X) w' (ownK t u) (ownK t v')) := fun V X g =>
        ((T2.out.gr g).gr ((Gr.refl V).alloc X)).sayAt HL.out (by simp) [119, 97, 121] [(k : Int), (wayTn s.t a k).1, (wayTn s.t a k).2.1, (wayTn s.t a k).2.2] 3 (by simp; exact ⟨b0, b1, b2, b3⟩) (by omega) (by decide) (by simp)
      clear b0 b1 b2 b3 hlen
      generalize hA : told ++ ((List.range 6).take k).flatMap (fun (k : Nat) => wayL (wayTn s.t a (k : Int)) k) = A at *
      have HA := hide hA
      clear hA
      generalize wayL (wayTn s.t a (k : Int)) k = Y at *
      generalize (wayTn s.t a (k : Int)).1 = y1 at *
      generalize (wayTn s.t a (k : Int)).2.1 = y2 at *
      generalize (wayTn s.t a (k : Int)).2.2 = y3 at *
      go_wp2_with (first
        | (go_at_call 57; refine HW.out.mono ?_; rintro e w1 ⟨rfl, g1⟩; have G1 := hide g1; clear g1)
        | (go_at_call 89; refine (HX.out w1 _ G1.out).mono ?_; rintro e w2 ⟨rfl, v2, t2, k2⟩; have T3 := hide t2; have K3 := hide ((K2.out.trans (((G1.out).alloc _).chg _)).trans k2); clear t2 k2))
      go_roundw
      case rel => exact ⟨k + 1, v2, by omega, by go_num, by
        unfold Hid
        rw [HF.out, ← List.append_assoc, HA.out]
        exact T3.out, K3⟩
      case measure => simp [intOf]; omega
    · have hkl : decide ((k : Int) < 6) = false := decide_eq_false (by omega)
      have HT : Hid ((List.range 6).take k = List.range 6) := List.take_of_length_le (by simp; omega)
      go_wp2_with fail
      refine bodyPost_end (results_none rfl _ _ _) rfl ⟨rfl, u, ?_, K2.out⟩
      have := T2.out
      rw [HT.out] at this
      rw [HE.out]
      exact this
end

end Go.Proofs.YtfcknkanbcndjagGreatDoor

/- CONTRACTS OF the program's talk: news, routes. -/
namespace Go.Proofs.YtfcknkanbcndjagGreatDoor
open Go.RowKit
attribute [local go_sem] Ext.all Ext.cell Ext.frozen Ext.lt Ext.lt1 Ext.lt2 Ext.ne Ext.ne'
section
variable {W : World} {M : Nat → Prop} {B w w' : World} {t P : Nat} {S S' : Nat → Prop} {v v' : Value} {s s' : Dk} {n n' : Nat} {told told' : Tx}
/-- The embedded Net, asked for its news. -/
theorem Pq.news {c : Nat → Nat → Nat} {t : Tn} {rs : List Rt} (H : Pq M B w P S c t n rs) : ∃ p, P < w.heap.size ∧ w.cell? ⟨P, 0, none⟩ = some (pv p) ∧ Calls Tryz.prog 125 #[pv p] w fun e w' => ∃ ao cp, e = .returned (.slice ao (newsL t.news).length cp) ∧ NewsAt w' ao (newsL t.news) ∧ (∀ b o, newsL t.news ≠ [] → ao = some ⟨b, o, none⟩ → w.heap.size ≤ b) ∧ Gr w w' := by
  obtain ⟨p, k, q, v, tb, u, h, e⟩ := H
  refine ⟨p, lt_of_block h.blk, (cells2 h.blk).1, (netNews_any h.net.h h.net.l).mono ?_⟩
  rintro e w' ⟨z, rfl, ho, g⟩
  obtain ⟨ao, cp, rfl, hn, hb⟩ := ho.shape
  exact ⟨ao, cp, rfl, hn, fun b o _ ha => hb b o ha, g⟩
theorem Pq.news_bd {c : Nat → Nat → Nat} {t : Tn} {rs : List Rt} (H : Pq M B w P S c t n rs) (hn : n ≤ 100000) : (∀ x ∈ newsL t.news, i64B x.1 ∧ i64B x.2.1 ∧ i64B x.2.2.1 ∧ i64B x.2.2.2.1 ∧ i64B x.2.2.2.2) ∧ (newsL t.news).length ≤ 40 := by
  obtain ⟨p, k', q, v, tb, u, h, e⟩ := H
  exact ⟨Go.Proofs.YtfcknkanbcndjagGreatDoor.news_bd h.net.a h.net.g hn, by have := h.net.l; simpa [newsL] using this⟩
theorem newL_is (x : Nws) : newL x = sayD ([110, 101, 119, 115] :: [x.1, x.2.1, x.2.2.1, x.2.2.2.1, x.2.2.2.2].map ito) := rfl
set_option maxRecDepth 20000 in
set_option maxHeartbeats 4000000 in
/-- The program's news. -/
theorem Td.news (H : Td W M B w t P S v s n told) (hL : Lb W) (hn : n ≤ 100000) (h1 : told.length ≤ 2900000) :
    Calls Tryz.prog 81 #[pv t] w fun e w' => e = .returned (.tuple #[]) ∧ ∃ v', Td W M B w' t P S v' s n (told ++ toldA s .news) ∧ Chg w w' (ownK t v) (ownK t v') := by
  obtain ⟨hb, hnl⟩ := H.post.news_bd hn
  have HE : Hid (toldA s .news = (newsL s.t.news).flatMap newL ++ sayD [[101, 110, 100]]) := rfl
  obtain ⟨p, lP, cP, hN⟩ := H.post.news
  have HN := hide hN
  have HH := hide H
  have HL := hide hL
  have HB := hide hb
  obtain ⟨ct, ltt⟩ := H.cell0
  clear H hL hb hN
  rw [HE.out]
  clear HE
  generalize newsL s.t.news = l at *
  go_enter Tryz.func81, Tryz.ntmps81
  go_wp2_with (go_at_call 125; refine HN.out.mono ?_; rintro e w1 ⟨ao, cp, rfl, h2, h3, g1⟩; have NA := hide h2; have NB := hide h3; have G1 := hide g1; clear h2 h3 g1)
  have hl0 : Hid (∀ b o, l ≠ [] → ao = some ⟨b, o, none⟩ → ¬ ownK t v b) := fun b o h0 ha e => by
    have h4 := NB.out b o h0 ha
    have h5 := HH.out.tk.own_lt e
    omega
  go_loopw [13] (fun v13 wr => ∃ (k : Nat) (u : Value), k ≤ l.length ∧ v13 = .int .i64 (k : Int) ∧ Hid (Td W M B wr t P S u s n (told ++ (l.take k).flatMap newL)) ∧ Hid (Chg w1 wr (ownK t v) (ownK t u))) (fun v13 _ => l.length - (intOf v13).toNat)
  case atStart => exact ⟨0, v, by omega, rfl, by simpa [Hid] using HH.out.gr G1.out, (Gr.refl w1).chg _⟩
  case round =>
    clear HN cP ct lP ltt
    obtain ⟨k, u, hk, rfl, T2, K2⟩ := hrel
    have hlen : (told ++ (l.take k).flatMap newL).length ≤ 2950000 := by
      have := flatK_len (f := newL) (N := 200) (l := l.take k) (fun x hx => by
        obtain ⟨b1, b2, b3, b4, b5⟩ := HB.out x (List.mem_of_mem_take hx)
        have := sayN_len (wd := [110, 101, 119, 115]) (ns := [x.1, x.2.1, x.2.2.1, x.2.2.2.1, x.2.2.2.2]) (by simp; exact ⟨b1, b2, b3, b4, b5⟩)
        rw [sayN_is, ← newL_is] at this
        exact Nat.le_trans this (by simp))
      have h2 : (l.take k).length ≤ 40 := by rw [List.length_take]; omega
      rw [List.length_append]
      omega
    by_cases hlt : k < l.length
    · have hkI : (k : Int) < (l.length : Int) := by omega
      have hne : l ≠ [] := fun e => by rw [e] at hlt; simp at hlt
      obtain ⟨b1, b2, b3, b4, b5⟩ := HB.out l[k] (List.getElem_mem hlt)
      rcases NA.out with h0 | ⟨b, o, hao, hbl, hcs⟩
      · exact absurd h0 hne
      have hbk := hl0.out b o hne hao
      have eb := K2.out.kp.block b hbl ⟨hbl, hbk⟩
      obtain ⟨x0, x1, x2, x3, x4⟩ := hcs k hlt
      have y0 := (World.cell?_of_block (a := ⟨b, o + k * 5, none⟩) eb).trans x0
      have y1 := (World.cell?_of_block (a := ⟨b, o + k * 5 + 1, none⟩) eb).trans x1
      have y2 := (World.cell?_of_block (a := ⟨b, o + k * 5 + 2, none⟩) eb).trans x2
      have y3 := (World.cell?_of_block (a := ⟨b, o + k * 5 + 3, none⟩) eb).trans x3
      have y4 := (World.cell?_of_block (a := ⟨b, o + k * 5 + 4, none⟩) eb).trans x4
      have HF := hide (flatK_succ newL hlt)
      have HX : Hid (∀ X, Calls Tryz.prog 89 #[pv t, sv [110, 101, 119, 115], .slice (some ⟨wr.heap.size + 1, 0, none⟩) 5 5] ((wr.alloc X).alloc (.cells #[iv l[k].1, iv l[k].2.1, iv l[k].2.2.1, iv l[k].2.2.2.1, iv l[k].2.2.2.2] 3)) fun e w' => e = .returned (.tuple #[]) ∧ ∃ v', Td W M B w' t P S v' s n ((told ++ (l.take k).flatMap newL) ++ newL l[k]) ∧ Chg (wr.alloc X) w' (ownK t u) (ownK t v')) := fun X =>
        (T2.out.gr ((Gr.refl wr).alloc X)).sayAt HL.out (by simp) [110, 101, 119, 115] [l[k].1, l[k].2.1, l[k].2.2.1, l[k].2.2.2.1, l[k].2.2.2.2] 3 (by simp; exact ⟨b1, b2, b3, b4, b5⟩) (by omega) (by decide) (by simp)
      subst hao
      clear b1 b2 b3 b4 b5 hlen x0 x1 x2 x3 x4 hcs eb hbk hbl hne
      generalize hA : told ++ (l.take k).flatMap newL = A at *
      have HA := hide hA
      clear hA
      generalize newL l[k] = Y at *
      generalize l[k] = xx at *
      obtain ⟨z0, z1, z2, z3, z4⟩ := xx
      simp only at y0 y1 y2 y3 y4 HX
      go_wp2_with (first
        | (go_at_call 89; refine (HX.out _).mono ?_; rintro e w2 ⟨rfl, v2, t2, k2⟩; have T3 := hide t2; have K3 := hide ((K2.out.trans (((Gr.refl wr).alloc _).chg _)).trans k2); clear t2 k2))
      go_roundw
      case rel => exact ⟨k + 1, v2, by omega, by go_num, by
        unfold Hid
        rw [HF.out, ← List.append_assoc, HA.out]
        exact T3.out, K3⟩
      case measure => simp [intOf]; omega
    · have hkl : decide ((k : Int) < (l.length : Int)) = false := decide_eq_false (by omega)
      have HT : Hid (l.take k = l) := List.take_of_length_le (by omega)
      have HX := hide (T2.out.say0 HL.out [101, 110, 100] (by omega) (by decide))
      go_wp2_with (first
        | (go_at_call 89; refine HX.out.mono ?_; rintro e w2 ⟨rfl, v2, t2, k2⟩; have T3 := hide t2; have K3 := hide (((G1.out.chg _).trans K2.out).trans k2); clear t2 k2))
      refine bodyPost_end (results_none rfl _ _ _) rfl ⟨rfl, v2, ?_, K3.out⟩
      have := T3.out
      rw [HT.out] at this
      rw [← List.append_assoc]
      exact this
theorem tabK_i64 {l : List Rt} (h : Tab l) : ∀ r ∈ l, i64B r.2.2 := fun r hr => by
  have := (h.ok r hr).2
  unfold hopB at this
  have := of_decide_eq_true this
  exact i64_of ⟨by omega, by omega⟩
theorem rouL_is (r : Rt) : rouL r = sayD (([114, 111, 117, 116, 101, 32] ++ textL r.1 r.2.1) :: [r.2.2].map ito) := by
  simp [rouL, sayD, joinT, wRoute]
theorem textK_len (l b : Int) : (textL l b).length ≤ 9 := by
  unfold textL
  split
  · rename_i h
    have := ok_iff.1 h
    rw [List.length_append, bitsL_length]
    split <;> simp <;> omega
  · simp
theorem catK (a b : Tx) : (⟨a.toArray⟩ ++ ⟨b.toArray⟩ : ByteArray) = ⟨(a ++ b).toArray⟩ := by
  apply ByteArray.ext
  simp [ByteArray.data_append]
set_option maxRecDepth 20000 in
set_option maxHeartbeats 4000000 in
/-- The program's routes, of no table. -/
theorem Td.routes_no (H : Td W M B w t P S v s n told) (hL : Lb W) (h1 : told.length ≤ 2900000) :
    Calls Tryz.prog 83 #[pv t, .pointer none] w fun e w' => e = .returned (.tuple #[]) ∧ ∃ v', Td W M B w' t P S v' s n (told ++ sayD [wNo, ito 1]) ∧ Chg w w' (ownK t v) (ownK t v') := by
  have HX : Hid (Calls Tryz.prog 89 #[pv t, sv [110, 111], .slice (some ⟨w.heap.size, 0, none⟩) 1 1] (w.alloc (.cells #[iv 1] 3)) fun e w' => e = .returned (.tuple #[]) ∧ ∃ v', Td W M B w' t P S v' s n (told ++ sayD [wNo, ito 1]) ∧ Chg w w' (ownK t v) (ownK t v')) :=
    H.sayAt hL rfl [110, 111] [1] 3 (by simp; exact ⟨by decide, by decide⟩) (by omega) (by decide) (by simp)
  clear H hL
  generalize sayD [wNo, ito 1] = Z at *
  go_enter Tryz.func83, Tryz.ntmps83
  go_wp2_with (go_at_call 89; refine HX.out.mono ?_; rintro e w1 ⟨rfl, h⟩; have HH := hide h; clear h)
  exact bodyPost_ret (results_none rfl _ _ _) rfl ⟨rfl, HH.out⟩
theorem val_new1 (w : World) (x : Value) (T : TypeId) : ValAt (w.alloc (.cells #[x] T)) (some ⟨w.heap.size, 0, none⟩) [x] := val_new w [x] T
set_option maxRecDepth 20000 in
set_option maxHeartbeats 8000000 in
/-- The program's routes, of a table. -/
theorem Td.routes (H : Td W M B w t P S v s n told) (hL : Lb W) (h1 : told.length ≤ 2900000) {tb : Nat} {l : List Rt} (hI : Is w tb l) (hT : Tab l) :
    Calls Tryz.prog 83 #[pv t, pv tb] w fun e w' => e = .returned (.tuple #[]) ∧ ∃ v', Td W M B w' t P S v' s n (told ++ (l.flatMap rouL ++ sayD [wEnd])) ∧ Chg w w' (ownK t v) (ownK t v') := by
  have HN := hide (hI.list hT)
  have HH := hide H
  have HL := hide hL
  have HB := hide (tabK_i64 hT)
  have hnl := hT.len
  clear H hL hI hT
  go_enter Tryz.func83, Tryz.ntmps83
  go_wp2_with (go_at_call 60; refine HN.out.mono ?_; rintro e w1 ⟨ao, cp, rfl, h2, g1⟩; have NA := hide h2; have G1 := hide g1; clear h2 g1)
  go_loopw [14] (fun v14 wr => ∃ (k : Nat) (u : Value), k ≤ l.length ∧ v14 = .int .i64 (k : Int) ∧ Hid (Td W M B wr t P S u s n (told ++ (l.take k).flatMap rouL)) ∧ Hid (Chg w1 wr (ownK t v) (ownK t u))) (fun v14 _ => l.length - (intOf v14).toNat)
  case atStart => exact ⟨0, v, by omega, rfl, by simpa [Hid] using HH.out.gr G1.out, (Gr.refl w1).chg _⟩
  case round =>
    clear HN
    obtain ⟨k, u, hk, rfl, T2, K2⟩ := hrel
    have hlen : (told ++ (l.take k).flatMap rouL).length ≤ 2950000 := by
      have := flatK_len (f := rouL) (N := 60) (l := l.take k) (fun x hx => by
        have b1 := HB.out x (List.mem_of_mem_take hx)
        have b2 := textK_len x.1 x.2.1
        have := sayN_len (wd := [114, 111, 117, 116, 101, 32] ++ textL x.1 x.2.1) (ns := [x.2.2]) (by simpa using b1)
        rw [sayN_is, ← rouL_is] at this
        simp only [List.length_append, List.length_cons, List.length_nil] at this
        omega)
      have h2 : (l.take k).length ≤ 40 := by rw [List.length_take]; omega
      rw [List.length_append]
      omega
    by_cases hlt : k < l.length
    · have hkI : (k : Int) < (l.length : Int) := by omega
      have hne : l ≠ [] := fun e => by rw [e] at hlt; simp at hlt
      have b1 := HB.out l[k] (List.getElem_mem hlt)
      have htl := textK_len l[k].1 l[k].2.1
      rcases NA.out with h0 | ⟨b, o, hao, hbl, hbm, hcs⟩
      · exact absurd h0 hne
      have hbk : ¬ ownK t v b := fun e => by have := HH.out.tk.own_lt e; omega
      have eb := K2.out.kp.block b hbl ⟨hbl, hbk⟩
      obtain ⟨x0, x1, x2⟩ := hcs k hlt
      have y0 := (World.cell?_of_block (a := ⟨b, o + k * 3, none⟩) eb).trans x0
      have y1 := (World.cell?_of_block (a := ⟨b, o + k * 3 + 1, none⟩) eb).trans x1
      have y2 := (World.cell?_of_block (a := ⟨b, o + k * 3 + 2, none⟩) eb).trans x2
      have HF := hide (flatK_succ rouL hlt)
      have HP := hide (fun V => text_any l[k].1 l[k].2.1 V)
      obtain ⟨s1, HE1, e1⟩ : ∃ c, Hid (c = (⟨([114, 111, 117, 116, 101, 32] ++ textL l[k].1 l[k].2.1).toArray⟩ : ByteArray)) ∧ ∀ w : World, (Op.stringOp .add ⟨#[114, 111, 117, 116, 101, 32]⟩ ⟨(textL l[k].1 l[k].2.1).toArray⟩).run Tryz.prog w = .ok (.string c) w := by
        refine ⟨⟨#[114, 111, 117, 116, 101, 32]⟩ ++ ⟨(textL l[k].1 l[k].2.1).toArray⟩, ?_, fun w => run_string_add_sum w _ _ (by rw [size_of_list]; simp [ByteArray.size]; omega)⟩
        unfold Hid
        rw [show (⟨#[114, 111, 117, 116, 101, 32]⟩ : ByteArray) = ⟨[114, 111, 117, 116, 101, 32].toArray⟩ from rfl, catK]
      have HX : Hid (∀ V aa, Gr wr V → ValAt V aa [iv l[k].2.2] → (∀ b o, aa = some ⟨b, o, none⟩ → wr.heap.size ≤ b) → Calls Tryz.prog 89 #[pv t, .string s1, .slice aa 1 1] V fun e w' => e = .returned (.tuple #[]) ∧ ∃ v', Td W M B w' t P S v' s n ((told ++ (l.take k).flatMap rouL) ++ rouL l[k]) ∧ Chg V w' (ownK t u) (ownK t v')) := fun V aa g hv hy => by
        rw [rouL_is, HE1.out, ← sayN_is]
        exact (T2.out.gr g).say HL.out _ (ns := [l[k].2.2]) hv (fun b o _ e hb => by have := hy b o e; have := T2.out.tk.own_lt hb; omega) (by simpa using b1) (by omega) (by simp; omega) (by simp)
      subst hao
      clear b1 hlen x0 x1 x2 hcs eb hbk hbl hne htl hbm
      generalize hA : told ++ (l.take k).flatMap rouL = A at *
      have HA := hide hA
      clear hA
      generalize rouL l[k] = Y at *
      generalize l[k] = xx at *
      obtain ⟨z0, z1, z2⟩ := xx
      simp only at y0 y1 y2 HX HP e1
      clear HE1
      generalize textL z0 z1 = tx at *
      go_upto_region 5 with (fail)
      have g0 : Gr wr (wr.alloc (.cells #[iv z0, iv z1, iv z2] 133)) := (Gr.refl wr).alloc _
      have h0 := heap_alloc_new wr (.cells #[iv z0, iv z1, iv z2] 133)
      refine wp_gen (fun V => Hid (Gr wr V) ∧ V.cell? ⟨wr.heap.size, 0, none⟩ = some (iv z0) ∧ V.cell? ⟨wr.heap.size, 1, none⟩ = some (iv z1) ∧ V.cell? ⟨wr.heap.size, 2, none⟩ = some (iv z2) ∧ wr.heap.size < V.heap.size) ⟨g0, by unfold World.cell?; rw [h0]; rfl, by unfold World.cell?; rw [h0]; rfl, by unfold World.cell?; rw [h0]; rfl, by simp⟩ ?_
      clear g0 h0 y0 y1 y2
      rintro V ⟨G2, q0, q1, q2, lq⟩
      obtain ⟨q, hq⟩ : ∃ q, q = wr.heap.size := ⟨_, rfl⟩
      rw [← hq] at q0 q1 q2 lq ⊢
      have HQ := hide hq
      clear hq
      have gD := hide ((Gr.refl V).drew)
      have HC : Hid (∀ X, Gr V X → X.cell? ⟨q, 0, none⟩ = some (iv z0) ∧ X.cell? ⟨q, 1, none⟩ = some (iv z1) ∧ X.cell? ⟨q, 2, none⟩ = some (iv z2)) := fun X g =>
        ⟨(Below.cell g (p := ⟨q, _, none⟩) lq).trans q0, (Below.cell g (p := ⟨q, _, none⟩) lq).trans q1, (Below.cell g (p := ⟨q, _, none⟩) lq).trans q2⟩
      have HY : Hid (∀ d : Ext V.drew, Calls Tryz.prog 89 #[pv t, .string s1, .slice (some ⟨d.out.heap.size, 0, none⟩) 1 1] (d.out.alloc (.cells #[iv z2] 3)) fun e w' => e = .returned (.tuple #[]) ∧ ∃ v', Td W M B w' t P S v' s n (A ++ Y) ∧ Chg w1 w' (ownK t v) (ownK t v') ∧ w'.cell? ⟨q, 0, none⟩ = some (iv z0) ∧ w'.cell? ⟨q, 1, none⟩ = some (iv z1) ∧ w'.cell? ⟨q, 2, none⟩ = some (iv z2)) := fun d => by
        have g3 : Gr V (d.out.alloc (.cells #[iv z2] 3)) := (gD.out.trans d.gr).alloc _
        have h2 := Below.size G2.out
        have h3 := Below.size (gD.out.trans d.gr)
        refine (HX.out _ _ (G2.out.trans g3) (val_new1 d.out (iv z2) _) (fun b o e => by cases e; omega)).mono ?_
        rintro e w2 ⟨he, v2, t2, k2⟩
        have hq2 : q < (d.out.alloc (.cells #[iv z2] 3)).heap.size := Nat.lt_of_lt_of_le lq (Below.size g3)
        have eb := k2.kp.block q hq2 ⟨hq2, fun e => by have := T2.out.tk.own_lt e; have := HQ.out; omega⟩
        obtain ⟨y0, y1, y2⟩ := HC.out _ g3
        exact ⟨he, v2, t2, (K2.out.trans ((G2.out.trans g3).chg _)).trans k2, (World.cell?_of_block (a := ⟨q, 0, none⟩) eb).trans y0, (World.cell?_of_block (a := ⟨q, 1, none⟩) eb).trans y1, (World.cell?_of_block (a := ⟨q, 2, none⟩) eb).trans y2⟩
      have gE := hide (((Gr.refl V).alloc (.cells #[iv z2] 3)).drew)
      have HY2 : Hid (∀ d : Ext (V.alloc (.cells #[iv z2] 3)).drew, Calls Tryz.prog 89 #[pv t, .string s1, .slice (some ⟨V.heap.size, 0, none⟩) 1 1] d.out fun e w' => e = .returned (.tuple #[]) ∧ ∃ v', Td W M B w' t P S v' s n (A ++ Y) ∧ Chg w1 w' (ownK t v) (ownK t v') ∧ w'.cell? ⟨q, 0, none⟩ = some (iv z0) ∧ w'.cell? ⟨q, 1, none⟩ = some (iv z1) ∧ w'.cell? ⟨q, 2, none⟩ = some (iv z2)) := fun d => by
        have g3 : Gr V d.out := gE.out.trans d.gr
        have h2 := Below.size G2.out
        refine (HX.out _ _ (G2.out.trans g3) ((val_new1 V (iv z2) 3).gr (((Gr.refl _).drew).trans d.gr)) (fun b o e => by cases e; omega)).mono ?_
        rintro e w2 ⟨he, v2, t2, k2⟩
        have hq2 : q < d.out.heap.size := Nat.lt_of_lt_of_le lq (Below.size g3)
        have eb := k2.kp.block q hq2 ⟨hq2, fun e => by have := T2.out.tk.own_lt e; have := HQ.out; omega⟩
        obtain ⟨y0, y1, y2⟩ := HC.out _ g3
        exact ⟨he, v2, t2, (K2.out.trans ((G2.out.trans g3).chg _)).trans k2, (World.cell?_of_block (a := ⟨q, 0, none⟩) eb).trans y0, (World.cell?_of_block (a := ⟨q, 1, none⟩) eb).trans y1, (World.cell?_of_block (a := ⟨q, 2, none⟩) eb).trans y2⟩
      go_region_held3 (fun X => X.cell? ⟨q, 0, none⟩ = some (iv z0) ∧ X.cell? ⟨q, 1, none⟩ = some (iv z1) ∧ X.cell? ⟨q, 2, none⟩ = some (iv z2)) (first | exact HC.out _ gD.out | exact HC.out _ gE.out | exact HC.out _ G3.out | exact HC.out _ (G3.out.alloc _) | exact C7.out | go_keep)
        (first
        | (go_at_call 126; with_reducible refine (HP.out V.drew).mono ?_; rintro e _ ⟨rfl, d3, rfl⟩; have G3 := hide (gD.out.trans d3.gr))
        | (go_at_call 126; with_reducible refine (HP.out (V.alloc (.cells #[iv z2] 3)).drew).mono ?_; rintro e _ ⟨rfl, d3, rfl⟩; have G3 := hide (gE.out.trans d3.gr))
        | (go_at_call 89; with_reducible refine (HY.out d3).mono ?_; rintro e w2 ⟨rfl, v2, t2, k2, c7⟩; have T3 := hide t2; have K3 := hide k2; have C7 := hide c7; clear t2 k2 c7)
        | (go_at_call 89; with_reducible refine (HY2.out d3).mono ?_; rintro e w2 ⟨rfl, v2, t2, k2, c7⟩; have T3 := hide t2; have K3 := hide k2; have C7 := hide c7; clear t2 k2 c7)
        | fail)
      all_goals
        go_wp2_with fail
        go_roundw
        case rel => exact ⟨k + 1, v2, by omega, by go_num, by
          unfold Hid
          rw [HF.out, ← List.append_assoc, HA.out]
          exact T3.out, K3⟩
        case measure => simp [intOf]; omega
    · have hkl : decide ((k : Int) < (l.length : Int)) = false := decide_eq_false (by omega)
      have HT : Hid (l.take k = l) := List.take_of_length_le (by omega)
      have HX := hide (T2.out.say0 HL.out [101, 110, 100] (by omega) (by decide))
      go_wp2_with (first
        | (go_at_call 89; refine HX.out.mono ?_; rintro e w2 ⟨rfl, v2, t2, k2⟩; have T3 := hide t2; have K3 := hide (((G1.out.chg _).trans K2.out).trans k2); clear t2 k2))
      refine bodyPost_end (results_none rfl _ _ _) rfl ⟨rfl, v2, ?_, K3.out⟩
      have := T3.out
      rw [HT.out] at this
      rw [← List.append_assoc]
      exact this
end

end Go.Proofs.YtfcknkanbcndjagGreatDoor

/- CONTRACTS OF the program's desk: check; the builder's String. -/
namespace Go.Proofs.YtfcknkanbcndjagGreatDoor
open Go.RowKit
attribute [local go_sem] Ext.all Ext.cell Ext.frozen Ext.lt Ext.lt1 Ext.lt2 Ext.ne Ext.ne'
/-- Is there a newline in it? -/
theorem nl_any (w : World) (s : Tx) : Calls Tryz.prog 75 #[sv s, .string ⟨#[10]⟩] w fun e w' => e = .returned (.bool (decide (10 ∈ s))) ∧ w' = w := by
  refine (Tryz.strings_Contains_one ⟨s.toArray⟩ 10 w).mono ?_
  rintro e w' ⟨rfl, rfl⟩
  refine ⟨?_, rfl⟩
  have : decide (0 ≤ Go.Lib.indexByte s 10) = decide ((10 : UInt8) ∈ s) := by
    rw [← Go.Lib.contains_iff_indexByte]
    by_cases h : (10 : UInt8) ∈ s
    · rw [decide_eq_true h, List.contains_iff_mem]; exact h
    · rw [decide_eq_false h, Bool.eq_false_iff, ne_eq, List.contains_iff_mem]; exact h
  show Ending.returned (.bool (decide (0 ≤ Go.Lib.indexByte s 10))) = _
  rw [this]
theorem check1_is {s : Tx} {b : Bool} (hb : decide (10 ∈ s) = b) (w : World) : Calls Tryz.prog 74 #[sv s] w fun e w' => e = .returned (.bool b) ∧ w' = w := by
  have HC := hide (nl_any w s)
  rw [hb] at HC
  clear hb
  go_enter Tryz.func74, Tryz.ntmps74
  go_wp2_with (go_at_call 75; refine HC.out.mono ?_; rintro e w1 ⟨rfl, hw1⟩; subst hw1)
  go_ret
  exact ⟨rfl, rfl⟩
/-- The place of the first line with a newline in it, from i on; -1: none. -/
def idxGo : List Tx → Nat → Int
  | [], _ => -1
  | l :: r, i => if (10 : UInt8) ∈ l then (i : Int) else idxGo r (i + 1)
theorem idx_flt : ∀ (ls : List Tx) (i : Nat), (idxGo ls i = -1 ∧ fltGo ls i = (0, 0)) ∨ (0 ≤ idxGo ls i ∧ fltGo ls i = (10, idxGo ls i))
  | [], _ => .inl ⟨rfl, rfl⟩
  | l :: r, i => by
    unfold idxGo fltGo
    by_cases h : (10 : UInt8) ∈ l
    · rw [if_pos h, if_pos h]; exact .inr ⟨by omega, rfl⟩
    · rw [if_neg h, if_neg h]; exact idx_flt r (i + 1)
theorem idx_miss {ls : List Tx} {i : Nat} (hi : i < ls.length) (h : (10 : UInt8) ∉ ls[i]) : idxGo (ls.drop i) i = idxGo (ls.drop (i + 1)) (i + 1) := by
  rw [List.drop_eq_getElem_cons hi, idxGo, if_neg h]
theorem idx_hit {ls : List Tx} {i : Nat} (hi : i < ls.length) (h : (10 : UInt8) ∈ ls[i]) : idxGo (ls.drop i) i = (i : Int) := by
  rw [List.drop_eq_getElem_cons hi, idxGo, if_pos h]
theorem idx_end {ls : List Tx} {i : Nat} (hi : ls.length ≤ i) : idxGo (ls.drop i) i = -1 := by
  rw [List.drop_of_length_le hi]; rfl
set_option maxRecDepth 20000 in
set_option maxHeartbeats 4000000 in
/-- slices.IndexFunc at check's closure. -/
theorem indexFunc_any {w : World} {ao : Option Addr} {cp : Nat} {ls : List Tx} (h : ValAt w ao (ls.map sv)) (hl : ls.length ≤ 2000000) :
    Calls Tryz.prog 73 #[.slice ao ls.length cp, .func (.func 74) #[] #[]] w fun e w' => e = .returned (iv (idxGo ls 0)) ∧ w' = w := by
  have HV := hide h
  clear h
  go_enter Tryz.func73, Tryz.ntmps73
  go_wp2_with fail
  go_loopw [8] (fun v8 wr => ∃ k : Nat, k ≤ ls.length ∧ v8 = .int .i64 (k : Int) ∧ Hid (idxGo ls 0 = idxGo (ls.drop k) k) ∧ wr = w) (fun v8 _ => ls.length - (intOf v8).toNat)
  case atStart => exact ⟨0, by omega, rfl, rfl, rfl⟩
  case round =>
    obtain ⟨k, hk, rfl, HI, rfl⟩ := hrel
    by_cases hlt : k < ls.length
    · have hkI : (k : Int) < (ls.length : Int) := by omega
      rcases HV.out with h0 | ⟨b, o, hao, hbl, hcs⟩
      · exfalso
        rw [List.map_eq_nil_iff] at h0
        rw [h0] at hlt; simp at hlt
      have hc := hcs k (by simpa using hlt)
      rw [List.getElem_map] at hc
      subst hao
      cases hb : decide ((10 : UInt8) ∈ ls[k]) with
      | true =>
        have HF : Hid (idxGo ls 0 = (k : Int)) := by unfold Hid; rw [HI.out, idx_hit hlt (of_decide_eq_true hb)]
        have HC := hide (check1_is hb wr)
        clear hb hcs
        generalize ls[k] = y at *
        go_wp2_with (go_at_call 74; refine HC.out.mono ?_; rintro e w1 ⟨rfl, hw1⟩; subst hw1)
        go_ret
        exact ⟨by rw [HF.out]; rfl, rfl⟩
      | false =>
        have HF : Hid (idxGo ls 0 = idxGo (ls.drop (k + 1)) (k + 1)) := by unfold Hid; rw [HI.out, idx_miss hlt (of_decide_eq_false hb)]
        have HC := hide (check1_is hb wr)
        clear hb hcs
        generalize ls[k] = y at *
        go_wp2_with (go_at_call 74; refine HC.out.mono ?_; rintro e w1 ⟨rfl, hw1⟩; have hw2 := hw1.symm; clear hw1; subst hw2)
        go_roundw
        case rel => exact ⟨k + 1, by omega, by go_num, HF, trivial⟩
        case measure => simp [intOf]; omega
    · have hkl : decide ((k : Int) < (ls.length : Int)) = false := decide_eq_false (by omega)
      have HF : Hid (idxGo ls 0 = -1) := by unfold Hid; rw [HI.out, idx_end (by omega)]
      go_wp2_with fail
      go_ret
      exact ⟨by rw [HF.out]; rfl, rfl⟩
set_option maxRecDepth 20000 in
set_option maxHeartbeats 4000000 in
/-- The program's check. -/
theorem kcheck_any {w : World} {ao : Option Addr} {cp : Nat} {ls : List Tx} (h : ValAt w ao (ls.map sv)) (hl : ls.length ≤ 2000000) :
    Calls Tryz.prog 40 #[.slice ao ls.length cp] w fun e w' => e = .returned (.agg #[iv (fltD ls).1, iv (fltD ls).2]) ∧ Gr w w' := by
  have hb0 := heap_alloc_new w (.cells #[iv 0, iv 0] 66)
  have B0 : Hid (FBx w (w.alloc (.cells #[iv 0, iv 0] 66)) w.heap.size 0 0) := ⟨hb0, Nat.le_refl _, (Gr.refl w).alloc _⟩
  clear hb0
  by_cases h150 : 150 < ls.length
  · have HF : Hid (fltD ls = (3, -1)) := by unfold Hid fltD; rw [if_pos h150]
    rw [HF.out]
    have hI : (150 : Int) < (ls.length : Int) := by omega
    have hI2 : decide ((150 : Int) < (ls.length : Int)) = true := decide_eq_true hI
    clear HF h
    go_enter Tryz.func40, Tryz.ntmps40
    go_wp2_with fail
    refine bp_gen' (fun Z => Hid (FBx w Z w.heap.size 3 (-1))) ⟨heap_alloc_new w _, Nat.le_refl _, (Gr.refl w).alloc _⟩ ?_
    rintro Z HZ
    obtain ⟨z0, z1⟩ := cells2 HZ.out.1
    exact bodyPost_ret (v := .agg #[iv 3, iv (-1)]) (by simp [results, Tryz.results40, go_sem, z0, z1]) rfl ⟨rfl, HZ.out.2.2⟩
  · have hI2 : decide ((150 : Int) < (ls.length : Int)) = false := decide_eq_false (by omega)
    have HC := hide (indexFunc_any (cp := cp) (h.gr ((Gr.refl w).alloc (.cells #[iv 0, iv 0] 66))) hl)
    have hE : fltD ls = fltGo ls 0 := by unfold fltD; rw [if_neg h150]
    rcases idx_flt ls 0 with ⟨h1, h2⟩ | ⟨h1, h2⟩
    · rw [hE, h2]
      rw [h1] at HC
      clear hE h1 h2 h h150
      go_enter Tryz.func40, Tryz.ntmps40
      go_wp2_with (go_at_call 73; refine HC.out.mono ?_; rintro e w1 ⟨rfl, hw1⟩; subst hw1)
      refine bp_gen' (fun Z => Hid (FBx w Z w.heap.size 0 0)) ⟨heap_alloc_new w _, Nat.le_refl _, (Gr.refl w).alloc _⟩ ?_
      rintro Z HZ
      obtain ⟨z0, z1⟩ := cells2 HZ.out.1
      exact bodyPost_ret (v := .agg #[iv 0, iv 0]) (by simp [results, Tryz.results40, go_sem, z0, z1]) rfl ⟨rfl, HZ.out.2.2⟩
    · rw [hE, h2]
      generalize idxGo ls 0 = ix at *
      clear hE h2 h h150
      have h1' : decide (0 ≤ ix) = true := decide_eq_true h1
      go_enter Tryz.func40, Tryz.ntmps40
      go_wp2_with (go_at_call 73; refine HC.out.mono ?_; rintro e w1 ⟨rfl, hw1⟩; subst hw1)
      refine bp_gen' (fun Z => Hid (FBx w Z w.heap.size 10 ix)) ⟨heap_alloc_new w _, Nat.le_refl _, (Gr.refl w).alloc _⟩ ?_
      rintro Z HZ
      obtain ⟨z0, z1⟩ := cells2 HZ.out.1
      exact bodyPost_ret (v := .agg #[iv 10, iv ix]) (by simp [results, Tryz.results40, go_sem, z0, z1]) rfl ⟨rfl, HZ.out.2.2⟩

theorem kp_freeze {M : Nat → Prop} (w : World) {g : Nat} (n : Nat) (hg : ¬ M g) : Kp M w (w.freeze ⟨g, 0, none⟩ n) := by
  unfold World.freeze
  split
  · exact Kp.refl _ _
  · refine ⟨rfl, rfl, rfl, by simp, fun k hk hm => ?_⟩
    have : g ≠ k := fun e => hg (e ▸ hm)
    simp only [Array.getElem?_modify]
    rw [if_neg this]
section
variable {B w w' : World} {t P : Nat} {v v' : Value} {told : Tx}
set_option maxRecDepth 100000 in
set_option maxHeartbeats 4000000 in
/-- The builder's String. -/
theorem bstr_any (H : Tk B w t P v told) (h1 : told.length ≤ 4000000) : Calls Tryz.prog 43 #[.pointer (some ⟨t, 1, none⟩)] w fun e w' => e = .returned (sv told) ∧ Kp (fun b => ¬ ownK t v b) w w' := by
  obtain ⟨p, hblk, _⟩ := H.blk
  have lt := lt_of_block hblk
  have hne := H.ne
  have hown := H.own
  have c0 : w.cell? ⟨t, 2, none⟩ = some v := by simp [World.cell?, hblk]
  by_cases h0 : told = []
  · subst h0
    rcases hown.2 with ⟨hv, _⟩ | ⟨g, cap, cur, hv, hbg, hg, hnc, hcm, hcs, htake⟩
    · subst hv
      have HK := hide (fun (V : World) (g : Gr w V) => g.kp (fun b => ¬ ownK t (.slice none 0 0) b))
      have c1 : w.drew.cell? ⟨t, 2, none⟩ = some (.slice none 0 0) := c0
      have hSD : (Builtin.unsafeSliceData_ #[92] 156 #[.slice none 0 0]).run Tryz.prog w.drew = .ok (.pointer none) w.drew := rfl
      have hUS := fun (W : World) (q : Option Addr) => Lib.run_unsafeString_none (P := Tryz.prog) W 156 3 9 q
      clear H hblk hown hne
      go_enter Tryz.func43, Tryz.ntmps43
      go_wp2_with fail
      go_region
      all_goals (go_wp2_with fail; go_ret; exact ⟨rfl, HK.out _ (Gr.refl w).drew⟩)
    · subst hv
      have HK := hide (fun (V : World) (gr : Gr w V) => gr.kp (fun b => ¬ ownK t (.slice (some ⟨g, 0, none⟩) 0 cap) b))
      have hUS := fun (W : World) (q : Option Addr) => Lib.run_unsafeString_none (P := Tryz.prog) W 156 3 9 q
      by_cases hcap : cap = 0
      · subst hcap
        have c1 : w.drew.cell? ⟨t, 2, none⟩ = some (.slice (some ⟨g, 0, none⟩) 0 0) := c0
        have hSD : (Builtin.unsafeSliceData_ #[92] 156 #[.slice (some ⟨g, 0, none⟩) 0 0]).run Tryz.prog w.drew = .ok (.pointer (some ⟨w.drew.heap.size, 0, none⟩)) (w.drew.alloc (.view ⟨g, 0, none⟩ 5)) :=
          Lib.run_unsafeSliceData_zero w.drew _ _ 5 Tryz.underlying156 ⟨g, 0, none⟩ 0 (5, cur.size) (by have hg' : w.drew.heap[g]? = some (.cells cur 5 (0, 0)) := hg; simp [World.shape?, hg'])
        have c2 : (w.drew.alloc (.view ⟨g, 0, none⟩ 5)).cell? ⟨t, 2, none⟩ = some (.slice (some ⟨g, 0, none⟩) 0 0) := (Below.cell (Gr.alloc (Gr.refl w.drew) _) (p := ⟨t, 2, none⟩) lt).trans c1
        have c3 : (w.alloc (.view ⟨g, 0, none⟩ 5)).drew.cell? ⟨t, 2, none⟩ = some (.slice (some ⟨g, 0, none⟩) 0 0) := c2
        clear H hblk hown hne hg hbg htake
        go_enter Tryz.func43, Tryz.ntmps43
        go_wp2_with fail
        go_region
        all_goals (go_wp2_with fail; go_ret; exact ⟨rfl, HK.out _ ((Gr.refl w).drew.alloc _)⟩)
      · have c1 : w.drew.cell? ⟨t, 2, none⟩ = some (.slice (some ⟨g, 0, none⟩) 0 cap) := c0
        have hSD : (Builtin.unsafeSliceData_ #[92] 156 #[.slice (some ⟨g, 0, none⟩) 0 cap]).run Tryz.prog w.drew = .ok (.pointer (some ⟨g, 0, none⟩)) w.drew := Lib.run_unsafeSliceData_row _ _ _ _ _ _ hcap
        clear H hblk hown hne hg hbg htake hcap
        go_enter Tryz.func43, Tryz.ntmps43
        go_wp2_with fail
        go_region
        all_goals (go_wp2_with fail; go_ret; exact ⟨rfl, HK.out _ (Gr.refl w).drew⟩)
  · have hl0 : told.length ≠ 0 := fun e => h0 (List.eq_nil_of_length_eq_zero e)
    rcases hown.2 with ⟨_, hz⟩ | ⟨g, cap, cur, hv, hbg, hg, hnc, hcm, hcs, htake⟩
    · exact absurd hz hl0
    subst hv
    have c1 : w.drew.cell? ⟨t, 2, none⟩ = some (.slice (some ⟨g, 0, none⟩) told.length cap) := c0
    have hSD : (Builtin.unsafeSliceData_ #[92] 156 #[.slice (some ⟨g, 0, none⟩) told.length cap]).run Tryz.prog w.drew = .ok (.pointer (some ⟨g, 0, none⟩)) w.drew := Lib.run_unsafeSliceData_row _ _ _ _ _ _ (by omega)
    have hUS : (Builtin.unsafeString_ #[156, 3] 9 #[.pointer (some ⟨g, 0, none⟩), .int .i64 told.length]).run Tryz.prog w.drew = .ok (sv told) (w.drew.freeze ⟨g, 0, none⟩ told.length) := by
      refine Lib.run_unsafeString_row w.drew 156 3 9 5 Tryz.underlying156 (by kernel_rfl) g cur.size (by have hg' : w.drew.heap[g]? = some (.cells cur 5 (0, 0)) := hg; simp [World.shape?, hg']) told h0 (by omega) (by omega) ?_
      intro j x hx
      exact hown.cells (g := g) rfl j (.int .u8 x.toNat) (by simp [Lib.byteCells, hx])
    have HK : Hid (Kp (fun b => ¬ ownK t (.slice (some ⟨g, 0, none⟩) told.length cap) b) w (w.drew.freeze ⟨g, 0, none⟩ told.length)) := by
      refine ((Gr.refl w).drew.kp _).trans (kp_freeze _ _ (fun e => e (.inr rfl)))
    clear H hblk hown hne hg hbg htake
    go_enter Tryz.func43, Tryz.ntmps43
    go_wp2_with fail
    go_region
    all_goals (go_wp2_with fail; go_ret; exact ⟨rfl, HK.out⟩)
end

end Go.Proofs.YtfcknkanbcndjagGreatDoor
