import Derived.Test.YtfcknkanbcndjagGreatDoorDkMem
import Derived.Test.YtfcknkanbcndjagGreatDoorDkBd
import Derived.Test.YtfcknkanbcndjagGreatDoorNe1
import Derived.Deep.RegionHeld3
/- CONTRACTS OF package handpostref: BitsOf, Text. -/
namespace Go.Proofs.YtfcknkanbcndjagGreatDoor
open Go.RowKit
attribute [local go_sem] Ext.all Ext.cell Ext.frozen Ext.lt Ext.lt1 Ext.lt2 Ext.ne Ext.ne'
/-- One bit more, ahead. -/
theorem bitsL_cons : ∀ (k : Nat) (b : Int), bitsL (k + 1) b = (if b / 2 ^ k % 2 = 1 then (49 : UInt8) else 48) :: bitsL k b
  | 0, b => by simp [bitsL]
  | k + 1, b => by
    rw [bitsL, bitsL_cons k (b / 2)]
    have e : b / 2 / 2 ^ k = b / 2 ^ (k + 1) := by
      rw [Int.ediv_ediv_of_nonneg (by decide), Int.pow_succ, Int.mul_comm]
    rw [e, List.cons_append]
    rfl

/-- Two texts, one behind the other. -/
theorem cat (a t : List UInt8) : (⟨a.toArray⟩ ++ ⟨t.toArray⟩ : ByteArray) = ⟨(a ++ t).toArray⟩ := by
  apply ByteArray.ext
  simp

set_option maxRecDepth 20000 in
set_option maxHeartbeats 800000 in
theorem bitsOf_any (n : Nat) (b : Int) (hn : n ≤ 8) (hb : 0 ≤ b) (hb2 : b < 1024) (w : World) :
    Calls Tryz.prog 169 #[.int .i64 b, .int .i64 n] w fun e w' => e = .returned (.string ⟨(bitsL n b).toArray⟩) ∧ w' = w := by
  go_enter Tryz.func169, Tryz.ntmps169
  go_wp2
  go_loop [0, 5, 6] (fun x s i => ∃ (k : Nat) (A : Int) (t : List UInt8), k ≤ n ∧ Hid (A = b / 2 ^ k) ∧ 0 ≤ A ∧ A < 1024 ∧ Hid (t = bitsL k b) ∧ t.length ≤ 8 ∧ x = .int .i64 A ∧ s = .string ⟨t.toArray⟩ ∧ i = .int .i64 k) (fun _ _ i => n - (intOf i).toNat)
  case atStart => exact ⟨0, b, [], by omega, (by show b = b / 2 ^ 0; simp), hb, hb2, rfl, by simp, rfl, rfl, rfl⟩
  case round =>
    obtain ⟨k, A, t, hk, HA, A0, A1, HT, tl, rfl, rfl, rfl⟩ := hrel
    by_cases hlt : k < n
    · by_cases hbit : A % 2 = 1
      · have HB : Hid ((if A % 2 = 1 then (49 : UInt8) else 48) = 49) := if_pos hbit
        go_wp2
        go_round
        case rel => exact ⟨k + 1, A / 2, 49 :: t, by omega, (by show A / 2 = _; rw [HA.out, div_pow_succ]), by omega, by omega, (by show _ = bitsL (k + 1) b; rw [bitsL_cons, ← HA.out, HT.out, HB.out]), (by have := bitsL_length k b; rw [← HT.out] at this; simp; omega), rfl, congrArg Value.string (cat [49] t), by go_num⟩
        case measure => simp [intOf]; omega
      · have HB : Hid ((if A % 2 = 1 then (49 : UInt8) else 48) = 48) := if_neg hbit
        go_wp2
        go_round
        case rel => exact ⟨k + 1, A / 2, 48 :: t, by omega, (by show A / 2 = _; rw [HA.out, div_pow_succ]), by omega, by omega, (by show _ = bitsL (k + 1) b; rw [bitsL_cons, ← HA.out, HT.out, HB.out]), (by have := bitsL_length k b; rw [← HT.out] at this; simp; omega), rfl, congrArg Value.string (cat [48] t), by go_num⟩
        case measure => simp [intOf]; omega
    · have e : k = n := by omega
      have HE := hide e
      clear e
      go_wp2
      go_ret
      exact ⟨by rw [← HE.out, ← HT.out]; rfl, rfl⟩

theorem rtext_any (l b : Int) (w : World) :
    Calls Tryz.prog 134 #[pfx l b] w fun e w' => e = .returned (.string ⟨(textL l b).toArray⟩) ∧ ∃ d : Ext w, w' = d.out := by
  cases ho : okB l b
  · have ht : textL l b = [] := by simp [textL, ho]
    rw [ht]; clear ht
    go_enter Tryz.func134, Tryz.ntmps134
    go_wp2_with (go_at_call 104; refine (isp_is ho _).mono ?_; rintro e _ ⟨rfl, d1, rfl⟩)
    go_ret
    exact ⟨rfl, ext_mk (((Gr.refl _).alloc _).ext d1)⟩
  · obtain ⟨l0, l8, hb, hl, g1, g2⟩ := ok_pows ho
    obtain ⟨p1, p2⟩ := pw_bd l l8
    obtain ⟨n, rfl⟩ := Int.eq_ofNat_of_zero_le l0
    have hb2 : b < 1024 := by omega
    have hlen := bitsL_length n b
    have HL : Hid _ := hlen
    have hlen2 : (bitsL n b).length ≤ 8 := by omega
    clear hlen hl g1 g2 p1 p2
    by_cases h8 : (n : Int) < 8
    · have ht : textL n b = bitsL n b ++ [42] := by simp [textL, ho]; omega
      rw [ht]; clear ht
      go_enter Tryz.func134, Tryz.ntmps134
      go_wp2_with (first
        | (go_at_call 104; refine (isp_is ho _).mono ?_; rintro e _ ⟨rfl, d1, rfl⟩)
        | (go_at_call 169; refine (bitsOf_any n b (by omega) hb hb2 _).mono ?_; rintro e w' ⟨rfl, hw⟩; subst hw))
      go_ret
      exact ⟨by rw [← cat]; rfl, ext_mk (((Gr.refl _).alloc _).ext d1)⟩
    · have ht : textL n b = bitsL n b := by simp [textL, ho]; omega
      rw [ht]; clear ht
      go_enter Tryz.func134, Tryz.ntmps134
      go_wp2_with (first
        | (go_at_call 104; refine (isp_is ho _).mono ?_; rintro e _ ⟨rfl, d1, rfl⟩)
        | (go_at_call 169; refine (bitsOf_any n b (by omega) hb hb2 _).mono ?_; rintro e w' ⟨rfl, hw⟩; subst hw))
      go_ret
      exact ⟨rfl, ext_mk (((Gr.refl _).alloc _).ext d1)⟩

end Go.Proofs.YtfcknkanbcndjagGreatDoor

/- CONTRACTS OF the reference's Desk: say, table. -/
namespace Go.Proofs.YtfcknkanbcndjagGreatDoor
open Go.RowKit
attribute [local go_sem] Ext.all Ext.cell Ext.frozen Ext.lt Ext.lt1 Ext.lt2 Ext.ne Ext.ne'
/-- A desk of the reference at D: what was told, its town. -/
abbrev DkAt (w : World) (D T : Nat) (told : Tx) : Prop := w.heap[D]? = some (.cells #[sv told, pv T] 89 (0, 0))
/-- All but the desk's own block is as it was, or new; so much is told. -/
structure Tells (D T : Nat) (w w' : World) (told : Tx) : Prop where
  kp : Kp (fun b => b ≠ D) w w'
  at' : DkAt w' D T told
theorem DkAt.cells {w : World} {D T : Nat} {told : Tx} (h : DkAt w D T told) : w.cell? ⟨D, 0, none⟩ = some (sv told) ∧ w.cell? ⟨D, 1, none⟩ = some (pv T) ∧ w.frozen? ⟨D, 0, none⟩ = false ∧ D < w.heap.size := by
  refine ⟨?_, ?_, ?_, lt_of_block h⟩
  · simp [World.cell?, h]
  · simp [World.cell?, h]
  · exact frozen_of_row w D 0 _ _ h
theorem DkAt.gr {w w' : World} {D T : Nat} {told : Tx} (h : DkAt w D T told) (g : Gr w w') : DkAt w' D T told := (Below.block g D (lt_of_block h)).trans h
theorem Tells.of_gr {w w' : World} {D T : Nat} {told : Tx} (h : DkAt w D T told) (g : Gr w w') : Tells D T w w' told := ⟨g.kp _, h.gr g⟩
theorem say_any {w : World} {D T : Nat} {told : Tx} (h : DkAt w D T told) (s : Tx) (h1 : told.length ≤ 4000000) (h2 : s.length ≤ 1000000) :
    Calls Tryz.prog 93 #[pv D, sv s] w fun e w' => e = .returned (.tuple #[]) ∧ Tells D T w w' (told ++ (s ++ [10])) := by
  obtain ⟨c0, c1, f0, hD⟩ := h.cells
  have hst := heap_setCell_same w D 0 _ _ (sv (told ++ (s ++ [10]))) h
  have HS := hide hst
  have HE : Hid ((⟨told.toArray⟩ ++ (⟨s.toArray⟩ ++ ⟨#[10]⟩) : ByteArray) = ⟨(told ++ (s ++ [10])).toArray⟩) := by
    unfold Hid
    rw [show (⟨#[10]⟩ : ByteArray) = ⟨[10].toArray⟩ from rfl, cat, cat]
  clear hst h
  go_enter Tryz.func93, Tryz.ntmps93
  go_wp2_with fail
  rw [HE.out]
  exact bodyPost_end (results_none rfl _ _ _) rfl ⟨rfl, (Kp.refl _ w).set (fun h => h rfl) 0 _, HS.out⟩
/-- Two texts, one behind the other, as a step of the walk. -/
theorem add_run (a b : ByteArray) (h : a.size + b.size ≤ 16000000) : ∃ c, Hid (c = a ++ b) ∧ ∀ w : World, (Op.stringOp .add a b).run Tryz.prog w = .ok (.string c) w :=
  ⟨_, rfl, fun w => run_string_add_sum w _ _ (by omega)⟩
/-- A blank and a word more, as two steps of the walk. -/
theorem add_more {s : ByteArray} {t : Tx} (hs : Hid (s = ⟨t.toArray⟩)) (ht : t.length ≤ 1000000) (x : Tx) (hx : x.length ≤ 1000) : ∃ s1 s2, Hid (s2 = ⟨(t ++ 32 :: x).toArray⟩) ∧ (∀ w : World, (Op.stringOp .add s ⟨#[32]⟩).run Tryz.prog w = .ok (.string s1) w) ∧ ∀ w : World, (Op.stringOp .add s1 ⟨x.toArray⟩).run Tryz.prog w = .ok (.string s2) w := by
  have e := hs.out
  subst e
  obtain ⟨s1, h1, e1⟩ := add_run ⟨t.toArray⟩ ⟨#[32]⟩ (by rw [size_of_list]; simp [ByteArray.size]; omega)
  have h1' : s1 = ⟨(t ++ [32]).toArray⟩ := by rw [h1.out, show (⟨#[32]⟩ : ByteArray) = ⟨[32].toArray⟩ from rfl, cat]
  subst h1'
  obtain ⟨s2, h2, e2⟩ := add_run ⟨(t ++ [32]).toArray⟩ ⟨x.toArray⟩ (by rw [size_of_list, size_of_list]; simp; omega)
  refine ⟨_, s2, ?_, e1, e2⟩
  unfold Hid
  rw [h2.out, cat]
  simp
theorem add_first (a x : Tx) (ha : a.length ≤ 1000) (hx : x.length ≤ 1000) : ∃ s, Hid (s = ⟨(a ++ x).toArray⟩) ∧ ∀ w : World, (Op.stringOp .add ⟨a.toArray⟩ ⟨x.toArray⟩).run Tryz.prog w = .ok (.string s) w := by
  obtain ⟨s, h, e⟩ := add_run ⟨a.toArray⟩ ⟨x.toArray⟩ (by rw [size_of_list, size_of_list]; omega)
  exact ⟨s, by unfold Hid; rw [h.out, cat], e⟩
/-- What is as it was but for a young block has grown out of what is older. -/
theorem kp_gr {W w V : World} {D : Nat} (k : Kp (fun b => b ≠ D) w V) (g : Gr W w) (hD : W.heap.size ≤ D) : Gr W V :=
  Below.trans g (k.below (Below.size g) (fun b hb e => by omega))
theorem text_len (l b : Int) : (textL l b).length ≤ 9 := by
  unfold textL
  split
  · rename_i h
    have := ok_iff.1 h
    rw [List.length_append, bitsL_length]
    split <;> simp <;> omega
  · simp
theorem rou_is (r : Rt) : rouL r = ([114, 111, 117, 116, 101, 32] ++ textL r.1 r.2.1 ++ [32] ++ ito r.2.2) ++ [10] := by
  simp [rouL, sayD, joinT, wRoute]
theorem rou_len {r : Rt} (h : i64B r.2.2) : (rouL r).length ≤ 60 := by
  have h1 := text_len r.1 r.2.1
  have h2 := ito_len h
  rw [rou_is]
  simp only [List.length_append, List.length_cons, List.length_nil]
  omega
theorem rous_len : ∀ {l : List Rt}, (∀ r ∈ l, i64B r.2.2) → (l.flatMap rouL).length ≤ 60 * l.length
  | [], _ => by simp
  | r :: l, h => by
    have h1 := rou_len (h r (by simp))
    have h2 := rous_len (l := l) (fun x hx => h x (by simp [hx]))
    simp only [List.flatMap_cons, List.length_append, List.length_cons]
    omega
theorem rous_succ {l : List Rt} {k : Nat} (hk : k < l.length) : (l.take (k + 1)).flatMap rouL = (l.take k).flatMap rouL ++ rouL l[k] := by
  rw [List.take_succ_eq_append_getElem hk, List.flatMap_append]
  simp
set_option maxRecDepth 20000 in
set_option maxHeartbeats 8000000 in
/-- The reference's table. -/
theorem table_any {W w : World} {D T : Nat} {told : Tx} (h : DkAt w D T told) (hL : Lb W) (gW : Gr W w) (hD : W.heap.size ≤ D) (a : Int) {ao : Option Addr} {cp : Nat} {l : List Rt} (hr : RowAt w (fun b => b ≠ D) ao l) (hl : l.length ≤ 40)
    (hh : ∀ r ∈ l, i64B r.2.2) (h1 : told.length ≤ 3000000) :
    Calls Tryz.prog 96 #[pv D, iv a, .slice ao l.length cp] w fun e w' => e = .returned (.tuple #[]) ∧ Tells D T w w' (told ++ tabT a l) := by
  have HG : Hid (∀ V, Kp (fun b => b ≠ D) w V → Lb V) := fun V k => hL.gr (kp_gr k gW hD)
  have HH := hide hh
  have HA := hide h
  have HR := hide hr
  clear hL gW hD hh h hr
  by_cases ha : isN a
  · have B1 : Hid (decide (0 ≤ a ∧ a < 6) = true) := decide_eq_true ha
    have HT : Hid (tabT a l = l.flatMap rouL ++ sayD [wEnd]) := by unfold Hid tabT; rw [if_pos ha]
    clear ha
    go_enter Tryz.func96, Tryz.ntmps96
    go_wp2_with (go_at_call 9; with_reducible refine (isNode_is B1.out _).mono ?_; rintro e w1 ⟨rfl, hw1⟩; have hw2 := hw1.symm; clear hw1; subst hw2)
    go_loopw [6] (fun v6 wr => ∃ k : Nat, k ≤ l.length ∧ v6 = .int .i64 k ∧ Hid (Tells D T w wr (told ++ (l.take k).flatMap rouL))) (fun v6 _ => l.length - (intOf v6).toNat)
    case atStart => exact ⟨0, by omega, rfl, Kp.refl _ _, by simpa using HA.out⟩
    case round =>
      obtain ⟨k, hk, rfl, HK⟩ := hrel
      have hbd := rous_len (l := l.take k) (fun r hr => HH.out r (List.mem_of_mem_take hr))
      have hbt : (l.take k).length ≤ 40 := by rw [List.length_take]; omega
      by_cases hlt : k < l.length
      · have hkI : (k : Int) < (l.length : Int) := by omega
        have hr6 := HH.out l[k] (List.getElem_mem hlt)
        rcases HR.out.kept HK.out.kp with h0 | ⟨b, o, hao, hb, hbD, hcs⟩
        · exfalso; rw [h0] at hlt; simp at hlt
        subst hao
        obtain ⟨x0, x1, x2⟩ := hcs k hlt
        have HS := hide (rous_succ hlt)
        have htl := text_len l[k].1 l[k].2.1
        have hil := ito_len hr6
        have HRO := hide (rou_is l[k])
        have HB := hide (HG.out wr HK.out.kp)
        have hbl : (told ++ (l.take k).flatMap rouL).length ≤ 4000000 := by rw [List.length_append]; omega
        have HX := hide (fun (V : World) (g : Gr wr V) => rtext_any l[k].1 l[k].2.1 V)
        have HN := hide (fun (V : World) (g : Gr wr V) => num_any (HB.out.gr g) hr6)
        clear hcs hr6
        generalize l[k] = r at *
        obtain ⟨rl, rb, rh⟩ := r
        simp only at x0 x1 x2 htl hil HRO HX HN
        generalize textL rl rb = tx at *
        generalize ito rh = nx at *
        generalize hAt : told ++ (l.take k).flatMap rouL = A at *
        have HAt := hide hAt
        clear hAt
        obtain ⟨s1, HE1, e1⟩ := add_run ⟨#[114, 111, 117, 116, 101, 32]⟩ ⟨tx.toArray⟩ (by rw [size_of_list]; simp [ByteArray.size]; omega)
        have z1 : s1.size = 6 + tx.length := by rw [HE1.out, ByteArray.size_append, size_of_list]; rfl
        obtain ⟨s2, HE2, e2⟩ := add_run s1 ⟨#[32]⟩ (by rw [z1]; simp [ByteArray.size]; omega)
        have z2 : s2.size = 7 + tx.length := by rw [HE2.out, ByteArray.size_append, z1]; simp [ByteArray.size]; omega
        obtain ⟨s3, HE3, e3⟩ := add_run s2 ⟨nx.toArray⟩ (by rw [z2, size_of_list]; omega)
        have HY : Hid (∀ V, Gr wr V → Calls Tryz.prog 93 #[pv D, .string s3] V fun e w' => e = .returned (.tuple #[]) ∧ Tells D T V w' (A ++ rouL (rl, rb, rh))) := fun V g => by
          rw [HE3.out, HE2.out, HE1.out, HRO.out, show (⟨#[114, 111, 117, 116, 101, 32]⟩ : ByteArray) = ⟨[114, 111, 117, 116, 101, 32].toArray⟩ from rfl, show (⟨#[32]⟩ : ByteArray) = ⟨[32].toArray⟩ from rfl, cat, cat, cat]
          exact say_any (HK.out.at'.gr g) _ hbl (by simp; omega)
        clear z1 z2
        go_upto_region 5 with (fail)
        have gD := hide ((Gr.refl wr).drew)
        have HC : Hid (∀ X, Gr wr X → X.cell? ⟨b, o + k * 3, none⟩ = some (iv rl) ∧ X.cell? ⟨b, o + k * 3 + 1, none⟩ = some (iv rb) ∧ X.cell? ⟨b, o + k * 3 + 2, none⟩ = some (iv rh)) := fun X g =>
          ⟨(Below.cell g (p := ⟨b, _, none⟩) hb).trans x0, (Below.cell g (p := ⟨b, _, none⟩) hb).trans x1, (Below.cell g (p := ⟨b, _, none⟩) hb).trans x2⟩
        go_region_held3 (fun X => X.cell? ⟨b, o + k * 3, none⟩ = some (iv rl) ∧ X.cell? ⟨b, o + k * 3 + 1, none⟩ = some (iv rb) ∧ X.cell? ⟨b, o + k * 3 + 2, none⟩ = some (iv rh)) (first | exact HC.out _ gD.out | exact HC.out _ G6.out | exact HC.out _ G5.out | exact C7.out | go_keep)
          (first
          | (go_at_call 134; with_reducible refine (HX.out _ gD.out).mono ?_; rintro e _ ⟨rfl, d5, rfl⟩; have G5 := hide (gD.out.trans d5.gr))
          | (go_at_call 92; with_reducible refine (HN.out _ G5.out).mono ?_; rintro e w6 ⟨rfl, g6⟩; have G6 := hide (G5.out.trans g6); clear g6)
          | (go_at_call 93; refine (HY.out _ G6.out).mono ?_; rintro e w7 ⟨rfl, t7⟩; have T7 := hide t7; clear t7; have C7 : Hid (w7.cell? ⟨b, o + k * 3, none⟩ = some (iv rl) ∧ w7.cell? ⟨b, o + k * 3 + 1, none⟩ = some (iv rb) ∧ w7.cell? ⟨b, o + k * 3 + 2, none⟩ = some (iv rh)) := (by
              have e := T7.out.kp.block b (Nat.lt_of_lt_of_le hb (Below.size G6.out)) hbD
              obtain ⟨y0, y1, y2⟩ := HC.out _ G6.out
              exact ⟨(World.cell?_of_block (a := ⟨b, _, none⟩) e).trans y0, (World.cell?_of_block (a := ⟨b, _, none⟩) e).trans y1, (World.cell?_of_block (a := ⟨b, _, none⟩) e).trans y2⟩))
          | fail)
        all_goals
          go_wp2_with fail
          go_roundw
          case rel => exact ⟨k + 1, by omega, by go_num, by
            refine ⟨(HK.out.kp.trans (G6.out.kp _)).trans T7.out.kp, ?_⟩
            rw [HS.out, ← List.append_assoc, HAt.out]
            exact T7.out.at'⟩
          case measure => simp [intOf]; omega
      · have hkl : decide ((k : Int) < (l.length : Int)) = false := decide_eq_false (by omega)
        have HE : Hid (l.take k = l) := List.take_of_length_le (by omega)
        have HY := hide (say_any HK.out.at' [101, 110, 100] (by rw [List.length_append]; omega) (by simp))
        go_wp2_with (go_at_call 93; refine HY.out.mono ?_; rintro e w7 ⟨rfl, t7⟩; have T7 := hide t7; clear t7)
        refine bodyPost_end (results_none rfl _ _ _) rfl ⟨rfl, HK.out.kp.trans T7.out.kp, ?_⟩
        have := T7.out.at'
        rw [HE.out] at this
        rw [HT.out]
        simpa [sayD, joinT, wEnd] using this
  · have B1 : Hid (decide (0 ≤ a ∧ a < 6) = false) := decide_eq_false ha
    have HT : Hid (tabT a l = sayD [wNo, ito 1]) := by unfold Hid tabT; rw [if_neg ha]
    have i1 : i64B 1 := ⟨by decide, by decide⟩
    have hil := ito_len i1
    have HN := hide (num_any (HG.out w (Kp.refl _ _)) i1)
    have HY : Hid (∀ V, Gr w V → Calls Tryz.prog 93 #[pv D, .string (⟨#[110, 111, 32]⟩ ++ ⟨(ito 1).toArray⟩)] V fun e w' => e = .returned (.tuple #[]) ∧ Tells D T V w' (told ++ sayD [wNo, ito 1])) := fun V g => by
      rw [show (⟨#[110, 111, 32]⟩ : ByteArray) = ⟨[110, 111, 32].toArray⟩ from rfl, cat]
      have := say_any (HA.out.gr g) ([110, 111, 32] ++ ito 1) (by omega) (by simp; omega)
      simpa [sayD, joinT, wNo] using this
    clear ha i1
    rw [HT.out]
    generalize sayD [wNo, ito 1] = tx at *
    generalize ito 1 = nx at *
    go_enter Tryz.func96, Tryz.ntmps96
    go_wp2_with (first
      | (go_at_call 9; with_reducible refine (isNode_is B1.out _).mono ?_; rintro e w1 ⟨rfl, hw1⟩; have hw2 := hw1.symm; clear hw1; subst hw2)
      | (go_at_call 92; with_reducible refine HN.out.mono ?_; rintro e w6 ⟨rfl, g6⟩; have G6 := hide g6; clear g6)
      | (go_at_call 93; refine (HY.out _ G6.out).mono ?_; rintro e w7 ⟨rfl, t7⟩; have T7 := hide t7; clear t7))
    exact bodyPost_ret (results_none rfl _ _ _) rfl ⟨rfl, (G6.out.kp _).trans T7.out.kp, T7.out.at'⟩

end Go.Proofs.YtfcknkanbcndjagGreatDoor

/- WHAT A LINE ASKS, word by word: the numbers' loop, the place of the word. No Go here. -/
namespace Go.Proofs.YtfcknkanbcndjagGreatDoor

theorem nums_snoc : ∀ {a : List Tx} {x : Tx} {m : List Int} {v : Int}, numsT a = some m → numT x = some v → numsT (a ++ [x]) = some (m ++ [v])
  | [], x, m, v, h, k => by
    cases h
    simp [numsT, k]
  | s :: a, x, m, v, h, k => by
    rw [List.cons_append]
    unfold numsT at h ⊢
    cases e : numT s with
    | none => rw [e] at h; cases h
    | some u =>
      rw [e] at h
      simp only [Option.map_eq_some_iff] at h ⊢
      obtain ⟨m', hm, rfl⟩ := h
      exact ⟨m' ++ [v], nums_snoc hm k, rfl⟩
theorem nums_none : ∀ {a : List Tx} {x : Tx}, x ∈ a → numT x = none → numsT a = none
  | s :: a, x, h, k => by
    unfold numsT
    rcases List.mem_cons.1 h with rfl | h
    · rw [k]
    · cases e : numT s with
      | none => rfl
      | some u => simp [nums_none h k]
/-- Behind j words: all were numbers, these; or one was none. -/
def nuI (R : List Tx) (j : Nat) (ok0 ok : Bool) (m : List Int) : Prop := if ok = true then ok0 = true ∧ numsT (R.take j) = some m else (ok0 = false ∨ numsT R = none)
theorem nuI_zero (R : List Tx) (ok0 : Bool) : nuI R 0 ok0 ok0 [] := by
  unfold nuI
  cases ok0
  · simp
  · simp [numsT]
theorem nuI_yes {R : List Tx} {j : Nat} {ok0 : Bool} {m : List Int} {v : Int} (h : nuI R j ok0 true m) (hj : j < R.length) (hv : numT R[j] = some v) : nuI R (j + 1) ok0 true (m ++ [v]) := by
  unfold nuI at *
  rw [if_pos rfl] at h ⊢
  exact ⟨h.1, by rw [List.take_succ_eq_append_getElem hj]; exact nums_snoc h.2 hv⟩
theorem nuI_no {R : List Tx} {j : Nat} (ok0 : Bool) (m : List Int) (hj : j < R.length) (hv : numT R[j] = none) : nuI R (j + 1) ok0 false m := by
  unfold nuI
  rw [if_neg (by decide)]
  exact .inr (nums_none (List.getElem_mem hj) hv)
/-- What is known when the numbers were read. -/
def nuE (R : List Tx) (ok0 ok : Bool) (m : List Int) : Prop := if ok = true then ok0 = true ∧ numsT R = some m else (ok0 = false ∨ numsT R = none)
theorem nuI_end {R : List Tx} {j : Nat} {ok0 ok : Bool} {m : List Int} (h : nuI R j ok0 ok m) (hj : ok = true → R.length ≤ j) : nuE R ok0 ok m := by
  unfold nuI at h
  unfold nuE
  cases ok
  · rw [if_neg (by decide)] at h ⊢; exact h
  · rw [if_pos rfl] at h ⊢
    rw [List.take_of_length_le (hj rfl)] at h
    exact h
/-- The head of a line: its prefix, its words behind it; or there is none. -/
def hdE (w0 : Tx) (r R : List Tx) (ok0 : Bool) (l b : Int) : Prop := if ok0 = true then headT w0 r = some (l, b, R) else headT w0 r = none
theorem ask_no {w0 : Tx} {r R : List Tx} {ok0 : Bool} {l b : Int} {m : List Int} (h : hdE w0 r R ok0 l b) (e : nuE R ok0 false m) : askW (w0 :: r) = .what := by
  unfold nuE at e
  rw [if_neg (by decide)] at e
  unfold hdE at h
  unfold askW
  cases ok0
  · rw [if_neg (by decide)] at h
    simp only [h]
  · rw [if_pos rfl] at h
    rcases e with e | e
    · cases e
    · simp only [h, e]
theorem ask_yes {w0 : Tx} {r R : List Tx} {ok0 : Bool} {l b : Int} {m : List Int} (h : hdE w0 r R ok0 l b) (e : nuE R ok0 true m) : askW (w0 :: r) = askI (atK w0 m.length 13) m l b := by
  unfold nuE at e
  rw [if_pos rfl] at e
  unfold hdE at h
  rw [if_pos e.1] at h
  unfold askW
  simp only [h, e.2]
theorem hd_other {w0 : Tx} (r : List Tx) (h : ¬ (w0 = wOwn ∨ w0 = wFree)) : hdE w0 r r true 0 0 := by
  unfold hdE headT
  rw [if_pos rfl, if_neg h]
theorem hd_short {w0 : Tx} {r : List Tx} (R : List Tx) (h : w0 = wOwn ∨ w0 = wFree) (hr : r.length ≠ 2) : hdE w0 r R false 0 0 := by
  unfold hdE headT
  rw [if_neg (by decide), if_pos h]
  match r, hr with
  | [], _ => rfl
  | [_], _ => rfl
  | [_, _], hr => exact absurd rfl hr
  | _ :: _ :: _ :: _, _ => rfl
theorem hd_bad {w0 p x : Tx} (R : List Tx) (h : w0 = wOwn ∨ w0 = wFree) (hp : parseL p = none) : hdE w0 [p, x] R false 0 0 := by
  unfold hdE headT
  rw [if_neg (by decide), if_pos h]
  simp [hp]
theorem hd_good {w0 p x : Tx} {l : Nat} {b : Int} (h : w0 = wOwn ∨ w0 = wFree) (hp : parseL p = some (l, b)) : hdE w0 [p, x] [x] true l b := by
  unfold hdE headT
  rw [if_pos rfl, if_pos h]
  simp [hp]
theorem at_bd (w : Tx) (m : Nat) : ∀ k, -1 ≤ atK w m k ∧ atK w m k < (k : Int) ∧ (0 ≤ atK w m k → wdL[(atK w m k).toNat]? = some w ∧ mnL[(atK w m k).toNat]? = some m)
  | 0 => by
    unfold atK
    refine ⟨by omega, by omega, fun h => ?_⟩
    omega
  | k + 1 => by
    have ih := at_bd w m k
    unfold atK
    split
    · rename_i h
      refine ⟨by omega, by omega, fun _ => ?_⟩
      simpa using h
    · exact ⟨ih.1, by omega, ih.2.2⟩
theorem at_hit {w : Tx} {m k : Nat} (h : wdL[k]? = some w ∧ mnL[k]? = some m) : atK w m (k + 1) = (k : Int) := by
  conv => lhs; unfold atK
  rw [if_pos h]
theorem at_miss {w : Tx} {m k : Nat} (h : ¬ (wdL[k]? = some w ∧ mnL[k]? = some m)) : atK w m (k + 1) = atK w m k := by
  conv => lhs; unfold atK
  rw [if_neg h]

end Go.Proofs.YtfcknkanbcndjagGreatDoor

/- CONTRACT OF handpostref.Parse. -/
namespace Go.Proofs.YtfcknkanbcndjagGreatDoor
open Go.RowKit
attribute [local go_sem] Ext.all Ext.cell Ext.frozen Ext.lt Ext.lt1 Ext.lt2 Ext.ne Ext.ne'
theorem rtext_is {l b : Int} {v : List UInt8} (h : textL l b = v) (w : World) :
    Calls Tryz.prog 134 #[pfx l b] w fun e w' => e = .returned (.string ⟨v.toArray⟩) ∧ ∃ d : Ext w, w' = d.out := by subst h; exact rtext_any l b w

/-- A struct of two cells that was laid, in a world that has grown since. -/
theorem Gr.pair {A B : World} {u v : Value} (g : Gr (A.alloc (.cells #[u, v] 52)) B) : B.cell? ⟨A.heap.size, 0, none⟩ = some u ∧ B.cell? ⟨A.heap.size, 1, none⟩ = some v ∧ A.heap.size < B.heap.size ∧ B.frozen? ⟨A.heap.size, 0, none⟩ = false ∧ B.frozen? ⟨A.heap.size, 1, none⟩ = false := by
  have hs : (A.alloc (.cells #[u, v] 52)).heap.size = A.heap.size + 1 := World.size_alloc _ _
  refine ⟨?_, ?_, ?_, ?_, ?_⟩
  · rw [Below.cell g (p := ⟨A.heap.size, 0, none⟩) (by rw [hs]; exact Nat.lt_succ_self _)]; simp [go_sem]
  · rw [Below.cell g (p := ⟨A.heap.size, 1, none⟩) (by rw [hs]; exact Nat.lt_succ_self _)]; simp [go_sem]
  · have := Below.size g; omega
  · rw [Below.frozen g (p := ⟨A.heap.size, 0, none⟩) (by rw [hs]; exact Nat.lt_succ_self _)]; simp [go_sem]
  · rw [Below.frozen g (p := ⟨A.heap.size, 1, none⟩) (by rw [hs]; exact Nat.lt_succ_self _)]; simp [go_sem]

theorem val_bd9 (s : ByteArray) (k : Nat) (hk : k ≤ 9) : 0 ≤ valL (s.data.toList.take k) ∧ valL (s.data.toList.take k) < 1024 := by
  obtain ⟨h0, h1⟩ := valL_bd (s.data.toList.take k)
  refine ⟨h0, Int.lt_of_lt_of_le h1 ?_⟩
  have hl : (s.data.toList.take k).length ≤ 9 := by simp; omega
  by_cases e : (s.data.toList.take k).length = 9
  · rw [e]; decide
  · have := (pw_bd ((s.data.toList.take k).length : Nat) (by omega)).2
    have e2 : (2 : Int) ^ (s.data.toList.take k).length ≤ 256 := by simpa using this
    omega

set_option maxRecDepth 20000 in
set_option maxHeartbeats 1000000 in
/-- The text tells a prefix: n bits, and there the bits end. -/
theorem rparse_yes (s : ByteArray) (n : Nat) (V : Int) (_hs : s.size ≤ 100000) (hn : n ≤ s.size) (h8 : n ≤ 8) (hall : ∀ k (h : k < n), bitB s[k] = true) (hend : ∀ h : n < s.size, bitB s[n] = false)
    (hV : valL (s.data.toList.take n) = V) (ht : textL n V = s.data.toList) (w : World) :
    Calls Tryz.prog 90 #[.string s] w fun e w' => e = .returned (.tuple #[pfx n V, .bool true]) ∧ ∃ d : Ext w, w' = d.out := by
  have HA := hide hall; have HE := hide hend; have HW := hide hV; have HT := hide ht
  clear hall hend hV ht
  go_enter Tryz.func90, Tryz.ntmps90
  go_wp2
  go_loop [4, 5] (fun x i => ∃ (k : Nat) (v : Int), k ≤ n ∧ Hid (v = valL (s.data.toList.take k)) ∧ x = .int .i64 v ∧ i = .int .i64 k) (fun _ i => n - (intOf i).toNat)
  case atStart => exact ⟨0, 0, by omega, (by simp [valL, Hid]), rfl, rfl⟩
  case round =>
    obtain ⟨k, v, hk, HV, rfl, rfl⟩ := hrel
    obtain ⟨v0, v1⟩ : 0 ≤ v ∧ v < 1024 := by rw [HV.out]; exact val_bd9 s k (by omega)
    by_cases hlt : k < n
    · have hks : k < s.size := by omega
      have htk := take_snoc s k hks
      rcases bit_cases (HA.out k hlt) with ⟨hc, hb⟩ | ⟨hc, hb⟩
      · have hv' : valL (s.data.toList.take (k + 1)) = v * 2 := by rw [htk, valL_snoc, ← HV.out, hc]; simp
        have HV' : Hid _ := hv'
        clear hv' htk hc
        go_wp2
        go_round
        case rel => exact ⟨k + 1, v * 2, by omega, HV'.out.symm, by go_num, by go_num⟩
        case measure => simp [intOf]; omega
      · have hv' : valL (s.data.toList.take (k + 1)) = v * 2 + 1 := by rw [htk, valL_snoc, ← HV.out, hc]; simp
        have HV' : Hid _ := hv'
        clear hv' htk hc
        go_wp2
        go_round
        case rel => exact ⟨k + 1, v * 2 + 1, by omega, HV'.out.symm, by go_num, by go_num⟩
        case measure => simp [intOf]; omega
    · have hkn : k = n := by omega
      subst hkn
      have hvV : v = V := by rw [HV.out]; exact HW.out
      subst hvV
      by_cases hsz : k < s.size
      · have hb := HE.out hsz
        have hb' : s[k] ≠ 48 ∧ s[k] ≠ 49 := by simpa [bitB] using hb
        have e1 : ((s[k].toNat : Int) == 48) = false := by
          simp only [beq_eq_false_iff_ne, ne_eq]; intro h; exact hb'.1 (UInt8.toNat_inj.1 (by simpa using (by omega : s[k].toNat = 48)))
        have e2 : ((s[k].toNat : Int) == 49) = false := by
          simp only [beq_eq_false_iff_ne, ne_eq]; intro h; exact hb'.2 (UInt8.toNat_inj.1 (by simpa using (by omega : s[k].toNat = 49)))
        have hd : decide ((k : Int) < (s.size : Int)) = true := by simp; omega
        clear hb hb'
        go_wp2_with (go_at_call 134; with_reducible refine (rtext_is HT.out _).mono ?_; rintro e _ ⟨rfl, d1, rfl⟩)
        obtain ⟨c0, c1, _, _, _⟩ := Gr.pair (((Gr.refl (w.alloc (.cells #[.int .i64 0, .int .i64 0] 52))).alloc _).ext d1)
        refine bodyPost_ret (v := .tuple #[pfx k v, .bool true]) (by simp [results, Tryz.results90, go_sem, c0, c1]) rfl ⟨rfl, ext_mk ?_⟩
        exact (((((Gr.refl _).alloc _).alloc _).ext d1).setCell (by simp) _).setCell (by simp) _
      · have hd : decide ((k : Int) < (s.size : Int)) = false := by simp; omega
        go_wp2_with (go_at_call 134; with_reducible refine (rtext_is HT.out _).mono ?_; rintro e _ ⟨rfl, d1, rfl⟩)
        obtain ⟨c0, c1, _, _, _⟩ := Gr.pair (((Gr.refl (w.alloc (.cells #[.int .i64 0, .int .i64 0] 52))).alloc _).ext d1)
        refine bodyPost_ret (v := .tuple #[pfx k v, .bool true]) (by simp [results, Tryz.results90, go_sem, c0, c1]) rfl ⟨rfl, ext_mk ?_⟩
        exact (((((Gr.refl _).alloc _).alloc _).ext d1).setCell (by simp) _).setCell (by simp) _

set_option maxRecDepth 20000 in
set_option maxHeartbeats 1000000 in
/-- The text tells none: too many bits, or another text. -/
theorem rparse_no (s : ByteArray) (n : Nat) (_hs : s.size ≤ 100000) (hn : n ≤ s.size) (h9 : n ≤ 9) (hall : ∀ k (h : k < n), bitB s[k] = true) (hend : ∀ h : n < s.size, n = 9 ∨ bitB s[n] = false)
    (ht : n ≤ 8 → textL n (valL (s.data.toList.take n)) ≠ s.data.toList) (w : World) :
    Calls Tryz.prog 90 #[.string s] w fun e w' => e = .returned (.tuple #[pfx 0 0, .bool false]) ∧ ∃ d : Ext w, w' = d.out := by
  have HA := hide hall; have HE := hide hend; have HT := hide ht
  clear hall hend ht
  go_enter Tryz.func90, Tryz.ntmps90
  go_wp2
  go_loop [4, 5] (fun x i => ∃ (k : Nat) (v : Int), k ≤ n ∧ Hid (v = valL (s.data.toList.take k)) ∧ x = .int .i64 v ∧ i = .int .i64 k) (fun _ i => n - (intOf i).toNat)
  case atStart => exact ⟨0, 0, by omega, (by simp [valL, Hid]), rfl, rfl⟩
  case round =>
    obtain ⟨k, v, hk, HV, rfl, rfl⟩ := hrel
    obtain ⟨v0, v1⟩ : 0 ≤ v ∧ v < 1024 := by rw [HV.out]; exact val_bd9 s k (by omega)
    by_cases hlt : k < n
    · have hks : k < s.size := by omega
      have htk := take_snoc s k hks
      rcases bit_cases (HA.out k hlt) with ⟨hc, hb⟩ | ⟨hc, hb⟩
      · have hv' : valL (s.data.toList.take (k + 1)) = v * 2 := by rw [htk, valL_snoc, ← HV.out, hc]; simp
        have HV' : Hid _ := hv'
        clear hv' htk hc
        go_wp2
        go_round
        case rel => exact ⟨k + 1, v * 2, by omega, HV'.out.symm, by go_num, by go_num⟩
        case measure => simp [intOf]; omega
      · have hv' : valL (s.data.toList.take (k + 1)) = v * 2 + 1 := by rw [htk, valL_snoc, ← HV.out, hc]; simp
        have HV' : Hid _ := hv'
        clear hv' htk hc
        go_wp2
        go_round
        case rel => exact ⟨k + 1, v * 2 + 1, by omega, HV'.out.symm, by go_num, by go_num⟩
        case measure => simp [intOf]; omega
    · have hkn : k = n := by omega
      subst hkn
      by_cases hsz : k < s.size
      · have hd : decide ((k : Int) < (s.size : Int)) = true := by simp; omega
        rcases HE.out hsz with h | hb
        · have k9 : 8 < k := by omega
          rcases Bool.eq_false_or_eq_true (bitB s[k]) with hb | hb
          · rcases bit_cases hb with ⟨hc, hb⟩ | ⟨hc, hb⟩
            · clear h hc
              go_wp2
              refine bodyPost_ret (v := .tuple #[pfx 0 0, .bool false]) (by simp [results, Tryz.results90, go_sem]) rfl ⟨rfl, ext_mk ?_⟩
              exact ((Gr.refl _).alloc _).alloc _
            · clear h hc
              go_wp2
              refine bodyPost_ret (v := .tuple #[pfx 0 0, .bool false]) (by simp [results, Tryz.results90, go_sem]) rfl ⟨rfl, ext_mk ?_⟩
              exact ((Gr.refl _).alloc _).alloc _
          · have hb' : s[k] ≠ 48 ∧ s[k] ≠ 49 := by simpa [bitB] using hb
            have e1 : ((s[k].toNat : Int) == 48) = false := by
              simp only [beq_eq_false_iff_ne, ne_eq]; intro h; exact hb'.1 (UInt8.toNat_inj.1 (by simpa using (by omega : s[k].toNat = 48)))
            have e2 : ((s[k].toNat : Int) == 49) = false := by
              simp only [beq_eq_false_iff_ne, ne_eq]; intro h; exact hb'.2 (UInt8.toNat_inj.1 (by simpa using (by omega : s[k].toNat = 49)))
            clear h hb hb'
            go_wp2
            refine bodyPost_ret (v := .tuple #[pfx 0 0, .bool false]) (by simp [results, Tryz.results90, go_sem]) rfl ⟨rfl, ext_mk ?_⟩
            exact ((Gr.refl _).alloc _).alloc _
        · have hb' : s[k] ≠ 48 ∧ s[k] ≠ 49 := by simpa [bitB] using hb
          have e1 : ((s[k].toNat : Int) == 48) = false := by
            simp only [beq_eq_false_iff_ne, ne_eq]; intro h; exact hb'.1 (UInt8.toNat_inj.1 (by simpa using (by omega : s[k].toNat = 48)))
          have e2 : ((s[k].toNat : Int) == 49) = false := by
            simp only [beq_eq_false_iff_ne, ne_eq]; intro h; exact hb'.2 (UInt8.toNat_inj.1 (by simpa using (by omega : s[k].toNat = 49)))
          clear hb hb'
          by_cases k9 : 8 < k
          · go_wp2
            refine bodyPost_ret (v := .tuple #[pfx 0 0, .bool false]) (by simp [results, Tryz.results90, go_sem]) rfl ⟨rfl, ext_mk ?_⟩
            exact ((Gr.refl _).alloc _).alloc _
          · have hne := HT.out (by omega)
            rw [← HV.out] at hne
            generalize htx : textL k v = T at hne
            have TX := hide htx
            have hne' : (T == s.toList) = false := by rw [ByteArray.toList_eq]; simpa using hne
            have hd8 : decide (8 < (k : Int)) = false := by simp; omega
            clear htx hne
            go_wp2_with (go_at_call 134; with_reducible refine (rtext_is TX.out _).mono ?_; rintro e _ ⟨rfl, d1, rfl⟩)
            obtain ⟨c0, c1, _, _, _⟩ := Gr.pair (((Gr.refl (w.alloc (.cells #[.int .i64 0, .int .i64 0] 52))).alloc _).ext d1)
            refine bodyPost_ret (v := .tuple #[pfx 0 0, .bool false]) (by simp [results, Tryz.results90, go_sem, c0, c1]) rfl ⟨rfl, ext_mk ?_⟩
            exact (((((Gr.refl _).alloc _).alloc _).ext d1).setCell (by simp) _).setCell (by simp) _
      · have hd : decide ((k : Int) < (s.size : Int)) = false := by simp; omega
        by_cases k9 : 8 < k
        · go_wp2
          refine bodyPost_ret (v := .tuple #[pfx 0 0, .bool false]) (by simp [results, Tryz.results90, go_sem]) rfl ⟨rfl, ext_mk ?_⟩
          exact ((Gr.refl _).alloc _).alloc _
        · have hne := HT.out (by omega)
          rw [← HV.out] at hne
          generalize htx : textL k v = T at hne
          have TX := hide htx
          have hne' : (T == s.toList) = false := by rw [ByteArray.toList_eq]; simpa using hne
          have hd8 : decide (8 < (k : Int)) = false := by simp; omega
          clear htx hne
          go_wp2_with (go_at_call 134; with_reducible refine (rtext_is TX.out _).mono ?_; rintro e _ ⟨rfl, d1, rfl⟩)
          obtain ⟨c0, c1, _, _, _⟩ := Gr.pair (((Gr.refl (w.alloc (.cells #[.int .i64 0, .int .i64 0] 52))).alloc _).ext d1)
          refine bodyPost_ret (v := .tuple #[pfx 0 0, .bool false]) (by simp [results, Tryz.results90, go_sem, c0, c1]) rfl ⟨rfl, ext_mk ?_⟩
          exact (((((Gr.refl _).alloc _).alloc _).ext d1).setCell (by simp) _).setCell (by simp) _

end Go.Proofs.YtfcknkanbcndjagGreatDoor

/- CONTRACT OF handpostref.Parse, by the plain function. -/
namespace Go.Proofs.YtfcknkanbcndjagGreatDoor
open Go.RowKit

theorem rparse_some (s : ByteArray) (n : Nat) (v : Int) (hs : s.size ≤ 100000) (h : parseL s.data.toList = some (n, v)) (w : World) :
    Calls Tryz.prog 90 #[.string s] w fun e w' => e = .returned (.tuple #[pfx n v, .bool true]) ∧ ∃ d : Ext w, w' = d.out := by
  obtain ⟨ok, ht⟩ := text_parse _ _ _ h
  obtain ⟨_, h8, hv, hl⟩ := ok_iff.1 ok
  have hl' : v < 2 ^ n := by simpa using hl
  have hlen : s.data.toList.length = s.size := by simp
  have hbl := bitsL_length n v
  have e : s.data.toList = bitsL n v ++ (if (n : Int) < 8 then [42] else []) := by rw [← ht]; simp [textL, ok]
  have hn : n ≤ s.size := by rw [← hlen, e, List.length_append]; omega
  have htk : s.data.toList.take n = bitsL n v := by rw [e, List.take_append_of_le_length (by omega), List.take_of_length_le (by omega)]
  have hall := bitsL_bits n v
  refine rparse_yes s n v hs hn (by omega) (fun k hk => ?_) (fun hk => ?_) (by rw [htk]; exact valL_bitsL n v hv hl') ht w
  · rw [← htk, List.all_eq_true] at hall
    apply hall
    rw [List.mem_take_iff_getElem]
    exact ⟨k, by simp; omega, rfl⟩
  · have h1 : s[n] = s.data.toList[n]'(by rw [hlen]; exact hk) := rfl
    have h2 : s.data.toList[n]? = some s[n] := by rw [h1]; exact List.getElem?_eq_getElem _
    rw [e, List.getElem?_append_right (by omega), hbl, Nat.sub_self] at h2
    by_cases hn8 : (n : Int) < 8
    · rw [if_pos hn8] at h2
      simp at h2
      rw [← h2]; rfl
    · rw [if_neg hn8] at h2
      simp at h2

/-- How many bits a text begins with, nine at most. -/
theorem leads (l : List UInt8) : ∃ n, n ≤ 9 ∧ ∃ hn : n ≤ l.length, (∀ k (h : k < n), bitB (l[k]'(by omega)) = true) ∧ ∀ h : n < l.length, n = 9 ∨ bitB l[n] = false := by
  by_cases ha : (l.take 9).all bitB = true
  · refine ⟨min 9 l.length, by omega, by omega, fun k hk => ?_, fun h => .inl (by omega)⟩
    rw [List.all_eq_true] at ha
    apply ha
    rw [List.mem_take_iff_getElem]
    exact ⟨k, by omega, rfl⟩
  · obtain ⟨m, h1, h2, h3⟩ := first_bad bitB (l.take 9) (by simpa using ha)
    have hm : m < 9 ∧ m < l.length := by simp at h1; omega
    refine ⟨m, by omega, by omega, fun k hk => ?_, fun h => .inr ?_⟩
    · have := h3 k hk
      rw [List.getElem_take] at this
      exact this
    · rw [List.getElem_take] at h2
      exact h2

theorem rparse_nil (s : ByteArray) (hs : s.size ≤ 100000) (h : parseL s.data.toList = none) (w : World) :
    Calls Tryz.prog 90 #[.string s] w fun e w' => e = .returned (.tuple #[pfx 0 0, .bool false]) ∧ ∃ d : Ext w, w' = d.out := by
  have hlen : s.data.toList.length = s.size := by simp
  obtain ⟨n, h9, hn, hall, hend⟩ := leads s.data.toList
  refine rparse_no s n hs (by omega) h9 (fun k hk => hall k hk) (fun hk => hend (by omega)) (fun h8 ht => ?_) w
  obtain ⟨v0, v1⟩ := valL_bd (s.data.toList.take n)
  have hl2 : (s.data.toList.take n).length = n := by rw [List.length_take]; omega
  rw [hl2] at v1
  have ok : okB n (valL (s.data.toList.take n)) = true := ok_iff.2 ⟨by omega, by omega, v0, by simpa using v1⟩
  have := parse_text n _ ok
  rw [ht, h] at this
  cases this

end Go.Proofs.YtfcknkanbcndjagGreatDoor
