import Derived.Test.YtfcknkanbcndjagGreatDoorKt5
import Derived.Test.YtfcknkanbcndjagGreatDoorLookAid
import Derived.Test.YtfcknkanbcndjagGreatDoorDkText
import Derived.Deep.RegionHeld3
import Derived.Test.YtfcknkanbcndjagGreatDoorDkSay
import Derived.Test.YtfcknkanbcndjagGreatDoorRBt
import Derived.Lib.AppendZerosOnto
import Derived.Lib.Overlaps
import Derived.Laws.Externs
import Derived.Laws.CopyOwn
import Derived.Test.YtfcknkanbcndjagGreatDoorKPlain
/- CONTRACTS OF the program's talk: news, routes. -/
namespace Go.Proofs.YtfcknkanbcndjagGreatDoor
open Go.RowKit
attribute [local go_sem] Ext.all Ext.cell Ext.frozen Ext.lt Ext.lt1 Ext.lt2 Ext.ne Ext.ne'
section
variable {W : World} {M : Nat → Prop} {B w w' : World} {t P : Nat} {S S' : Nat → Prop} {v v' : Value} {s s' : Dk} {n n' : Nat} {told told' : Tx}
/-- The embedded Net, asked for its news. -/
theorem Pq.news {c : Nat → Nat → Nat} {t : Tn} {rs : List Rt} (H : Pq M B w P S c t n rs) : ∃ p, P < w.heap.size ∧ w.cell? ⟨P, 0, none⟩ = some (pv p) ∧ Calls Tryz.prog 125 #[pv p] w fun e w' => ∃ ao cp, e = .returned (.slice ao (newsL t.news).length cp) ∧ NewsAt w' ao (newsL t.news) ∧ (∀ b o, newsL t.news ≠ [] → ao = some ⟨b, o, none⟩ → w.heap.size ≤ b) ∧ Gr w w' := by
  obtain ⟨p, k, q, v, tb, u, h, e⟩ := H
  refine ⟨p, lt_of_block h.blk, (cells2 h.blk).1, (netNews_any h.net.h h.net.l).mono ?_⟩
  rintro e w' ⟨z, rfl, ho, g⟩
  obtain ⟨ao, cp, rfl, hn, hb⟩ := ho.shape
  exact ⟨ao, cp, rfl, hn, fun b o _ ha => hb b o ha, g⟩
theorem Pq.news_bd {c : Nat → Nat → Nat} {t : Tn} {rs : List Rt} (H : Pq M B w P S c t n rs) (hn : n ≤ 100000) : (∀ x ∈ newsL t.news, i64B x.1 ∧ i64B x.2.1 ∧ i64B x.2.2.1 ∧ i64B x.2.2.2.1 ∧ i64B x.2.2.2.2) ∧ (newsL t.news).length ≤ 40 := by
  obtain ⟨p, k', q, v, tb, u, h, e⟩ := H
  exact ⟨Go.Proofs.YtfcknkanbcndjagGreatDoor.news_bd h.net.a h.net.g hn, by have := h.net.l; simpa [newsL] using this⟩
theorem newL_is (x : Nws) : newL x = sayD ([110, 101, 119, 115] :: [x.1, x.2.1, x.2.2.1, x.2.2.2.1, x.2.2.2.2].map ito) := rfl
set_option maxRecDepth 20000 in
set_option maxHeartbeats 4000000 in
/-- The program's news. -/
theorem Td.news (H : Td W M B w t P S v s n told) (hL : Lb W) (hn : n ≤ 100000) (h1 : told.length ≤ 2900000) :
    Calls Tryz.prog 81 #[pv t] w fun e w' => e = .returned (.tuple #[]) ∧ ∃ v', Td W M B w' t P S v' s n (told ++ toldA s .news) ∧ Chg w w' (ownK t v) (ownK t v') := by
  obtain ⟨hb, hnl⟩ := H.post.news_bd hn
  have HE : Hid (toldA s .news = (newsL s.t.news).flatMap newL ++ sayD [[101, 110, 100]]) := rfl
  obtain ⟨p, lP, cP, hN⟩ := H.post.news
  have HN := hide hN
  have HH := hide H
  have HL := hide hL
  have HB := hide hb
  obtain ⟨ct, ltt⟩ := H.cell0
  clear H hL hb hN
  rw [HE.out]
  clear HE
  generalize newsL s.t.news = l at *
  go_enter Tryz.func81, Tryz.ntmps81
  go_wp2_with (go_at_call 125; refine HN.out.mono ?_; rintro e w1 ⟨ao, cp, rfl, h2, h3, g1⟩; have NA := hide h2; have NB := hide h3; have G1 := hide g1; clear h2 h3 g1)
  have hl0 : Hid (∀ b o, l ≠ [] → ao = some ⟨b, o, none⟩ → ¬ ownK t v b) := fun b o h0 ha e => by
    have h4 := NB.out b o h0 ha
    have h5 := HH.out.tk.own_lt e
    omega
  go_loopw [13] (fun v13 wr => ∃ (k : Nat) (u : Value), k ≤ l.length ∧ v13 = .int .i64 (k : Int) ∧ Hid (Td W M B wr t P S u s n (told ++ (l.take k).flatMap newL)) ∧ Hid (Chg w1 wr (ownK t v) (ownK t u))) (fun v13 _ => l.length - (intOf v13).toNat)
  case atStart => exact ⟨0, v, by omega, rfl, by simpa [Hid] using HH.out.gr G1.out, (Gr.refl w1).chg _⟩
  case round =>
    clear HN cP ct lP ltt
    obtain ⟨k, u, hk, rfl, T2, K2⟩ := hrel
    have hlen : (told ++ (l.take k).flatMap newL).length ≤ 2950000 := by
      have := flatK_len (f := newL) (N := 200) (l := l.take k) (fun x hx => by
        obtain ⟨b1, b2, b3, b4, b5⟩ := HB.out x (List.mem_of_mem_take hx)
        have := sayN_len (wd := [110, 101, 119, 115]) (ns := [x.1, x.2.1, x.2.2.1, x.2.2.2.1, x.2.2.2.2]) (by simp; exact ⟨b1, b2, b3, b4, b5⟩)
        rw [sayN_is, ← newL_is] at this
        exact Nat.le_trans this (by simp))
      have h2 : (l.take k).length ≤ 40 := by rw [List.length_take]; omega
      rw [List.length_append]
      omega
    by_cases hlt : k < l.length
    · have hkI : (k : Int) < (l.length : Int) := by omega
      have hne : l ≠ [] := fun e => by rw [e] at hlt; simp at hlt
      obtain ⟨b1, b2, b3, b4, b5⟩ := HB.out l[k] (List.getElem_mem hlt)
      rcases NA.out with h0 | ⟨b, o, hao, hbl, hcs⟩
      · exact absurd h0 hne
      have hbk := hl0.out b o hne hao
      have eb := K2.out.kp.block b hbl ⟨hbl, hbk⟩
      obtain ⟨x0, x1, x2, x3, x4⟩ := hcs k hlt
      have y0 := (World.cell?_of_block (a := ⟨b, o + k * 5, none⟩) eb).trans x0
      have y1 := (World.cell?_of_block (a := ⟨b, o + k * 5 + 1, none⟩) eb).trans x1
      have y2 := (World.cell?_of_block (a := ⟨b, o + k * 5 + 2, none⟩) eb).trans x2
      have y3 := (World.cell?_of_block (a := ⟨b, o + k * 5 + 3, none⟩) eb).trans x3
      have y4 := (World.cell?_of_block (a := ⟨b, o + k * 5 + 4, none⟩) eb).trans x4
      have HF := hide (flatK_succ newL hlt)
      have HX : Hid (∀ X, Calls Tryz.prog 89 #[pv t, sv [110, 101, 119, 115], .slice (some ⟨wr.heap.size + 1, 0, none⟩) 5 5] ((wr.alloc X).alloc (.cells #[iv l[k].1, iv l[k].2.1, iv l[k].2.2.1, iv l[k].2.2.2.1, iv l[k].2.2.2.2] 3)) fun e w' => e = .returned (.tuple #[]) ∧ ∃ v', Td W M B w' t P S v' s n ((told ++ (l.take k).flatMap newL) ++ newL l[k]) ∧ Chg (wr.alloc X) w' (ownK t u) (ownK t v')) := fun X =>
        (T2.out.gr ((Gr.refl wr).alloc X)).sayAt HL.out (by simp) [110, 101, 119, 115] [l[k].1, l[k].2.1, l[k].2.2.1, l[k].2.2.2.1, l[k].2.2.2.2] 3 (by simp; exact ⟨b1, b2, b3, b4, b5⟩) (by omega) (by decide) (by simp)
      subst hao
      clear b1 b2 b3 b4 b5 hlen x0 x1 x2 x3 x4 hcs eb hbk hbl hne
      generalize hA : told ++ (l.take k).flatMap newL = A at *
      have HA := hide hA
      clear hA
      generalize newL l[k] = Y at *
      generalize l[k] = xx at *
      obtain ⟨z0, z1, z2, z3, z4⟩ := xx
      simp only at y0 y1 y2 y3 y4 HX
      go_wp2_with (first
        | (go_at_call 89; refine (HX.out _).mono ?_; rintro e w2 ⟨rfl, v2, t2, k2⟩; have T3 := hide t2; have K3 := hide ((K2.out.trans (((Gr.refl wr).alloc _).chg _)).trans k2); clear t2 k2))
      go_roundw
      case rel => exact ⟨k + 1, v2, by omega, by go_num, by
        unfold Hid
        rw [HF.out, ← List.append_assoc, HA.out]
        exact T3.out, K3⟩
      case measure => simp [intOf]; omega
    · have hkl : decide ((k : Int) < (l.length : Int)) = false := decide_eq_false (by omega)
      have HT : Hid (l.take k = l) := List.take_of_length_le (by omega)
      have HX := hide (T2.out.say0 HL.out [101, 110, 100] (by omega) (by decide))
      go_wp2_with (first
        | (go_at_call 89; refine HX.out.mono ?_; rintro e w2 ⟨rfl, v2, t2, k2⟩; have T3 := hide t2; have K3 := hide (((G1.out.chg _).trans K2.out).trans k2); clear t2 k2))
      refine bodyPost_end (results_none rfl _ _ _) rfl ⟨rfl, v2, ?_, K3.out⟩
      have := T3.out
      rw [HT.out] at this
      rw [← List.append_assoc]
      exact this
theorem tabK_i64 {l : List Rt} (h : Tab l) : ∀ r ∈ l, i64B r.2.2 := fun r hr => by
  have := (h.ok r hr).2
  unfold hopB at this
  have := of_decide_eq_true this
  exact i64_of ⟨by omega, by omega⟩
theorem rouL_is (r : Rt) : rouL r = sayD (([114, 111, 117, 116, 101, 32] ++ textL r.1 r.2.1) :: [r.2.2].map ito) := by
  simp [rouL, sayD, joinT, wRoute]
theorem textK_len (l b : Int) : (textL l b).length ≤ 9 := by
  unfold textL
  split
  · rename_i h
    have := ok_iff.1 h
    rw [List.length_append, bitsL_length]
    split <;> simp <;> omega
  · simp
theorem catK (a b : Tx) : (⟨a.toArray⟩ ++ ⟨b.toArray⟩ : ByteArray) = ⟨(a ++ b).toArray⟩ := by
  apply ByteArray.ext
  simp [ByteArray.data_append]
set_option maxRecDepth 20000 in
set_option maxHeartbeats 4000000 in
/-- The program's routes, of no table. -/
theorem Td.routes_no (H : Td W M B w t P S v s n told) (hL : Lb W) (h1 : told.length ≤ 2900000) :
    Calls Tryz.prog 83 #[pv t, .pointer none] w fun e w' => e = .returned (.tuple #[]) ∧ ∃ v', Td W M B w' t P S v' s n (told ++ sayD [wNo, ito 1]) ∧ Chg w w' (ownK t v) (ownK t v') := by
  have HX : Hid (Calls Tryz.prog 89 #[pv t, sv [110, 111], .slice (some ⟨w.heap.size, 0, none⟩) 1 1] (w.alloc (.cells #[iv 1] 3)) fun e w' => e = .returned (.tuple #[]) ∧ ∃ v', Td W M B w' t P S v' s n (told ++ sayD [wNo, ito 1]) ∧ Chg w w' (ownK t v) (ownK t v')) :=
    H.sayAt hL rfl [110, 111] [1] 3 (by simp; exact ⟨by decide, by decide⟩) (by omega) (by decide) (by simp)
  clear H hL
  generalize sayD [wNo, ito 1] = Z at *
  go_enter Tryz.func83, Tryz.ntmps83
  go_wp2_with (go_at_call 89; refine HX.out.mono ?_; rintro e w1 ⟨rfl, h⟩; have HH := hide h; clear h)
  exact bodyPost_ret (results_none rfl _ _ _) rfl ⟨rfl, HH.out⟩
theorem val_new1 (w : World) (x : Value) (T : TypeId) : ValAt (w.alloc (.cells #[x] T)) (some ⟨w.heap.size, 0, none⟩) [x] := val_new w [x] T
set_option maxRecDepth 20000 in
set_option maxHeartbeats 8000000 in
/-- The program's routes, of a table. -/
theorem Td.routes (H : Td W M B w t P S v s n told) (hL : Lb W) (h1 : told.length ≤ 2900000) {tb : Nat} {l : List Rt} (hI : Is w tb l) (hT : Tab l) :
    Calls Tryz.prog 83 #[pv t, pv tb] w fun e w' => e = .returned (.tuple #[]) ∧ ∃ v', Td W M B w' t P S v' s n (told ++ (l.flatMap rouL ++ sayD [wEnd])) ∧ Chg w w' (ownK t v) (ownK t v') := by
  have HN := hide (hI.list hT)
  have HH := hide H
  have HL := hide hL
  have HB := hide (tabK_i64 hT)
  have hnl := hT.len
  clear H hL hI hT
  go_enter Tryz.func83, Tryz.ntmps83
  go_wp2_with (go_at_call 60; refine HN.out.mono ?_; rintro e w1 ⟨ao, cp, rfl, h2, g1⟩; have NA := hide h2; have G1 := hide g1; clear h2 g1)
  go_loopw [14] (fun v14 wr => ∃ (k : Nat) (u : Value), k ≤ l.length ∧ v14 = .int .i64 (k : Int) ∧ Hid (Td W M B wr t P S u s n (told ++ (l.take k).flatMap rouL)) ∧ Hid (Chg w1 wr (ownK t v) (ownK t u))) (fun v14 _ => l.length - (intOf v14).toNat)
  case atStart => exact ⟨0, v, by omega, rfl, by simpa [Hid] using HH.out.gr G1.out, (Gr.refl w1).chg _⟩
  case round =>
    clear HN
    obtain ⟨k, u, hk, rfl, T2, K2⟩ := hrel
    have hlen : (told ++ (l.take k).flatMap rouL).length ≤ 2950000 := by
      have := flatK_len (f := rouL) (N := 60) (l := l.take k) (fun x hx => by
        have b1 := HB.out x (List.mem_of_mem_take hx)
        have b2 := textK_len x.1 x.2.1
        have := sayN_len (wd := [114, 111, 117, 116, 101, 32] ++ textL x.1 x.2.1) (ns := [x.2.2]) (by simpa using b1)
        rw [sayN_is, ← rouL_is] at this
        simp only [List.length_append, List.length_cons, List.length_nil] at this
        omega)
      have h2 : (l.take k).length ≤ 40 := by rw [List.length_take]; omega
      rw [List.length_append]
      omega
    by_cases hlt : k < l.length
    · have hkI : (k : Int) < (l.length : Int) := by omega
      have hne : l ≠ [] := fun e => by rw [e] at hlt; simp at hlt
      have b1 := HB.out l[k] (List.getElem_mem hlt)
      have htl := textK_len l[k].1 l[k].2.1
      rcases NA.out with h0 | ⟨b, o, hao, hbl, hbm, hcs⟩
      · exact absurd h0 hne
      have hbk : ¬ ownK t v b := fun e => by have := HH.out.tk.own_lt e; omega
      have eb := K2.out.kp.block b hbl ⟨hbl, hbk⟩
      obtain ⟨x0, x1, x2⟩ := hcs k hlt
      have y0 := (World.cell?_of_block (a := ⟨b, o + k * 3, none⟩) eb).trans x0
      have y1 := (World.cell?_of_block (a := ⟨b, o + k * 3 + 1, none⟩) eb).trans x1
      have y2 := (World.cell?_of_block (a := ⟨b, o + k * 3 + 2, none⟩) eb).trans x2
      have HF := hide (flatK_succ rouL hlt)
      have HP := hide (fun V => text_any l[k].1 l[k].2.1 V)
      obtain ⟨s1, HE1, e1⟩ : ∃ c, Hid (c = (⟨([114, 111, 117, 116, 101, 32] ++ textL l[k].1 l[k].2.1).toArray⟩ : ByteArray)) ∧ ∀ w : World, (Op.stringOp .add ⟨#[114, 111, 117, 116, 101, 32]⟩ ⟨(textL l[k].1 l[k].2.1).toArray⟩).run Tryz.prog w = .ok (.string c) w := by
        refine ⟨⟨#[114, 111, 117, 116, 101, 32]⟩ ++ ⟨(textL l[k].1 l[k].2.1).toArray⟩, ?_, fun w => run_string_add_sum w _ _ (by rw [size_of_list]; simp [ByteArray.size]; omega)⟩
        unfold Hid
        rw [show (⟨#[114, 111, 117, 116, 101, 32]⟩ : ByteArray) = ⟨[114, 111, 117, 116, 101, 32].toArray⟩ from rfl, catK]
      have HX : Hid (∀ V aa, Gr wr V → ValAt V aa [iv l[k].2.2] → (∀ b o, aa = some ⟨b, o, none⟩ → wr.heap.size ≤ b) → Calls Tryz.prog 89 #[pv t, .string s1, .slice aa 1 1] V fun e w' => e = .returned (.tuple #[]) ∧ ∃ v', Td W M B w' t P S v' s n ((told ++ (l.take k).flatMap rouL) ++ rouL l[k]) ∧ Chg V w' (ownK t u) (ownK t v')) := fun V aa g hv hy => by
        rw [rouL_is, HE1.out, ← sayN_is]
        exact (T2.out.gr g).say HL.out _ (ns := [l[k].2.2]) hv (fun b o _ e hb => by have := hy b o e; have := T2.out.tk.own_lt hb; omega) (by simpa using b1) (by omega) (by simp; omega) (by simp)
      subst hao
      clear b1 hlen x0 x1 x2 hcs eb hbk hbl hne htl hbm
      generalize hA : told ++ (l.take k).flatMap rouL = A at *
      have HA := hide hA
      clear hA
      generalize rouL l[k] = Y at *
      generalize l[k] = xx at *
      obtain ⟨z0, z1, z2⟩ := xx
      simp only at y0 y1 y2 HX HP e1
      clear HE1
      generalize textL z0 z1 = tx at *
      go_upto_region 5 with (fail)
      have g0 : Gr wr (wr.alloc (.cells #[iv z0, iv z1, iv z2] 133)) := (Gr.refl wr).alloc _
      have h0 := heap_alloc_new wr (.cells #[iv z0, iv z1, iv z2] 133)
      refine wp_gen (fun V => Hid (Gr wr V) ∧ V.cell? ⟨wr.heap.size, 0, none⟩ = some (iv z0) ∧ V.cell? ⟨wr.heap.size, 1, none⟩ = some (iv z1) ∧ V.cell? ⟨wr.heap.size, 2, none⟩ = some (iv z2) ∧ wr.heap.size < V.heap.size) ⟨g0, by unfold World.cell?; rw [h0]; rfl, by unfold World.cell?; rw [h0]; rfl, by unfold World.cell?; rw [h0]; rfl, by simp⟩ ?_
      clear g0 h0 y0 y1 y2
      rintro V ⟨G2, q0, q1, q2, lq⟩
      obtain ⟨q, hq⟩ : ∃ q, q = wr.heap.size := ⟨_, rfl⟩
      rw [← hq] at q0 q1 q2 lq ⊢
      have HQ := hide hq
      clear hq
      have gD := hide ((Gr.refl V).drew)
      have HC : Hid (∀ X, Gr V X → X.cell? ⟨q, 0, none⟩ = some (iv z0) ∧ X.cell? ⟨q, 1, none⟩ = some (iv z1) ∧ X.cell? ⟨q, 2, none⟩ = some (iv z2)) := fun X g =>
        ⟨(Below.cell g (p := ⟨q, _, none⟩) lq).trans q0, (Below.cell g (p := ⟨q, _, none⟩) lq).trans q1, (Below.cell g (p := ⟨q, _, none⟩) lq).trans q2⟩
      have HY : Hid (∀ d : Ext V.drew, Calls Tryz.prog 89 #[pv t, .string s1, .slice (some ⟨d.out.heap.size, 0, none⟩) 1 1] (d.out.alloc (.cells #[iv z2] 3)) fun e w' => e = .returned (.tuple #[]) ∧ ∃ v', Td W M B w' t P S v' s n (A ++ Y) ∧ Chg w1 w' (ownK t v) (ownK t v') ∧ w'.cell? ⟨q, 0, none⟩ = some (iv z0) ∧ w'.cell? ⟨q, 1, none⟩ = some (iv z1) ∧ w'.cell? ⟨q, 2, none⟩ = some (iv z2)) := fun d => by
        have g3 : Gr V (d.out.alloc (.cells #[iv z2] 3)) := (gD.out.trans d.gr).alloc _
        have h2 := Below.size G2.out
        have h3 := Below.size (gD.out.trans d.gr)
        refine (HX.out _ _ (G2.out.trans g3) (val_new1 d.out (iv z2) _) (fun b o e => by cases e; omega)).mono ?_
        rintro e w2 ⟨he, v2, t2, k2⟩
        have hq2 : q < (d.out.alloc (.cells #[iv z2] 3)).heap.size := Nat.lt_of_lt_of_le lq (Below.size g3)
        have eb := k2.kp.block q hq2 ⟨hq2, fun e => by have := T2.out.tk.own_lt e; have := HQ.out; omega⟩
        obtain ⟨y0, y1, y2⟩ := HC.out _ g3
        exact ⟨he, v2, t2, (K2.out.trans ((G2.out.trans g3).chg _)).trans k2, (World.cell?_of_block (a := ⟨q, 0, none⟩) eb).trans y0, (World.cell?_of_block (a := ⟨q, 1, none⟩) eb).trans y1, (World.cell?_of_block (a := ⟨q, 2, none⟩) eb).trans y2⟩
      have gE := hide (((Gr.refl V).alloc (.cells #[iv z2] 3)).drew)
      have HY2 : Hid (∀ d : Ext (V.alloc (.cells #[iv z2] 3)).drew, Calls Tryz.prog 89 #[pv t, .string s1, .slice (some ⟨V.heap.size, 0, none⟩) 1 1] d.out fun e w' => e = .returned (.tuple #[]) ∧ ∃ v', Td W M B w' t P S v' s n (A ++ Y) ∧ Chg w1 w' (ownK t v) (ownK t v') ∧ w'.cell? ⟨q, 0, none⟩ = some (iv z0) ∧ w'.cell? ⟨q, 1, none⟩ = some (iv z1) ∧ w'.cell? ⟨q, 2, none⟩ = some (iv z2)) := fun d => by
        have g3 : Gr V d.out := gE.out.trans d.gr
        have h2 := Below.size G2.out
        refine (HX.out _ _ (G2.out.trans g3) ((val_new1 V (iv z2) 3).gr (((Gr.refl _).drew).trans d.gr)) (fun b o e => by cases e; omega)).mono ?_
        rintro e w2 ⟨he, v2, t2, k2⟩
        have hq2 : q < d.out.heap.size := Nat.lt_of_lt_of_le lq (Below.size g3)
        have eb := k2.kp.block q hq2 ⟨hq2, fun e => by have := T2.out.tk.own_lt e; have := HQ.out; omega⟩
        obtain ⟨y0, y1, y2⟩ := HC.out _ g3
        exact ⟨he, v2, t2, (K2.out.trans ((G2.out.trans g3).chg _)).trans k2, (World.cell?_of_block (a := ⟨q, 0, none⟩) eb).trans y0, (World.cell?_of_block (a := ⟨q, 1, none⟩) eb).trans y1, (World.cell?_of_block (a := ⟨q, 2, none⟩) eb).trans y2⟩
      go_region_held3 (fun X => X.cell? ⟨q, 0, none⟩ = some (iv z0) ∧ X.cell? ⟨q, 1, none⟩ = some (iv z1) ∧ X.cell? ⟨q, 2, none⟩ = some (iv z2)) (first | exact HC.out _ gD.out | exact HC.out _ gE.out | exact HC.out _ G3.out | exact HC.out _ (G3.out.alloc _) | exact C7.out | go_keep)
        (first
        | (go_at_call 126; with_reducible refine (HP.out V.drew).mono ?_; rintro e _ ⟨rfl, d3, rfl⟩; have G3 := hide (gD.out.trans d3.gr))
        | (go_at_call 126; with_reducible refine (HP.out (V.alloc (.cells #[iv z2] 3)).drew).mono ?_; rintro e _ ⟨rfl, d3, rfl⟩; have G3 := hide (gE.out.trans d3.gr))
        | (go_at_call 89; with_reducible refine (HY.out d3).mono ?_; rintro e w2 ⟨rfl, v2, t2, k2, c7⟩; have T3 := hide t2; have K3 := hide k2; have C7 := hide c7; clear t2 k2 c7)
        | (go_at_call 89; with_reducible refine (HY2.out d3).mono ?_; rintro e w2 ⟨rfl, v2, t2, k2, c7⟩; have T3 := hide t2; have K3 := hide k2; have C7 := hide c7; clear t2 k2 c7)
        | fail)
      all_goals
        go_wp2_with fail
        go_roundw
        case rel => exact ⟨k + 1, v2, by omega, by go_num, by
          unfold Hid
          rw [HF.out, ← List.append_assoc, HA.out]
          exact T3.out, K3⟩
        case measure => simp [intOf]; omega
    · have hkl : decide ((k : Int) < (l.length : Int)) = false := decide_eq_false (by omega)
      have HT : Hid (l.take k = l) := List.take_of_length_le (by omega)
      have HX := hide (T2.out.say0 HL.out [101, 110, 100] (by omega) (by decide))
      go_wp2_with (first
        | (go_at_call 89; refine HX.out.mono ?_; rintro e w2 ⟨rfl, v2, t2, k2⟩; have T3 := hide t2; have K3 := hide (((G1.out.chg _).trans K2.out).trans k2); clear t2 k2))
      refine bodyPost_end (results_none rfl _ _ _) rfl ⟨rfl, v2, ?_, K3.out⟩
      have := T3.out
      rw [HT.out] at this
      rw [← List.append_assoc]
      exact this
end

end Go.Proofs.YtfcknkanbcndjagGreatDoor

/- FOR THE LAWS OF A POST: handpostlaw.posts. -/
namespace Go.Proofs.YtfcknkanbcndjagGreatDoor
open Go.RowKit
attribute [local go_sem] Ext.all Ext.cell Ext.frozen Ext.lt Ext.lt1 Ext.lt2 Ext.ne Ext.ne'
/-- A Post and a Town beside each other, in a world that has left all that was in w. -/
def Pt (w w' : World) (P T : Nat) (n : Nat) (c : Nat → Nat → Nat) (t : Tn) (rs : List Rt) (n' : Nat) (c' : Nat → Nat → Nat) (t' : Tn) (rs' : List Rt) : Prop :=
  ∃ S1 S2, Pq (fun b => b < w.heap.size) w w' P S1 c t n rs ∧ Tq (fun b => b < w.heap.size) w w' T S2 c' t' n' rs' ∧ ∀ b, S1 b → ¬ S2 b
section
variable {w w1 w' : World} {P T n n' : Nat} {c c' : Nat → Nat → Nat} {t t' : Tn} {rs rs' : List Rt}
theorem Pt.gr (H : Pt w w1 P T n c t rs n' c' t' rs') (g : Gr w1 w') : Pt w w' P T n c t rs n' c' t' rs' := by
  obtain ⟨S1, S2, h1, h2, ap⟩ := H
  exact ⟨S1, S2, h1.gr g, h2.gr g, ap⟩
theorem Pt.ows (H : Pt w w1 P T n c t rs n' c' t' rs') : Ows rs := by
  obtain ⟨S1, S2, h1, h2, ap⟩ := H
  exact h1.ows
theorem Pt.a (H : Pt w w1 P T n c t rs n' c' t' rs') : TnA t c := by
  obtain ⟨S1, S2, h1, h2, ap⟩ := H
  exact h1.a
end
end Go.Proofs.YtfcknkanbcndjagGreatDoor

/- A WALK IN MEMORY: a Post's pointer and six tables. -/
namespace Go.Proofs.YtfcknkanbcndjagGreatDoor
open Go.RowKit

/-- The cells of a Walk: its Post, its tables. -/
def wkF (P : Nat) (tb : Nat → Nat) : Nat → Value := fun i => if i = 0 then pv P else pv (tb (i - 1))
/-- The own blocks of a Walk. -/
def ownW (X : Nat) (tb : Nat → Nat) (z : Nat → Value) (b : Nat) : Prop := b = X ∨ ∃ x, x < 6 ∧ ownB (tb x) (z x) b
/-- A Walk at X over the Post P, whose own blocks are S: the routes of each node's table are fs. -/
def Wq (w : World) (X P : Nat) (S : Nat → Prop) (fs : Nat → List Rt) : Prop :=
  ∃ tb z, VArr w 78 7 X (wkF P tb) ∧ (∀ x, x < 6 → TabS w (fun _ => False) (tb x) (z x) (fs x)) ∧ S = ownW X tb z
section
variable {w w' : World} {X P : Nat} {S : Nat → Prop} {fs : Nat → List Rt} {N : Nat → Prop}
theorem Wq.gr (H : Wq w X P S fs) (g : Gr w w') : Wq w' X P S fs := by
  obtain ⟨tb, z, h1, h2, e⟩ := H
  exact ⟨tb, z, h1.gr g, fun x hx => (h2 x hx).gr g, e⟩
theorem Wq.lt (H : Wq w X P S fs) {b : Nat} (hb : S b) : b < w.heap.size := by
  obtain ⟨tb, z, h1, h2, e⟩ := H
  subst e
  rcases hb with rfl | ⟨x, hx, hb⟩
  · exact h1.lt
  · exact (h2 x hx).own_lt hb
theorem Wq.keep (H : Wq w X P S fs) (hk : Kp N w w') (hS : ∀ b, S b → N b) : Wq w' X P S fs := by
  obtain ⟨tb, z, h1, h2, e⟩ := H
  subst e
  exact ⟨tb, z, (hk.block X h1.lt (hS X (.inl rfl))).trans h1, fun x hx => (h2 x hx).kept hk (hS _ (.inr ⟨x, hx, .inl rfl⟩)) (fun g hg => hS g (.inr ⟨x, hx, .inr hg⟩)), rfl⟩
/-- What is done to another object leaves it. -/
theorem Wq.beside {S2 S2' : Nat → Prop} (H : Wq w X P S fs) (ap : ∀ b, S b → ¬ S2 b) (k : Chg w w' S2 S2') : Wq w' X P S fs ∧ ∀ b, S b → ¬ S2' b :=
  ⟨H.keep k.kp (fun b hb => ⟨H.lt hb, ap b hb⟩), fun b hb h2 => by
    rcases k.nw b h2 with q | q
    · exact ap b hb q
    · have := H.lt hb; omega⟩
/-- Its Post's place. -/
theorem Wq.post (H : Wq w X P S fs) : w.cell? ⟨X, 0, none⟩ = some (pv P) ∧ X < w.heap.size := by
  obtain ⟨tb, z, h1, h2, e⟩ := H
  exact ⟨h1.cell (j := 0) (by omega), h1.lt⟩
/-- One of its tables, asked for an address. -/
theorem Wq.look (H : Wq w X P S fs) {x : Nat} (hx : x < 6) (hT : Tab (fs x)) (a : Int) : ∃ tb, w.cell? ⟨X, 1 + x, none⟩ = some (pv tb) ∧ ∀ Y, Gr w Y → Calls Tryz.prog 34 #[pv tb, iv a] Y fun e w' => e = .returned (iv (lookL (fs x) a)) ∧ Gr Y w' := by
  obtain ⟨tb, z, h1, h2, e⟩ := H
  refine ⟨tb x, ?_, fun Y g => ?_⟩
  · have := h1.cell (j := 1 + x) (by omega)
    unfold wkF at this
    rw [if_neg (by omega), show 1 + x - 1 = x by omega] at this
    exact this
  · exact (look_is ((h2 x hx).gr g) (by have := hT.len; omega) rfl ⟨Y, Gr.refl Y⟩).mono fun _ _ ⟨he, d, hd⟩ => ⟨he, by rw [hd]; exact d.gr⟩
end
section
variable {M : Nat → Prop} {B w : World} {P : Nat} {S : Nat → Prop} {c : Nat → Nat → Nat} {t : Tn} {n : Nat} {rs : List Rt}
/-- The links of a Post's Net: three pointers away. -/
theorem Pq.links (H : Pq M B w P S c t n rs) : ∃ p k, P < w.heap.size ∧ p < w.heap.size ∧ k < w.heap.size ∧ w.cell? ⟨P, 0, none⟩ = some (pv p) ∧ w.cell? ⟨p, 0, none⟩ = some (pv k) ∧ ∀ Y, Gr w Y → KL Y k c := by
  obtain ⟨p, k, q, v, tb, u, h, e⟩ := H
  exact ⟨p, k, lt_of_block h.blk, h.net.h.blk.lt, h.net.h.lk.lt, (cells2 h.blk).1, h.net.h.links, fun Y g => h.net.h.lk.gr g⟩
end

end Go.Proofs.YtfcknkanbcndjagGreatDoor

/- CONTRACT OF package walk: New. -/
namespace Go.Proofs.YtfcknkanbcndjagGreatDoor
open Go.RowKit
attribute [local go_sem] Ext.all Ext.cell Ext.frozen Ext.lt Ext.lt1 Ext.lt2 Ext.ne Ext.ne'
/-- A node's table, small or full. -/
def tabL (t : Tn) (rs : List Rt) (sm : Bool) (x : Nat) : List Rt := if sm then lstL (fullL t (x : Int) rs) else fullL t (x : Int) rs
theorem tabL_look {t : Tn} {c : Nat → Nat → Nat} (A : TnA t c) {rs : List Rt} (h : Tab rs) (sm : Bool) (x : Nat) (a : Int) : Tab (tabL t rs sm x) ∧ lookL (tabL t rs sm x) a = letH t rs a x := by
  unfold tabL letH
  cases sm
  · exact ⟨full_tab A x h, rfl⟩
  · exact ⟨lst_tab (full_tab A x h), lst_lookI (full_tab A x h) a⟩
/-- The walk's cells as far as they are set. -/
def wkG (P : Nat) (tb : Nat → Nat) (n : Nat) : Nat → Value := fun i => if i = 0 then pv P else if i ≤ n then pv (tb (i - 1)) else .pointer none
section
variable {M : Nat → Prop} {B w w' : World} {P : Nat} {S : Nat → Prop} {c : Nat → Nat → Nat} {t : Tn} {n : Nat} {rs : List Rt}
theorem Pq.tab (H : Pq M B w P S c t n rs) (h64 : Tab64 w) (sm : Bool) {x : Nat} (hx : x < 6) : Calls Tryz.prog (if sm then 31 else 32) #[pv P, iv (x : Int)] w fun e w' => ∃ ub z, e = .returned (pv ub) ∧ TabS w' (fun k => k < w.heap.size) ub z (tabL t rs sm x) ∧ Gr w w' := by
  obtain ⟨p, k, q, v, tb, u, h, e⟩ := H
  have hn : isN (x : Int) := ⟨by omega, by omega⟩
  cases sm
  · exact fibFull_po h hn
  · exact fibSmall_po h h64 hn
set_option maxRecDepth 20000 in
set_option maxHeartbeats 16000000 in
theorem walkNew_any (H : Pq M B w P S c t n rs) (h64 : Tab64 w) (sm : Bool) : Calls Tryz.prog 12 #[pv P, .bool sm] w fun e w' => ∃ X SW, e = .returned (pv X) ∧ Wq w' X P SW (tabL t rs sm) ∧ Gr w w' ∧ ∀ b, SW b → w.heap.size ≤ b := by
  have HT := hide (fun (V : World) (g : Gr w V) (x : Nat) (hx : x < 6) => (H.gr g).tab (h64.gr g) sm hx)
  clear H h64
  generalize tabL t rs sm = fs at *
  have B0 : Hid (VArr (w.alloc (.cells #[pv P, .pointer none, .pointer none, .pointer none, .pointer none, .pointer none, .pointer none] 78)) 78 7 w.heap.size (wkG P (fun _ => 0) 0)) := heap_alloc_new w _
  cases sm
  all_goals
    simp only [if_true, if_false, Bool.false_eq_true] at HT
    go_enter Tryz.func12, Tryz.ntmps12
    go_wp2_with fail
    go_loopw [13, 6] (fun v10 _ wr => ∃ (i : Nat) (tb : Nat → Nat) (z : Nat → Value), i ≤ 6 ∧ v10 = .int .i64 (i : Int) ∧ Hid (VArr wr 78 7 w.heap.size (wkG P tb i)) ∧ Hid (∀ x, x < i → TabS wr (fun b => b ≤ w.heap.size) (tb x) (z x) (fs x)) ∧ Hid (Gr w wr)) (fun v10 _ _ => (6 - intOf v10).toNat)
    case atStart => exact ⟨0, fun _ => 0, fun _ => .pointer none, by omega, rfl, B0, fun x hx => absurd hx (by omega), (Gr.refl w).alloc _⟩
    case round =>
      clear B0
      obtain ⟨i, tb, z, hi6, rfl, BX, TS, GW⟩ := hrel
      have hX := BX.out.lt
      by_cases hi : i < 6
      · have hii : decide ((i : Int) < 6) = true := decide_eq_true (by omega)
        have hi0 : (i : Int) < 6 := by omega
        have wi : IntKind.i64.wrap ((i : Int) + 1) = (i : Int) + 1 := by rw [IntKind.wrap_i64]; omega
        have HC := hide (HT.out wr.drew GW.out.drew i hi)
        have HST : Hid (∀ (V : World) (ub : Nat) (y : Value), Gr wr V → TabS V (fun k => k < wr.heap.size) ub y (fs i) → (V.cell? ⟨w.heap.size, 1 + i, none⟩ = some (.pointer none) ∧ V.frozen? ⟨w.heap.size, 1 + i, none⟩ = false ∧ w.heap.size < V.heap.size) ∧ VArr (V.setCell ⟨w.heap.size, 1 + i, none⟩ (pv ub)) 78 7 w.heap.size (wkG P (fun x => if x = i then ub else tb x) (i + 1)) ∧ (∀ x, x < i + 1 → TabS (V.setCell ⟨w.heap.size, 1 + i, none⟩ (pv ub)) (fun b => b ≤ w.heap.size) (if x = i then ub else tb x) (if x = i then y else z x) (fs x)) ∧ Gr w (V.setCell ⟨w.heap.size, 1 + i, none⟩ (pv ub))) := fun V ub y g hU => by
          have hV := BX.out.gr g
          have hs := Below.size g
          have c0 := hV.cell (j := 1 + i) (by omega)
          have e0 : wkG P tb i (1 + i) = .pointer none := by unfold wkG; rw [if_neg (by omega), if_neg (by omega)]
          rw [e0] at c0
          have hk : Kp (fun b => b ≠ w.heap.size) V (V.setCell ⟨w.heap.size, 1 + i, none⟩ (pv ub)) := (Kp.refl _ _).set (fun h => h rfl) _ _
          refine ⟨⟨c0, hV.free _, hV.lt⟩, hV.set (fun j hj => ?_), fun x hx => ?_, (GW.out.trans g).setCell (Nat.le_refl _) _⟩
          · unfold wkG
            by_cases e1 : j = 0
            · rw [if_pos e1, if_pos e1, if_neg (by omega)]
            · rw [if_neg e1, if_neg e1]
              by_cases e2 : j = 1 + i
              · rw [if_pos e2, if_pos (by omega)]
                show pv (if j - 1 = i then ub else tb (j - 1)) = _
                rw [if_pos (by omega)]
              · rw [if_neg e2]
                by_cases e3 : j ≤ i
                · rw [if_pos (by omega), if_pos e3]
                  show pv (if j - 1 = i then ub else tb (j - 1)) = _
                  rw [if_neg (by omega)]
                · rw [if_neg (by omega), if_neg e3]
          · by_cases e : x = i
            · subst e
              rw [if_pos rfl, if_pos rfl]
              have h1 := hU.kept hk (fun e => hU.notTb (by omega)) (fun g hg e => hU.notRow g hg (by omega))
              exact ⟨h1.cell, h1.own, fun e => h1.notTb (by omega), fun g hg e => h1.notRow g hg (by omega), fun b hb => h1.bd b (by omega)⟩
            · rw [if_neg e, if_neg e]
              have h0 := (TS.out x (by omega)).gr g
              exact h0.kept hk (fun e => h0.notTb (by omega)) (fun g hg e => h0.notRow g hg (by omega))
        first
          | (go_upto_region 8 with (fail)
             go_region_with (go_at_call 31; refine HC.out.mono ?_; rintro e w2 ⟨ub, y, rfl, t2, g2'⟩; obtain ⟨⟨q0, q1, q2⟩, v2, ts2, gr2⟩ := HST.out w2 ub y (((Gr.refl wr).drew).trans g2') t2; have V2 := hide v2; have TS2 := hide ts2; have GR2 := hide gr2; clear v2 ts2 gr2 t2 g2'))
          | (go_upto_region 9 with (fail)
             go_region_with (go_at_call 32; refine HC.out.mono ?_; rintro e w2 ⟨ub, y, rfl, t2, g2'⟩; obtain ⟨⟨q0, q1, q2⟩, v2, ts2, gr2⟩ := HST.out w2 ub y (((Gr.refl wr).drew).trans g2') t2; have V2 := hide v2; have TS2 := hide ts2; have GR2 := hide gr2; clear v2 ts2 gr2 t2 g2'))
        all_goals
          go_wp2_with fail
          go_roundw
          case rel => exact ⟨i + 1, _, _, by omega, by congr 1, V2, TS2, GR2⟩
          case measure => simp [intOf]; omega
      · have hii : decide ((i : Int) < 6) = false := decide_eq_false (by omega)
        have e6 : i = 6 := by omega
        have HE : Hid (∃ SW, Wq wr w.heap.size P SW fs ∧ ∀ b, SW b → w.heap.size ≤ b) := by
          subst e6
          refine ⟨_, ⟨tb, z, BX.out.congr (fun j hj => ?_), fun x hx => ?_, rfl⟩, ?_⟩
          · unfold wkG wkF
            by_cases e1 : j = 0
            · rw [if_pos e1, if_pos e1]
            · rw [if_neg e1, if_neg e1, if_pos (by omega)]
          · have h0 := TS.out x hx
            exact ⟨h0.cell, h0.own, fun e => e, fun _ _ e => e, fun _ e => absurd e id⟩
          · rintro b (rfl | ⟨x, hx, hb⟩)
            · exact Nat.le_refl _
            · have h0 := TS.out x hx
              rcases hb with rfl | hb
              · have := h0.notTb; omega
              · have := h0.notRow b hb; omega
        go_wp2_with fail
        go_ret
        obtain ⟨SW, h1, h2⟩ := HE.out
        exact ⟨_, SW, rfl, h1, GW.out, h2⟩
end

end Go.Proofs.YtfcknkanbcndjagGreatDoor

/- NUMBERS OF NODES IN A LIST; handpostref.In. -/
namespace Go.Proofs.YtfcknkanbcndjagGreatDoor
open Go.RowKit
attribute [local go_sem] Ext.all Ext.cell Ext.frozen Ext.lt Ext.lt1 Ext.lt2 Ext.ne Ext.ne'
/-- A slice that reads as numbers. -/
def NmAt (w : World) (ao : Option Addr) (l : List Nat) : Prop := l = [] ∨ ∃ b o, ao = some ⟨b, o, none⟩ ∧ b < w.heap.size ∧ ∀ i (h : i < l.length), w.cell? ⟨b, o + i, none⟩ = some (iv ((l[i] : Nat) : Int))
theorem NmAt.gr {w w' : World} {ao : Option Addr} {l : List Nat} (h : NmAt w ao l) (k : Gr w w') : NmAt w' ao l := by
  rcases h with h | ⟨b, o, ha, hb, hc⟩
  · exact .inl h
  · exact .inr ⟨b, o, ha, Nat.lt_of_lt_of_le hb (Below.size k), fun i hi => (Below.cell k (p := ⟨b, o + i, none⟩) hb).trans (hc i hi)⟩
/-- A list of numbers that is younger than B. -/
def OwM (B w : World) (v : Value) (l : List Nat) : Prop := w.ownsRow B.heap.size 3 1 v l.length (l.map fun (n : Nat) => iv (n : Int))
theorem OwM.gr {B w w' : World} {v : Value} {l : List Nat} (h : OwM B w v l) (g : Gr w w') : OwM B w' v l := by
  refine ⟨h.1, ?_⟩
  rcases h.2 with hn | ⟨b, cap, cur, rfl, hb, hgg, rest⟩
  · exact .inl hn
  · exact .inr ⟨b, cap, cur, rfl, hb, by rw [g.block b (lt_of_block hgg)]; exact hgg, rest⟩
theorem OwM.nil (B w : World) : OwM B w (.slice none 0 0) [] := World.ownsRow_nil _ _ _ _
theorem OwM.shape {B w : World} {v : Value} {l : List Nat} (h : OwM B w v l) : ∃ ao c, v = .slice ao l.length c ∧ NmAt w ao l := by
  rcases h.2 with ⟨rfl, hn⟩ | ⟨g, cap, cur, rfl, hb, hg, hn, hc, hs, ht⟩
  · have : l = [] := List.eq_nil_of_length_eq_zero hn
    subst this
    exact ⟨none, 0, rfl, .inl rfl⟩
  · refine ⟨_, _, rfl, .inr ⟨g, 0, rfl, (Array.getElem?_eq_some_iff.1 hg).1, fun i hi => ?_⟩⟩
    have e : w.cell? ⟨g, 0 + i, none⟩ = (l.map fun (n : Nat) => iv (n : Int))[i]? := by
      rw [← ht, List.getElem?_take_of_lt (by omega)]
      simp [World.cell?, hg]
    rw [e]
    simp [hi]
theorem OwM.app {B X : World} {v : Value} {l : List Nat} (ty : TypeId) (hO : OwM B X v l) (g : Gr B X) (x : Nat) (hm : l.length ≤ 1000) :
    ∃ v' w', (Builtin.append_ #[34, 34] ty #[v, .slice (some ⟨X.heap.size, 0, none⟩) 1 1]).run Tryz.prog (X.alloc (.cells #[iv (x : Int)] 3)) = .ok v' w' ∧ OwM B w' v' (l ++ [x]) ∧ Gr B w' := by
  obtain ⟨i0, hi, hz0, hz1, hz2⟩ := info_parts Tryz.info3
  have hY := hO.gr ((Gr.refl X).alloc (.cells #[iv (x : Int)] 3))
  obtain ⟨v', w', h1, h2, h3, _⟩ := run_append_own (P := Tryz.prog) _ B.heap.size 34 ty 3 i0 _ 1 8 Tryz.underlying34 hi hz0 hz1 hz2 (by rfl) (by decide) v l.length (l.map fun (n : Nat) => iv (n : Int)) hY
      ⟨X.heap.size, 0, none⟩ 1 1 [iv (x : Int)] rfl
      (fun j u hj => by
        have hl : j < 1 := (List.getElem?_eq_some_iff.1 hj).1
        have : j = 0 := by omega
        subst this; simp at hj; subst hj; simp [Addr.add, go_sem])
      (by simp [Value.oneCell']) (by unfold maxLen; omega) (by omega) (by have := Below.size g; simp; omega)
  refine ⟨v', w', h1, ?_, (g.alloc _).grown h3 (fun k hk => (hO.lt k hk).1)⟩
  unfold OwM
  rw [List.map_append, List.length_append]
  exact h2

set_option maxRecDepth 20000 in
set_option maxHeartbeats 8000000 in
theorem rin_is {w : World} {ao : Option Addr} {c : Nat} {l : List Nat} (H : NmAt w ao l) (hm : l.length ≤ 1000) (n : Nat) {b : Bool} (hb : decide (n ∈ l) = b) :
    Calls Tryz.prog 140 #[.slice ao l.length c, iv (n : Int)] w fun e w' => e = .returned (.bool b) ∧ w' = w := by
  have HB := hide hb
  clear hb
  go_enter Tryz.func140, Tryz.ntmps140
  go_wp2_with fail
  go_loopw [5] (fun v5 wr => ∃ k : Nat, k ≤ l.length ∧ v5 = .int .i64 (k : Int) ∧ Hid (wr = w) ∧ Hid (∀ i (h : i < l.length), i < k → l[i] ≠ n)) (fun v5 _ => (l.length - intOf v5).toNat)
  case atStart => exact ⟨0, by omega, rfl, rfl, fun i h hi => by omega⟩
  case round =>
    obtain ⟨k, hkn, rfl, hwr, HN⟩ := hrel
    by_cases hk : k < l.length
    · have hki : decide ((k : Int) < (l.length : Int)) = true := decide_eq_true (by omega)
      have hk0 : (k : Int) < (l.length : Int) := by omega
      have wk : IntKind.i64.wrap ((k : Int) + 1) = (k : Int) + 1 := by rw [IntKind.wrap_i64]; omega
      rcases H with h0 | ⟨bb, o, rfl, hbb, hc⟩
      · exfalso; rw [h0] at hk; simp at hk
      have c0 := hc k hk
      rw [← hwr.out] at c0 hbb
      have HE : Hid (l[k] = n → b = true) := fun e => by rw [← HB.out]; exact decide_eq_true (by rw [← e]; exact List.getElem_mem hk)
      have HF : Hid (l[k] ≠ n → ∀ i (h : i < l.length), i < k + 1 → l[i] ≠ n) := fun e i h hi => by
        by_cases q : i = k
        · subst q; exact e
        · exact HN.out i h (by omega)
      generalize hlk : l[k] = lk at *
      clear hc hlk HN
      by_cases e : lk = n
      · have e1 : ((lk : Int) == (n : Int)) = true := by simp; omega
        have hbt := HE.out e
        subst hbt
        clear HE HF e
        go_wp2_with fail
        go_ret
        exact ⟨rfl, hwr.out⟩
      · have e1 : ((lk : Int) == (n : Int)) = false := by simp; omega
        have HF2 := hide (HF.out e)
        clear HE HF e
        go_wp2_with fail
        go_roundw
        case rel => exact ⟨k + 1, by omega, by congr 1, hwr, HF2⟩
        case measure => simp [intOf]; omega
    · have hki : decide ((k : Int) < (l.length : Int)) = false := decide_eq_false (by omega)
      have hbf : b = false := by
        rw [← HB.out]
        refine decide_eq_false fun hm => ?_
        obtain ⟨i, hi, e⟩ := List.mem_iff_getElem.1 hm
        exact HN.out i hi (by omega) e
      subst hbf
      go_wp2_with fail
      go_ret
      exact ⟨rfl, hwr.out⟩

end Go.Proofs.YtfcknkanbcndjagGreatDoor

/- A TRIP IN MEMORY: a variable of three cells (nodes, cost, end) whose list is the call's own. -/
namespace Go.Proofs.YtfcknkanbcndjagGreatDoor
open Go.RowKit
attribute [local go_sem] Ext.all Ext.cell Ext.frozen Ext.lt Ext.lt1 Ext.lt2 Ext.ne Ext.ne'
/-- What a call that tells a trip leaves. -/
def TripO (w w' : World) (ee : Ending) (l : List Nat) (kk e : Int) : Prop := ∃ ao cp, ee = .returned (.agg #[.slice ao l.length cp, iv kk, iv e]) ∧ (NmAt w' ao l ∧ (∀ b o, ao = some ⟨b, o, none⟩ → w.heap.size ≤ b) ∧ l.length ≤ cp) ∧ Gr w w'
def trF (v : Value) (k e : Int) : Nat → Value := fun i => if i = 0 then v else if i = 1 then iv k else iv e
/-- In wr, which has grown out of w: the trip at X, the result's place R, both of the type T; its list is younger than w. -/
structure Tv (T : TypeId) (w wr : World) (R X : Nat) (v : Value) (out : List Nat) (k e : Int) : Prop where
  gr : Gr w wr
  x : VArr wr T 3 X (trF v k e)
  r : ∃ g, VArr wr T 3 R g
  own : OwM w wr v out
  hX : w.heap.size ≤ X
  hR : w.heap.size ≤ R
  ne : R ≠ X
section
variable {T : TypeId} {w wr wr' : World} {R X : Nat} {v : Value} {out : List Nat} {k e : Int}
theorem Tv.ext (h : Tv T w wr R X v out k e) (g : Gr wr wr') : Tv T w wr' R X v out k e := by
  obtain ⟨r, hr⟩ := h.r
  exact ⟨h.gr.trans g, h.x.gr g, ⟨r, hr.gr g⟩, h.own.gr g, h.hX, h.hR, h.ne⟩
theorem OwM.ne_blk {B : World} (h : OwM B wr v out) (hT : T ≠ 3) {g : Nat → Value} {n b : Nat} (hb : VArr wr T n b g) : v.ownBlock ≠ some b := by
  intro q
  rcases h.2 with ⟨hn, _⟩ | ⟨y, cap, cur, hv, _, hgg, _⟩
  · rw [hn] at q; cases q
  · rw [hv] at q
    simp only [Value.ownBlock, Option.some.injEq] at q
    subst q
    exact blk_ne hgg hb hT.symm rfl
theorem Tv.setX (h : Tv T w wr R X v out k e) (hT : T ≠ 3) {j : Nat} {u : Value} {k' e' : Int} (_hj : j = 1 ∨ j = 2) (hu : ∀ i, i < 3 → trF v k' e' i = if i = j then u else trF v k e i) : Tv T w (wr.setCell ⟨X, j, none⟩ u) R X v out k' e' := by
  obtain ⟨r, hr⟩ := h.r
  exact ⟨h.gr.setCell h.hX _, h.x.set hu, ⟨r, hr.other h.ne _ _⟩, ownsRow_setCell_other h.own (h.own.ne_blk hT h.x) u, h.hX, h.hR, h.ne⟩
theorem Tv.setK (h : Tv T w wr R X v out k e) (hT : T ≠ 3) (k' : Int) : Tv T w (wr.setCell ⟨X, 1, none⟩ (iv k')) R X v out k' e :=
  h.setX hT (.inl rfl) (fun i hi => by rcases (show i = 0 ∨ i = 1 ∨ i = 2 by omega) with rfl | rfl | rfl <;> rfl)
theorem Tv.setE (h : Tv T w wr R X v out k e) (hT : T ≠ 3) (e' : Int) : Tv T w (wr.setCell ⟨X, 2, none⟩ (iv e')) R X v out k e' :=
  h.setX hT (.inr rfl) (fun i hi => by rcases (show i = 0 ∨ i = 1 ∨ i = 2 by omega) with rfl | rfl | rfl <;> rfl)
theorem Tv.cells (h : Tv T w wr R X v out k e) : wr.cell? ⟨X, 0, none⟩ = some v ∧ wr.cell? ⟨X, 1, none⟩ = some (iv k) ∧ wr.cell? ⟨X, 2, none⟩ = some (iv e) :=
  ⟨h.x.cell (j := 0) (by omega), h.x.cell (j := 1) (by omega), h.x.cell (j := 2) (by omega)⟩
theorem Tv.free (h : Tv T w wr R X v out k e) : wr.frozen? ⟨X, 0, none⟩ = false ∧ wr.frozen? ⟨X, 1, none⟩ = false ∧ wr.frozen? ⟨X, 2, none⟩ = false := ⟨h.x.free 0, h.x.free 1, h.x.free 2⟩
/-- A node is put behind the others. -/
theorem Tv.app (h : Tv T w wr R X v out k e) (hT : T ≠ 3) (ty : TypeId) (x : Nat) (hm : out.length ≤ 1000) :
    ∃ v' w', (Builtin.append_ #[34, 34] ty #[v, .slice (some ⟨wr.heap.size, 0, none⟩) 1 1]).run Tryz.prog (wr.alloc (.cells #[iv (x : Int)] 3)) = .ok v' w' ∧ Tv T w (w'.setCell ⟨X, 0, none⟩ v') R X v' (out ++ [x]) k e ∧ w'.cell? ⟨X, 0, none⟩ = some v ∧ w'.frozen? ⟨X, 0, none⟩ = false ∧ X < w'.heap.size := by
  obtain ⟨i0, hi, hz0, hz1, hz2⟩ := info_parts Tryz.info3
  have g0 : Gr wr (wr.alloc (.cells #[iv (x : Int)] 3)) := (Gr.refl wr).alloc _
  have hY := h.ext g0
  obtain ⟨v', w', h1, h2, h3, _⟩ := run_append_own (P := Tryz.prog) _ w.heap.size 34 ty 3 i0 _ 1 8 Tryz.underlying34 hi hz0 hz1 hz2 (by rfl) (by decide) v out.length (out.map fun (n : Nat) => iv (n : Int)) hY.own
      ⟨wr.heap.size, 0, none⟩ 1 1 [iv (x : Int)] rfl
      (fun j u hj => by
        have hl : j < 1 := (List.getElem?_eq_some_iff.1 hj).1
        have : j = 0 := by omega
        subst this; simp at hj; subst hj; simp [Addr.add, go_sem])
      (by simp [Value.oneCell']) (by unfold maxLen; omega) (by omega) (by have := Below.size h.gr; simp; omega)
  obtain ⟨r, hr⟩ := hY.r
  have kb : ∀ {b : Nat} {g : Nat → Value}, VArr (wr.alloc (.cells #[iv (x : Int)] 3)) T 3 b g → VArr w' T 3 b g := fun {b g} hb => (h3.block b hb.lt (fun q => hY.own.ne_blk hT hb q.symm)).trans hb
  have hx' := kb hY.x
  have ho : OwM w w' v' (out ++ [x]) := by
    unfold OwM
    rw [List.map_append, List.length_append]
    exact h2
  refine ⟨v', w', h1, ⟨((h.gr.trans g0).grown h3 (fun b hb => (h.own.lt b hb).1)).setCell h.hX _, hx'.set (fun i hi => by rcases (show i = 0 ∨ i = 1 ∨ i = 2 by omega) with rfl | rfl | rfl <;> rfl), ⟨r, (kb hr).other h.ne _ _⟩, ownsRow_setCell_other ho (ho.ne_blk hT hx') v', h.hX, h.hR, h.ne⟩, hx'.cell (j := 0) (by omega), hx'.free 0, hx'.lt⟩
/-- The trip is copied to the result's place. -/
theorem Tv.ret (h : Tv T w wr R X v out k e) (hT : T ≠ 3) : VArr (((wr.setCell ⟨R, 0, none⟩ v).setCell ⟨R, 1, none⟩ (iv k)).setCell ⟨R, 2, none⟩ (iv e)) T 3 R (trF v k e) ∧ (∀ ao cp, v = .slice ao out.length cp → NmAt (((wr.setCell ⟨R, 0, none⟩ v).setCell ⟨R, 1, none⟩ (iv k)).setCell ⟨R, 2, none⟩ (iv e)) ao out ∧ (∀ b o, ao = some ⟨b, o, none⟩ → w.heap.size ≤ b) ∧ out.length ≤ cp) ∧ Gr w (((wr.setCell ⟨R, 0, none⟩ v).setCell ⟨R, 1, none⟩ (iv k)).setCell ⟨R, 2, none⟩ (iv e)) := by
  obtain ⟨r, hr⟩ := h.r
  have ho := h.own.ne_blk hT hr
  have O3 : OwM w (((wr.setCell ⟨R, 0, none⟩ v).setCell ⟨R, 1, none⟩ (iv k)).setCell ⟨R, 2, none⟩ (iv e)) v out :=
    ownsRow_setCell_other (ownsRow_setCell_other (ownsRow_setCell_other h.own ho _) ho _) ho _
  have v1 : VArr (wr.setCell ⟨R, 0, none⟩ v) T 3 R (fun i => if i = 0 then v else r i) := hr.set (fun i _ => rfl)
  have v2 : VArr ((wr.setCell ⟨R, 0, none⟩ v).setCell ⟨R, 1, none⟩ (iv k)) T 3 R (fun i => if i = 1 then iv k else if i = 0 then v else r i) := v1.set (fun i _ => rfl)
  have hN : ∀ ao cp, v = .slice ao out.length cp → NmAt (((wr.setCell ⟨R, 0, none⟩ v).setCell ⟨R, 1, none⟩ (iv k)).setCell ⟨R, 2, none⟩ (iv e)) ao out ∧ (∀ b o, ao = some ⟨b, o, none⟩ → w.heap.size ≤ b) ∧ out.length ≤ cp := fun ao cp q => by
    obtain ⟨ao', cp', hv, hn⟩ := O3.shape
    have hy : ∀ b o, ao = some ⟨b, o, none⟩ → w.heap.size ≤ b := fun b o ha => by
      rcases h.own.2 with ⟨h0, _⟩ | ⟨g, cap, cur, h0, hb, _⟩
      · rw [q, ha] at h0; cases h0
      · rw [q, ha] at h0; cases h0; exact hb
    have hc : out.length ≤ cp := by
      rcases h.own.2 with ⟨h0, h1⟩ | ⟨g, cap, cur, h0, _, _, h1, _⟩
      · omega
      · rw [q] at h0; cases h0; exact h1
    rw [q] at hv hn
    cases hv
    rw [q]
    exact ⟨hn, hy, hc⟩
  refine ⟨v2.set (fun i hi => ?_), hN, ((h.gr.setCell h.hR _).setCell h.hR _).setCell h.hR _⟩
  rcases (show i = 0 ∨ i = 1 ∨ i = 2 by omega) with rfl | rfl | rfl <;> rfl
end
theorem Tv.start (T : TypeId) (w : World) : Tv T w ((w.alloc (.cells #[.slice none 0 0, iv 0, iv 0] T)).alloc (.cells #[.slice none 0 0, iv 0, iv (-1)] T)) w.heap.size (w.heap.size + 1) (.slice none 0 0) [] 0 (-1) := by
  have g1 : Gr w (w.alloc (.cells #[.slice none 0 0, iv 0, iv 0] T)) := (Gr.refl w).alloc _
  have hb := heap_alloc_new (w.alloc (.cells #[.slice none 0 0, iv 0, iv 0] T)) (.cells #[.slice none 0 0, iv 0, iv (-1)] T)
  have hs : (w.alloc (.cells #[.slice none 0 0, iv 0, iv 0] T)).heap.size = w.heap.size + 1 := by simp
  rw [hs] at hb
  have h0 : VArr (w.alloc (.cells #[.slice none 0 0, iv 0, iv 0] T)) T 3 w.heap.size (trF (.slice none 0 0) 0 0) := heap_alloc_new w _
  exact ⟨g1.alloc _, hb, ⟨_, h0.gr ((Gr.refl _).alloc _)⟩, OwM.nil _ _, by omega, Nat.le_refl _, by omega⟩
/-- All cells that the copy of a trip to the result's place reads and writes. -/
theorem Tv.facts {T : TypeId} {w wr : World} {R X : Nat} {v : Value} {out : List Nat} {k e : Int} (h : Tv T w wr R X v out k e) : (wr.cell? ⟨X, 0, none⟩ = some v ∧ wr.cell? ⟨X, 1, none⟩ = some (iv k) ∧ wr.cell? ⟨X, 2, none⟩ = some (iv e)) ∧ (∃ a b c, wr.cell? ⟨R, 0, none⟩ = some a ∧ wr.cell? ⟨R, 1, none⟩ = some b ∧ wr.cell? ⟨R, 2, none⟩ = some c) ∧ (wr.frozen? ⟨R, 0, none⟩ = false ∧ wr.frozen? ⟨R, 1, none⟩ = false ∧ wr.frozen? ⟨R, 2, none⟩ = false) ∧ R < wr.heap.size ∧ X < wr.heap.size := by
  obtain ⟨g, hr⟩ := h.r
  exact ⟨h.cells, ⟨_, _, _, hr.cell (j := 0) (by omega), hr.cell (j := 1) (by omega), hr.cell (j := 2) (by omega)⟩, ⟨hr.free 0, hr.free 1, hr.free 2⟩, hr.lt, h.x.lt⟩
/-- A trip read off the result's place. -/
theorem VArr.three {w : World} {T : TypeId} {R : Nat} {v : Value} {k e : Int} (h : VArr w T 3 R (trF v k e)) : w.cell? ⟨R, 0, none⟩ = some v ∧ w.cell? ⟨R, 1, none⟩ = some (iv k) ∧ w.cell? ⟨R, 2, none⟩ = some (iv e) :=
  ⟨h.cell (j := 0) (by omega), h.cell (j := 1) (by omega), h.cell (j := 2) (by omega)⟩

end Go.Proofs.YtfcknkanbcndjagGreatDoor
