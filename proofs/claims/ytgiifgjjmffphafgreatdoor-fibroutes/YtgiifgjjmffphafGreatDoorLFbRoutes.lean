/- handpostlaw.FibRoutes ANSWERS true. -/
import Derived.Test.YtgiifgjjmffphafGreatDoorL64
namespace Go.Proofs.YtgiifgjjmffphafGreatDoor
open Go.RowKit
attribute [local go_sem] Ext.all Ext.cell Ext.frozen Ext.lt Ext.lt1 Ext.lt2 Ext.ne Ext.ne'
section
variable {A w w' : World} {tb : Nat} {v : Value} {rs : List Rt} {S S' : Nat → Prop} {ao : Option Addr}
/-- A table and a list that are younger than an object stay where that is changed. -/
theorem TabS.chg (h : TabS w (fun k => k < A.heap.size) tb v rs) (hS : ∀ b, S b → b < A.heap.size) (k : Chg w w' S S') : TabS w' (fun k => k < A.heap.size) tb v rs :=
  h.kept k.kp ⟨h.lt, fun e => h.notTb (hS tb e)⟩ (fun g hg => ⟨(h.own.lt g hg).2, fun e => h.notRow g hg (hS g e)⟩)
theorem RowAt.chg (h : RowAt w (fun k => A.heap.size ≤ k) ao rs) (hS : ∀ b, S b → b < A.heap.size) (k : Chg w w' S S') : RowAt w' (fun k => A.heap.size ≤ k) ao rs :=
  h.kept (k.kp.mono fun b hb hm => ⟨hb, fun e => by have := hS b e; omega⟩)
theorem RowAt.chg' {M : Nat → Prop} (h : RowAt w M ao rs) (hd : ∀ b, M b → ¬ S b) (k : Chg w w' S S') : RowAt w' M ao rs := h.kept (k.kp.mono fun b hb hm => ⟨hb, hd b hm⟩)
theorem Is.ofT {B : World} {M : Nat → Prop} (h : TabS B M tb v rs) : Is B tb rs := ⟨M, v, h⟩
theorem Is.get {B : World} {l b x : Int} (h : Is B tb rs) (hT : Tab rs) (e : getL rs l b = x) : Calls Tryz.prog 21 #[pv tb, pfx l b] B fun e w' => e = .returned (iv x) ∧ Gr B w' := by
  obtain ⟨M, v, hS⟩ := h
  exact (get_is hS hT e ⟨B, Gr.refl B⟩).mono fun _ _ ⟨he, d, hd⟩ => ⟨he, by rw [hd]; exact d.gr⟩
end
section
variable {M : Nat → Prop} {B w w' : World} {P : Nat} {S : Nat → Prop} {c : Nat → Nat → Nat} {t : Tn} {n : Nat} {rs : List Rt}
/-- The step own, of a Post. -/
theorem Pq.own (H : Pq M B w P S c t n rs) (hn : n ≤ 100000) (a m l b : Int) : Calls Tryz.prog 22 #[pv P, .agg #[iv 7, iv a, iv 0, iv m, iv l, iv b]] w fun e w' => e = .returned (iv (ownC rs a m l b).2) ∧ ∃ S', Pq M B w' P S' c t (n + 1) (ownC rs a m l b).1 ∧ Chg w w' S S' := by
  have h := H.do hn ⟨7, a, 0, m⟩ l b
  have e1 : fdoC t rs ⟨7, a, 0, m⟩ l b = ((t, (ownC rs a m l b).1), (ownC rs a m l b).2) := by unfold fdoC; rw [if_pos rfl]
  have e2 : nextC c ⟨7, a, 0, m⟩ = c := by unfold nextC; rw [if_neg (fun x => absurd x.1 (show ¬ (7 : Int) = 1 by decide))]
  rw [e1, e2] at h
  exact h
end
set_option maxRecDepth 20000 in
set_option maxHeartbeats 16000000 in
theorem fibRoutes_any (w : World) (ao : Option Addr) (n cp : Nat) (l : List Sx) (pl pb x a : Int) (H : SpAt w ao l) (hn : l.length = n) :
    Calls Tryz.prog 5 #[.slice ao n cp, pfx pl pb, iv x, iv a] w fun e w' => e = .returned (.bool true) ∧ Gr w w' := by
  obtain ⟨W, hW, gW, b0, b1, s0⟩ := pbox_gr w pl pb
  have HB := hide (fibBegun_ok W)
  have HS := hide (fun (X : World) (g : Gr w X) => H.gr g)
  have HNL := hide hn
  have HBX : Hid (∀ X, Gr W X → X.cell? ⟨w.heap.size, 0, none⟩ = some (iv pl) ∧ X.cell? ⟨w.heap.size, 1, none⟩ = some (iv pb) ∧ w.heap.size < X.heap.size) := fun X g => ⟨(Below.cell g (p := ⟨w.heap.size, 0, none⟩) s0).trans b0, (Below.cell g (p := ⟨w.heap.size, 1, none⟩) s0).trans b1, Nat.lt_of_lt_of_le s0 (Below.size g)⟩
  have HW := hide hW
  clear H hn hW b0 b1 s0
  go_enter Tryz.func5, Tryz.ntmps5
  go_upto_region 3 with (go_at_call 6; rw [← HW.out]; refine HB.out.mono ?_; rintro e V0 ⟨rfl, g0'⟩; have G0 := hide g0'; clear g0')
  clear HB HW
  by_cases h150 : 150 < n
  · have gd : decide ((150 : Int) < (n : Int)) = true := decide_eq_true (by omega)
    go_wp2_with fail
    go_ret
    exact ⟨rfl, gW.trans G0.out⟩
  · have gd : decide ((150 : Int) < (n : Int)) = false := decide_eq_false (by omega)
    have HPO := hide (posts_any V0 ao n cp l (HS.out _ (gW.trans G0.out)) HNL.out (by omega))
    go_upto_region 6 with (go_at_call 7; with_reducible refine HPO.out.mono ?_; rintro e V1 ⟨P, T, c, t, rs, rfl, h1'⟩; have H1 := hide h1'; clear h1')
    clear HPO HS
    obtain ⟨SP, ST, hpq, _, _⟩ := H1.out
    have PQ := hide hpq
    have TR := hide H1.out.ows.tab
    have OW := hide H1.out.ows
    have hlen : rs.length ≤ 40 := TR.out.len
    have G0W := hide H1.out.grw
    have HSL : Hid (∀ b, SP b → b < V1.heap.size) := fun b hb => PQ.out.lt hb
    clear hpq H1
    have HOF : Hid (∀ X (ao1 : Option Addr) (c1 : Nat), Gr V1 X → RowAt X (fun k => V1.heap.size ≤ k) ao1 rs → Calls Tryz.prog 20 #[.slice ao1 rs.length c1] X fun e w' => ∃ tb v, e = .returned (.tuple #[.pointer (some ⟨tb, 0, none⟩), .int .i64 0]) ∧ TabS w' (fun k => k < V1.heap.size) tb v rs ∧ Gr X w') := fun X ao1 c1 g h => by
      refine (of_any X _ ao1 rs.length c1 rs h rfl (tab_chk TR.out)).mono ?_
      rintro e _ ⟨tb, v, he, hT, d, rfl⟩
      have := Below.size g
      exact ⟨tb, v, he, ⟨hT.cell, hT.own, fun e => hT.notTb (by omega), fun g hg e => hT.notRow g hg (by omega), fun k hk => hT.bd k (by omega)⟩, d.gr⟩
    obtain ⟨y, hy⟩ : ∃ y, lookL rs a = y := ⟨_, rfl⟩
    obtain ⟨gx, hgx⟩ : ∃ gx, getL rs pl pb = gx := ⟨_, rfl⟩
    have HY := hide hy
    have HGX := hide hgx
    clear hy hgx
    have eyy : (y == y) = true := by simp
    go_upto_region 10 with (first
      | (go_at_call 9; with_reducible refine PQ.out.owners.mono ?_; rintro e V2 ⟨ao2, c2, rfl, r2', g2'⟩; have R2 := hide r2'; have G2 := hide g2'; have P2 := hide (PQ.out.gr g2'); clear r2' g2')
      | (go_at_call 20; with_reducible refine (HOF.out _ _ _ G2.out R2.out).mono ?_; rintro e V3 ⟨tb, v3, rfl, t3', g3'⟩; have T3 := hide t3'; have R3 := hide (R2.out.gr g3'); have G3 := hide (G2.out.trans g3'); have P3 := hide (P2.out.gr g3'); clear t3' g3')
      | (go_at_call 19; with_reducible refine ((Is.ofT T3.out).look TR.out HY.out).mono ?_; rintro e V4 ⟨rfl, g4'⟩; have T4 := hide (T3.out.gr g4'); have R4 := hide (R3.out.gr g4'); have G4 := hide (G3.out.trans g4'); have P4 := hide (P3.out.gr g4'); clear g4')
      | (go_at_call 10; with_reducible refine (P4.out.owner a).mono ?_; rintro e V5 ⟨he5, g5'⟩; rw [HY.out] at he5; subst he5; have T5 := hide (T4.out.gr g5'); have R5 := hide (R4.out.gr g5'); have G5 := hide (G4.out.trans g5'); have P5 := hide (P4.out.gr g5'); clear g5')
      | fail)
    obtain ⟨x0, x1, x2⟩ := HBX.out V5 (G0.out.trans (G0W.out.trans G5.out))
    have GWW := hide (gW.trans (G0.out.trans (G0W.out.trans G5.out)))
    have GW5 := hide (G0.out.trans (G0W.out.trans G5.out))
    have GV05 := hide (G0W.out.trans G5.out)
    have SZ5 := hide (Below.size G5.out)
    have HG := hide ((Is.ofT T5.out).get TR.out HGX.out)
    clear R2 G2 P2 T3 R3 G3 P3 T4 R4 G4 P4 PQ HOF
    by_cases hg : gx = -2
    · subst hg
      by_cases hc : (ownC rs x 1 pl pb).2 = 0
      · have hx : isN x := by
          by_cases h : isN x
          · exact h
          · unfold ownC at hc; rw [if_neg h] at hc; cases hc
        have HD : Hid (∀ X, Gr V5 X → Calls Tryz.prog 22 #[pv P, .agg #[iv 7, iv x, iv 0, iv 1, iv pl, iv pb]] X fun e w' => e = .returned (iv 0) ∧ ∃ S', Pq (fun b => b < V0.heap.size) V0 w' P S' c t (n + 1) (ownC rs x 1 pl pb).1 ∧ Chg X w' SP S') := fun X g => by
          have h := (P5.out.gr g).own (by omega) x 1 pl pb
          rw [hc] at h
          exact h
        have HBK := hide (own_back TR.out hx HGX.out hc)
        have HOH : Hid (hasB pl pb a = true → y = -1 → lookL (ownC rs x 1 pl pb).1 a = x) := fun h1 h2 => own_has OW.out hx hc h1 (by rw [HY.out]; exact h2)
        have HLA : Hid (Tab (ownC rs x 1 pl pb).1) := (OW.out.own x 1 pl pb).tab
        clear hc hx
        generalize (ownC rs x 1 pl pb).1 = rs1 at *
        have HD2 : Hid (∀ X (S7 : Nat → Prop), Pq (fun b => b < V0.heap.size) V0 X P S7 c t (n + 1) rs1 → Calls Tryz.prog 22 #[pv P, .agg #[iv 7, iv x, iv 0, iv 0, iv pl, iv pb]] X fun e w' => e = .returned (iv 0) ∧ ∃ S', Pq (fun b => b < V0.heap.size) V0 w' P S' c t (n + 1 + 1) rs ∧ Chg X w' S7 S') := fun X S7 h => by
          have h := h.own (by omega) x 0 pl pb
          rw [HBK.out] at h
          exact h
        have HD6 : Hid (∀ m b, (V1.heap.size ≤ b ∧ b < m) → ¬ SP b) := fun m b hb h => by have := HSL.out b h; omega
        have HD7 : Hid (∀ (m : Nat) (S7 : Nat → Prop), (∀ b, S7 b → SP b ∨ m ≤ b) → ∀ b, (V1.heap.size ≤ b ∧ b < m) → ¬ S7 b) := fun m S7 h b hb hs => by
          rcases h b hs with q | q
          · have := HSL.out b q; omega
          · omega
        obtain ⟨z, hz⟩ : ∃ z, lookL rs1 a = z := ⟨_, rfl⟩
        obtain ⟨hb, hhb⟩ : ∃ hb, hasB pl pb a = hb := ⟨_, rfl⟩
        have HZ := hide hz
        have HHB := hide hhb
        rw [hz, hhb] at HOH
        clear hz hhb
        have hways : hb = false ∨ (hb = true ∧ z = x) ∨ (hb = true ∧ (z == x) = false ∧ (y == -1) = false) := by
          cases hb
          · exact .inl rfl
          · by_cases e : z = x
            · exact .inr (.inl ⟨rfl, e⟩)
            · refine .inr (.inr ⟨rfl, by simpa using e, ?_⟩)
              by_cases e2 : y = -1
              · exact absurd (HOH.out rfl e2) e
              · simpa using e2
        clear HOH
        rcases hways with hq | ⟨hq, hq2⟩ | ⟨hq, hq2, hq3⟩
        all_goals
          subst hq
          first | (have hq4 := hq2; subst hq4) | (have hq5 : z ≠ x := by simpa using hq2) | skip
          go_wp2_with (first
            | (go_at_call 21; with_reducible refine HG.out.mono ?_; rintro e V6 ⟨rfl, g6'⟩; have G6 := hide g6'; have R6 := hide ((R5.out.gr g6').mono (N := fun k => V1.heap.size ≤ k ∧ k < V6.heap.size) (fun k hk h => ⟨h, hk⟩)); have T6 := hide (T5.out.gr g6'); obtain ⟨y0, y1, y2⟩ := HBX.out V6 (GW5.out.trans g6'); clear g6')
            | (go_at_call 22; with_reducible refine (HD.out _ G6.out).mono ?_; rintro e V7 ⟨rfl, S7, p7', k7'⟩; have P7 := hide p7'; have T7 := hide (T6.out.chg (fun b hb => HSL.out b hb) k7'); have R7 := hide (R6.out.chg' (HD6.out _) k7'); have N7 := hide (HD7.out _ _ k7'.nw); obtain ⟨z0, z1, z2⟩ := HBX.out V7 (G0.out.trans p7'.grw); clear p7' k7')
            | (go_at_call 23; with_reducible refine (rhas_is HHB.out _).mono ?_; rintro e _ ⟨rfl, d8, rfl⟩; have P8 := hide (P7.out.gr d8.gr); have T8 := hide (T7.out.gr d8.gr); have R8 := hide (R7.out.gr d8.gr); obtain ⟨a0, a1, a2⟩ := HBX.out d8.out (G0.out.trans P8.out.grw); generalize hD8 : d8.out = V8 at *; clear hD8)
            | (go_at_call 10; with_reducible refine (P8.out.owner a).mono ?_; rintro e V9 ⟨he9, g9'⟩; rw [HZ.out] at he9; subst he9; have P9 := hide (P8.out.gr g9'); have T9 := hide (T8.out.gr g9'); have R9 := hide (R8.out.gr g9'); obtain ⟨b0, b1, b2⟩ := HBX.out V9 (G0.out.trans P9.out.grw); clear g9')
            | (go_at_call 19; with_reducible refine ((Is.ofT T9.out).look TR.out HY.out).mono ?_; rintro e V10 ⟨rfl, g10'⟩; have P10 := hide (P9.out.gr g10'); have R10 := hide (R9.out.gr g10'); obtain ⟨c0, c1, c2⟩ := HBX.out V10 (G0.out.trans P10.out.grw); clear g10')
            | (go_at_call 22; with_reducible refine (HD2.out _ _ P10.out).mono ?_; rintro e V11 ⟨rfl, S11, p11', k11'⟩; have P11 := hide p11'; have R11 := hide (R10.out.chg' N7.out k11'); clear p11' k11')
            | (go_at_call 22; with_reducible refine (HD2.out _ _ P9.out).mono ?_; rintro e V11 ⟨rfl, S11, p11', k11'⟩; have P11 := hide p11'; have R11 := hide (R9.out.chg' N7.out k11'); clear p11' k11')
            | (go_at_call 22; with_reducible refine (HD2.out _ _ P8.out).mono ?_; rintro e V11 ⟨rfl, S11, p11', k11'⟩; have P11 := hide p11'; have R11 := hide (R8.out.chg' N7.out k11'); clear p11' k11')
            | (go_at_call 9; with_reducible refine P11.out.owners.mono ?_; rintro e V12 ⟨ao12, c12, rfl, r12', g12'⟩; have P12 := hide (P11.out.gr g12'); have R12 := hide (R11.out.gr g12'); have Q12 := hide r12'; clear r12' g12')
            | (go_at_call 8; with_reducible refine (same_gr (z := true) R12.out Q12.out (by omega) (by omega) (by simp) _ _).mono ?_; rintro e V13 ⟨rfl, g13'⟩; have P13 := hide (P12.out.gr g13'); clear g13')
            | fail)
          go_ret
          exact ⟨rfl, gW.trans (G0.out.trans P13.out.grw)⟩
      · have ec : ((ownC rs x 1 pl pb).2 == 0) = false := by simpa using hc
        have HD := hide (fun (X : World) (g : Gr V5 X) => (P5.out.gr g).own (by omega) x 1 pl pb)
        generalize (ownC rs x 1 pl pb).2 = cd at *
        go_wp2_with (first
          | (go_at_call 21; with_reducible refine HG.out.mono ?_; rintro e V6 ⟨rfl, g6'⟩; have G6 := hide g6'; obtain ⟨y0, y1, y2⟩ := HBX.out V6 (GW5.out.trans g6'); clear g6')
          | (go_at_call 22; with_reducible refine (HD.out _ G6.out).mono ?_; rintro e V7 ⟨rfl, S7, p7', k7'⟩; have P7 := hide p7'; clear p7' k7')
          | fail)
        go_ret
        exact ⟨rfl, gW.trans (G0.out.trans P7.out.grw)⟩
    · have eg : (gx == -2) = false := by simpa using hg
      go_wp2_with (first
        | (go_at_call 21; with_reducible refine HG.out.mono ?_; rintro e V6 ⟨rfl, g6'⟩)
        | fail)
      go_ret
      exact ⟨rfl, GWW.out.trans g6'⟩

end Go.Proofs.YtgiifgjjmffphafGreatDoor
