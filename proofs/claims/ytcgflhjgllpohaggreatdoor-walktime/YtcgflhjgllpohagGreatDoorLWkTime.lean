/- handpostlaw.WalkTime ANSWERS true. -/
import Derived.Test.YtcgflhjgllpohagGreatDoorLWkDoes
namespace Go.Proofs.YtcgflhjgllpohagGreatDoor
open Go.RowKit
attribute [local go_sem] Ext.all Ext.cell Ext.frozen Ext.lt Ext.lt1 Ext.lt2 Ext.ne Ext.ne'
theorem NmAt.keep {w w' : World} {N : Nat → Prop} {ao : Option Addr} {l : List Nat} (h : NmAt w ao l) (hk : Kp N w w') (hn : ∀ b o, ao = some ⟨b, o, none⟩ → b < w.heap.size → N b) : NmAt w' ao l := by
  rcases h with h | ⟨b, o, ha, hb, hc⟩
  · exact .inl h
  · exact .inr ⟨b, o, ha, Nat.lt_of_lt_of_le hb hk.size, fun i hi => (World.cell?_of_block (a := ⟨b, o + i, none⟩) (hk.block b hb (hn b o ha hb))).trans (hc i hi)⟩
set_option maxRecDepth 20000 in
set_option maxHeartbeats 16000000 in
theorem walkTime_any (w : World) (h64 : Tab64 w) (ao bo : Option Addr) (n cp m cq : Nat) (l k : List Sx) (fr a : Int) (H : SpAt w ao l) (hn : l.length = n) (K : SpAt w bo k) (hm : k.length = m) :
    Calls Tryz.prog 4 #[.slice ao n cp, .slice bo m cq, iv fr, iv a] w fun e w' => e = .returned (.bool true) ∧ Gr w w' := by
  have HS := hide (fun (X : World) (g : Gr w X) => H.gr g)
  have HK := hide (fun (X : World) (g : Gr w X) => K.gr g)
  have HNL := hide hn
  have HML := hide hm
  have HB := hide (walkBegun_ok w h64)
  have H64 := hide h64
  clear H hn h64 K hm
  go_enter Tryz.func4, Tryz.ntmps4
  go_upto_region 3 with (go_at_call 6; with_reducible refine HB.out.mono ?_; rintro e V0 ⟨rfl, g0'⟩; have G0 := hide g0'; clear g0')
  by_cases h100 : 100 < n
  · have gd : decide ((100 : Int) < (n : Int)) = true := decide_eq_true (by omega)
    go_wp2_with fail
    go_ret
    exact ⟨rfl, G0.out⟩
  have gd : decide ((100 : Int) < (n : Int)) = false := decide_eq_false (by omega)
  by_cases h101 : 100 < m
  · have gd2 : decide ((100 : Int) < (m : Int)) = true := decide_eq_true (by omega)
    go_wp2_with fail
    go_ret
    exact ⟨rfl, G0.out⟩
  have gd2 : decide ((100 : Int) < (m : Int)) = false := decide_eq_false (by omega)
  have HPO := hide (posts_any V0 ao n cp l (HS.out _ G0.out) HNL.out (by omega))
  go_upto_region 6 with (go_at_call 8; with_reducible refine HPO.out.mono ?_; rintro e V1 ⟨P, T, c, t, rs, rfl, h1'⟩; have H1 := hide h1'; clear h1')
  clear HPO HS
  obtain ⟨SP, ST, hpq, _, _⟩ := H1.out
  have AA := hide H1.out.a
  have OW := hide H1.out.ows
  have GW := hide (G0.out.trans H1.out.grw)
  obtain ⟨tl, tk, te, hgo⟩ : ∃ tl tk te, goN (letH t rs a) (fun u v => (c u v : Int)) 7 fr [] 0 = (tl, tk, te) := ⟨_, _, _, rfl⟩
  have hlen : tl.length ≤ 7 := by
    have := goN_len (letH t rs a) (fun u v => (c u v : Int)) 7 fr [] 0
    rw [hgo] at this
    simpa using this
  have HN := hide (walkNew_any hpq (H64.out.gr GW.out) true)
  have PQ := hide hpq
  have HGO := hide hgo
  clear hpq H1 hgo
  go_upto_region 8 with (first
    | (go_at_call 10; with_reducible refine HN.out.mono ?_; rintro e V2 ⟨X, SW, rfl, w2', g2', sw2'⟩; have W2 := hide w2'; have G2 := hide g2'; have SW2 := hide sw2'; clear w2' g2' sw2')
    | (go_at_call 11; refine (W2.out.go (PQ.out.gr G2.out) AA.out OW.out fr a HGO.out).mono ?_; rintro e V3 ⟨ao3, cp3, rfl, n3', g3'⟩; have N3 := hide n3'; have G3 := hide (G2.out.trans g3'); have W3 := hide (W2.out.gr g3'); clear g3' n3')
    | fail)
  have hbt := box_trip V3 (.slice ao3 tl.length cp3) (iv tk) (iv te) 36
  have g4 : Gr V3 (V3.alloc (.cells #[.slice ao3 tl.length cp3, iv tk, iv te] 36)) := (Gr.refl _).alloc _
  have s12 := Below.size G2.out
  have s13 := Below.size G3.out
  refine wp_gen (fun D => Hid (Pq (fun b => b < V0.heap.size) V0 D P SP c t n rs) ∧ Hid (Wq D X P SW (tabL t rs true)) ∧ Hid (NmAt D ao3 tl) ∧ Hid ((D.cell? ⟨V3.heap.size, 0, none⟩ = some (.slice ao3 tl.length cp3) ∧ D.cell? ⟨V3.heap.size, 1, none⟩ = some (iv tk) ∧ D.cell? ⟨V3.heap.size, 2, none⟩ = some (iv te)) ∧ V3.heap.size < D.heap.size)) ⟨(PQ.out.gr G3.out).gr g4, W3.out.gr g4, N3.out.1.gr g4, hbt⟩ ?_
  have HSP : Hid (∀ b, SP b → b < V1.heap.size) := fun b hb => PQ.out.lt hb
  have HY : Hid (V1.heap.size ≤ V3.heap.size) := s13
  have HN3 : Hid (∀ b o, ao3 = some ⟨b, o, none⟩ → V1.heap.size ≤ b) := fun b o e => by have := N3.out.2.1 b o e; omega
  have HSW : Hid (∀ b, SW b → V1.heap.size ≤ b) := fun b hb => SW2.out b hb
  clear hbt g4 s12 s13 W2 W3 N3 SW2 G2 G3 PQ HN
  generalize V3.heap.size = Y at *
  rintro D ⟨P4, W4, N4, B4⟩
  have hD1 : Hid (V1.heap.size ≤ D.heap.size) := by have h1 := HY.out; have h2 := B4.out.2; unfold Hid; omega
  go_wp2_with fail
  go_loopw [14] (fun v14 wr => ∃ (i : Nat) (S' : Nat → Prop) (c' : Nat → Nat → Nat) (t' : Tn) (rs' : List Rt), i ≤ m ∧ v14 = .int .i64 (i : Int) ∧ Hid (Pq (fun b => b < V0.heap.size) V0 wr P S' c' t' (n + i) rs') ∧ Hid (Kp (fun b => V1.heap.size ≤ b ∧ b < D.heap.size) D wr) ∧ Hid (∀ b, V1.heap.size ≤ b ∧ b < D.heap.size → ¬ S' b)) (fun v14 _ => (m - intOf v14).toNat)
  case atStart => exact ⟨0, SP, c, t, rs, by omega, rfl, P4, Kp.refl _ _, fun b hb h => by have := HSP.out b h; omega⟩
  case round =>
    obtain ⟨i, S', c', t', rs', him, rfl, P5, K5, D5⟩ := hrel
    have GWr := hide (G0.out.trans P5.out.grw')
    by_cases hi : i < m
    · have hii : decide ((i : Int) < (m : Int)) = true := decide_eq_true (by omega)
      have hi0 : (i : Int) < (m : Int) := by omega
      have hil : i < k.length := by have := HML.out; omega
      have wi : IntKind.i64.wrap ((i : Int) + 1) = (i : Int) + 1 := by rw [IntKind.wrap_i64]; omega
      obtain ⟨bn, on, hbo, hbn, s0, s1, s2, s3, s4, s5⟩ := (HK.out _ GWr.out).get hil
      subst hbo
      generalize k[i] = x at *
      obtain ⟨⟨kd, xa, xb, xn⟩, xl, xt⟩ := x
      simp only at s0 s1 s2 s3 s4 s5
      have HD : Hid (Calls Tryz.prog 14 #[pv P, .agg #[iv kd, iv xa, iv xb, iv xn, iv xl, iv xt]] wr fun e w' => ∃ rc, e = .returned (iv rc) ∧ ∃ S1 c1 t1 rs1, Pq (fun b => b < V0.heap.size) V0 w' P S1 c1 t1 (n + (i + 1)) rs1 ∧ Kp (fun b => V1.heap.size ≤ b ∧ b < D.heap.size) D w' ∧ ∀ b, V1.heap.size ≤ b ∧ b < D.heap.size → ¬ S1 b) := by
        refine (P5.out.do (by omega) ⟨kd, xa, xb, xn⟩ xl xt).mono ?_
        rintro e w' ⟨he, S1, h1, ch⟩
        have hsz := K5.out.size
        refine ⟨_, he, S1, _, _, _, h1, K5.out.trans (ch.kp.mono fun b _ hb => ⟨by omega, D5.out b hb⟩), fun b hb hs => ?_⟩
        rcases ch.nw b hs with q | q
        · exact D5.out b hb q
        · omega
      clear P5 K5 D5
      go_wp2_with (go_at_call 14; with_reducible refine HD.out.mono ?_; rintro e V5 ⟨rc, rfl, S1, c1, t1, rs1, p6, k6, d6⟩)
      go_roundw
      case rel => exact ⟨i + 1, S1, c1, t1, rs1, by omega, by congr 1, p6, k6, d6⟩
      case measure => simp [intOf]; omega
    · have hii : decide ((i : Int) < (m : Int)) = false := decide_eq_false (by omega)
      have W5 : Hid (Wq wr X P SW (tabL t rs true)) := W4.out.keep K5.out (fun b hb => ⟨HSW.out b hb, W4.out.lt hb⟩)
      have N5 : Hid (NmAt wr ao3 tl) := N4.out.keep K5.out (fun b o e hb => ⟨HN3.out b o e, hb⟩)
      have hYb := K5.out.block Y B4.out.2 ⟨HY.out, B4.out.2⟩
      have b0 : wr.cell? ⟨Y, 0, none⟩ = some (.slice ao3 tl.length cp3) := (World.cell?_of_block (a := ⟨Y, 0, none⟩) hYb).trans B4.out.1.1
      have b2 : wr.cell? ⟨Y, 2, none⟩ = some (iv te) := (World.cell?_of_block (a := ⟨Y, 2, none⟩) hYb).trans B4.out.1.2.2
      have hYw : Y < wr.heap.size := Nat.lt_of_lt_of_le B4.out.2 K5.out.size
      obtain ⟨tl', tk', te', hgo'⟩ : ∃ tl' tk' te', goN (letH t rs a) (fun u v => (c' u v : Int)) 7 fr [] 0 = (tl', tk', te') := ⟨_, _, _, rfl⟩
      obtain ⟨q1, q2⟩ := goN_free (h := letH t rs a) (cs := fun u v => (c u v : Int)) (ds := fun u v => (c' u v : Int)) 7 fr [] 0 0
      rw [HGO.out, hgo'] at q1 q2
      simp only at q1 q2
      subst q1
      subst q2
      have HG2 := hide (W5.out.go P5.out AA.out OW.out fr a hgo')
      have ete : (te == te) = true := by simp
      have HB0 : Hid (∀ V, Gr wr V → V.cell? ⟨Y, 0, none⟩ = some (.slice ao3 tl.length cp3) ∧ V.cell? ⟨Y, 2, none⟩ = some (iv te) ∧ Y < V.heap.size) := fun V g => ⟨(Below.cell g (p := ⟨Y, 0, none⟩) hYw).trans b0, (Below.cell g (p := ⟨Y, 2, none⟩) hYw).trans b2, Nat.lt_of_lt_of_le hYw (Below.size g)⟩
      clear hgo' HGO P4 W4 N4 B4 K5 D5 b0 b2 hYb P5 W5
      go_upto_region 13 with (go_at_call 11; refine HG2.out.mono ?_; rintro e V6 ⟨ao6, cp6, rfl, n6', g6'⟩; have N6 := hide n6'.1; have G6 := hide g6'; clear n6' g6')
      have hbt := box_trip V6 (.slice ao6 tl.length cp6) (iv tk') (iv te) 36
      have g7 : Gr V6 (V6.alloc (.cells #[.slice ao6 tl.length cp6, iv tk', iv te] 36)) := (Gr.refl _).alloc _
      refine wp_gen (fun V => Hid ((V.cell? ⟨Y, 0, none⟩ = some (.slice ao3 tl.length cp3) ∧ V.cell? ⟨Y, 2, none⟩ = some (iv te) ∧ Y < V.heap.size) ∧ (V.cell? ⟨V6.heap.size, 0, none⟩ = some (.slice ao6 tl.length cp6) ∧ V.cell? ⟨V6.heap.size, 2, none⟩ = some (iv te)) ∧ V6.heap.size < V.heap.size) ∧ Hid (NmAt V ao3 tl ∧ NmAt V ao6 tl) ∧ Hid (Gr w V)) ⟨⟨HB0.out _ (G6.out.trans g7), ⟨hbt.1.1, hbt.1.2.2⟩, hbt.2⟩, ⟨N5.out.gr (G6.out.trans g7), N6.out.gr g7⟩, GWr.out.trans (G6.out.trans g7)⟩ ?_
      clear hbt g7 HB0 N5 N6 G6 HG2 GWr
      generalize V6.heap.size = Z at *
      rintro V ⟨CE, NV, GV⟩
      obtain ⟨⟨a0, a2, hY⟩, ⟨b0, b2⟩, hZ⟩ := CE.out
      have HSI := hide (sameInts_eq V ao3 ao6 tl.length cp3 cp6 tl NV.out.1.num NV.out.2.num rfl (by omega))
      go_wp2_with (go_at_call 15; refine HSI.out.mono ?_; rintro e w1 ⟨rfl, g1⟩)
      go_ret
      exact ⟨rfl, GV.out.trans g1⟩

end Go.Proofs.YtcgflhjgllpohagGreatDoor
