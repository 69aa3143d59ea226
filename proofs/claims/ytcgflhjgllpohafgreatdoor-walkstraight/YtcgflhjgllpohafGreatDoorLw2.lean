import Derived.Test.YtcgflhjgllpohafGreatDoorWk2
import Derived.Test.YtcgflhjgllpohafGreatDoorWg1
import Derived.Test.YtcgflhjgllpohafGreatDoorNe1
import Derived.Test.YtcgflhjgllpohafGreatDoorWk1
/- FOR THE LAWS OF LETTERS: a Post, a Town, and walks beside them. -/
namespace Go.Proofs.YtcgflhjgllpohafGreatDoor
open Go.RowKit

section
variable {M : Nat → Prop} {B w w' : World} {T : Nat} {S : Nat → Prop} {c : Nat → Nat → Nat} {t : Tn} {n : Nat} {rs : List Rt}
theorem Tq.go (H : Tq M B w T S c t n rs) (ho : Ows rs) (fr a : Int) (sm : Bool) {l : List Nat} {kk ee : Int} (hl : goN (letH t rs a) (fun u v => (c u v : Int)) 7 fr [] 0 = (l, kk, ee)) : Calls Tryz.prog 30 #[pv T, iv fr, iv a, .bool sm] w fun e w' => TripO w w' e l kk ee := by
  obtain ⟨Q, V, ao, cp, h, hc, hr, e⟩ := H
  exact wgo_any h.h hr ho h.a fr a sm hl
end
/-- The trip of a letter, whatever its address: where nobody owns it, it stays where it is. -/
theorem trip_any {t : Tn} {c : Nat → Nat → Nat} (H : TnA t c) {rs : List Rt} (ho : Ows rs) (a : Int) {x : Nat} (hx : x < 6) :
    (lookL rs a = -1 ∧ goN (letH t rs a) (fun u v => (c u v : Int)) 7 (x : Int) [] 0 = ([x], 0, -1)) ∨
    ∃ (z : Nat) (l : List Nat) (e : Nat), z < 6 ∧ lookL rs a = (z : Int) ∧ Trip t c z x l e ∧ goN (letH t rs a) (fun u v => (c u v : Int)) 7 (x : Int) [] 0 = (l, ((sumC c l (l.length - 1) : Nat) : Int), if e = z then (z : Int) else -1) := by
  rcases Ows.look ho.hop a with q | q
  · exact .inl ⟨q, go_none _ hx (let_none ho q x)⟩
  · obtain ⟨z, hz⟩ : ∃ z : Nat, lookL rs a = (z : Int) := ⟨(lookL rs a).toNat, by have := q.1; omega⟩
    have hz6 : z < 6 := by have := q.2; omega
    obtain ⟨l, e, tr⟩ := trip_of H hx hz6
    refine .inr ⟨z, l, e, hz6, hz, tr, ?_⟩
    rw [goN_congr (g := hopT t z) (fun y hy => let_own ho hz6 hz hy), tr.go H hz6]
/-- By the tables of one time no letter goes round, whatever links cost. -/
theorem go_straight {t0 : Tn} {c0 : Nat → Nat → Nat} (A0 : TnA t0 c0) {rs0 : List Rt} (h0 : Ows rs0) (cs : Nat → Nat → Int) (fr a : Int) : (goN (letH t0 rs0 a) cs 7 fr [] 0).2.2 ≠ -2 := by
  rw [(goN_free (cs := cs) (ds := fun u v => (c0 u v : Int)) 7 fr [] 0 0).2]
  by_cases hf : isN fr
  · obtain ⟨x, rfl⟩ : ∃ x : Nat, fr = (x : Int) := ⟨fr.toNat, by have := hf.1; omega⟩
    rcases trip_any A0 h0 a (x := x) (by have := hf.2; omega) with ⟨_, q⟩ | ⟨z, l, e, _, _, _, q⟩
    · rw [q]; show (-1 : Int) ≠ -2; decide
    · rw [q]
      by_cases r : e = z
      · show (if e = z then (z : Int) else -1) ≠ -2
        rw [if_pos r]; omega
      · show (if e = z then (z : Int) else -1) ≠ -2
        rw [if_neg r]; decide
  · rw [go_out _ _ hf]; decide
section
variable {M : Nat → Prop} {B w w' : World} {X P : Nat} {SW S : Nat → Prop} {c : Nat → Nat → Nat} {t : Tn} {n : Nat} {rs : List Rt} {t0 : Tn} {c0 : Nat → Nat → Nat} {rs0 : List Rt} {sm : Bool}
/-- A letter by tables that were made when the net was t0, the owners rs0; the links cost c now. -/
theorem Wq.go (HW : Wq w X P SW (tabL t0 rs0 sm)) (H : Pq M B w P S c t n rs) (A0 : TnA t0 c0) (h0 : Ows rs0) (fr a : Int) {l : List Nat} {kk ee : Int} (hl : goN (letH t0 rs0 a) (fun u v => (c u v : Int)) 7 fr [] 0 = (l, kk, ee)) : Calls Tryz.prog 29 #[pv X, iv fr, iv a] w fun e w' => TripO w w' e l kk ee := by
  refine walkGo_any HW H (fun x _ => (tabL_look A0 h0.tab sm x a).1) fr a (fun e => ?_) ?_
  · have := go_straight A0 h0 (fun u v => (c u v : Int)) fr a
    rw [hl] at this
    exact this e
  rw [← hl]
  congr 1
  funext x
  exact (tabL_look A0 h0.tab sm x a).2
end

end Go.Proofs.YtcgflhjgllpohafGreatDoor

/- FOR THE LAWS OF LETTERS: Settle of a Post; two trips held against each other. -/
namespace Go.Proofs.YtcgflhjgllpohafGreatDoor
open Go.RowKit
attribute [local go_sem] Ext.all Ext.cell Ext.frozen Ext.lt Ext.lt1 Ext.lt2 Ext.ne Ext.ne'
section
variable {M : Nat → Prop} {B w w' : World} {P : Nat} {S : Nat → Prop} {c : Nat → Nat → Nat} {t : Tn} {n : Nat} {rs : List Rt}
theorem Pq.settle (H : Pq M B w P S c t n rs) (hn : n ≤ 100000) : ∃ p, P < w.heap.size ∧ w.cell? ⟨P, 0, none⟩ = some (pv p) ∧ ∀ R : Int, R ≤ 1000 → Calls Tryz.prog 50 #[pv p, iv R] w fun e w' => e = .returned (.tuple #[]) ∧ ∃ S', Pq M B w' P S' c (settleT t R.toNat) (n + 1) rs ∧ Chg w w' S S' := by
  obtain ⟨p, k, q, v, tb, u, h, e⟩ := H
  subst e
  refine ⟨p, lt_of_block h.blk, (cells2 h.blk).1, fun R hR => ?_⟩
  refine (h.net.settle' hn R hR).mono ?_
  rintro e w' ⟨v', he, hN, f⟩
  exact ⟨he, _, ⟨p, k, q, v', tb, u, (h.netStep hN f).1, rfl⟩, (h.netStep hN f).2⟩
end
theorem three_cells {w : World} {X : Nat} {a b c : Value} {T : TypeId} (h : w.heap[X]? = some (.cells #[a, b, c] T (0, 0))) : w.cell? ⟨X, 0, none⟩ = some a ∧ w.cell? ⟨X, 1, none⟩ = some b ∧ w.cell? ⟨X, 2, none⟩ = some c := by
  refine ⟨?_, ?_, ?_⟩ <;> simp [World.cell?, h]
set_option maxRecDepth 20000 in
theorem sameTrip_eq (w : World) (ao bo : Option Addr) (cp cq : Nat) (l : List Nat) (k e : Int) (H : NmAt w ao l) (K : NmAt w bo l) (hm : l.length ≤ 1000) :
    Calls Tryz.prog 27 #[.agg #[.slice ao l.length cp, iv k, iv e], .agg #[.slice bo l.length cq, iv k, iv e]] w fun ee w' => ee = .returned (.bool true) ∧ Gr w w' := by
  have g0 : Gr w ((w.alloc (.cells #[.slice ao l.length cp, iv k, iv e] 60)).alloc (.cells #[.slice bo l.length cq, iv k, iv e] 64)) := ((Gr.refl w).alloc _).alloc _
  obtain ⟨W, hW⟩ : ∃ W, W = (w.alloc (.cells #[.slice ao l.length cp, iv k, iv e] 60)).alloc (.cells #[.slice bo l.length cq, iv k, iv e] 64) := ⟨_, rfl⟩
  have hA : W.heap[w.heap.size]? = some (.cells #[.slice ao l.length cp, iv k, iv e] 60 (0, 0)) := by
    have h0 := heap_alloc_new w (.cells #[.slice ao l.length cp, iv k, iv e] 60)
    rw [hW]
    exact (Below.block ((Gr.refl _).alloc _) _ (lt_of_block h0)).trans h0
  have hB : W.heap[w.heap.size + 1]? = some (.cells #[.slice bo l.length cq, iv k, iv e] 64 (0, 0)) := by
    have h0 := heap_alloc_new (w.alloc (.cells #[.slice ao l.length cp, iv k, iv e] 60)) (.cells #[.slice bo l.length cq, iv k, iv e] 64)
    have hs : (w.alloc (.cells #[.slice ao l.length cp, iv k, iv e] 60)).heap.size = w.heap.size + 1 := by simp
    rw [hs] at h0
    rw [hW]
    exact h0
  rw [← hW] at g0
  have HCE : Hid (∀ X, Gr W X → (X.cell? ⟨w.heap.size, 0, none⟩ = some (.slice ao l.length cp) ∧ X.cell? ⟨w.heap.size, 1, none⟩ = some (iv k) ∧ X.cell? ⟨w.heap.size, 2, none⟩ = some (iv e)) ∧ (X.cell? ⟨w.heap.size + 1, 0, none⟩ = some (.slice bo l.length cq) ∧ X.cell? ⟨w.heap.size + 1, 1, none⟩ = some (iv k) ∧ X.cell? ⟨w.heap.size + 1, 2, none⟩ = some (iv e)) ∧ w.heap.size + 1 < X.heap.size) := fun X g =>
    ⟨three_cells ((Below.block g _ (lt_of_block hA)).trans hA), three_cells ((Below.block g _ (lt_of_block hB)).trans hB), Nat.lt_of_lt_of_le (lt_of_block hB) (Below.size g)⟩
  have HW := hide hW
  clear hA hB hW
  have HS := hide (fun (X : World) (g : Gr w X) => sameInts_eq X ao bo l.length cp cq l (H.gr g).num (K.gr g).num rfl hm)
  have ek : (k == k) = true := by simp
  have ee' : (e == e) = true := by simp
  clear H K
  go_enter Tryz.func27, Tryz.ntmps27
  go_upto_region 1 with (fail)
  rw [← HW.out]
  obtain ⟨⟨a0, a1, a2⟩, ⟨b0, b1, b2⟩, hs1⟩ := HCE.out W (Gr.refl W)
  have hs0 : w.heap.size < W.heap.size := by omega
  go_wp2_with (go_at_call 31; refine (HS.out _ g0).mono ?_; rintro e w1 ⟨rfl, g1⟩; obtain ⟨⟨c0, c1, c2⟩, ⟨d0, d1, d2⟩, hs3⟩ := HCE.out w1 g1; have hs4 : w.heap.size < w1.heap.size := (by omega))
  go_ret
  exact ⟨rfl, g0.trans g1⟩

end Go.Proofs.YtcgflhjgllpohafGreatDoor

/- handpostlaw.walkBegun ANSWERS true. -/
namespace Go.Proofs.YtcgflhjgllpohafGreatDoor
open Go.RowKit
attribute [local go_sem] Ext.all Ext.cell Ext.frozen Ext.lt Ext.lt1 Ext.lt2 Ext.ne Ext.ne'
theorem Pq.grw' {w w1 : World} {P : Nat} {S : Nat → Prop} {c : Nat → Nat → Nat} {t : Tn} {n : Nat} {rs : List Rt} (H : Pq (fun b => b < w.heap.size) w w1 P S c t n rs) : Gr w w1 := H.kp.below (Nat.le_refl _) (fun _ h => h)
/-- A trip in a box that was made since. -/
theorem box_trip (V : World) (a b c : Value) (T : TypeId) : ((V.alloc (.cells #[a, b, c] T)).cell? ⟨V.heap.size, 0, none⟩ = some a ∧ (V.alloc (.cells #[a, b, c] T)).cell? ⟨V.heap.size, 1, none⟩ = some b ∧ (V.alloc (.cells #[a, b, c] T)).cell? ⟨V.heap.size, 2, none⟩ = some c) ∧ V.heap.size < (V.alloc (.cells #[a, b, c] T)).heap.size :=
  ⟨three_cells (heap_alloc_new V _), by simp⟩
theorem two_at' (X : World) : NumAt (X.alloc (.cells #[iv 0, iv 1] 3)) (some ⟨X.heap.size, 0, none⟩) [0, 1] := .inr ⟨X.heap.size, 0, rfl, by simp, fun i h => by
  have : i = 0 ∨ i = 1 := by simp at h; omega
  rcases this with rfl | rfl
  · simp [go_sem]
  · simp [go_sem]⟩
set_option maxRecDepth 20000 in
set_option maxHeartbeats 16000000 in
theorem walkBegun_ok (w : World) (h64 : Tab64 w) : Calls Tryz.prog 26 #[] w fun e w' => e = .returned (.bool true) ∧ Gr w w' := by
  have H64 := hide h64
  clear h64
  have HD1 : Hid (∀ (X : World) (P : Nat) (S : Nat → Prop), Pq (fun b => b < w.heap.size) w X P S (fun _ _ => 0) newT 0 [] → Calls Tryz.prog 24 #[pv P, .agg #[iv 7, iv 1, iv 0, iv 1, iv 0, iv 0]] X fun e w' => e = .returned (iv 0) ∧ ∃ S', Pq (fun b => b < w.heap.size) w w' P S' (fun _ _ => 0) newT 1 [(0, 0, 1)]) := fun X P S h => by
    have := h.do (by omega) ⟨7, 1, 0, 1⟩ 0 0
    rw [wb_own, show nextC (fun _ _ => 0) ⟨7, 1, 0, 1⟩ = (fun _ _ => 0) from by unfold nextC; rw [if_neg (fun x => absurd x.1 (show ¬ (7 : Int) = 1 by decide))]] at this
    exact this.mono fun e w' ⟨he, S', h', _⟩ => ⟨he, S', h'⟩
  have HD2 : Hid (∀ (X : World) (P : Nat) (S : Nat → Prop), Pq (fun b => b < w.heap.size) w X P S (fun _ _ => 0) newT 1 [(0, 0, 1)] → Calls Tryz.prog 24 #[pv P, .agg #[iv 1, iv 0, iv 1, iv 4, iv 0, iv 0]] X fun e w' => e = .returned (iv 0) ∧ ∃ S', Pq (fun b => b < w.heap.size) w w' P S' wc1 wb1 2 [(0, 0, 1)]) := fun X P S h => by
    have := h.do (by omega) ⟨1, 0, 1, 4⟩ 0 0
    rw [wb_link] at this
    exact this.mono fun e w' ⟨he, S', h', _⟩ => ⟨he, S', h'⟩
  go_enter Tryz.func26, Tryz.ntmps26
  go_upto_region 10 with (first
    | (go_at_call 32; with_reducible refine (fibNew_pq _).mono ?_; rintro e V1 ⟨P, S, rfl, h1', g1'⟩; have H1 := hide h1'; clear h1' g1')
    | (go_at_call 24; with_reducible refine (HD1.out _ _ _ H1.out).mono ?_; rintro e V2 ⟨rfl, S2, h2'⟩; have H2 := hide h2'; clear h2')
    | (go_at_call 24; with_reducible refine (HD2.out _ _ _ H2.out).mono ?_; rintro e V3 ⟨rfl, S3, h3'⟩; have H3 := hide h3'; clear h3')
    | (go_at_call 28; with_reducible refine (walkNew_any H3.out (H64.out.gr H3.out.grw') true).mono ?_; rintro e V4 ⟨X, SW, rfl, w4', g4', _⟩; have W4 := hide w4'; have H4 := hide (H3.out.gr g4'); clear w4' g4')
    | (go_at_call 29; refine (W4.out.go H4.out wb_a wb_ows 0 7 wb_go1).mono ?_; rintro e V5 ⟨ao, cp, rfl, _, g5'⟩; have H5 := hide (H4.out.gr g5'); clear g5')
    | fail)
  have hbt := box_trip V5 (.slice ao [0].length cp) (iv 0) (iv (-1)) 60
  refine wp_gen (fun V => Hid (Pq (fun b => b < w.heap.size) w V P S3 wc1 wb1 2 [(0, 0, 1)]) ∧ Hid (V.cell? ⟨V5.heap.size, 0, none⟩ = some (.slice ao [0].length cp) ∧ V.cell? ⟨V5.heap.size, 2, none⟩ = some (iv (-1)) ∧ V5.heap.size < V.heap.size)) ⟨H5.out.gr ((Gr.refl _).alloc _), hbt.1.1, hbt.1.2.2, hbt.2⟩ ?_
  have HSL : Hid (∀ b, S3 b → b < V5.heap.size) := fun b hb => H5.out.lt hb
  clear hbt H1 H2 H3 H4 H5 W4 HD1 HD2
  generalize V5.heap.size = Y at *
  rintro V ⟨H6, BX⟩
  obtain ⟨p, hP, hp0, HST⟩ := H6.out.settle (by omega)
  have HS3 : Hid (Calls Tryz.prog 50 #[pv p, iv 3] V fun e w' => e = .returned (.tuple #[]) ∧ ∃ S', Pq (fun b => b < w.heap.size) w w' P S' wc1 (settleT wb1 3) 3 [(0, 0, 1)] ∧ (w'.cell? ⟨Y, 0, none⟩ = some (.slice ao [0].length cp) ∧ w'.cell? ⟨Y, 2, none⟩ = some (iv (-1)) ∧ Y < w'.heap.size)) := by
    refine (HST 3 (by decide)).mono ?_
    rintro e w' ⟨he, S', h', ch⟩
    have hb := ch.kp.block Y BX.out.2.2 ⟨BX.out.2.2, fun q => by have := HSL.out Y q; omega⟩
    exact ⟨he, S', h', (World.cell?_of_block (a := ⟨Y, 0, none⟩) hb).trans BX.out.1, (World.cell?_of_block (a := ⟨Y, 2, none⟩) hb).trans BX.out.2.1, Nat.lt_of_lt_of_le BX.out.2.2 ch.kp.size⟩
  have A2 : Hid (TnA (settleT wb1 3) wc1) := settle_a wb_a 3
  clear HST H6 BX HSL
  go_upto_region 12 with (first
    | (go_at_call 50; with_reducible refine HS3.out.mono ?_; rintro e V7 ⟨rfl, S7, h7', b7'⟩; have H7 := hide h7'; have B7 := hide b7'; clear h7' b7')
    | (go_at_call 28; with_reducible refine (walkNew_any H7.out (H64.out.gr H7.out.grw') false).mono ?_; rintro e V8 ⟨X8, SW8, rfl, w8', g8', _⟩; have W8 := hide w8'; have H8 := hide (H7.out.gr g8'); have G8 := hide g8'; clear w8' g8')
    | (go_at_call 29; refine (W8.out.go H8.out A2.out wb_ows 0 7 wb_go2).mono ?_; rintro e V9 ⟨ao9, cp9, rfl, n9', g9'⟩; have N9 := hide n9'.1; have G9 := hide (H8.out.grw'.trans g9'); have G79 := hide (G8.out.trans g9'); clear n9' g9')
    | fail)
  have hbt := box_trip V9 (.slice ao9 [0, 1].length cp9) (iv 4) (iv 1) 60
  have g9 : Gr V9 (V9.alloc (.cells #[.slice ao9 [0, 1].length cp9, iv 4, iv 1] 60)) := (Gr.refl _).alloc _
  refine wp_gen (fun V => Hid ((V.cell? ⟨Y, 0, none⟩ = some (.slice ao [0].length cp) ∧ V.cell? ⟨Y, 2, none⟩ = some (iv (-1)) ∧ Y < V.heap.size) ∧ (V.cell? ⟨V9.heap.size, 0, none⟩ = some (.slice ao9 [0, 1].length cp9) ∧ V.cell? ⟨V9.heap.size, 1, none⟩ = some (iv 4) ∧ V.cell? ⟨V9.heap.size, 2, none⟩ = some (iv 1)) ∧ V9.heap.size < V.heap.size) ∧ Hid (NmAt V ao9 [0, 1]) ∧ Hid (Gr w V)) ⟨⟨⟨(Below.cell (G79.out.trans g9) (p := ⟨Y, 0, none⟩) B7.out.2.2).trans B7.out.1, (Below.cell (G79.out.trans g9) (p := ⟨Y, 2, none⟩) B7.out.2.2).trans B7.out.2.1, Nat.lt_of_lt_of_le B7.out.2.2 (Below.size (G79.out.trans g9))⟩, hbt.1, hbt.2⟩, N9.out.gr g9, G9.out.trans g9⟩ ?_
  clear hbt g9 H7 B7 W8 H8 G8 N9 G9 G79 HS3 A2 hp0 hP
  generalize V9.heap.size = Z at *
  rintro V ⟨CE, NV, GV⟩
  obtain ⟨⟨a0, a2, hY⟩, ⟨b0, b1, b2⟩, hZ⟩ := CE.out
  have HSI : Hid (Calls Tryz.prog 31 #[.slice ao9 2 cp9, .slice (some ⟨V.heap.size, 0, none⟩) 2 2] (V.alloc (.cells #[iv 0, iv 1] 3)) fun e w' => e = .returned (.bool true) ∧ Gr (V.alloc (.cells #[iv 0, iv 1] 3)) w') := sameInts_eq _ ao9 _ 2 cp9 2 [0, 1] (NV.out.gr ((Gr.refl V).alloc _)).num (two_at' V) rfl (by decide)
  go_wp2_with (go_at_call 31; refine HSI.out.mono ?_; rintro e w1 ⟨rfl, g1⟩)
  go_ret
  exact ⟨rfl, (GV.out.alloc _).trans g1⟩

end Go.Proofs.YtcgflhjgllpohafGreatDoor
