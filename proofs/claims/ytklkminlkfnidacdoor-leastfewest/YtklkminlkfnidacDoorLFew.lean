import Derived.Test.YtklkminlkfnidacDoorC3f
import Derived.Test.YtklkminlkfnidacDoorT9s
import Derived.Test.YtklkminlkfnidacDoorLAid
/- CONTRACTS OF handpostref: counts, Fewest. -/
namespace Go.Proofs.YtklkminlkfnidacDoor
open Go.RowKit
attribute [local go_sem] Ext.all Ext.cell Ext.frozen Ext.lt Ext.lt1 Ext.lt2 Ext.ne Ext.ne'

theorem counts_any {w : World} {f : Nat → Int} (hf : ∀ j, f j ∈ hopsR) {g : Nat} : ∀ (k o c : Nat), k ≤ 8 → Nums w g o (2 ^ k) f → 2 ^ k ≤ c → c ≤ 1000 → ∀ wX, Gr w wX →
    Calls Tryd.prog 34 #[.slice (some ⟨g, o, none⟩) (2 ^ k : Nat) c] wX fun e w' => e = .returned (.agg (icells (cg f k o))) ∧ Gr wX w'
  | 0, o, c, _, H, _, _, wX, gX => counts_leaf f hf g o c wX (H.gr gX)
  | k + 1, o, c, hk, H, hc, hcm, wX, gX => by
    have h2 : 2 ^ k ≤ 128 := Nat.le_trans (Nat.pow_le_pow_right (by decide) (show k ≤ 7 by omega)) (by decide)
    have h0 : 0 < 2 ^ k := Nat.two_pow_pos k
    have e : 2 ^ (k + 1) = 2 ^ k + 2 ^ k := by rw [Nat.pow_succ]; omega
    rw [e] at H hc ⊢
    have H1 := fun wY (gY : Gr wX wY) => counts_any hf k o c (by omega) (H.low (by omega)) (by omega) hcm wY (gX.trans gY)
    have H2 := fun wY (gY : Gr wX wY) => counts_any hf k (o + 2 ^ k) (c - 2 ^ k) (by omega) (H.high (by omega)) (by omega) (by omega) wY (gX.trans gY)
    exact counts_node (pg f (k + 1) o) (cg f (k + 1) o) (cg f k o) (cg f k (o + 2 ^ k)) g o (2 ^ k) c wX h2 h0 hc hcm (fun _ => rfl) (cg_is f (k + 1) o)
      (fun j hj => ⟨cg_le hf (by omega) hj, cg_le hf (by omega) hj⟩) H1 H2

theorem run_idx0 (G : Nat → Nat) (w : World) : (Instr.index 67 (.agg (icells G)) (.int .i64 0)).run Tryd.prog w = .ok (iv (G 0)) w := by kernel_rfl

set_option maxRecDepth 20000 in
theorem fewest_any {w : World} {f : Nat → Int} (hf : ∀ j, f j ∈ hopsR) {g n : Nat} (H : Nums w g 0 256 f) (e : (leastT f).length = n) (wX : World) (gX : Gr w wX) :
    Calls Tryd.prog 15 #[.slice (some ⟨g, 0, none⟩) 256 256] wX fun e w' => e = .returned (iv n) ∧ Gr wX w' := by
  have hc : Calls Tryd.prog 34 #[.slice (some ⟨g, 0, none⟩) 256 256] wX fun e w' => e = .returned (.agg (icells (cg f 8 0))) ∧ Gr wX w' := counts_any hf 8 0 256 (by omega) H (by decide) (by decide) wX gX
  have e0 : cg f 8 0 0 = n := by rw [← e, ← cnts_T hf]; rfl
  generalize cg f 8 0 = G at hc e0
  have HC := hide hc
  have HE := hide e0
  clear e0 e H hc
  go_enter Tryd.func15, Tryd.ntmps15
  go_wp2_with (go_at_call 34; refine HC.out.mono ?_; rintro e w1 ⟨rfl, g1⟩)
  rw [run_idx0]
  go_wp2_with fail
  go_ret
  exact ⟨by rw [← HE.out]; rfl, g1⟩

end Go.Proofs.YtklkminlkfnidacDoor

/- LeastFewest: the walk. -/
namespace Go.Proofs.YtklkminlkfnidacDoor
open Go.RowKit
attribute [local go_sem] Ext.all Ext.cell Ext.frozen Ext.lt Ext.lt1 Ext.lt2 Ext.ne Ext.ne'

theorem lst_size {rs : List Rt} (h : Tab rs) : (lstL rs).length ≤ (trT rs).leaves.length :=
  least_min h.hops (fun r hr => ((chn_T _).mem.2 r hr).1) (chn_T _).srt (fun j hj => lookL_T _ j hj)

theorem allOf_laid {B : World} {tb : Nat} {ro : Option Addr} {rs : List Rt} (h : Laid B tb ro rs) (hT : Tab rs) (c : Nat) (wX : World) (gX : Gr B wX) :
    Calls Tryd.prog 16 #[.slice ro rs.length c] wX fun e w' => ∃ g, e = .returned (.slice (some ⟨g, 0, none⟩) 256 256) ∧ Nums w' g 0 256 (fun j => lookL rs j) ∧ Gr wX w' := by
  obtain ⟨M, v, _, hR⟩ := h
  exact allOf_gr hR hT.toSrt c wX gX

set_option maxRecDepth 20000 in
set_option maxHeartbeats 4000000 in
theorem lfew_any (w : World) (h64 : Tab64 w) (N : Nat → Prop) (ao : Option Addr) (n c : Nat) (ls : List Rt) (H : n ≤ 120 → RowAt w N ao ls ∧ ls.length = n) :
    Calls Tryd.prog 4 #[.slice ao n c] w fun e w' => e = .returned (.bool true) ∧ Gr w w' := by
  have HB := hide (lbegun_any w h64)
  by_cases hbig : 120 < n
  · have hd : decide ((120 : Int) < (n : Int)) = true := decide_eq_true (by omega)
    clear H h64
    go_enter Tryd.func4, Tryd.ntmps4
    go_wp2_with (go_at_call 7; refine HB.out.mono ?_; rintro e w1 ⟨rfl, g1⟩)
    go_ret
    exact ⟨rfl, g1⟩
  obtain ⟨hrow, rfl⟩ := H (by omega)
  clear H
  have hd : decide ((120 : Int) < (ls.length : Int)) = false := by simp; omega
  have HT1 := hide (fun (wX : World) (gX : Gr w wX) => tables_gr hrow (by omega) c wX gX)
  have TR := hide (setAll_tab ls)
  clear hrow
  generalize setAll ls = rs at *
  have H64 := hide h64
  clear h64
  have HLE := hide (lst_le TR.out)
  have HLS := hide (lst_size TR.out)
  have hlen := TR.out.len
  have hsz : (trT rs).leaves.length ≤ 256 := len_T _
  obtain ⟨k, hk⟩ : ∃ k, (lstL rs).length = k := ⟨_, rfl⟩
  obtain ⟨q, hq⟩ : ∃ q, (trT rs).leaves.length = q := ⟨_, rfl⟩
  have h1 : k ≤ rs.length := by rw [← hk]; exact HLE.out
  have h2 : k ≤ q := by rw [← hk, ← hq]; exact HLS.out
  rw [hq] at hsz
  have HK := hide hk
  have HQ := hide hq
  clear hk hq HLE HLS
  have hd1 : decide ((k : Int) ≤ (q : Int)) = true := decide_eq_true (by omega)
  have hd2 : decide ((k : Int) ≤ (rs.length : Int)) = true := decide_eq_true (by omega)
  go_enter Tryd.func4, Tryd.ntmps4
  go_wp2_with (first
    | (go_at_call 7; refine HB.out.mono ?_; rintro e w1 ⟨rfl, g1⟩)
    | (go_at_call 8; refine (HT1.out w1 g1).mono ?_; rintro e w2 ⟨tb, ro, c2, rfl, L2, g2⟩; have T2 := hide L2; have G2 := hide (g1.trans g2); clear L2 g2)
    | (go_at_call 10; refine (T2.out.is.lcount (H64.out.gr G2.out) TR.out HK.out).mono ?_; rintro e w3 ⟨rfl, g3⟩; have G3 := hide g3; clear g3)
    | (go_at_call 16; refine (allOf_laid T2.out TR.out c2 w3 G3.out).mono ?_; rintro e w4 ⟨b4, rfl, n4, g4⟩; have N4 := hide n4; have G4 := hide (G3.out.trans g4); clear n4 g4)
    | (go_at_call 15; refine (fewest_any TR.out.hops N4.out HK.out w4 (Gr.refl _)).mono ?_; rintro e w5 ⟨rfl, g5⟩; have G5 := hide (G4.out.trans g5); clear g5)
    | (go_at_call 17; refine (T2.out.tof TR.out w5 G5.out).mono ?_; rintro e w6 ⟨b6, rfl, t6, g6⟩; have T6 := hide t6; have G6 := hide (G5.out.trans g6); clear t6 g6)
    | (go_at_call 18; refine (size_gr T6.out HQ.out (by omega) w6 (Gr.refl _)).mono ?_; rintro e w7 ⟨rfl, g7⟩; have G7 := hide (G6.out.trans g7); clear g7)
    | (go_at_call 14; refine ((T2.out.is.gr G7.out).list TR.out).mono ?_; rintro e w8 ⟨ao8, c8, rfl, r8, g8⟩; have G8 := hide (G7.out.trans g8); clear r8 g8)
    | fail)
  go_ret
  exact ⟨rfl, G2.out.trans G8.out⟩

end Go.Proofs.YtklkminlkfnidacDoor
