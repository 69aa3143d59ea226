/- LeastSame: the walk. -/
import Derived.Test.YtklkminlkfnidacDoorLookAid
namespace Go.Proofs.YtklkminlkfnidacDoor
open Go.RowKit
attribute [local go_sem] Ext.all Ext.cell Ext.frozen Ext.lt Ext.lt1 Ext.lt2 Ext.ne Ext.ne'

set_option maxRecDepth 20000 in
set_option maxHeartbeats 4000000 in
theorem lsame_any (w : World) (h64 : Tab64 w) (N : Nat → Prop) (ao : Option Addr) (n c : Nat) (ls : List Rt) (a : Int) (H : n ≤ 120 → RowAt w N ao ls ∧ ls.length = n) :
    Calls Tryd.prog 3 #[.slice ao n c, .int .i64 a] w fun e w' => e = .returned (.bool true) ∧ Gr w w' := by
  have HB := hide (lbegun_any w h64)
  by_cases hbig : 120 < n
  · have hd : decide ((120 : Int) < (n : Int)) = true := decide_eq_true (by omega)
    clear H h64
    go_enter Tryd.func3, Tryd.ntmps3
    go_wp2_with (go_at_call 7; refine HB.out.mono ?_; rintro e w1 ⟨rfl, g1⟩)
    go_ret
    exact ⟨rfl, g1⟩
  obtain ⟨hrow, rfl⟩ := H (by omega)
  clear H
  have hd : decide ((120 : Int) < (ls.length : Int)) = false := by simp; omega
  have HT1 := hide (fun (wX : World) (gX : Gr w wX) => tables_gr hrow (by omega) c wX gX)
  have TR := hide (setAll_tab ls)
  clear hrow
  generalize setAll ls = rs at *
  have TS := hide (lst_tab TR.out)
  have HAG := hide (lst_again TR.out)
  have HEQ := hide (lst_eqF TR.out)
  have HLK := hide (lst_lookI TR.out a)
  obtain ⟨x, hx⟩ : ∃ x, lookL rs a = x := ⟨_, rfl⟩
  rw [hx] at HLK
  have HLX := hide hx
  clear hx
  have HSS : Hid (lstL rs = lstL rs) := rfl
  have HLE : Hid ((lstL rs).length ≤ 40) := TS.out.len
  have H64 := hide h64
  clear h64
  generalize hss : lstL rs = ss at *
  have HLS := hide hss
  clear hss
  have e4 : (ss.length == ss.length) = true := by simp
  have e5 : (x == x) = true := by simp
  go_enter Tryd.func3, Tryd.ntmps3
  go_wp2_with (first
    | (go_at_call 7; refine HB.out.mono ?_; rintro e w1 ⟨rfl, g1⟩)
    | (go_at_call 8; refine (HT1.out w1 g1).mono ?_; rintro e w2 ⟨tb, ro, c2, rfl, L2, g2⟩; have T2 := hide L2.is; have G2 := hide (g1.trans g2); clear L2)
    | (go_at_call 9; with_reducible refine (T2.out.lof (H64.out.gr G2.out) TR.out HLS.out).mono ?_; rintro e w3 ⟨ub, rfl, u3, g3⟩; have U3 := hide u3; have T3 := hide (T2.out.gr g3); have G3 := hide (G2.out.trans g3); clear u3 g3)
    | (go_at_call 9; with_reducible refine (U3.out.lof (H64.out.gr G3.out) TS.out HAG.out).mono ?_; rintro e w4 ⟨vb, rfl, v4, g4⟩; have V4 := hide v4; have U4 := hide (U3.out.gr g4); have T4 := hide (T3.out.gr g4); have G4 := hide (G3.out.trans g4); clear v4 g4)
    | (go_at_call 11; refine (T4.out.tsame U4.out TR.out TS.out HEQ.out).mono ?_; rintro e w5 ⟨rfl, g5⟩; have V5 := hide (V4.out.gr g5); have U5 := hide (U4.out.gr g5); have T5 := hide (T4.out.gr g5); have G5 := hide (G4.out.trans g5); clear g5)
    | (go_at_call 12; with_reducible refine (T5.out.look TR.out HLX.out).mono ?_; rintro e w6 ⟨rfl, g6⟩; have V6 := hide (V5.out.gr g6); have U6 := hide (U5.out.gr g6); have T6 := hide (T5.out.gr g6); have G6 := hide (G5.out.trans g6); clear g6)
    | (go_at_call 12; with_reducible refine (U6.out.look TS.out HLK.out).mono ?_; rintro e w7 ⟨rfl, g7⟩; have V7 := hide (V6.out.gr g7); have U7 := hide (U6.out.gr g7); have T7 := hide (T6.out.gr g7); have G7 := hide (G6.out.trans g7); clear g7)
    | (go_at_call 14; with_reducible refine (U7.out.list TS.out).mono ?_; rintro e w8 ⟨ao8, c8, rfl, r8, g8⟩; have R8 := hide r8; have V8 := hide (V7.out.gr g8); have U8 := hide (U7.out.gr g8); have T8 := hide (T7.out.gr g8); have G8 := hide (G7.out.trans g8); clear r8 g8)
    | (go_at_call 14; with_reducible refine (V8.out.list TS.out).mono ?_; rintro e w9 ⟨ao9, c9, rfl, r9, g9⟩; have R9 := hide r9; have R8' := hide (R8.out.gr g9); have U9 := hide (U8.out.gr g9); have T9 := hide (T8.out.gr g9); have G9 := hide (G8.out.trans g9); clear r9 g9)
    | (go_at_call 13; refine (same_gr (z := true) R8'.out R9.out (by have := HLE.out; omega) (by have := HLE.out; omega) (by simp) c8 c9).mono ?_; rintro e w10 ⟨rfl, g10⟩; have U10 := hide (U9.out.gr g10); have T10 := hide (T9.out.gr g10); have G10 := hide (G9.out.trans g10); clear g10)
    | (go_at_call 14; with_reducible refine (U10.out.list TS.out).mono ?_; rintro e w11 ⟨ao11, c11, rfl, r11, g11⟩; have T11 := hide (T10.out.gr g11); have G11 := hide (G10.out.trans g11); clear r11 g11)
    | (go_at_call 10; refine (T11.out.lcount (n := ss.length) (H64.out.gr G11.out) TR.out (by rw [HLS.out])).mono ?_; rintro e w12 ⟨rfl, g12⟩; have G12 := hide (G11.out.trans g12); clear g12)
    | fail)
  go_ret
  exact ⟨rfl, G12.out⟩

end Go.Proofs.YtklkminlkfnidacDoor
