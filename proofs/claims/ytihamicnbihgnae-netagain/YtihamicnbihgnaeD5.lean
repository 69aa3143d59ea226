/- CONTRACTS OF package node: Link, Hear, Tick. -/
import Derived.Test.YtihamicnbihgnaeD4
namespace Go.Proofs.Ytihamicnbihgnae
open Go.RowKit
attribute [local go_sem] Ext.all Ext.cell Ext.frozen Ext.lt Ext.lt1 Ext.lt2 Ext.ne Ext.ne'

theorem cost_bd {m : Md} (h : Bd m) (f : Nat) {c : Int} (h0 : 0 ≤ c) (h1 : c ≤ 15) : Bd { m with cost := updW m.cost f c } := by
  refine ⟨fun r => ?_, h.said, h.best⟩
  show 0 ≤ updW m.cost f c r ∧ updW m.cost f c r ≤ 15
  unfold updW
  split
  · exact ⟨h0, h1⟩
  · exact h.cost r
theorem forget_bd {m : Md} (h : Bd m) (f : Nat) : Bd { m with heard := updW m.heard f (fun _ => (0, 200)) } := by
  refine ⟨h.cost, fun r k => ?_, h.best⟩
  show 0 ≤ (updW m.heard f (fun _ => (0, 200)) r k).2 ∧ (updW m.heard f (fun _ => (0, 200)) r k).2 ≤ 200
  by_cases e : r = f
  · rw [e, updW_same]; exact ⟨by decide, by decide⟩
  · rw [updW_ne _ _ e]; exact h.said r k
theorem heard_bd {m : Md} (h : Bd m) (f z : Nat) {s d : Int} (h0 : 0 ≤ d) (h1 : d ≤ 200) : Bd { m with heard := updW m.heard f (updW (m.heard f) z (s, d)) } := by
  refine ⟨h.cost, fun r k => ?_, h.best⟩
  show 0 ≤ (updW m.heard f (updW (m.heard f) z (s, d)) r k).2 ∧ (updW m.heard f (updW (m.heard f) z (s, d)) r k).2 ≤ 200
  by_cases e : r = f
  · rw [e, updW_same]
    by_cases e2 : k = z
    · rw [e2, updW_same]; exact ⟨h0, h1⟩
    · rw [updW_ne _ _ e2]; exact h.said f k
  · rw [updW_ne _ _ e]; exact h.said r k
theorem link_bd {m : Md} (h : Bd m) (f : Nat) {c : Int} (h0 : 0 ≤ c) (h1 : c ≤ 15) : Bd (linkM m f c) := by
  unfold linkM
  apply lookTo_bd
  by_cases e : c = 0
  · rw [if_pos e]; exact forget_bd (cost_bd h f h0 h1) f
  · rw [if_neg e]; exact cost_bd h f h0 h1
theorem hearD_bd {m : Md} (h : Bd m) (f z : Nat) {s d : Int} (h0 : 0 ≤ d) (h1 : d ≤ 200) : Bd (hearD m f z s d) := lookTo_bd (heard_bd h f z h0 h1) 6
theorem tickD_bd {m : Md} (h : Bd m) : Bd (tickD m) := ⟨h.cost, h.said, h.best⟩

set_option maxRecDepth 20000 in
set_option maxHeartbeats 8000000 in
theorem nlink_ok {w : World} {p : Nat} {m : Md} (H : DAt w p m) (hB : Bd m) {f : Nat} {c : Int} (hf : f < 6) (hfm : f ≠ m.me) (h0 : 0 ≤ c) (h1 : c ≤ 15) :
    Calls Try.prog 39 #[pv p, iv f, iv c] w fun e w' => e = .returned (iv 0) ∧ DAt w' p (linkM m f c) ∧ Wr p w w' := by
  have hp := H.lt
  have hfi : (f : Int) < 6 := by omega
  have HO : Hid (decide ((0 ≤ (f : Int) ∧ (f : Int) < 6) ∧ (f : Int) ≠ m.me) = true) := decide_eq_true ⟨by omega, by omega⟩
  have HN := hide (nother_is H HO.out)
  have g4 : decide (c < 0) = false := decide_eq_false (by omega)
  have g5 : decide (15 < c) = false := decide_eq_false (by omega)
  have k0 := H.cost hf
  have fz := NdAt.free H
  have SM := hide (H.setCost hf c)
  have SW := hide ((Wr.refl p w).set (1 + f) (iv c))
  have HB1 := hide (cost_bd hB f h0 h1)
  have HB2 := hide (forget_bd HB1.out f)
  by_cases hc : c = 0
  · have gc : (c == 0) = true := by simpa using hc
    have HL : Hid (linkM m f c = lookTo { { m with cost := updW m.cost f c } with heard := updW m.heard f (fun _ => (0, 200)) } 6) := by unfold Hid linkM; rw [if_pos hc]
    clear H hB hfm h0 h1 hc
    go_enter Try.func39, Try.ntmps39
    go_upto_region 7 with (go_at_call 48; with_reducible refine HN.out.mono ?_; rintro e w1 ⟨rfl, hw1⟩; have hw2 := hw1.symm; clear hw1; subst hw2)
    refine wp_gen (fun V => Hid (DAt V p { m with cost := updW m.cost f c }) ∧ Hid (Wr p w V)) ⟨SM, SW⟩ ?_
    clear SM SW k0 fz hp HN
    rintro V ⟨M1, W1⟩
    go_upto_region 8 with (go_at_call 45; with_reducible refine (nforget_any M1.out hf).mono ?_; rintro e V2 ⟨rfl, M2', W2'⟩; have M2 := hide M2'; have W2 := hide W2'; clear M2' W2')
    go_wp2_with (go_at_call 49; with_reducible refine (nchooseAll_any M2.out HB2.out).mono ?_; rintro e V3 ⟨rfl, M3', W3'⟩; have M3 := hide M3'; have W3 := hide W3'; clear M3' W3')
    go_ret
    exact ⟨rfl, by rw [HL.out]; exact M3.out, (W1.out.trans W2.out).trans W3.out⟩
  · have gc : (c == 0) = false := by simpa using hc
    have HL : Hid (linkM m f c = lookTo { m with cost := updW m.cost f c } 6) := by unfold Hid linkM; rw [if_neg hc]
    clear H hB hfm h0 h1 hc
    go_enter Try.func39, Try.ntmps39
    go_upto_region 8 with (go_at_call 48; with_reducible refine HN.out.mono ?_; rintro e w1 ⟨rfl, hw1⟩; have hw2 := hw1.symm; clear hw1; subst hw2)
    refine wp_gen (fun V => Hid (DAt V p { m with cost := updW m.cost f c }) ∧ Hid (Wr p w V)) ⟨SM, SW⟩ ?_
    clear SM SW k0 fz hp HN
    rintro V ⟨M1, W1⟩
    go_wp2_with (go_at_call 49; with_reducible refine (nchooseAll_any M1.out HB1.out).mono ?_; rintro e V3 ⟨rfl, M3', W3'⟩; have M3 := hide M3'; have W3 := hide W3'; clear M3' W3')
    go_ret
    exact ⟨rfl, by rw [HL.out]; exact M3.out, W1.out.trans W3.out⟩

set_option maxRecDepth 20000 in
set_option maxHeartbeats 8000000 in
theorem nlink_bad {w : World} {p : Nat} {m : Md} (H : DAt w p m) {f c : Int} (hb : ¬ (0 ≤ f ∧ f < 6) ∨ f = m.me ∨ c < 0 ∨ 15 < c) :
    Calls Try.prog 39 #[pv p, iv f, iv c] w fun e w' => e = .returned (iv 1) ∧ w' = w := by
  have hp := H.lt
  obtain ⟨b, B1⟩ : ∃ b, Hid (decide ((0 ≤ f ∧ f < 6) ∧ f ≠ m.me) = b) := ⟨_, rfl⟩
  have HN := hide (nother_is H B1.out)
  have HB : Hid (b = false ∨ decide (c < 0) = true ∨ decide (15 < c) = true) := by
    rcases hb with h | h | h | h
    · exact .inl (by rw [← B1.out]; exact decide_eq_false (fun q => h q.1))
    · exact .inl (by rw [← B1.out]; exact decide_eq_false (fun q => q.2 h))
    · exact .inr (.inl (decide_eq_true h))
    · exact .inr (.inr (decide_eq_true h))
  clear hb H
  cases b
  · clear HB
    go_enter Try.func39, Try.ntmps39
    go_wp2_with (go_at_call 48; with_reducible refine HN.out.mono ?_; rintro e w1 ⟨rfl, hw1⟩; have hw2 := hw1.symm; clear hw1; subst hw2)
    go_ret
    exact ⟨rfl, rfl⟩
  · cases g4 : decide (c < 0)
    · have g5 : decide (15 < c) = true := by have := HB.out; simpa [g4] using this
      clear HB
      go_enter Try.func39, Try.ntmps39
      go_wp2_with (go_at_call 48; with_reducible refine HN.out.mono ?_; rintro e w1 ⟨rfl, hw1⟩; have hw2 := hw1.symm; clear hw1; subst hw2)
      go_ret
      exact ⟨rfl, rfl⟩
    · clear HB
      go_enter Try.func39, Try.ntmps39
      go_wp2_with (go_at_call 48; with_reducible refine HN.out.mono ?_; rintro e w1 ⟨rfl, hw1⟩; have hw2 := hw1.symm; clear hw1; subst hw2)
      go_ret
      exact ⟨rfl, rfl⟩

set_option maxRecDepth 20000 in
set_option maxHeartbeats 8000000 in
theorem ntick_any {w : World} {p : Nat} {m : Md} (H : DAt w p m) (hme : m.me < 6) (hs : 0 ≤ (m.ways m.me).1) (hs2 : (m.ways m.me).1 < 4611686018427387904) :
    Calls Try.prog 19 #[pv p] w fun e w' => e = .returned (.tuple #[]) ∧ DAt w' p (tickD m) ∧ Wr p w w' := by
  have c0 := H.me
  have hp := H.lt
  have fz := NdAt.free H
  obtain ⟨q0, q1, q2⟩ := H.ways hme
  have hmi : (m.me : Int) < 6 := by omega
  have wb : IntKind.i64.wrap ((m.ways m.me).1 + 1) = (m.ways m.me).1 + 1 := by rw [IntKind.wrap_i64]; omega
  have SM := hide (H.setAge hme ((m.ways m.me).1 + 1))
  have SW := hide ((Wr.refl p w).set (79 + m.me * 3) (iv ((m.ways m.me).1 + 1)))
  have HT : Hid (tickD m = { m with ways := updW m.ways m.me ((m.ways m.me).1 + 1, (m.ways m.me).2.1, (m.ways m.me).2.2) }) := rfl
  clear H hs hs2
  go_enter Try.func19, Try.ntmps19
  go_upto_region 1 with (fail)
  go_still_tail 15, (by kernel_rfl)
  go_wp2_with fail
  refine bodyPost_end (results_none rfl _ _ _) rfl ?_
  exact ⟨rfl, by rw [HT.out]; exact SM.out.gr (Gr.refl _).drew, SW.out.trans ((Gr.refl _).drew.wr p)⟩

end Go.Proofs.Ytihamicnbihgnae
