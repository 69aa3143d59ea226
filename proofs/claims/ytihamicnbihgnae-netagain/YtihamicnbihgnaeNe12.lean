/- THE PROGRAM'S Net: Do. -/
import Derived.Test.YtihamicnbihgnaeNe11
namespace Go.Proofs.Ytihamicnbihgnae
open Go.RowKit
attribute [local go_sem] Ext.all Ext.cell Ext.frozen Ext.lt Ext.lt1 Ext.lt2 Ext.ne Ext.ne'

section
variable {M : Nat → Prop} {B w w' : World} {p k : Nat} {q : Nat → Nat} {v : Value} {c : Nat → Nat → Nat} {t : Tn}
set_option maxRecDepth 20000 in
set_option maxHeartbeats 8000000 in
theorem netDo_any (H : Ne M B w p k q v c t) (A : TnA t c) (hA : ∀ k, k < 6 → agT t k < 4611686018427387904) (hl : t.news.length ≤ 40) (x : Sp) (X Y : Value) :
    Calls Try.prog 9 #[pv p, .agg #[iv x.k, iv x.a, iv x.b, iv x.n, X, Y]] w fun e w' => ∃ v', e = .returned (iv (doT t x).2) ∧ Ne M B w' p k q v' (nextC c x) (doT t x).1 := by
  obtain ⟨kd, a, b, n⟩ := x
  dsimp only
  have hp := H.blk.lt
  have HX := H.ext ((Gr.refl w).alloc (.cells #[iv kd, iv a, iv b, iv n, X, Y] 30))
  by_cases e1 : kd = 1
  · subst e1
    have HC := hide (netLink_any HX A a b n)
    have HE : Hid (doT t ⟨1, a, b, n⟩ = linkC t a b n) := by unfold Hid doT; rw [if_pos rfl]
    rw [HE.out]
    clear H HX A hA hl HE
    go_enter Try.func9, Try.ntmps9
    go_wp2_with (go_at_call 21; with_reducible refine HC.out.mono ?_; rintro e V ⟨rfl, T1'⟩; have T1 := hide T1'; clear T1')
    go_ret
    exact ⟨_, rfl, T1.out⟩
  · have k1 : (kd == 1) = false := by simpa using e1
    have EC : nextC c ⟨kd, a, b, n⟩ = c := by unfold nextC; rw [if_neg (fun x => e1 x.1)]
    rw [EC]
    clear EC
    by_cases e2 : kd = 2
    · subst e2
      have HC := hide (netTick_any HX A hA hl a)
      have HE : Hid (doT t ⟨2, a, b, n⟩ = if isN a then sayAll (tickT t a.toNat) a.toNat 6 else (t, 1)) := by unfold Hid doT; dsimp only; rw [if_neg e1, if_pos rfl]
      rw [HE.out]
      clear H HX A hA hl HE e1
      generalize (if isN a then sayAll (tickT t a.toNat) a.toNat 6 else (t, 1)) = st at *
      go_enter Try.func9, Try.ntmps9
      go_wp2_with (go_at_call 22; with_reducible refine HC.out.mono ?_; rintro e V ⟨v1, rfl, T1'⟩; have T1 := hide T1'; clear T1')
      go_ret
      exact ⟨_, rfl, T1.out⟩
    · have k2 : (kd == 2) = false := by simpa using e2
      by_cases e3 : kd = 3
      · subst e3
        have HC := hide (tell_any HX A.s.tc hl a b)
        have HE : Hid (doT t ⟨3, a, b, n⟩ = sayC t a b) := by unfold Hid doT; dsimp only; rw [if_neg e1, if_neg e2, if_pos rfl]
        rw [HE.out]
        clear H HX A hA hl HE e1 e2
        generalize sayC t a b = st at *
        go_enter Try.func9, Try.ntmps9
        go_wp2_with (go_at_call 23; with_reducible refine HC.out.mono ?_; rintro e V ⟨v1, rfl, T1'⟩; have T1 := hide T1'; clear T1')
        go_ret
        exact ⟨_, rfl, T1.out⟩
      · have k3 : (kd == 3) = false := by simpa using e3
        by_cases e4 : kd = 4
        · subst e4
          have HC := hide (netHear_any HX A hl n)
          have HE : Hid (doT t ⟨4, a, b, n⟩ = newsC t 4 n) := by unfold Hid doT; dsimp only; rw [if_neg e1, if_neg e2, if_neg e3, if_pos (.inl rfl)]
          rw [HE.out]
          clear H HX A hA hl HE e1 e2 e3
          generalize newsC t 4 n = st at *
          go_enter Try.func9, Try.ntmps9
          go_wp2_with (go_at_call 24; with_reducible refine HC.out.mono ?_; rintro e V ⟨v1, rfl, T1'⟩; have T1 := hide T1'; clear T1')
          go_ret
          exact ⟨_, rfl, T1.out⟩
        · have k4 : (kd == 4) = false := by simpa using e4
          by_cases e5 : kd = 5
          · subst e5
            have HC := hide (netTake_any HX hl n)
            have HE : Hid (doT t ⟨5, a, b, n⟩ = newsC t 5 n) := by unfold Hid doT; dsimp only; rw [if_neg e1, if_neg e2, if_neg e3, if_pos (.inr (.inl rfl))]
            rw [HE.out]
            clear H HX A hA hl HE e1 e2 e3 e4
            generalize newsC t 5 n = st at *
            go_enter Try.func9, Try.ntmps9
            go_wp2_with (go_at_call 25; with_reducible refine HC.out.mono ?_; rintro e V ⟨v1, a0, a1, a2, a3, a4, rfl, T1'⟩; have T1 := hide T1'; clear T1')
            go_ret
            exact ⟨_, rfl, T1.out.ext ((Gr.refl _).alloc _)⟩
          · have k5 : (kd == 5) = false := by simpa using e5
            by_cases e6 : kd = 6
            · subst e6
              have HC := hide (netDouble_any HX hl n)
              have HE : Hid (doT t ⟨6, a, b, n⟩ = newsC t 6 n) := by unfold Hid doT; dsimp only; rw [if_neg e1, if_neg e2, if_neg e3, if_pos (.inr (.inr rfl))]
              rw [HE.out]
              clear H HX A hA hl HE e1 e2 e3 e4 e5
              generalize newsC t 6 n = st at *
              go_enter Try.func9, Try.ntmps9
              go_wp2_with (go_at_call 26; with_reducible refine HC.out.mono ?_; rintro e V ⟨v1, rfl, T1'⟩; have T1 := hide T1'; clear T1')
              go_ret
              exact ⟨_, rfl, T1.out⟩
            · have k6 : (kd == 6) = false := by simpa using e6
              have HE : Hid (doT t ⟨kd, a, b, n⟩ = (t, 8)) := by unfold Hid doT; dsimp only; rw [if_neg e1, if_neg e2, if_neg e3, if_neg (by omega)]
              rw [HE.out]
              have HF := hide HX
              clear H HX A hA hl HE e1 e2 e3 e4 e5 e6
              go_enter Try.func9, Try.ntmps9
              go_wp2_with fail
              go_ret
              exact ⟨_, rfl, HF.out⟩
end

end Go.Proofs.Ytihamicnbihgnae
