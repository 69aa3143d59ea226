/- handpostlaw.NetDoes ANSWERS true. -/
import Derived.Test.YthiojjkgodffnaeLSN
import Derived.Test.YthiojjkgodffnaeTw21
import Derived.Test.YthiojjkgodffnaeTw11
import Derived.Test.YthiojjkgodffnaeTw4
import Derived.Test.YthiojjkgodffnaePthF
namespace Go.Proofs.Ythiojjkgodffnae
open Go.RowKit
attribute [local go_sem] Ext.all Ext.cell Ext.frozen Ext.lt Ext.lt1 Ext.lt2 Ext.ne Ext.ne'

section
variable {M : Nat → Prop} {B w w' : World} {p k P : Nat} {q Q : Nat → Nat} {v V o : Value} {c c' : Nat → Nat → Nat} {t t' : Tn} {n n' : Nat}
theorem path_len (hop : Nat → Int) (z : Int) : ∀ f p out, (pathF hop z f p out).1.length ≤ out.length + f
  | 0, _, out => by rw [pathF]; simp
  | f + 1, p, out => by
    rw [pathF]
    split
    · split
      · simp
      · have := path_len hop z f (hop p.toNat) (out ++ [p.toNat])
        rw [List.length_append, List.length_singleton] at this
        omega
    · simp
theorem Tw.base {X : World} (h : Tw M X w P Q V o t) (hk : Kp M B X) (bd : ∀ b, M b → b < B.heap.size) : Tw M B w P Q V o t :=
  ⟨hk.trans h.kp, bd, h.blk, h.six, h.nw, h.nop, h.noq, h.nov⟩
/-- A new Town beside a new Net. -/
theorem newTown_tl (HN : Nl M B w p k q v (fun _ _ => 0) newT 0) : Calls Try.prog 11 #[] w fun e w' => ∃ P Q V o, e = .returned (pv P) ∧ Nl M B w' p k q v (fun _ _ => 0) newT 0 ∧ Tl M B w' P Q V o (fun _ _ => 0) newT 0 ∧ Beside w' p k q v P Q V :=
  (newTown_ok w M (fun b hb => Nat.lt_of_lt_of_le (HN.h.bd b hb) HN.h.kp.size)).mono fun e w' ⟨Q, he, hh, hg, hq⟩ =>
    ⟨_, Q, _, _, he, HN.ext hg, ⟨hh.base HN.h.kp HN.h.bd, HN.a, HN.l, HN.g⟩, fun b hb => HN.h.notOwn hg (by
      rcases hb with rfl | ⟨a, ha, rfl⟩ | e
      · exact Nat.le_refl _
      · exact hq a ha
      · cases e) (hh.own_lt hb)⟩
theorem Nl.doB (H : Nl M B w p k q v c t n) (HT : Tl M B w P Q V o c' t' n') (bs : Beside w p k q v P Q V) (hn : n ≤ 100000) (x : Sp) (X Y : Value) :
    Calls Try.prog 12 #[pv p, .agg #[iv x.k, iv x.a, iv x.b, iv x.n, X, Y]] w fun e w' => ∃ v1, e = .returned (iv (doT t x).2) ∧ Nl M B w' p k q v1 (nextC c x) (doT t x).1 (n + 1) ∧ Tl M B w' P Q V o c' t' n' ∧ Beside w' p k q v1 P Q V :=
  (H.do' hn x X Y).mono fun _ _ ⟨v1, he, hh, hf⟩ => ⟨v1, he, hh, HT.beside H bs hf⟩
theorem Tl.doB (HT : Tl M B w P Q V o c' t' n') (H : Nl M B w p k q v c t n) (bs : Beside w p k q v P Q V) (hn : n' ≤ 100000) (x : Sp) (h7 : x.k ≠ 7) (X Y : Value) :
    Calls Try.prog 13 #[pv P, .agg #[iv x.k, iv x.a, iv x.b, iv x.n, X, Y]] w fun e w' => ∃ V1, e = .returned (iv (doT t' x).2) ∧ Nl M B w' p k q v c t n ∧ Tl M B w' P Q V1 o (nextC c' x) (doT t' x).1 (n' + 1) ∧ Beside w' p k q v P Q V1 :=
  (HT.do' hn x h7 X Y).mono fun _ _ ⟨V1, he, hh, hf⟩ => by
    obtain ⟨r1, r2⟩ := H.besideT HT bs hf hh.h
    exact ⟨V1, he, r1, hh, r2⟩
end

set_option maxRecDepth 20000 in
set_option maxHeartbeats 32000000 in
theorem netDoes_any (w : World) (ao : Option Addr) (n cp : Nat) (l : List Sx) (fr z R : Int) (H : SpAt w ao l) (hn : l.length = n) :
    Calls Try.prog 3 #[.slice ao n cp, iv fr, iv z, iv R] w fun e w' => e = .returned (.bool true) ∧ Gr w w' := by
  have HS := hide (fun (X : World) (g : Gr w X) => H.gr g)
  have HNL := hide hn
  clear H hn
  go_enter Try.func3, Try.ntmps3
  go_upto_region 3 with (go_at_call 9; with_reducible refine (netBegun_ok _).mono ?_; rintro e V0 ⟨rfl, g0'⟩; have G0 := hide g0'; clear g0')
  by_cases h150 : 150 < n
  · have gd : decide ((150 : Int) < (n : Int)) = true := decide_eq_true (by omega)
    go_wp2_with fail
    go_ret
    exact ⟨rfl, G0.out⟩
  · have gd : decide ((150 : Int) < (n : Int)) = false := decide_eq_false (by omega)
    by_cases h30 : 30 < R
    · have gd2 : decide ((30 : Int) < R) = true := decide_eq_true h30
      go_wp2_with fail
      go_ret
      exact ⟨rfl, G0.out⟩
    · have gd2 : decide ((30 : Int) < R) = false := decide_eq_false h30
      have HNN := hide (netNew_nl V0 (fun b => b < V0.heap.size) (fun _ h => h))
      go_upto_region 7 with (first | (go_at_call 10; with_reducible refine HNN.out.mono ?_; rintro e V1 ⟨p, k, q, v, rfl, H0', z1'⟩; have H0 := hide H0'; clear H0' z1') | (go_at_call 11; with_reducible refine (newTown_tl H0.out).mono ?_; rintro e V2 ⟨P, Q, V, o, rfl, H1', H2', bs'⟩; have H1 := hide H1'; have H2 := hide H2'; have BS := hide bs'; clear H1' H2' bs'))
      clear H0 HNN
      go_loopw [11] (fun v11 wr => ∃ (i : Nat) (v V : Value) (c : Nat → Nat → Nat) (t : Tn), i ≤ n ∧ v11 = .int .i64 (i : Int) ∧ Hid (Nl (fun b => b < V0.heap.size) V0 wr p k q v c t i) ∧ Hid (Tl (fun b => b < V0.heap.size) V0 wr P Q V o c t i) ∧ Hid (Beside wr p k q v P Q V)) (fun v11 _ => (n - intOf v11).toNat)
      case atStart => exact ⟨0, v, V, _, newT, by omega, rfl, H1, H2, BS⟩
      case round =>
        clear H1 H2 BS v V
        obtain ⟨i, v, V, c, t, hin, rfl, H1, H2, BS⟩ := hrel
        have gB : Hid (∀ (W : World) (v : Value) (c : Nat → Nat → Nat) (t : Tn) (m : Nat), Nl (fun b => b < V0.heap.size) V0 W p k q v c t m → Gr w W) := fun W v c t m h => G0.out.trans (h.h.kp.below (Nat.le_refl _) (fun _ h => h))
        by_cases hi : i < n
        · have hii : decide ((i : Int) < (n : Int)) = true := decide_eq_true (by omega)
          have hi0 : (i : Int) < (n : Int) := by omega
          have hil : i < l.length := by have := HNL.out; omega
          have wi : IntKind.i64.wrap ((i : Int) + 1) = (i : Int) + 1 := by rw [IntKind.wrap_i64]; omega
          obtain ⟨bn, on, hao, hbn, s0, s1, s2, s3, s4, s5⟩ := (HS.out _ (gB.out _ _ _ _ _ H1.out)).get hil
          have HG := hide (fun (X : World) (g : Gr w X) => (HS.out X g).get hil)
          subst hao
          generalize l[i] = x at *
          obtain ⟨⟨kd, xa, xb, xn⟩, xl, xt⟩ := x
          simp only at s0 s1 s2 s3 s4 s5 HG
          by_cases h7 : kd = 7
          · subst h7
            have HD := Nl.doB H1.out H2.out BS.out (by omega) ⟨7, xa, xb, xn⟩ (iv xl) (iv xt)
            have ED : doT t ⟨7, xa, xb, xn⟩ = (t, 8) := by
              unfold doT
              rw [if_neg (show ¬ (7 : Int) = 1 by decide), if_neg (show ¬ (7 : Int) = 2 by decide), if_neg (show ¬ (7 : Int) = 3 by decide), if_neg (show ¬ ((7 : Int) = 4 ∨ (7 : Int) = 5 ∨ (7 : Int) = 6) by decide)]
            have EC : nextC c ⟨7, xa, xb, xn⟩ = c := by
              unfold nextC
              rw [if_neg (fun x => absurd x.1 (show ¬ (7 : Int) = 1 by decide))]
            rw [ED, EC] at HD
            have HD2 := hide HD
            clear HD ED EC
            simp only at HD2
            go_wp2_with (go_at_call 12; with_reducible refine HD2.out.mono ?_; rintro e V3 ⟨v1, rfl, A1', A2', A3'⟩; have A1 := hide A1'; have A2 := hide A2'; have A3 := hide A3'; clear A1' A2' A3')
            go_roundw
            case rel => exact ⟨i + 1, v1, V, c, t, by omega, by congr 1, A1, ⟨A2.out.h, A2.out.a, A2.out.l, fun k hk => by have := A2.out.g k hk; omega⟩, A3⟩
            case measure => simp [intOf]; omega
          · have k7 : (kd == 7) = false := by simpa using h7
            have SC : Hid (∀ W, Gr w W → W.cell? ⟨bn, on + i * 6, none⟩ = some (iv kd) ∧ W.cell? ⟨bn, on + i * 6 + 1, none⟩ = some (iv xa) ∧ W.cell? ⟨bn, on + i * 6 + 2, none⟩ = some (iv xb) ∧ W.cell? ⟨bn, on + i * 6 + 3, none⟩ = some (iv xn) ∧ W.cell? ⟨bn, on + i * 6 + 4, none⟩ = some (iv xl) ∧ W.cell? ⟨bn, on + i * 6 + 5, none⟩ = some (iv xt)) := fun W g => by
              obtain ⟨b', o', hbo, _, r⟩ := HG.out W g
              simp only [Option.some.injEq, Addr.mk.injEq] at hbo
              obtain ⟨rfl, rfl, _⟩ := hbo
              exact r
            have HDn := hide (Nl.doB (H1.out.ext (Gr.refl wr).drew) (H2.out.ext (Gr.refl wr).drew) (BS.out.gr (Gr.refl wr).drew) (by omega) ⟨kd, xa, xb, xn⟩ (iv xl) (iv xt))
            have HDt : Hid (∀ (W : World) (v1 : Value), Nl (fun b => b < V0.heap.size) V0 W p k q v1 (nextC c ⟨kd, xa, xb, xn⟩) (doT t ⟨kd, xa, xb, xn⟩).1 (i + 1) → Tl (fun b => b < V0.heap.size) V0 W P Q V o c t i → Beside W p k q v1 P Q V → Calls Try.prog 13 #[pv P, .agg #[iv kd, iv xa, iv xb, iv xn, iv xl, iv xt]] W fun e W' => ∃ V3, e = .returned (iv (doT t ⟨kd, xa, xb, xn⟩).2) ∧ Nl (fun b => b < V0.heap.size) V0 W' p k q v1 (nextC c ⟨kd, xa, xb, xn⟩) (doT t ⟨kd, xa, xb, xn⟩).1 (i + 1) ∧ Tl (fun b => b < V0.heap.size) V0 W' P Q V3 o (nextC c ⟨kd, xa, xb, xn⟩) (doT t ⟨kd, xa, xb, xn⟩).1 (i + 1) ∧ Beside W' p k q v1 P Q V3) := fun W v1 h1 h2 bs => Tl.doB h2 h1 bs (by omega) ⟨kd, xa, xb, xn⟩ h7 (iv xl) (iv xt)
            simp only at HDn
            generalize nextC c ⟨kd, xa, xb, xn⟩ = c1 at *
            generalize (doT t ⟨kd, xa, xb, xn⟩).1 = t1 at *
            generalize (doT t ⟨kd, xa, xb, xn⟩).2 = rc at *
            go_upto_region 12 with (fail)
            go_region_held3 (fun W => W.cell? ⟨bn, on + i * 6, none⟩ = some (iv kd) ∧ W.cell? ⟨bn, on + i * 6 + 1, none⟩ = some (iv xa) ∧ W.cell? ⟨bn, on + i * 6 + 2, none⟩ = some (iv xb) ∧ W.cell? ⟨bn, on + i * 6 + 3, none⟩ = some (iv xn) ∧ W.cell? ⟨bn, on + i * 6 + 4, none⟩ = some (iv xl) ∧ W.cell? ⟨bn, on + i * 6 + 5, none⟩ = some (iv xt)) (first | exact ⟨s0, s1, s2, s3, s4, s5⟩ | exact SC.out _ (gB.out _ _ _ _ _ D1.out) | exact SC.out _ (gB.out _ _ _ _ _ C1.out) | exact SC.out _ (gB.out _ _ _ _ _ A1.out) | go_keep) (first | (go_at_call 12; with_reducible refine HDn.out.mono ?_; rintro e V3 ⟨v1, rfl, A1', A2', A3'⟩; have A1 := hide A1'; have A2 := hide A2'; have A3 := hide A3'; clear A1' A2' A3') | (go_at_call 13; with_reducible refine (HDt.out _ _ A1.out A2.out A3.out).mono ?_; rintro e V4 ⟨V5, rfl, C1', C2', C3'⟩; have C1 := hide C1'; have C2 := hide C2'; have C3 := hide C3'; clear C1' C2' C3') | (go_at_call 14; with_reducible refine (sameNet_ok C1.out C2.out).mono ?_; rintro e V6 ⟨rfl, g6'⟩; have D1 := hide (C1.out.ext g6'); have D2 := hide (C2.out.ext g6'); have D3 := hide (C3.out.gr g6'); clear g6'))
            all_goals
              clear HDn HDt A1 A2 A3 C1 C2 C3 H1 H2 BS SC HG s0 s1 s2 s3 s4 s5 hbn
              go_wp2_with fail
              go_roundw
              case rel => exact ⟨i + 1, v1, V5, c1, t1, by omega, by congr 1, D1, D2, D3⟩
              case measure => simp [intOf]; omega
        · have hii : decide ((i : Int) < (n : Int)) = false := decide_eq_false (by omega)
          obtain ⟨pl, ok, hpl⟩ : ∃ pl ok, pathF (hopZ t z) z 7 fr [] = (pl, ok) := ⟨_, _, rfl⟩
          have HP1 : Hid (Calls Try.prog 15 #[pv p, iv fr, iv z] wr fun e w' => ∃ a1 m1 c1, e = .returned (.tuple #[.slice a1 m1 c1, .bool ok]) ∧ m1 = pl.length ∧ NumAt w' a1 pl ∧ Gr wr w') := (netPath_any H1.out.h fr z ((pathP_is _ _ _ _ _).trans hpl)).mono fun e w' ⟨u, he, ho, hg⟩ => by
            obtain ⟨a1, c1, hu, hn1⟩ := ho.shape
            exact ⟨a1, _, c1, by rw [he, hu], rfl, hn1, hg⟩
          have HP2 : Hid (∀ X, Gr wr X → Calls Try.prog 16 #[pv P, iv fr, iv z] X fun e w' => ∃ a2 m2 c2, e = .returned (.tuple #[.slice a2 m2 c2, .bool ok]) ∧ m2 = pl.length ∧ NumAt w' a2 pl ∧ Gr X w') := fun X g => (wpath_ok (H2.out.ext g).h fr z hpl).mono fun e w' ⟨u, he, ho, hg⟩ => by
            obtain ⟨a2, c2, hu, hn2⟩ := OwM.shape ho
            exact ⟨a2, _, c2, by rw [he, hu], rfl, hn2, hg⟩
          have hplen : pl.length ≤ 1000 := by
            have := path_len (hopZ t z) z 7 fr []
            rw [hpl] at this
            simp at this
            omega
          have HSI : Hid (∀ (X : World) (a1 a2 : Option Addr) (c1 c2 : Nat), NumAt X a1 pl → NumAt X a2 pl → Calls Try.prog 17 #[.slice a1 pl.length c1, .slice a2 pl.length c2] X fun e w' => e = .returned (.bool true) ∧ Gr X w') := fun X a1 a2 c1 c2 h1 h2 => sameInts_eq X a1 a2 pl.length c1 c2 pl h1 h2 rfl hplen
          have HW1 := hide (fun (X : World) (g : Gr wr X) => netWay_any (H1.out.ext g).h fr z)
          have HW2 := hide (fun (X : World) (g : Gr wr X) => wway_any (H2.out.ext g).h fr z)
          generalize wayTn t fr z = wv at *
          obtain ⟨ws, wd, wh⟩ := wv
          simp only [wayV] at HW1 HW2
          have HT1 : Hid (∀ X, Gr wr X → Calls Try.prog 20 #[pv p, iv R] X fun e w' => ∃ v1, e = .returned (.tuple #[]) ∧ Nl (fun b => b < V0.heap.size) V0 w' p k q v1 c (settleT t R.toNat) (i + 1) ∧ Tl (fun b => b < V0.heap.size) V0 w' P Q V o c t i ∧ Beside w' p k q v1 P Q V) := fun X g => ((H1.out.ext g).settle' (by omega) R (by omega)).mono fun e w' ⟨v1, he, hh, hf⟩ => ⟨v1, he, hh, (H2.out.ext g).beside (H1.out.ext g) (BS.out.gr g) hf⟩
          have HT2 : Hid (∀ (X : World) (v1 : Value), Nl (fun b => b < V0.heap.size) V0 X p k q v1 c (settleT t R.toNat) (i + 1) → Tl (fun b => b < V0.heap.size) V0 X P Q V o c t i → Beside X p k q v1 P Q V → Calls Try.prog 21 #[pv P, iv R] X fun e w' => ∃ V1, e = .returned (.tuple #[]) ∧ Nl (fun b => b < V0.heap.size) V0 w' p k q v1 c (settleT t R.toNat) (i + 1) ∧ Tl (fun b => b < V0.heap.size) V0 w' P Q V1 o c (settleT t R.toNat) (i + 1)) := fun X v1 h1 h2 bs => (h2.settle' (by omega) R (by omega)).mono fun e w' ⟨V1, he, hh, hf⟩ => ⟨V1, he, (h1.besideT h2 bs hf hh.h).1, hh⟩
          have HPL := hide hpl
          clear hpl hplen H1 H2 BS
          go_wp2_with (first
            | (go_at_call 15; with_reducible refine HP1.out.mono ?_; rintro e X1 ⟨a1, m1, e1, rfl, rfl, nm1', g1'⟩; have NM1 := hide nm1'; have G1 := hide g1'; clear nm1' g1')
            | (go_at_call 16; with_reducible refine (HP2.out _ G1.out).mono ?_; rintro e X2 ⟨a2, m2, e2, rfl, rfl, nm2', g2'⟩; have NM2 := hide nm2'; have NM3 := hide (NM1.out.gr g2'); have G2 := hide (G1.out.trans g2'); clear nm2' g2')
            | (go_at_call 17; with_reducible refine (HSI.out _ _ _ _ _ NM3.out NM2.out).mono ?_; rintro e X3 ⟨rfl, g3'⟩; have G3 := hide (G2.out.trans g3'); clear g3')
            | (go_at_call 18; with_reducible refine (HW1.out _ G3.out).mono ?_; rintro e _ ⟨rfl, x4, rfl⟩; have G4 := hide (G3.out.trans x4.gr))
            | (go_at_call 19; with_reducible refine (HW2.out _ G4.out).mono ?_; rintro e _ ⟨rfl, x5, rfl⟩; have G5 := hide (G4.out.trans x5.gr))
            | (go_at_call 20; with_reducible refine (HT1.out _ G5.out).mono ?_; rintro e X6 ⟨v1, rfl, A1', A2', A3'⟩; have A1 := hide A1'; have A2 := hide A2'; have A3 := hide A3'; clear A1' A2' A3')
            | (go_at_call 21; with_reducible refine (HT2.out _ _ A1.out A2.out A3.out).mono ?_; rintro e X7 ⟨V7, rfl, C1', C2'⟩; have C1 := hide C1'; have C2 := hide C2'; clear C1' C2')
            | (go_at_call 14; with_reducible refine (sameNet_ok C1.out C2.out).mono ?_; rintro e X8 ⟨rfl, g8'⟩; have G8 := hide ((gB.out _ _ _ _ _ C1.out).trans g8'); clear g8'))
          go_ret
          exact ⟨rfl, G8.out⟩

end Go.Proofs.Ythiojjkgodffnae
