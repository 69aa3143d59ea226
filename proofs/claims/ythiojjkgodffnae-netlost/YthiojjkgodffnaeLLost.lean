/- handpostlaw.NetLost ANSWERS true. -/
import Derived.Test.YthiojjkgodffnaeLNt
import Derived.Test.YthiojjkgodffnaeSNw
import Derived.Deep.LoopGhost
namespace Go.Proofs.Ythiojjkgodffnae
open Go.RowKit
attribute [local go_sem] Ext.all Ext.cell Ext.frozen Ext.lt Ext.lt1 Ext.lt2 Ext.ne Ext.ne'

theorem dropAt_app (A L : List Nw) (r : Nat) : dropAt (A ++ L.drop r) A.length = A ++ L.drop (r + 1) := by
  unfold dropAt
  rw [List.take_left, List.drop_append]
  have e : List.drop (A.length + 1) A = [] := List.drop_eq_nil_of_le (by omega)
  rw [e, List.nil_append, show A.length + 1 - A.length = 1 by omega, List.drop_drop]
theorem say_zero {t : Tn} {a b : Int} (h : (sayC t a b).2 = 0) : (sayC t a b).1 = sayT t a.toNat b.toNat := by
  unfold sayC at h ⊢
  split at h
  · cases h
  · rename_i h1
    rw [if_neg h1]
    split at h
    · cases h
    · rename_i h2
      rw [if_neg h2]
      split at h
      · cases h
      · rename_i h3
        rw [if_neg h3]
theorem say_not {t : Tn} {a b : Int} (h : (sayC t a b).2 ≠ 0) : (sayC t a b).1 = t := by
  unfold sayC at h ⊢
  split
  · rfl
  · rename_i h1
    rw [if_neg h1] at h
    split
    · rfl
    · rename_i h2
      rw [if_neg h2] at h
      split
      · rfl
      · rename_i h3
        rw [if_neg h3] at h
        exact absurd rfl h
/-- One of the last news is lost. -/
theorem lose_one {t : Tn} {L : List Nw} {r : Nat} (hr : r < L.length) : doT { t with news := t.news ++ L.drop r } ⟨5, 0, 0, (t.news.length : Int)⟩ = ({ t with news := t.news ++ L.drop (r + 1) }, 0) := by
  unfold doT
  rw [if_neg (show ¬ (5 : Int) = 1 by decide), if_neg (show ¬ (5 : Int) = 2 by decide), if_neg (show ¬ (5 : Int) = 3 by decide), if_pos (.inr (.inl rfl))]
  unfold newsC
  have hl : 0 ≤ (t.news.length : Int) ∧ ((t.news.length : Int)).toNat < ({ t with news := t.news ++ L.drop r } : Tn).news.length := ⟨by omega, by
    show ((t.news.length : Int)).toNat < (t.news ++ L.drop r).length
    rw [List.length_append, List.length_drop, Int.toNat_natCast]; omega⟩
  rw [dif_pos hl, if_neg (show ¬ (5 : Int) = 6 by decide), if_neg (show ¬ (5 : Int) = 4 by decide)]
  show ({ t with news := dropAt (t.news ++ L.drop r) ((t.news.length : Int)).toNat }, (0 : Int)) = _
  rw [Int.toNat_natCast, dropAt_app]

section
variable {M : Nat → Prop} {B w w' : World} {p k p' k' : Nat} {q q' : Nat → Nat} {v v' v1 : Value} {c c' : Nat → Nat → Nat} {t t' : Tn} {n n' : Nat}
theorem Nl.base {V : World} (h : Nl M V w p k q v c t n) (hk : Kp M B V) (bd : ∀ b, M b → b < B.heap.size) : Nl M B w p k q v c t n :=
  ⟨⟨hk.trans h.h.kp, bd, h.h.blk, h.h.lk, h.h.six, h.h.nw, h.h.nop, h.h.nok, h.h.noq, h.h.nov⟩, h.a, h.l, h.g⟩
/-- A step of the one, the other one beside it. -/
theorem Nl.do2 (H : Nl M B w p k q v c t n) (H' : Nl M B w p' k' q' v' c' t' n') (ap : Apart w p k q v p' k' q' v') (hn : n ≤ 100000) (x : Sp) (X Y : Value) :
    Calls Try.prog 12 #[pv p, .agg #[iv x.k, iv x.a, iv x.b, iv x.n, X, Y]] w fun e w' => ∃ v1, e = .returned (iv (doT t x).2) ∧ Nl M B w' p k q v1 (nextC c x) (doT t x).1 (n + 1) ∧ Nl M B w' p' k' q' v' c' t' n' ∧ Apart w' p k q v1 p' k' q' v' :=
  (H.do' hn x X Y).mono fun _ _ ⟨v1, he, hh, hf⟩ => ⟨v1, he, hh, H'.beside H ap hf⟩
theorem Nl.newsCall (H : Nl M B w p k q v c t n) : Calls Try.prog 27 #[pv p] w fun e w' => ∃ ao2 n2 cp2, e = .returned (.slice ao2 n2 cp2) ∧ n2 = t.news.length ∧ NewsAt w' ao2 (newsL t.news) ∧ Gr w w' :=
  (netNews_any H.h H.l).mono fun e w' ⟨u, he, ho, hg⟩ => by
    obtain ⟨ao2, cp2, hu, hn2, _⟩ := OwnN.shape ho
    rw [newsL_len] at hu
    exact ⟨ao2, _, cp2, by rw [he, hu], rfl, hn2, hg⟩
end

set_option maxRecDepth 20000 in
set_option maxHeartbeats 32000000 in
theorem netLost_any (w : World) (ao : Option Addr) (n cp : Nat) (l : List Sx) (a b : Int) (H : SpAt w ao l) (hn : l.length = n) :
    Calls Try.prog 7 #[.slice ao n cp, iv a, iv b] w fun e w' => e = .returned (.bool true) ∧ Gr w w' := by
  have HS := hide (fun (X : World) (g : Gr w X) => H.gr g)
  have HNL := hide hn
  clear H hn
  go_enter Try.func7, Try.ntmps7
  go_upto_region 3 with (go_at_call 9; with_reducible refine (netBegun_ok _).mono ?_; rintro e V0 ⟨rfl, g0'⟩; have G0 := hide g0'; clear g0')
  by_cases h150 : 150 < n
  · have gd : decide ((150 : Int) < (n : Int)) = true := decide_eq_true (by omega)
    go_wp2_with fail
    go_ret
    exact ⟨rfl, G0.out⟩
  · have gd : decide ((150 : Int) < (n : Int)) = false := decide_eq_false (by omega)
    have HNN := hide (netNew_nl V0 (fun b => b < V0.heap.size) (fun _ h => h))
    have HNM : Hid (∀ (V1 : World) (p k : Nat) (q : Nat → Nat) (v : Value), Nl (fun b => b < V0.heap.size) V0 V1 p k q v (fun _ _ => 0) newT 0 → Calls Try.prog 10 #[] V1 fun e V => ∃ p2 k2 q2 v2, e = .returned (pv p2) ∧ Nl (fun b => b < V0.heap.size) V0 V p k q v (fun _ _ => 0) newT 0 ∧ Nl (fun b => b < V0.heap.size) V0 V p2 k2 q2 v2 (fun _ _ => 0) newT 0 ∧ Apart V p k q v p2 k2 q2 v2) := fun V1 p k q v h =>
      (netNew_nl V1 (fun b => b < V0.heap.size) (fun b hb => Nat.lt_of_lt_of_le hb h.h.kp.size)).mono fun e V ⟨p2, k2, q2, v2, he, hh, hg, o1, o2, o3, o4⟩ =>
        ⟨p2, k2, q2, v2, he, h.ext hg, hh.base h.h.kp (fun _ hb => hb), fun b hb => h.h.notOwn hg (by
          rcases hb with rfl | rfl | ⟨a, ha, rfl⟩ | e
          · exact o1
          · exact o2
          · exact o3 a ha
          · exact o4 b e) (hh.h.own_lt hb)⟩
    go_upto_region 7 with (first | (go_at_call 10; with_reducible refine HNN.out.mono ?_; rintro e V1 ⟨p, k, q, v, rfl, H0', z1'⟩; have H0 := hide H0'; clear H0' z1') | (go_at_call 10; with_reducible refine (HNM.out _ _ _ _ _ H0.out).mono ?_; rintro e V2 ⟨p2, k2, q2, v2, rfl, H1', H2', ap'⟩; have H1 := hide H1'; have H2 := hide H2'; have AP := hide ap'; clear H1' H2' ap'))
    clear H0 HNN HNM
    go_loopw [9] (fun v9 wr => ∃ (i : Nat) (v v2 : Value) (c : Nat → Nat → Nat) (t : Tn), i ≤ n ∧ v9 = .int .i64 (i : Int) ∧ Hid (Nl (fun b => b < V0.heap.size) V0 wr p k q v c t i) ∧ Hid (Nl (fun b => b < V0.heap.size) V0 wr p2 k2 q2 v2 c t i) ∧ Hid (Apart wr p k q v p2 k2 q2 v2)) (fun v9 _ => (n - intOf v9).toNat)
    case atStart => exact ⟨0, v, v2, _, newT, by omega, rfl, H1, H2, AP⟩
    case round =>
      clear H1 H2 AP v v2
      obtain ⟨i, v, v2, c, t, hin, rfl, H1, H2, AP⟩ := hrel
      have gB : Hid (∀ (W : World) (p k : Nat) (q : Nat → Nat) (v : Value) (c : Nat → Nat → Nat) (t : Tn) (m : Nat), Nl (fun b => b < V0.heap.size) V0 W p k q v c t m → Gr w W) := fun W p k q v c t m h => G0.out.trans (h.h.kp.below (Nat.le_refl _) (fun _ h => h))
      by_cases hi : i < n
      · have hii : decide ((i : Int) < (n : Int)) = true := decide_eq_true (by omega)
        have hi0 : (i : Int) < (n : Int) := by omega
        have hil : i < l.length := by have := HNL.out; omega
        have wi : IntKind.i64.wrap ((i : Int) + 1) = (i : Int) + 1 := by rw [IntKind.wrap_i64]; omega
        obtain ⟨bn, on, hao, hbn, s0, s1, s2, s3, s4, s5⟩ := (HS.out _ (gB.out _ _ _ _ _ _ _ _ H1.out)).get hil
        have HG := hide (fun (X : World) (g : Gr w X) => (HS.out X g).get hil)
        subst hao
        generalize l[i] = x at *
        obtain ⟨⟨kd, xa, xb, xn⟩, xl, xt⟩ := x
        simp only at s0 s1 s2 s3 s4 s5 HG
        have SC : Hid (∀ W, Gr w W → W.cell? ⟨bn, on + i * 6, none⟩ = some (iv kd) ∧ W.cell? ⟨bn, on + i * 6 + 1, none⟩ = some (iv xa) ∧ W.cell? ⟨bn, on + i * 6 + 2, none⟩ = some (iv xb) ∧ W.cell? ⟨bn, on + i * 6 + 3, none⟩ = some (iv xn) ∧ W.cell? ⟨bn, on + i * 6 + 4, none⟩ = some (iv xl) ∧ W.cell? ⟨bn, on + i * 6 + 5, none⟩ = some (iv xt)) := fun W g => by
          obtain ⟨b', o', hbo, _, r⟩ := HG.out W g
          simp only [Option.some.injEq, Addr.mk.injEq] at hbo
          obtain ⟨rfl, rfl, _⟩ := hbo
          exact r
        have HDn := hide (Nl.do2 (H1.out.ext (Gr.refl wr).drew) (H2.out.ext (Gr.refl wr).drew) (AP.out.gr (Gr.refl wr).drew) (by omega) ⟨kd, xa, xb, xn⟩ (iv xl) (iv xt))
        have HDm : Hid (∀ (V : World) (v1 : Value), Nl (fun b => b < V0.heap.size) V0 V p k q v1 (nextC c ⟨kd, xa, xb, xn⟩) (doT t ⟨kd, xa, xb, xn⟩).1 (i + 1) → Nl (fun b => b < V0.heap.size) V0 V p2 k2 q2 v2 c t i → Apart V p k q v1 p2 k2 q2 v2 → Calls Try.prog 12 #[pv p2, .agg #[iv kd, iv xa, iv xb, iv xn, iv xl, iv xt]] V fun e W => ∃ v3, e = .returned (iv (doT t ⟨kd, xa, xb, xn⟩).2) ∧ Nl (fun b => b < V0.heap.size) V0 W p k q v1 (nextC c ⟨kd, xa, xb, xn⟩) (doT t ⟨kd, xa, xb, xn⟩).1 (i + 1) ∧ Nl (fun b => b < V0.heap.size) V0 W p2 k2 q2 v3 (nextC c ⟨kd, xa, xb, xn⟩) (doT t ⟨kd, xa, xb, xn⟩).1 (i + 1) ∧ Apart W p k q v1 p2 k2 q2 v3) := fun V v1 h1 h2 ap =>
          (Nl.do2 h2 h1 (ap.symm h1.h) (by omega) ⟨kd, xa, xb, xn⟩ (iv xl) (iv xt)).mono fun e W ⟨v3, he, hh, hb, hq⟩ => ⟨v3, he, hb, hh, hq.symm hh.h⟩
        simp only at HDn
        generalize nextC c ⟨kd, xa, xb, xn⟩ = c1 at *
        generalize (doT t ⟨kd, xa, xb, xn⟩).1 = t1 at *
        generalize (doT t ⟨kd, xa, xb, xn⟩).2 = rc at *
        go_upto_region 9 with (fail)
        go_region_held3 (fun W => W.cell? ⟨bn, on + i * 6, none⟩ = some (iv kd) ∧ W.cell? ⟨bn, on + i * 6 + 1, none⟩ = some (iv xa) ∧ W.cell? ⟨bn, on + i * 6 + 2, none⟩ = some (iv xb) ∧ W.cell? ⟨bn, on + i * 6 + 3, none⟩ = some (iv xn) ∧ W.cell? ⟨bn, on + i * 6 + 4, none⟩ = some (iv xl) ∧ W.cell? ⟨bn, on + i * 6 + 5, none⟩ = some (iv xt)) (first | exact ⟨s0, s1, s2, s3, s4, s5⟩ | exact SC.out _ (gB.out _ _ _ _ _ _ _ _ C1.out) | exact SC.out _ (gB.out _ _ _ _ _ _ _ _ A1.out) | go_keep) (first | (go_at_call 12; with_reducible refine HDn.out.mono ?_; rintro e V3 ⟨v1, rfl, A1', A2', A3'⟩; have A1 := hide A1'; have A2 := hide A2'; have A3 := hide A3'; clear A1' A2' A3') | (go_at_call 12; with_reducible refine (HDm.out _ _ A1.out A2.out A3.out).mono ?_; rintro e V4 ⟨v3, rfl, C1', C2', C3'⟩; have C1 := hide C1'; have C2 := hide C2'; have C3 := hide C3'; clear C1' C2' C3'))
        all_goals
          clear HDn HDm A1 A2 A3 H1 H2 AP SC HG s0 s1 s2 s3 s4 s5 hbn
          have HN1 := hide C1.out.newsCall
          go_upto_region 12 with (go_at_call 27; with_reducible refine HN1.out.mono ?_; rintro e V5 ⟨ao2, n2, cp2, rfl, rfl, z5, g5'⟩; have D1 := hide (C1.out.ext g5'); have D2 := hide (C2.out.ext g5'); have D3 := hide (C3.out.gr g5'); clear g5' z5)
          clear HN1 C1 C2 C3
          have HTL := Nl.do2 D1.out D2.out D3.out (by omega) ⟨3, a, b, 0⟩ (iv 0) (iv 0)
          have ET : doT t1 ⟨3, a, b, 0⟩ = sayC t1 a b := by
            unfold doT
            rw [if_neg (show ¬ (3 : Int) = 1 by decide), if_neg (show ¬ (3 : Int) = 2 by decide), if_pos rfl]
          have EC : nextC c1 ⟨3, a, b, 0⟩ = c1 := by
            unfold nextC
            rw [if_neg (fun x => absurd x.1 (show ¬ (3 : Int) = 1 by decide))]
          rw [ET, EC] at HTL
          clear ET EC
          have HT2 := hide HTL
          clear HTL
          simp only at HT2
          by_cases hsc : (sayC t1 a b).2 = 0
          · rw [hsc, say_zero hsc] at HT2
            clear hsc
            have hL6 : (tellT t1 a.toNat b.toNat).length = 6 := by simp [tellT]
            unfold sayT at HT2
            generalize tellT t1 a.toNat b.toNat = L at *
            have HL6 := hide hL6
            clear hL6
            go_upto_region 13 with (go_at_call 12; with_reducible refine HT2.out.mono ?_; rintro e V6 ⟨v5, rfl, E1', E2', E3'⟩; have E1 := hide E1'; have E2 := hide E2'; have E3 := hide E3'; clear E1' E2' E3')
            clear HT2 D1 D2 D3
            go_loopg [48] 6 (fun g v48 wr => ∃ (v6 : Value) (r : Nat), r + g = 6 ∧ Hid (Nl (fun b => b < V0.heap.size) V0 wr p k q v6 c1 { t1 with news := t1.news ++ L.drop r } (i + 2 + r)) ∧ Hid (Nl (fun b => b < V0.heap.size) V0 wr p2 k2 q2 v3 c1 t1 (i + 1)) ∧ Hid (Apart wr p k q v6 p2 k2 q2 v3))
            case atStart => exact ⟨v5, 0, rfl, E1, E2, E3⟩
            case round =>
              clear E1 E2 E3
              obtain ⟨v6, r, hrg, E1, E2, E3⟩ := hrel
              have HN1 := hide E1.out.newsCall
              simp only at HN1
              have HLN : Hid ((t1.news ++ L.drop r).length = t1.news.length + (6 - r)) := by
                unfold Hid
                rw [List.length_append, List.length_drop, HL6.out]
              have HLS : Hid (∀ V : World, r < 6 → Gr wr V → Calls Try.prog 12 #[pv p, .agg #[iv 5, iv 0, iv 0, iv (t1.news.length : Int), iv 0, iv 0]] V fun e W => ∃ v7, e = .returned (iv 0) ∧ Nl (fun b => b < V0.heap.size) V0 W p k q v7 c1 { t1 with news := t1.news ++ L.drop (r + 1) } (i + 2 + (r + 1)) ∧ Nl (fun b => b < V0.heap.size) V0 W p2 k2 q2 v3 c1 t1 (i + 1) ∧ Apart W p k q v7 p2 k2 q2 v3) := fun V hr g => by
                have h := Nl.do2 (E1.out.ext g) (E2.out.ext g) (E3.out.gr g) (by omega) ⟨5, 0, 0, (t1.news.length : Int)⟩ (iv 0) (iv 0)
                have EC : nextC c1 ⟨5, 0, 0, (t1.news.length : Int)⟩ = c1 := by
                  unfold nextC
                  rw [if_neg (fun x => absurd x.1 (show ¬ (5 : Int) = 1 by decide))]
                rw [lose_one (by rw [HL6.out]; exact hr), EC] at h
                exact h
              by_cases hr : r < 6
              · go_wp2_with (first | (go_at_call 27; with_reducible refine HN1.out.mono ?_; rintro e V7 ⟨ao3, n3, cp3, rfl, hn3, z7, g7'⟩; have hd3 : t1.news.length < n3 := (by have := HLN.out; omega); have hd4 : decide (t1.news.length < n3) = true := decide_eq_true hd3; have G7 := hide g7'; clear g7' z7 hn3) | (go_at_call 12; with_reducible refine (HLS.out _ hr G7.out).mono ?_; rintro e V8 ⟨v7, rfl, F1', F2', F3'⟩; have F1 := hide F1'; have F2 := hide F2'; have F3 := hide F3'; clear F1' F2' F3'))
                go_roundg (gk - 1)
                case measure => omega
                case rel => exact ⟨v7, r + 1, by omega, F1, F2, F3⟩
              · have e6 : ({ t1 with news := t1.news ++ L.drop r } : Tn) = t1 := by
                  rw [List.drop_eq_nil_of_le (by rw [HL6.out]; omega), List.append_nil]
                rw [e6] at E1
                have E1b : Hid (Nl (fun b => b < V0.heap.size) V0 wr p k q v6 c1 t1 (i + 1)) := ⟨E1.out.h, E1.out.a, E1.out.l, E2.out.g⟩
                clear e6 E1
                go_wp2_with (go_at_call 27; with_reducible refine HN1.out.mono ?_; rintro e V7 ⟨ao3, n3, cp3, rfl, hn3, z7, g7'⟩; have hd3 : ¬ t1.news.length < n3 := (by have := HLN.out; omega); have hd4 : decide (t1.news.length < n3) = false := decide_eq_false hd3; have G7 := hide g7'; clear g7' z7 hn3)
                go_roundw
                case rel => exact ⟨i + 1, v6, v3, c1, t1, by omega, by congr 1, E1b.out.ext G7.out, E2.out.ext G7.out, E3.out.gr G7.out⟩
                case measure => simp [intOf]; omega
          · rw [say_not hsc] at HT2
            have hsb : ((sayC t1 a b).2 == 0) = false := by simpa using hsc
            have hsb2 : ((sayC t1 a b).2 != 0) = true := by simpa using hsc
            generalize (sayC t1 a b).2 = sc at *
            go_wp2_with (go_at_call 12; with_reducible refine HT2.out.mono ?_; rintro e V6 ⟨v5, rfl, E1', E2', E3'⟩; have E1 := hide E1'; have E2 := hide E2'; have E3 := hide E3'; clear E1' E2' E3')
            go_roundw
            case rel => exact ⟨i + 1, v5, v3, c1, t1, by omega, by congr 1, ⟨E1.out.h, E1.out.a, E1.out.l, E2.out.g⟩, E2, E3⟩
            case measure => simp [intOf]; omega
      · have hii : decide ((i : Int) < (n : Int)) = false := decide_eq_false (by omega)
        clear AP
        go_wp2_with fail
        go_loopw [11] (fun v11 wr => ∃ x : Nat, x ≤ 6 ∧ v11 = .int .i64 (x : Int) ∧ Hid (Nl (fun b => b < V0.heap.size) V0 wr p k q v c t i) ∧ Hid (Nl (fun b => b < V0.heap.size) V0 wr p2 k2 q2 v2 c t i)) (fun v11 _ => (6 - intOf v11).toNat)
        case atStart => exact ⟨0, by omega, rfl, H1, H2⟩
        case round =>
          clear H1 H2
          obtain ⟨x, hx6, rfl, H1, H2⟩ := hrel
          by_cases hx : x < 6
          · have hxi : decide ((x : Int) < 6) = true := decide_eq_true (by omega)
            have wx : IntKind.i64.wrap ((x : Int) + 1) = (x : Int) + 1 := by rw [IntKind.wrap_i64]; omega
            go_wp2_with fail
            go_loopw [12] (fun v12 wr => ∃ y : Nat, y ≤ 6 ∧ v12 = .int .i64 (y : Int) ∧ Hid (Nl (fun b => b < V0.heap.size) V0 wr p k q v c t i) ∧ Hid (Nl (fun b => b < V0.heap.size) V0 wr p2 k2 q2 v2 c t i)) (fun v12 _ => (6 - intOf v12).toNat)
            case atStart => exact ⟨0, by omega, rfl, H1, H2⟩
            case round =>
              clear H1 H2
              obtain ⟨y, hy6, rfl, H1, H2⟩ := hrel
              by_cases hy : y < 6
              · have hyi : decide ((y : Int) < 6) = true := decide_eq_true (by omega)
                have wy : IntKind.i64.wrap ((y : Int) + 1) = (y : Int) + 1 := by rw [IntKind.wrap_i64]; omega
                have HW1 := hide (H1.out.way hx hy)
                have HW2 := hide (fun (d : Ext wr) => (H2.out.ext d.gr).way hx hy)
                generalize (t.nd x).ways y = wv at *
                obtain ⟨ws, wd, wh⟩ := wv
                simp only at HW1 HW2
                go_wp2_with (first | (go_at_call 18; with_reducible refine HW1.out.mono ?_; rintro e _ ⟨rfl, d1, rfl⟩) | (go_at_call 18; with_reducible refine (HW2.out d1).mono ?_; rintro e _ ⟨rfl, d2, rfl⟩))
                go_roundw
                case rel => exact ⟨y + 1, by omega, by congr 1, H1.out.ext (d1.gr.trans d2.gr), H2.out.ext (d1.gr.trans d2.gr)⟩
                case measure => simp [intOf]; omega
              · have hyi : decide ((y : Int) < 6) = false := decide_eq_false (by omega)
                go_wp2_with fail
                go_roundw
                case rel => exact ⟨x + 1, by omega, by congr 1, H1, H2⟩
                case measure => simp [intOf]; omega
          · have hxi : decide ((x : Int) < 6) = false := decide_eq_false (by omega)
            have HN1 := hide H1.out.newsCall
            have HN2 := hide (fun (V : World) (g : Gr wr V) => (H2.out.ext g).newsCall)
            have HLN := hide H1.out.l
            have HSN : Hid (∀ (V : World) (a1 a2 : Option Addr) (c1 c2 : Nat), NewsAt V a1 (newsL t.news) → NewsAt V a2 (newsL t.news) → Calls Try.prog 28 #[.slice a1 t.news.length c1, .slice a2 t.news.length c2] V fun e w' => e = .returned (.bool true) ∧ ∃ x : Ext V, w' = x.out) := fun V a1 a2 c1 c2 h1 h2 => sameNews_same (newsL_len _) (by have := HLN.out; omega) h1 h2
            have GW := hide (gB.out _ _ _ _ _ _ _ _ H1.out)
            go_wp2_with (first | (go_at_call 27; with_reducible refine HN1.out.mono ?_; rintro e V7 ⟨a1, n1, cp1, rfl, rfl, nw1', g7'⟩; have NW1 := hide nw1'; have G7 := hide g7'; clear nw1' g7') | (go_at_call 27; with_reducible refine (HN2.out _ G7.out).mono ?_; rintro e V8 ⟨a2, n2, cp2, rfl, rfl, nw2', g8'⟩; have NW2 := hide nw2'; have G8 := hide g8'; clear nw2' g8') | (go_at_call 28; with_reducible refine (HSN.out _ _ _ _ _ (NW1.out.gr G8.out) NW2.out).mono ?_; rintro e _ ⟨rfl, x9, rfl⟩))
            go_ret
            exact ⟨rfl, ((GW.out.trans G7.out).trans G8.out).trans x9.gr⟩

end Go.Proofs.Ythiojjkgodffnae
