/- handpostlaw.sameNet: a Net and a Town that are the same as numbers. -/
import Derived.Test.YthiojjkgodffnaeTw21a
namespace Go.Proofs.Ythiojjkgodffnae
open Go.RowKit
attribute [local go_sem] Ext.all Ext.cell Ext.frozen Ext.lt Ext.lt1 Ext.lt2 Ext.ne Ext.ne'

theorem Nl.costX {M : Nat → Prop} {B w : World} {p k : Nat} {q : Nat → Nat} {v : Value} {c : Nat → Nat → Nat} {t : Tn} {n : Nat} (H : Nl M B w p k q v c t n) {x y : Nat} (hx : x < 6) (hy : y < 6) (d : Ext w) : Calls Try.prog 23 #[pv k, iv (x : Int), iv (y : Int)] d.out fun e w' => e = .returned (iv (c x y : Int)) ∧ ∃ m : Ext w, w' = m.out :=
  (cost_nat (H.h.lk.gr d.gr) H.a.s.tc.lk hx hy).mono fun _ _ ⟨he, hw⟩ => ⟨he, d, hw⟩
set_option maxRecDepth 20000 in
set_option maxHeartbeats 32000000 in
theorem sameNet_ok {M : Nat → Prop} {B w : World} {p k P : Nat} {q Q : Nat → Nat} {v V o : Value} {c : Nat → Nat → Nat} {t : Tn} {n n' : Nat} (HN : Nl M B w p k q v c t n) (HT : Tl M B w P Q V o c t n') :
    Calls Try.prog 14 #[pv p, pv P] w fun e w' => e = .returned (.bool true) ∧ Gr w w' := by
  have H1 := hide HN
  have H2 := hide HT
  clear HN HT
  go_enter Try.func14, Try.ntmps14
  go_wp2_with fail
  go_loopw [5] (fun v5 wr => ∃ a : Nat, a ≤ 6 ∧ v5 = .int .i64 (a : Int) ∧ Hid (Gr w wr)) (fun v5 _ => (6 - intOf v5).toNat)
  case atStart => exact ⟨0, by omega, rfl, Gr.refl _⟩
  case round =>
    obtain ⟨a, ha6, rfl, gw⟩ := hrel
    by_cases ha : a < 6
    · have hai : decide ((a : Int) < 6) = true := decide_eq_true (by omega)
      have ha0 : (a : Int) < 6 := by omega
      have wa : IntKind.i64.wrap ((a : Int) + 1) = (a : Int) + 1 := by rw [IntKind.wrap_i64]; omega
      go_wp2_with fail
      go_loopw [6] (fun v6 wr => ∃ b : Nat, b ≤ 6 ∧ v6 = .int .i64 (b : Int) ∧ Hid (Gr w wr)) (fun v6 _ => (6 - intOf v6).toNat)
      case atStart => exact ⟨0, by omega, rfl, gw⟩
      case round =>
        clear gw
        obtain ⟨b, hb6, rfl, gw⟩ := hrel
        by_cases hb : b < 6
        · have hbi : decide ((b : Int) < 6) = true := decide_eq_true (by omega)
          have hb0 : (b : Int) < 6 := by omega
          have wb : IntKind.i64.wrap ((b : Int) + 1) = (b : Int) + 1 := by rw [IntKind.wrap_i64]; omega
          have HB := hide ((H1.out.ext gw.out).best ha hb)
          go_upto_region 8 with (go_at_call 22; with_reducible refine HB.out.mono ?_; rintro e _ ⟨rfl, d1, rfl⟩)
          have gw2 : Hid (Gr w d1.out) := gw.out.trans d1.gr
          clear HB gw
          generalize d1.out = U at *
          clear d1
          have T1 := hide (H1.out.ext gw2.out)
          have T2 := hide (H2.out.ext gw2.out)
          have hM := T2.out.h.six.at_ a ha
          obtain ⟨x0, x1, x2⟩ := hM.ways hb
          obtain ⟨z0, z1⟩ := hM.bests hb
          have hq := hM.lt
          have hP := T2.out.h.blk.lt
          have hp := T1.out.h.blk.lt
          have n0 := T2.out.h.node ha
          have m0 := T2.out.h.cst ha hb
          have l0 := T1.out.h.links
          rw [T2.out.a.s.tc.cst a b ha hb] at m0
          have HW := hide (fun (x : Ext U) => Calls.ext_of (d := x) ((T1.out.ext x.gr).way ha hb))
          have HCE := hide (fun (f : Ext U) => Nl.costX T1.out ha hb f)
          clear T1 T2 hM
          generalize (t.nd a).ways b = wv at *
          generalize (t.nd a).bests b = bv at *
          obtain ⟨ws, wd, wh⟩ := wv
          obtain ⟨bs, bd⟩ := bv
          simp only at x0 x1 x2 z0 z1 HW
          generalize c a b = cc at *
          simp only [List.append_eq, List.cons_append, List.nil_append]
          refine wp_region_ext (by kernel_rfl) (by kernel_rfl) ?_
          repeat (go_big_quiet_step (first | (go_at_call 18; with_reducible exact HW.out _) | (go_at_call 23; with_reducible exact HCE.out _)))
          refine wpQuiet_nil ?_
          rintro _ ⟨d6, rfl⟩
          go_wp2_with fail
          go_roundw
          case rel => exact ⟨b + 1, by omega, by congr 1, gw2.out.trans d6.gr⟩
          case measure => simp [intOf]; omega
        · have hbi : decide ((b : Int) < 6) = false := decide_eq_false (by omega)
          go_wp2_with fail
          go_roundw
          case rel => exact ⟨a + 1, by omega, by congr 1, gw⟩
          case measure => simp [intOf]; omega
    · have hai : decide ((a : Int) < 6) = false := decide_eq_false (by omega)
      have T1 := hide (H1.out.ext gw.out)
      have T2 := hide (H2.out.ext gw.out)
      have c2 := T2.out.h.news
      have hP := T2.out.h.blk.lt
      obtain ⟨ao2, cp2, hV, NV', _⟩ := T2.out.h.nw.shape
      rw [newsL_len] at hV
      subst hV
      have NV := hide NV'
      clear NV'
      have HNC : Hid (∀ (X : World), Gr wr X → Calls Try.prog 27 #[pv p] X fun e w' => ∃ ao1 cp1, e = .returned (.slice ao1 t.news.length cp1) ∧ NewsAt w' ao1 (newsL t.news) ∧ Gr X w' ∧ (w'.cell? ⟨P, 42, none⟩ = some (.slice ao2 t.news.length cp2) ∧ P < w'.heap.size)) := fun X g => (netNews_any (T1.out.ext g).h T1.out.l).mono fun e w' ⟨u, he, ho, hg⟩ => by
        obtain ⟨ao1, cp1, hu, hn1, _⟩ := OwnN.shape ho
        rw [newsL_len] at hu
        have hT := (T2.out.ext g).ext hg
        exact ⟨ao1, cp1, by rw [he, hu], hn1, hg, hT.h.news, hT.h.blk.lt⟩
      have HSN : Hid (∀ (X : World) (a1 : Option Addr) (c1 : Nat), Gr wr X → NewsAt X a1 (newsL t.news) → X.cell? ⟨P, 42, none⟩ = some (.slice ao2 t.news.length cp2) → P < X.heap.size → Calls Try.prog 28 #[.slice a1 t.news.length c1, .slice ao2 t.news.length cp2] X fun e w' => e = .returned (.bool true) ∧ Gr X w' ∧ w'.cell? ⟨P, 42, none⟩ = some (.slice ao2 t.news.length cp2)) := fun X a1 c1 g h1 h2 h3 => (sameNews_same (newsL_len _) (by have := T1.out.l; omega) h1 (NV.out.gr g)).mono fun e w' ⟨he, d, hd⟩ => ⟨he, by rw [hd]; exact d.gr, by rw [hd]; exact (d.cell P 42 h3).trans h2⟩
      have GW := hide gw.out
      go_upto_region 10 with (fail)
      go_region_held3 (fun W => W.cell? ⟨P, 42, none⟩ = some (.slice ao2 t.news.length cp2)) (first | exact c2 | exact k7.1 | exact k8 | go_keep) (first | (go_at_call 27; with_reducible refine (HNC.out _ (Gr.refl _).drew).mono ?_; rintro e V7 ⟨a1, cp1, rfl, nw1', g7', k7⟩; have NW1 := hide nw1'; have G7 := hide ((Gr.refl wr).drew.trans g7'); have l7 := k7.2; clear nw1' g7') | (go_at_call 28; with_reducible refine (HSN.out _ _ _ G7.out NW1.out k7.1 k7.2).mono ?_; rintro e V8 ⟨rfl, g8', k8⟩; have G8 := hide g8'; clear g8'))
      all_goals
        go_wp2_with fail
        go_ret
        exact ⟨rfl, (GW.out.trans G7.out).trans G8.out⟩

end Go.Proofs.Ythiojjkgodffnae
