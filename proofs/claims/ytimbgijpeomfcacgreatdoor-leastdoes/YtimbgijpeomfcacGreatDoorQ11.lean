import Derived.Test.YtimbgijpeomfcacGreatDoorQ9
import Derived.Test.YtimbgijpeomfcacGreatDoorS12
import Derived.Test.YtimbgijpeomfcacGreatDoorChMem
import Derived.Deep.RegionHeld3
import Derived.Deep.DeepCutAuto
/- LISTS OF CHANGES OF A CALL's OWN; CONTRACT OF package least: Diff. -/
namespace Go.Proofs.YtimbgijpeomfcacGreatDoor
open Go.RowKit Go.Sort Go.Lib
attribute [local go_sem] Ext.all Ext.cell Ext.frozen Ext.lt Ext.lt1 Ext.lt2 Ext.ne Ext.ne'

theorem TabS.getGr {B : World} {M : Nat → Prop} {tb : Nat} {v : Value} {rs : List Rt} {l b x : Int} (h : TabS B M tb v rs) (hT : Tab rs) (e : getL rs l b = x) (wX : World) (gX : Gr B wX) :
    Calls Tryz.prog 29 #[pv tb, pfx l b] wX fun e w' => e = .returned (iv x) ∧ Gr wX w' := by
  refine (get_is (h.gr gX) hT e ⟨wX, Gr.refl wX⟩).mono ?_
  rintro e w' ⟨rfl, d, rfl⟩
  exact ⟨rfl, d.gr⟩

/-- Cells of changes. -/
def chel (c : Ch) : List Value := [iv c.1, iv c.2.1, iv c.2.2.1, iv c.2.2.2]
def chels (cs : List Ch) : List Value := cs.flatMap chel
theorem chels_append (a b : List Ch) : chels (a ++ b) = chels a ++ chels b := by simp [chels]
theorem chels_length : ∀ cs : List Ch, (chels cs).length = cs.length * 4
  | [] => rfl
  | c :: cs => by
    show (chel c ++ chels cs).length = _
    rw [List.length_append, chels_length cs]; simp [chel]; omega
theorem chels_one : ∀ (cs : List Ch), ∀ u ∈ chels cs, u.oneCell' = true
  | [], u, h => by cases h
  | c :: cs, u, h => by
    have : u = iv c.1 ∨ u = iv c.2.1 ∨ u = iv c.2.2.1 ∨ u = iv c.2.2.2 ∨ u ∈ chels cs := by simpa [chels, chel] using h
    rcases this with rfl | rfl | rfl | rfl | h
    · rfl
    · rfl
    · rfl
    · rfl
    · exact chels_one cs u h
theorem chels_at : ∀ (cs : List Ch) (i : Nat) (h : i < cs.length), (chels cs)[i * 4]? = some (iv cs[i].1) ∧ (chels cs)[i * 4 + 1]? = some (iv cs[i].2.1) ∧ (chels cs)[i * 4 + 2]? = some (iv cs[i].2.2.1) ∧ (chels cs)[i * 4 + 3]? = some (iv cs[i].2.2.2)
  | c :: cs, 0, _ => by simp [chels, chel]
  | c :: cs, i + 1, h => by
    have ih := chels_at cs i (by simpa using h)
    show (iv c.1 :: iv c.2.1 :: iv c.2.2.1 :: iv c.2.2.2 :: chels cs)[(i + 1) * 4]? = _ ∧ (iv c.1 :: iv c.2.1 :: iv c.2.2.1 :: iv c.2.2.2 :: chels cs)[(i + 1) * 4 + 1]? = _ ∧ (iv c.1 :: iv c.2.1 :: iv c.2.2.1 :: iv c.2.2.2 :: chels cs)[(i + 1) * 4 + 2]? = _ ∧ (iv c.1 :: iv c.2.1 :: iv c.2.2.1 :: iv c.2.2.2 :: chels cs)[(i + 1) * 4 + 3]? = _
    rw [show (i + 1) * 4 = i * 4 + 4 by omega, show i * 4 + 4 + 1 = i * 4 + 1 + 4 by omega, show i * 4 + 4 + 2 = i * 4 + 2 + 4 by omega, show i * 4 + 4 + 3 = i * 4 + 3 + 4 by omega]
    simpa using ih
/-- A list of changes in memory that is younger than B. -/
def OwnC (B w : World) (v : Value) (cs : List Ch) : Prop := w.ownsRow B.heap.size 60 4 v cs.length (chels cs)
theorem OwnC.gr {B w w' : World} {v : Value} {cs : List Ch} (h : OwnC B w v cs) (g : Gr w w') : OwnC B w' v cs := own_gr h g
theorem OwnC.nil (B w : World) : OwnC B w (.slice none 0 0) [] := World.ownsRow_nil _ _ _ _
theorem OwnC.shape {B w : World} {v : Value} {cs : List Ch} (h : OwnC B w v cs) : ∃ ao c, v = .slice ao cs.length c ∧ ChAt w (fun k => B.heap.size ≤ k) ao cs := by
  rcases h.2 with ⟨rfl, h2⟩ | ⟨g, cap, cur, h1, hb, hg, hn, hc, hs, ht⟩
  · have : cs = [] := List.eq_nil_of_length_eq_zero h2
    subst this
    exact ⟨none, 0, rfl, .inl rfl⟩
  · refine ⟨_, cap, h1, .inr ⟨g, 0, rfl, (Array.getElem?_eq_some_iff.1 hg).1, hb, fun i hi => ?_⟩⟩
    have e : ∀ j, j < cs.length * 4 → w.cell? ⟨g, 0 + j, none⟩ = (chels cs)[j]? := by
      intro j hj
      rw [← ht, List.getElem?_take_of_lt hj]
      simp [World.cell?, hg]
    have ha := chels_at cs i hi
    rw [Nat.add_assoc, Nat.add_assoc, Nat.add_assoc, e _ (by omega), e _ (by omega), e _ (by omega), e _ (by omega)]
    exact ha
theorem Tryz.infoC : (Tryz.prog.info? 60).map (fun i => (i.zero, i.size, i.bytes)) = some (some (.agg #[iv 0, iv 0, iv 0, iv 0]), 4, 32) := by kernel_rfl
/-- 'append(l, c)'. -/
theorem run_appC {B w : World} {v : Value} {cs : List Ch} {b : Nat} (c : Ch) (ty : TypeId) (hO : OwnC B w v cs) (g : Gr B w) (hb : w.heap[b]? = some (.cells #[iv c.1, iv c.2.1, iv c.2.2.1, iv c.2.2.2] 60 (0, 0))) (hm : cs.length ≤ 1000) :
    ∃ v' w', (Builtin.append_ #[23, 23] ty #[v, .slice (some ⟨b, 0, none⟩) 1 1]).run Tryz.prog w = .ok v' w' ∧ OwnC B w' v' (cs ++ [c]) ∧ Gr B w' := by
  obtain ⟨i0, hi, hz0, hz1, hz2⟩ := info_parts Tryz.infoC
  obtain ⟨v', w', h1, h2, h3, _⟩ := run_append_own (P := Tryz.prog) w B.heap.size 23 ty 60 i0 _ 4 32 Tryz.underlying23 hi hz0 hz1 hz2 (by rfl) (by decide) v cs.length (chels cs) hO
    ⟨b, 0, none⟩ 1 1 (chels [c]) (by rw [chels_length]; rfl) (fun j u hj => by
      have hj2 : j < 4 := by
        have := (List.getElem?_eq_some_iff.1 hj).1
        rw [chels_length] at this; simpa using this
      rw [Addr.add_lit]
      rcases (show j = 0 ∨ j = 1 ∨ j = 2 ∨ j = 3 by omega) with rfl | rfl | rfl | rfl <;>
      · simp [chels, chel] at hj; subst hj; simp [World.cell?, hb])
    (chels_one _) (by unfold maxLen; omega) (by omega) (Below.size g)
  refine ⟨v', w', h1, ?_, g.grown h3 (fun k hk => (hO.lt k hk).1)⟩
  unfold OwnC
  rw [chels_append, List.length_append]
  exact h2

end Go.Proofs.YtimbgijpeomfcacGreatDoor

/- CONTRACT OF package least: Diff, the walk. -/
namespace Go.Proofs.YtimbgijpeomfcacGreatDoor
open Go.RowKit Go.Sort Go.Lib
attribute [local go_sem] Ext.all Ext.cell Ext.frozen Ext.lt Ext.lt1 Ext.lt2 Ext.ne Ext.ne'

theorem Gr.blk {a w : World} {k : Nat} {o : Obj} (h : Gr a w) (hk : a.heap[k]? = some o) : w.heap[k]? = some o := (Below.block h k (lt_of_block hk)).trans hk
theorem Gr.sz {a w : World} (h : Gr a w) : a.heap.size ≤ w.heap.size := Below.size h
theorem new4 {w w' : World} {a b c d : Value} {t : TypeId} (g : Gr (w.alloc (.cells #[a, b, c, d] t)) w') : w'.heap[w.heap.size]? = some (.cells #[a, b, c, d] t (0, 0)) :=
  (Below.block g w.heap.size (by simp)).trans (heap_alloc_new w _)
theorem new4f {X W w' : World} {a b c d : Value} {t : TypeId} (g : Gr W w') (h : W.heap = (X.alloc (.cells #[a, b, c, d] t)).heap) : w'.heap[X.heap.size]? = some (.cells #[a, b, c, d] t (0, 0)) := by
  rw [Below.block g X.heap.size (by rw [h]; simp), h]; exact heap_alloc_new X _
theorem new4d {w w' : World} {a b c d : Value} {t : TypeId} (g : Gr (w.alloc (.cells #[a, b, c, d] t)).drew w') : w'.heap[w.heap.size]? = some (.cells #[a, b, c, d] t (0, 0)) :=
  (Below.block g w.heap.size (by simp)).trans (heap_alloc_new w _)
theorem new4e {w w' : World} {a b c d : Value} {t : TypeId} (g : Gr (w.drew.alloc (.cells #[a, b, c, d] t)) w') : w'.heap[w.heap.size]? = some (.cells #[a, b, c, d] t (0, 0)) :=
  (Below.block g w.heap.size (by simp)).trans (heap_alloc_new w.drew _)
theorem cell4 {w : World} {q : Nat} {a b c d : Value} {t : TypeId} (h : w.heap[q]? = some (.cells #[a, b, c, d] t (0, 0))) :
    q < w.heap.size ∧ w.cell? ⟨q, 0, none⟩ = some a ∧ w.cell? ⟨q, 1, none⟩ = some b ∧ w.cell? ⟨q, 2, none⟩ = some c ∧ w.cell? ⟨q, 3, none⟩ = some d ∧ w.frozen? ⟨q, 0, none⟩ = false ∧ w.frozen? ⟨q, 1, none⟩ = false ∧ w.frozen? ⟨q, 2, none⟩ = false ∧ w.frozen? ⟨q, 3, none⟩ = false := by
  refine ⟨lt_of_block h, ?_, ?_, ?_, ?_, ?_, ?_, ?_, ?_⟩ <;> simp [World.cell?, World.frozen?, h]
theorem set4 {w : World} {q : Nat} {a b c d a' b' c' d' : Value} {t : TypeId} (h : w.heap[q]? = some (.cells #[a, b, c, d] t (0, 0))) :
    ((((w.setCell ⟨q, 0, none⟩ a').setCell ⟨q, 1, none⟩ b').setCell ⟨q, 2, none⟩ c').setCell ⟨q, 3, none⟩ d').heap[q]? = some (.cells #[a', b', c', d'] t (0, 0)) := by
  simp [World.setCell, Array.getElem?_modify, h]
theorem gr4 {A w : World} {q : Nat} {a' b' c' d' : Value} (g : Gr A w) (h : A.heap.size ≤ q) : Gr A ((((w.setCell ⟨q, 0, none⟩ a').setCell ⟨q, 1, none⟩ b').setCell ⟨q, 2, none⟩ c').setCell ⟨q, 3, none⟩ d') :=
  (((g.setCell h _).setCell h _).setCell h _).setCell h _

theorem ChAt.mono {w : World} {M N : Nat → Prop} {ao : Option Addr} {cs : List Ch} (h : ChAt w M ao cs) (hm : ∀ k, M k → N k) : ChAt w N ao cs := by
  rcases h with h | ⟨b, o, ha, hb, hM, hc⟩
  · exact .inl h
  · exact .inr ⟨b, o, ha, hb, hm b hM, hc⟩

/-- What Diff leaves. -/
def DifEnd (rs ss : List Rt) (w : World) (e : Ending) (w' : World) : Prop := ∃ ao c ds, e = .returned (.slice ao ds.length c) ∧ IsDiff rs ss ds ∧ ChAt w' (fun k => w.heap.size ≤ k) ao ds ∧ ds.length ≤ 1000 ∧ Gr w w'

set_option maxHeartbeats 4000000 in
set_option maxRecDepth 50000 in
theorem diff_any {B : World} {Ma Mb : Nat → Prop} {ta tb : Nat} {va vb : Value} {rs ss : List Rt} (hA : TabS B Ma ta va rs) (hB : TabS B Mb tb vb ss) (hT : Tab rs) (hU : Tab ss) (hP : 2 ≤ rs.length + ss.length → PdqOK (rs.length + ss.length)) (wX : World) (gX : Gr B wX) :
    Calls Tryz.prog 13 #[pv ta, pv tb] wX fun e w' => DifEnd rs ss wX e w' := by
  have HPf := hide (prefixes_any hA hB (by have := hT.len; omega) (by have := hU.len; omega) hP wX gX)
  have GA := hide (fun l b x e w g => hA.getGr (l := l) (b := b) (x := x) hT e w g)
  have GB := hide (fun l b x e w g => hB.getGr (l := l) (b := b) (x := x) hU e w g)
  have hl1 := hT.len
  have hl2 := hU.len
  have HD := hide (fun L hp hs => dif_is hT hU (L := L) hp hs)
  clear hA hB hT hU hP
  go_enter Tryz.func13, Tryz.ntmps13
  go_wp2_with (first
    | (go_at_call 28; refine HPf.out.mono ?_; rintro e w1 ⟨ao, m, c, ps, L, rfl, hpm, hAt, hperm, hsrt, hps, g1⟩)
    | fail)
  have hm80 : m ≤ 80 := by
    have h1 := cmpL_le L
    have h2 := hperm.length_eq
    rw [← hps] at h1
    simp [keyL] at h2
    omega
  have HDI := hide (HD.out L hperm hsrt)
  rw [← hps] at HDI
  have HAt := hide hAt
  have HSN := hide (difL_snoc rs ss)
  clear HD HPf hperm hsrt hps hAt
  go_loopw [5, 13] (fun v5 v13 wr => ∃ k : Nat, k ≤ m ∧ v13 = .int .i64 k ∧ Hid (OwnC w1 wr v5 (difL rs ss (ps.take k))) ∧ (difL rs ss (ps.take k)).length ≤ k ∧ Gr w1 wr) (fun _ v13 _ => m - (intOf v13).toNat)
  case atStart => exact ⟨0, by omega, rfl, OwnC.nil _ _, by simp [difL], Gr.refl _⟩
  case round =>
    obtain ⟨k, hk, rfl, HO, hdl, gr⟩ := hrel
    by_cases hlt : k < m
    · rcases HAt.out with h | ⟨b, rfl, hb, hcs⟩
      · rw [h] at hpm; simp at hpm; omega
      obtain ⟨c0, c1⟩ := hcs k (by omega)
      have HTK : Hid (ps.take (k + 1) = ps.take k ++ [ps[k]]) := List.take_succ_eq_append_getElem (by omega)
      have HSN1 := hide (HSN.out (ps.take k) ps[k])
      rw [← HTK.out] at HSN1
      have x0 := (Below.cell gr (p := ⟨b, k * 2, none⟩) hb).trans c0
      have x1 := (Below.cell gr (p := ⟨b, k * 2 + 1, none⟩) hb).trans c1
      have hbr : b < wr.heap.size := Nat.lt_of_lt_of_le hb (Below.size gr)
      clear hcs c0 c1 HTK
      generalize ps[k] = p at *
      obtain ⟨pl, pb⟩ := p
      simp only at x0 x1
      obtain ⟨X, hX⟩ : ∃ X, X = wr.alloc (.cells #[iv pl, iv pb] 30) := ⟨_, rfl⟩
      have gX1 : Gr wr X := by rw [hX]; exact (Gr.refl _).alloc _
      have HK : Hid (∀ w', Gr X w' → w'.cell? ⟨wr.heap.size, 0, none⟩ = some (iv pl) ∧ w'.cell? ⟨wr.heap.size, 1, none⟩ = some (iv pb)) := fun w' g => by
        have hlt : wr.heap.size < X.heap.size := by rw [hX]; simp
        rw [show w'.cell? ⟨wr.heap.size, 0, none⟩ = X.cell? ⟨wr.heap.size, 0, none⟩ from Below.cell g (p := ⟨wr.heap.size, 0, none⟩) hlt, show w'.cell? ⟨wr.heap.size, 1, none⟩ = X.cell? ⟨wr.heap.size, 1, none⟩ from Below.cell g (p := ⟨wr.heap.size, 1, none⟩) hlt, hX]
        constructor <;> simp [go_sem]
      have HX := hide hX
      have GBX := hide (gX.trans (g1.trans (gr.trans gX1)))
      obtain ⟨s0, s1⟩ := HK.out X (Gr.refl _)
      generalize hx : getL rs pl pb = x at *
      generalize hy : getL ss pl pb = y at *
      have HA := hide (GA.out pl pb x hx)
      have HB := hide (GB.out pl pb y hy)
      clear hX
      go_upto_region 5 with (fail)
      rw [← HX.out]
      go_wp2_with fail
      go_region_held3 (fun w' => w'.cell? ⟨wr.heap.size, 0, none⟩ = some (iv pl) ∧ w'.cell? ⟨wr.heap.size, 1, none⟩ = some (iv pb)) (first | exact HK.out _ K2.out | exact HK.out _ K1.out | exact HK.out _ (K2.out.alloc _) | exact HK.out _ (K1.out.alloc _) | exact HK.out _ (gr4 K2.out K1.out.sz) | exact HK.out _ (gr4 K2.out (Nat.le_refl _)) | go_keep)
        (first
        | (go_at_call 29; with_reducible refine (HA.out _ (by first | exact GBX.out.drew | exact GBX.out.drew.alloc _ | exact (GBX.out.alloc _).drew)).mono ?_; rintro e w2 ⟨rfl, g2⟩; have k1 : Gr X w2 := (by first | exact (Gr.refl X).drew.trans g2 | exact ((Gr.refl X).drew.alloc _).trans g2 | exact ((Gr.refl X).alloc _).drew.trans g2); have K1 := hide k1; (try (have n2 := new4f (X := X) (a := iv 0) (b := iv 0) (c := iv 0) (d := iv 0) (t := 60) g2 rfl; have N2 := hide n2; clear n2)); have G2 := hide g2; clear g2 k1)
        | (go_at_call 29; with_reducible refine (HB.out _ (by first | exact GBX.out.trans K1.out | exact (GBX.out.trans K1.out).alloc _)).mono ?_; rintro e w3 ⟨rfl, g3⟩; have k2 : Gr X w3 := (by first | exact K1.out.trans g3 | exact (K1.out.alloc _).trans g3); have K2 := hide k2; (try (have n3 := new4 g3; obtain ⟨z0, z1, z2, z3, z4, z5, z6, z7, z8⟩ := cell4 n3)); (try (have n3 := g3.blk N2.out; obtain ⟨z0, z1, z2, z3, z4, z5, z6, z7, z8⟩ := cell4 n3)); have G3 := hide g3; clear g3 k2)
        | fail)
      · have hq := heap_alloc_new w3 (.cells #[iv pl, iv pb, iv x, iv y] 60)
        have gY := K2.out.alloc (.cells #[iv pl, iv pb, iv x, iv y] 60)
        generalize w3.alloc (.cells #[iv pl, iv pb, iv x, iv y] 60) = Y at hq gY ⊢
        obtain ⟨qlt, y0, y1, y2, y3, _⟩ := cell4 hq
        have gwY := gX1.trans gY
        have hgY := gr.trans gwY
        by_cases hxy : x = y
        · have hne : (x != y) = false := by simpa using hxy
          have HC : Hid (difL rs ss (ps.take (k + 1)) = difL rs ss (ps.take k)) := by unfold Hid; rw [HSN1.out]; unfold chOf; rw [hx, hy, if_pos hxy, List.append_nil]
          go_wp2
          go_roundw
          case rel => exact ⟨k + 1, by omega, by go_num, by rw [HC.out]; exact HO.out.gr gwY, by rw [HC.out]; omega, gr.trans gwY⟩
          case measure => simp [intOf]; omega
        · have hne : (x != y) = true := by simpa using hxy
          have HC : Hid (difL rs ss (ps.take (k + 1)) = difL rs ss (ps.take k) ++ [(pl, pb, x, y)]) := by unfold Hid; rw [HSN1.out]; unfold chOf; rw [hx, hy, if_neg hxy]
          have ga := (Gr.refl Y).alloc (.cells #[iv pl, iv pb, iv x, iv y] 60)
          obtain ⟨v', w', hrun, hO', g'⟩ := run_appC (c := (pl, pb, x, y)) 23 (HO.out.gr (gwY.trans ga)) (hgY.trans ga) (heap_alloc_new Y _) (by omega)
          have HR := hide hrun
          have HO' := hide hO'
          obtain ⟨ao'', c'', hv'', _⟩ := hO'.shape
          subst hv''
          clear hrun hO'
          go_wp2_with (at_builtin; refine Lib.wpList_append_run _ rfl _ _ _ _ rfl _ _ rfl rfl _ _ HR.out ?_)
          go_roundw
          case rel => exact ⟨k + 1, by omega, by go_num, by rw [HC.out]; have hz := HO'.out; rw [show (difL rs ss (ps.take k) ++ [(pl, pb, x, y)]).length = (difL rs ss (ps.take k)).length + 1 by simp] at hz; exact hz, by rw [HC.out, List.length_append]; simp; omega, g'⟩
          case measure => simp [intOf]; omega
      · have hq := set4 (a' := iv pl) (b' := iv pb) (c' := iv x) (d' := iv y) n3
        have gY := gr4 (a' := iv pl) (b' := iv pb) (c' := iv x) (d' := iv y) K2.out K1.out.sz
        generalize ((((w3.setCell ⟨w2.heap.size, 0, none⟩ (iv pl)).setCell ⟨w2.heap.size, 1, none⟩ (iv pb)).setCell ⟨w2.heap.size, 2, none⟩ (iv x)).setCell ⟨w2.heap.size, 3, none⟩ (iv y)) = Y at hq gY ⊢
        obtain ⟨qlt, y0, y1, y2, y3, _⟩ := cell4 hq
        have gwY := gX1.trans gY
        have hgY := gr.trans gwY
        by_cases hxy : x = y
        · have hne : (x != y) = false := by simpa using hxy
          have HC : Hid (difL rs ss (ps.take (k + 1)) = difL rs ss (ps.take k)) := by unfold Hid; rw [HSN1.out]; unfold chOf; rw [hx, hy, if_pos hxy, List.append_nil]
          go_wp2
          go_roundw
          case rel => exact ⟨k + 1, by omega, by go_num, by rw [HC.out]; exact HO.out.gr gwY, by rw [HC.out]; omega, gr.trans gwY⟩
          case measure => simp [intOf]; omega
        · have hne : (x != y) = true := by simpa using hxy
          have HC : Hid (difL rs ss (ps.take (k + 1)) = difL rs ss (ps.take k) ++ [(pl, pb, x, y)]) := by unfold Hid; rw [HSN1.out]; unfold chOf; rw [hx, hy, if_neg hxy]
          have ga := (Gr.refl Y).alloc (.cells #[iv pl, iv pb, iv x, iv y] 60)
          obtain ⟨v', w', hrun, hO', g'⟩ := run_appC (c := (pl, pb, x, y)) 23 (HO.out.gr (gwY.trans ga)) (hgY.trans ga) (heap_alloc_new Y _) (by omega)
          have HR := hide hrun
          have HO' := hide hO'
          obtain ⟨ao'', c'', hv'', _⟩ := hO'.shape
          subst hv''
          clear hrun hO'
          go_wp2_with (at_builtin; refine Lib.wpList_append_run _ rfl _ _ _ _ rfl _ _ rfl rfl _ _ HR.out ?_)
          go_roundw
          case rel => exact ⟨k + 1, by omega, by go_num, by rw [HC.out]; have hz := HO'.out; rw [show (difL rs ss (ps.take k) ++ [(pl, pb, x, y)]).length = (difL rs ss (ps.take k)).length + 1 by simp] at hz; exact hz, by rw [HC.out, List.length_append]; simp; omega, g'⟩
          case measure => simp [intOf]; omega
      · have hq := set4 (a' := iv pl) (b' := iv pb) (c' := iv x) (d' := iv y) n3
        have gY := gr4 (a' := iv pl) (b' := iv pb) (c' := iv x) (d' := iv y) K2.out (Nat.le_refl _)
        generalize ((((w3.setCell ⟨X.heap.size, 0, none⟩ (iv pl)).setCell ⟨X.heap.size, 1, none⟩ (iv pb)).setCell ⟨X.heap.size, 2, none⟩ (iv x)).setCell ⟨X.heap.size, 3, none⟩ (iv y)) = Y at hq gY ⊢
        obtain ⟨qlt, y0, y1, y2, y3, _⟩ := cell4 hq
        have gwY := gX1.trans gY
        have hgY := gr.trans gwY
        by_cases hxy : x = y
        · have hne : (x != y) = false := by simpa using hxy
          have HC : Hid (difL rs ss (ps.take (k + 1)) = difL rs ss (ps.take k)) := by unfold Hid; rw [HSN1.out]; unfold chOf; rw [hx, hy, if_pos hxy, List.append_nil]
          go_wp2
          go_roundw
          case rel => exact ⟨k + 1, by omega, by go_num, by rw [HC.out]; exact HO.out.gr gwY, by rw [HC.out]; omega, gr.trans gwY⟩
          case measure => simp [intOf]; omega
        · have hne : (x != y) = true := by simpa using hxy
          have HC : Hid (difL rs ss (ps.take (k + 1)) = difL rs ss (ps.take k) ++ [(pl, pb, x, y)]) := by unfold Hid; rw [HSN1.out]; unfold chOf; rw [hx, hy, if_neg hxy]
          have ga := (Gr.refl Y).alloc (.cells #[iv pl, iv pb, iv x, iv y] 60)
          obtain ⟨v', w', hrun, hO', g'⟩ := run_appC (c := (pl, pb, x, y)) 23 (HO.out.gr (gwY.trans ga)) (hgY.trans ga) (heap_alloc_new Y _) (by omega)
          have HR := hide hrun
          have HO' := hide hO'
          obtain ⟨ao'', c'', hv'', _⟩ := hO'.shape
          subst hv''
          clear hrun hO'
          go_wp2_with (at_builtin; refine Lib.wpList_append_run _ rfl _ _ _ _ rfl _ _ rfl rfl _ _ HR.out ?_)
          go_roundw
          case rel => exact ⟨k + 1, by omega, by go_num, by rw [HC.out]; have hz := HO'.out; rw [show (difL rs ss (ps.take k) ++ [(pl, pb, x, y)]).length = (difL rs ss (ps.take k)).length + 1 by simp] at hz; exact hz, by rw [HC.out, List.length_append]; simp; omega, g'⟩
          case measure => simp [intOf]; omega
    · have hkm : k = m := by omega
      subst hkm
      have hta : ps.take k = ps := List.take_of_length_le (by omega)
      rw [hta] at HO hdl
      obtain ⟨ao', c', hv, hC⟩ := HO.out.shape
      subst hv
      go_wp2
      go_ret
      exact ⟨ao', c', _, rfl, HDI.out, hC.mono (fun k hk => Nat.le_trans g1.sz hk), by omega, g1.trans gr⟩

end Go.Proofs.YtimbgijpeomfcacGreatDoor
