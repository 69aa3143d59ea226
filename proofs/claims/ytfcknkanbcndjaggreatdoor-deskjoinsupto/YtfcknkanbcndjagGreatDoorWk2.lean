/- CONTRACT OF package walk: Go. -/
import Derived.Test.YtfcknkanbcndjagGreatDoorWk1
import Derived.Test.YtfcknkanbcndjagGreatDoorWg0
import Derived.Test.YtfcknkanbcndjagGreatDoorPo0
import Derived.Deep.LoopGhost
namespace Go.Proofs.YtfcknkanbcndjagGreatDoor
open Go.RowKit
attribute [local go_sem] Ext.all Ext.cell Ext.frozen Ext.lt Ext.lt1 Ext.lt2 Ext.ne Ext.ne'
theorem NmAt.num {w : World} {ao : Option Addr} {l : List Nat} (h : NmAt w ao l) : NumAt w ao l := h
theorem cst_goN (c : Nat → Nat → Nat) {x : Nat} (hx : x < 6) (hv : Int) : ((cst c (x : Int) hv : Nat) : Int) = if isN hv then (c x hv.toNat : Int) else 0 := by
  unfold cst
  by_cases h : isN hv
  · rw [if_pos h, if_pos ⟨node_iff.2 (by omega), node_iff.2 h⟩, Int.toNat_natCast]
  · rw [if_neg h, if_neg (fun q => h (node_iff.1 q.2))]; rfl
section
variable {M : Nat → Prop} {B w w' : World} {X P : Nat} {SW S : Nat → Prop} {fs : Nat → List Rt} {c : Nat → Nat → Nat} {t : Tn} {n : Nat} {rs : List Rt}
set_option maxRecDepth 20000 in
set_option maxHeartbeats 16000000 in
theorem walkGo_any (HW : Wq w X P SW fs) (H : Pq M B w P S c t n rs) (hT : ∀ x, x < 6 → Tab (fs x)) (fr a : Int) {l : List Nat} {kk ee : Int} (hee : ee ≠ -2) (hl : goN (fun x => lookL (fs x) a) (fun u v => (c u v : Int)) 7 fr [] 0 = (l, kk, ee)) :
    Calls Tryz.prog 13 #[pv X, iv fr, iv a] w fun e w' => TripO w w' e l kk ee := by
  have HLK := hide (fun (V : World) (g : Gr w V) (x : Nat) (hx : x < 6) => (HW.gr g).look hx (hT x hx) a)
  have HHB : Hid (∀ x, x < 6 → lookL (fs x) a = -1 ∨ isN (lookL (fs x) a)) := fun x hx => by
    have := (hT x hx).look_hop a
    unfold hopB at this
    exact of_decide_eq_true this
  obtain ⟨hx0, hXw⟩ := HW.post
  obtain ⟨p, k0, hPw, hpw, hkw, hp0, hk0', HKL⟩ := H.links
  have HA := hide H.a
  have HCH : Hid (∀ V, Gr w V → V.cell? ⟨X, 0, none⟩ = some (pv P) ∧ V.cell? ⟨P, 0, none⟩ = some (pv p) ∧ V.cell? ⟨p, 0, none⟩ = some (pv k0) ∧ X < V.heap.size ∧ P < V.heap.size ∧ p < V.heap.size) := fun V g =>
    ⟨(Below.cell g (p := ⟨X, 0, none⟩) hXw).trans hx0, (Below.cell g (p := ⟨P, 0, none⟩) hPw).trans hp0, (Below.cell g (p := ⟨p, 0, none⟩) hpw).trans hk0', Nat.lt_of_lt_of_le hXw (Below.size g), Nat.lt_of_lt_of_le hPw (Below.size g), Nat.lt_of_lt_of_le hpw (Below.size g)⟩
  have HCO : Hid (∀ (V : World) (x : Nat) (hv : Int), Gr w V → x < 6 → Calls Tryz.prog 18 #[pv k0, iv (x : Int), iv hv] V fun e w' => e = .returned (iv (if isN hv then (c x hv.toNat : Int) else 0)) ∧ w' = V) := fun V x hv g hx => by
    have := cost_any (HKL V g) HA.out.s.tc.lk (x : Int) hv
    rw [cst_goN c hx hv] at this
    exact this
  have HP := hide hl
  have HEE := hide hee
  have HC15 : Hid (∀ x y, c x y ≤ 15) := fun x y => HA.out.s.tc.lk.le x y
  clear HW H hl hT HA HKL hk0' hp0 hx0 hPw hpw hkw hee
  have hne : 36 ≠ 3 := by decide
  go_enter Tryz.func13, Tryz.ntmps13
  go_upto_region 2 with (fail)
  have T0 := hide (Tv.start 36 w)
  refine wp_gen (fun V => Hid (Tv 36 w V w.heap.size (w.heap.size + 1) (.slice none 0 0) [] 0 (-1))) T0.out ?_
  clear T0
  rintro V T0
  by_cases hfr : isN fr
  case neg =>
    have B1 : Hid (decide (0 ≤ fr ∧ fr < 6) = false) := decide_eq_false hfr
    have HR : Hid (([], 0, (-1 : Int)) = (l, kk, ee)) := by
      have := HP.out
      rw [goN, if_neg hfr] at this
      exact this
    clear hfr HP
    go_upto_region 3 with (go_at_call 33; with_reducible refine (lnode_is B1.out _).mono ?_; rintro e w1 ⟨rfl, hw1⟩; have hw2 := hw1.symm; clear hw1; subst hw2)
    obtain ⟨⟨x0', x1', x2'⟩, ⟨ra, rb, rc, r0, r1, r2⟩, ⟨s0, s1, s2⟩, hRw, hXw'⟩ := T0.out.facts
    have TRt := hide (T0.out.ret hne)
    clear T0
    go_wp2_with fail
    refine bp_gen' (fun Z => VArr Z 36 3 w.heap.size (trF (.slice none 0 0) 0 (-1)) ∧ (NmAt Z none [] ∧ (∀ b o, (none : Option Addr) = some ⟨b, o, none⟩ → w.heap.size ≤ b) ∧ ([] : List Nat).length ≤ 0) ∧ Gr w Z) ⟨TRt.out.1, TRt.out.2.1 _ _ rfl, TRt.out.2.2⟩ ?_
    rintro Z ⟨vz, nz, gz⟩
    obtain ⟨z0, z1, z2⟩ := vz.three
    obtain ⟨hq1, hq2, hq3⟩ : [] = l ∧ 0 = kk ∧ (-1) = ee := by have := HR.out; simp only [Prod.mk.injEq] at this; exact this
    refine bodyPost_ret (v := .agg #[.slice none 0 0, iv 0, iv (-1)]) (by simp [results, Tryz.results13, go_sem, z0, z1, z2]) rfl ⟨none, 0, by rw [← hq1, ← hq2, ← hq3]; rfl, by rw [← hq1]; exact nz, gz⟩
  case pos =>
  have B1 : Hid (decide (0 ≤ fr ∧ fr < 6) = true) := decide_eq_true hfr
  obtain ⟨x0, rfl⟩ : ∃ x : Nat, fr = (x : Int) := ⟨fr.toNat, by have := hfr.1; omega⟩
  have hx06 : x0 < 6 := by have := hfr.2; omega
  clear hfr
  go_upto_region 4 with (go_at_call 33; with_reducible refine (lnode_is B1.out _).mono ?_; rintro e w1 ⟨rfl, hw1⟩; have hw2 := hw1.symm; clear hw1; subst hw2)
  clear B1
  go_wp2_with fail
  go_loopg [8, 9] 7 (fun g v8 _ wr => ∃ (out : List Nat) (x : Nat) (k : Int) (u : Value), v8 = iv (x : Int) ∧ x < 6 ∧ 0 ≤ k ∧ k ≤ 15 * (out.length : Int) ∧ Hid (goN (fun x => lookL (fs x) a) (fun u v => (c u v : Int)) g (x : Int) out k = (l, kk, ee)) ∧ Hid (Tv 36 w wr w.heap.size (w.heap.size + 1) u out k (-1)) ∧ Hid (x ∉ out ∧ (∀ y ∈ out, y < 6) ∧ out.Nodup ∧ g + out.length = 7))
  case atStart => exact ⟨[], x0, 0, _, rfl, hx06, by omega, by simp, HP, T0, ⟨by simp, fun y hy => (by cases hy), List.nodup_nil, rfl⟩⟩
  case round =>
    clear HP T0 hx06
    obtain ⟨out, x, k, u, rfl, hx, hk0, hk15, HP, TV, HO⟩ := hrel
    have hin := HO.out.1
    have hol : out.length ≤ 6 := nodup_len 6 out HO.out.2.2.1 HO.out.2.1
    obtain ⟨f, hf⟩ : ∃ f', gk = f' + 1 := ⟨gk - 1, by have := HO.out.2.2.2; omega⟩
    subst hf
    obtain ⟨ao, cp, hu, _⟩ := TV.out.own.shape
    subst hu
    obtain ⟨x0, x1, x2⟩ := TV.out.cells
    obtain ⟨f0, f1, f2⟩ := TV.out.free
    have hXw2 := TV.out.x.lt
    have HNX : Hid (goN (fun x => lookL (fs x) a) (fun u v => (c u v : Int)) (f + 1) (x : Int) out k = goS (fun x => lookL (fs x) a) (fun u v => (c u v : Int)) f x (out ++ [x]) k) := goN_new hx hin
    have HO2 : Hid ((∀ y ∈ out ++ [x], y < 6) ∧ (out ++ [x]).Nodup ∧ f + (out ++ [x]).length = 7) := by
      obtain ⟨_, o1, o2, o3⟩ := HO.out
      refine ⟨fun y hy => ?_, ?_, by rw [List.length_append, List.length_singleton]; omega⟩
      · rcases List.mem_append.1 hy with r | r
        · exact o1 y r
        · rw [List.mem_singleton.1 r]; exact hx
      · rw [List.nodup_append]
        refine ⟨o2, by simp, fun a ha b hb => ?_⟩
        rw [List.mem_singleton.1 hb]
        exact fun e => hin (e ▸ ha)
    obtain ⟨v', w', hrun, tv', cw0, fw0, xw⟩ := TV.out.app hne 34 x (by omega)
    obtain ⟨out', ho'⟩ : ∃ out', out' = out ++ [x] := ⟨_, rfl⟩
    rw [← ho'] at tv' HO2 HNX
    have hol' : (out'.length : Int) = out.length + 1 := by rw [ho', List.length_append, List.length_singleton]; omega
    obtain ⟨ao', cp', hv', _⟩ := tv'.own.shape
    subst hv'
    clear ho'
    have HRN := hide hrun
    have TVA := hide tv'
    have HPS : Hid (goS (fun x => lookL (fs x) a) (fun u v => (c u v : Int)) f x out' k = (l, kk, ee)) := HNX.out.symm.trans HP.out
    have HOL := hide hol'
    have hol6 : out'.length ≤ 6 := nodup_len 6 out' HO2.out.2.1 HO2.out.1
    obtain ⟨f', hf'⟩ : ∃ f', f = f' + 1 := ⟨f - 1, by have := HO2.out.2.2; omega⟩
    subst hf'
    clear hrun tv' hin HP HO TV HNX hol'
    go_upto_region 6 with (at_builtin; refine Lib.wpList_append_run _ rfl _ _ _ _ rfl _ _ rfl rfl _ _ HRN.out ?_)
    refine wp_gen (fun V => Hid (Tv 36 w V w.heap.size (w.heap.size + 1) (.slice ao' out'.length cp') out' k (-1))) TVA.out ?_
    clear TVA HRN x0 x1 x2 f0 f1 f2 hXw2 cw0 fw0 xw
    rintro V TV
    have hk15' : k ≤ 15 * (out'.length : Int) - 15 := by have := HOL.out; omega
    clear hk15 HOL
    obtain ⟨tb, htb, hlk⟩ := HLK.out V TV.out.gr x hx
    obtain ⟨_, _, _, hXV, _, _⟩ := HCH.out V TV.out.gr
    have HHX := HHB.out x hx
    obtain ⟨hv, hhv⟩ : ∃ hv, lookL (fs x) a = hv := ⟨_, rfl⟩
    have HK2 := hide (hlk V (Gr.refl V))
    unfold goS at HPS
    rw [hhv] at HK2 HHX
    simp only [hhv] at HPS
    clear hhv hlk
    have hxi : (x : Int) < 6 := by omega
    go_upto_region 7 with (go_at_call 34; with_reducible refine HK2.out.mono ?_; rintro e V4 ⟨rfl, g4'⟩; have TV4 := hide (TV.out.ext g4'); clear g4')
    clear TV HK2 htb hXV
    obtain ⟨y0, y1, y2⟩ := TV4.out.cells
    obtain ⟨f0, f1, f2⟩ := TV4.out.free
    have hX4 := TV4.out.x.lt
    by_cases hd : hv = -1
    · have HR : Hid ((out', k, (-1 : Int)) = (l, kk, ee)) := by
        have := HPS.out
        rw [hd, if_neg (by omega), if_neg (by omega), goN, if_neg (by omega), Int.add_zero] at this
        exact this
      subst hd
      clear HPS HHX
      go_upto_region 8 with (fail)
      refine wp_gen (fun V => Hid (Tv 36 w V w.heap.size (w.heap.size + 1) (.slice ao' out'.length cp') out' k (-1))) TV4.out ?_
      clear TV4 y0 y1 y2 f0 f1 f2 hX4
      rintro V TVe
      obtain ⟨⟨x0', x1', x2'⟩, ⟨ra, rb, rc, r0, r1, r2⟩, ⟨s0, s1, s2⟩, hRw, hXw'⟩ := TVe.out.facts
      have TRt := hide (TVe.out.ret hne)
      clear TVe
      go_wp2_with fail
      refine bp_gen' (fun Z => VArr Z 36 3 w.heap.size (trF (.slice ao' out'.length cp') k (-1)) ∧ (NmAt Z ao' out' ∧ (∀ b o, ao' = some ⟨b, o, none⟩ → w.heap.size ≤ b) ∧ out'.length ≤ cp') ∧ Gr w Z) ⟨TRt.out.1, TRt.out.2.1 _ _ rfl, TRt.out.2.2⟩ ?_
      rintro Z ⟨vz, nz, gz⟩
      obtain ⟨z0, z1, z2⟩ := vz.three
      obtain ⟨hq1, hq2, hq3⟩ : out' = l ∧ k = kk ∧ (-1) = ee := by have := HR.out; simp only [Prod.mk.injEq] at this; exact this
      refine bodyPost_ret (v := .agg #[.slice ao' out'.length cp', iv k, iv (-1)]) (by simp [results, Tryz.results13, go_sem, z0, z1, z2]) rfl ⟨ao', cp', by rw [← hq1, ← hq2, ← hq3], by rw [← hq1]; exact nz, gz⟩
    · obtain ⟨hn0, hn6⟩ : isN hv := HHX.resolve_left hd
      obtain ⟨y, rfl⟩ : ∃ y : Nat, hv = (y : Int) := ⟨hv.toNat, by omega⟩
      have hy6 : y < 6 := by omega
      have ed : ((y : Int) == -1) = false := by simp
      clear HHX hn0 hn6
      by_cases hhx : y = x
      · have exx : ((x : Int) == (x : Int)) = true := by simp
        have HR : Hid ((out', k, (x : Int)) = (l, kk, ee)) := by
          have := HPS.out
          rw [if_pos (by omega)] at this
          exact this
        subst hhx
        have TV5 := hide (TV4.out.setE hne (y : Int))
        clear TV4 HPS
        go_upto_region 11 with (fail)
        refine wp_gen (fun V => Hid (Tv 36 w V w.heap.size (w.heap.size + 1) (.slice ao' out'.length cp') out' k (y : Int))) TV5.out ?_
        clear TV5 y0 y1 y2 f0 f1 f2 hX4
        rintro V TVe
        obtain ⟨⟨x0', x1', x2'⟩, ⟨ra, rb, rc, r0, r1, r2⟩, ⟨s0, s1, s2⟩, hRw, hXw'⟩ := TVe.out.facts
        have TRt := hide (TVe.out.ret hne)
        clear TVe
        go_wp2_with fail
        refine bp_gen' (fun Z => VArr Z 36 3 w.heap.size (trF (.slice ao' out'.length cp') k (y : Int)) ∧ (NmAt Z ao' out' ∧ (∀ b o, ao' = some ⟨b, o, none⟩ → w.heap.size ≤ b) ∧ out'.length ≤ cp') ∧ Gr w Z) ⟨TRt.out.1, TRt.out.2.1 _ _ rfl, TRt.out.2.2⟩ ?_
        rintro Z ⟨vz, nz, gz⟩
        obtain ⟨z0, z1, z2⟩ := vz.three
        obtain ⟨hq1, hq2, hq3⟩ : out' = l ∧ k = kk ∧ (y : Int) = ee := by have := HR.out; simp only [Prod.mk.injEq] at this; exact this
        refine bodyPost_ret (v := .agg #[.slice ao' out'.length cp', iv k, iv (y : Int)]) (by simp [results, Tryz.results13, go_sem, z0, z1, z2]) rfl ⟨ao', cp', by rw [← hq1, ← hq2, ← hq3], by rw [← hq1]; exact nz, gz⟩
      · have ehx : ((y : Int) == (x : Int)) = false := by simp; omega
        have ny : isN (y : Int) := ⟨by omega, by omega⟩
        obtain ⟨cxy, hcxy⟩ : ∃ cxy : Int, (c x y : Int) = cxy := ⟨_, rfl⟩
        have HPN : Hid (goN (fun x => lookL (fs x) a) (fun u v => (c u v : Int)) (f' + 1) (y : Int) out' (k + cxy) = (l, kk, ee)) := by
          have := HPS.out
          rw [if_neg (by omega), if_pos ny, Int.toNat_natCast, hcxy] at this
          exact this
        have hyo : y ∉ out' := fun hin => by
          have := HPN.out
          rw [goN, if_pos ny, Int.toNat_natCast, if_pos hin] at this
          simp only [Prod.mk.injEq] at this
          exact HEE.out this.2.2.symm
        have hcx : 0 ≤ cxy ∧ cxy ≤ 15 := by
          rw [← hcxy]
          have := HC15.out x y; omega
        have HCC := hide (HCO.out V4.drew x (y : Int) TV4.out.gr.drew hx)
        rw [if_pos ny, Int.toNat_natCast, hcxy] at HCC
        have wkk : IntKind.i64.wrap (k + cxy) = k + cxy := by rw [IntKind.wrap_i64]; omega
        obtain ⟨ao2, cp2, hq, NA'⟩ := TV4.out.own.shape
        cases hq
        have HI := hide (contains_is (cp := cp') NA'.num rfl (by omega) y (decide_eq_false hyo))
        have TV5 := hide (TV4.out.setK hne (k + cxy))
        obtain ⟨q0, q1, q2, q3, q4, q5⟩ := HCH.out V4 TV4.out.gr
        have HYO := hide hyo
        clear TV4 HPS hcxy NA' hyo ny hd
        go_upto_region 15 with (go_at_call 35; with_reducible refine HI.out.mono ?_; rintro e w1 ⟨rfl, hw1⟩; have hw2 := hw1.symm; clear hw1; subst hw2)
        clear HI
        go_region_with (go_at_call 18; refine HCC.out.mono ?_; rintro e w5 ⟨rfl, hw5⟩; have hw6 := hw5.symm; clear hw5; subst hw6)
        all_goals
          go_wp2_with fail
          go_roundg (f' + 1)
          case measure => omega
          case rel => exact ⟨out', y, k + cxy, _, rfl, hy6, by omega, by omega, HPN, TV5.out.ext ((Gr.refl _).drew), ⟨HYO.out, HO2.out⟩⟩
end

end Go.Proofs.YtfcknkanbcndjagGreatDoor
