/- THE REFERENCE'S Town: Go. -/
import Derived.Test.YtfcknkanbcndjagGreatDoorWg0
import Derived.Test.YtfcknkanbcndjagGreatDoorFb2
import Derived.Test.YtfcknkanbcndjagGreatDoorRInv
import Derived.Test.YtfcknkanbcndjagGreatDoorDkMem
import Derived.Deep.LoopGhost
import Derived.StillTailTactics
namespace Go.Proofs.YtfcknkanbcndjagGreatDoor
open Go.RowKit
attribute [local go_sem] Ext.all Ext.cell Ext.frozen Ext.lt Ext.lt1 Ext.lt2 Ext.ne Ext.ne'
/-- A list of routes that the reference makes, as it reads. -/
theorem Own.rowT {B w : World} {u : Value} {rs : List Rt} (h : Own B w u rs) : ∃ ao cp, u = .slice ao rs.length cp ∧ RowAt w (fun _ => True) ao rs := by
  obtain ⟨ao, cp, e, _, hr⟩ := h.shape
  exact ⟨ao, cp, e, hr.mono fun _ _ _ => trivial⟩
section
variable {M N : Nat → Prop} {B w w' : World} {T : Nat} {q : Nat → Nat} {v : Value} {c : Nat → Nat → Nat} {t : Tn} {n : Nat} {rs : List Rt} {ar : Option Addr} {cr : Nat}
set_option maxRecDepth 20000 in
set_option maxHeartbeats 16000000 in
theorem wgo_any (H : Tw M B w T q v (.slice ar rs.length cr) t) (hR : RowAt w N ar rs) (ho : Ows rs) (A : TnA t c) (fr a : Int) (sm : Bool) {l : List Nat} {kk ee : Int} (hl : goN (letH t rs a) (fun u v => (c u v : Int)) 7 fr [] 0 = (l, kk, ee)) :
    Calls Tryz.prog 99 #[pv T, iv fr, iv a, .bool sm] w fun e w' => TripO w w' e l kk ee := by
  have hlen := ho.tab.len
  have HF : Hid (∀ (X : World) (x : Int), Gr w X → Calls Tryz.prog 97 #[pv T, iv x] X fun e w' => ∃ ao cp, e = .returned (.slice ao (fullL t x rs).length cp) ∧ RowAt w' (fun _ => True) ao (fullL t x rs) ∧ Gr X w') := fun X x g => by
    refine (wfull_any (H.ext g) (hR.gr g) (by omega) x).mono ?_
    rintro e w' ⟨u, rfl, o, g⟩
    obtain ⟨ao, cp, rfl, hr⟩ := o.rowT
    exact ⟨ao, cp, rfl, hr, g⟩
  have HS : Hid (∀ (X : World) (x : Int), Gr w X → Calls Tryz.prog 98 #[pv T, iv x] X fun e w' => ∃ ao cp, e = .returned (.slice ao (lstL (fullL t x rs)).length cp) ∧ RowAt w' (fun _ => True) ao (lstL (fullL t x rs)) ∧ Gr X w') := fun X x g => by
    refine (wsmall_any (H.ext g) A (hR.gr g) ho.tab x).mono ?_
    rintro e w' ⟨u, rfl, o, g⟩
    obtain ⟨ao, cp, rfl, hr⟩ := o.rowT
    exact ⟨ao, cp, rfl, hr, g⟩
  have HL : Hid (∀ (X : World) (x : Nat) (ao : Option Addr) (cp : Nat), RowAt X (fun _ => True) ao (fullL t (x : Int) rs) → Calls Tryz.prog 141 #[.slice ao (fullL t (x : Int) rs).length cp, iv a] X fun e w' => e = .returned (iv (letH t rs a x)) ∧ Gr X w') := fun X x ao cp h =>
    (rlook_any X _ ao _ cp _ a h rfl (full_tab A x ho.tab).toSrt).mono fun _ _ ⟨he, d, hd⟩ => ⟨he, by rw [hd]; exact d.gr⟩
  have HLS : Hid (∀ (X : World) (x : Nat) (ao : Option Addr) (cp : Nat), RowAt X (fun _ => True) ao (lstL (fullL t (x : Int) rs)) → Calls Tryz.prog 141 #[.slice ao (lstL (fullL t (x : Int) rs)).length cp, iv a] X fun e w' => e = .returned (iv (letH t rs a x)) ∧ Gr X w') := fun X x ao cp h =>
    (rlook_any X _ ao _ cp _ a h rfl (lst_tab (full_tab A x ho.tab)).toSrt).mono fun _ _ ⟨he, d, hd⟩ => ⟨by rw [he]; show _ = Ending.returned (iv (lookL _ a)); rw [lst_lookI (full_tab A x ho.tab)], by rw [hd]; exact d.gr⟩
  have HCS : Hid (∀ (X : World) (x y : Nat), Gr w X → x < 6 → y < 6 → X.cell? ⟨T, x * 6 + y, none⟩ = some (iv (c x y : Int)) ∧ T < X.heap.size) := fun X x y g hx hy => by
    have := (H.ext g).cst hx hy
    rw [A.s.tc.cst x y hx hy] at this
    exact ⟨this, (H.ext g).blk.lt⟩
  have HP := hide hl
  have HC15 : Hid (∀ x y, c x y ≤ 15) := fun x y => A.s.tc.lk.le x y
  have hTw : T < w.heap.size := H.blk.lt
  clear H hR hl ho A
  have hne : 166 ≠ 3 := by decide
  go_enter Tryz.func99, Tryz.ntmps99
  go_upto_region 2 with (fail)
  have T0 := hide (Tv.start 166 w)
  refine wp_gen (fun V => Hid (Tv 166 w V w.heap.size (w.heap.size + 1) (.slice none 0 0) [] 0 (-1))) T0.out ?_
  clear T0
  rintro V T0
  go_wp2_with fail
  go_loopg [10, 11, 12] 7 (fun g v10 _ _ wr => ∃ (out : List Nat) (at_ k : Int) (u : Value), v10 = iv at_ ∧ 0 ≤ k ∧ k ≤ 15 * (out.length : Int) ∧ Hid (goN (letH t rs a) (fun u v => (c u v : Int)) g at_ out k = (l, kk, ee)) ∧ Hid (Tv 166 w wr w.heap.size (w.heap.size + 1) u out k (-1)) ∧ Hid ((∀ y ∈ out, y < 6) ∧ out.Nodup ∧ g + out.length = 7))
  case atStart => exact ⟨[], fr, 0, _, rfl, by omega, by simp, HP, T0, ⟨fun y hy => (by cases hy), List.nodup_nil, rfl⟩⟩
  case round =>
    clear HP T0
    obtain ⟨out, at_, k, u, rfl, hk0, hk15, HP, TV, HO⟩ := hrel
    have hol : out.length ≤ 6 := nodup_len 6 out HO.out.2.1 HO.out.1
    obtain ⟨f, hf⟩ : ∃ f', gk = f' + 1 := ⟨gk - 1, by have := HO.out.2.2; omega⟩
    subst hf
    obtain ⟨ao, cp, hu, NA'⟩ := TV.out.own.shape
    have NA := hide NA'
    clear NA'
    subst hu
    obtain ⟨x0, x1, x2⟩ := TV.out.cells
    obtain ⟨f0, f1, f2⟩ := TV.out.free
    have hXw := TV.out.x.lt
    by_cases hn : isN at_
    · have B1 : Hid (decide (0 ≤ at_ ∧ at_ < 6) = true) := decide_eq_true hn
      obtain ⟨x, rfl⟩ : ∃ x : Nat, at_ = (x : Int) := ⟨at_.toNat, by have := hn.1; omega⟩
      have hx : x < 6 := by have := hn.2; omega
      by_cases hin : x ∈ out
      · have HI := hide (rin_is (c := cp) NA.out (by omega) x (decide_eq_true hin))
        have HR : Hid ((out, k, (-2 : Int)) = (l, kk, ee)) := by
          have := HP.out
          rw [goN, if_pos hn, Int.toNat_natCast, if_pos hin] at this
          exact this
        have TV2 := hide (TV.out.setE hne (-2))
        clear hn hin HP HO TV
        go_upto_region 6 with (first
          | (go_at_call 9; with_reducible refine (isNode_is B1.out _).mono ?_; rintro e w1 ⟨rfl, hw1⟩; have hw2 := hw1.symm; clear hw1; subst hw2)
          | (go_at_call 140; with_reducible refine HI.out.mono ?_; rintro e w1 ⟨rfl, hw1⟩; have hw2 := hw1.symm; clear hw1; subst hw2))
        refine wp_gen (fun V => Hid (Tv 166 w V w.heap.size (w.heap.size + 1) (.slice ao out.length cp) out k (-2))) TV2.out ?_
        rintro V TVe
        obtain ⟨⟨x0', x1', x2'⟩, ⟨ra, rb, rc, r0, r1, r2⟩, ⟨s0, s1, s2⟩, hRw, hXw'⟩ := TVe.out.facts
        have TRt := hide (TVe.out.ret hne)
        clear TVe
        go_wp2_with fail
        refine bp_gen' (fun Z => VArr Z 166 3 w.heap.size (trF (.slice ao out.length cp) k (-2)) ∧ (NmAt Z ao out ∧ (∀ b o, ao = some ⟨b, o, none⟩ → w.heap.size ≤ b) ∧ out.length ≤ cp) ∧ Gr w Z) ⟨TRt.out.1, TRt.out.2.1 _ _ rfl, TRt.out.2.2⟩ ?_
        rintro Z ⟨vz, nz, gz⟩
        obtain ⟨z0, z1, z2⟩ := vz.three
        obtain ⟨hq1, hq2, hq3⟩ : out = l ∧ k = kk ∧ (-2) = ee := by have := HR.out; simp only [Prod.mk.injEq] at this; exact this
        refine bodyPost_ret (v := .agg #[.slice ao out.length cp, iv k, iv (-2)]) (by simp [results, Tryz.results99, go_sem, z0, z1, z2]) rfl ⟨ao, cp, by rw [← hq1, ← hq2, ← hq3], by rw [← hq1]; exact nz, gz⟩
      · have HI := hide (rin_is (c := cp) NA.out (by omega) x (decide_eq_false hin))
        have HNX : Hid (goN (letH t rs a) (fun u v => (c u v : Int)) (f + 1) (x : Int) out k = goS (letH t rs a) (fun u v => (c u v : Int)) f x (out ++ [x]) k) := goN_new hx hin
        have HO2 : Hid ((∀ y ∈ out ++ [x], y < 6) ∧ (out ++ [x]).Nodup ∧ f + (out ++ [x]).length = 7) := by
          obtain ⟨o1, o2, o3⟩ := HO.out
          refine ⟨fun y hy => ?_, ?_, by rw [List.length_append, List.length_singleton]; omega⟩
          · rcases List.mem_append.1 hy with r | r
            · exact o1 y r
            · rw [List.mem_singleton.1 r]; exact hx
          · rw [List.nodup_append]
            refine ⟨o2, by simp, fun a ha b hb => ?_⟩
            rw [List.mem_singleton.1 hb]
            exact fun e => hin (e ▸ ha)
        obtain ⟨v', w', hrun, tv', cw0, fw0, xw⟩ := TV.out.app hne 34 x (by omega)
        obtain ⟨out', ho'⟩ : ∃ out', out' = out ++ [x] := ⟨_, rfl⟩
        rw [← ho'] at tv' HO2 HNX
        have hol' : (out'.length : Int) = out.length + 1 := by rw [ho', List.length_append, List.length_singleton]; omega
        obtain ⟨ao', cp', hv', _⟩ := tv'.own.shape
        subst hv'
        clear ho'
        have HRN := hide hrun
        have TVA := hide tv'
        have HPS : Hid (goS (letH t rs a) (fun u v => (c u v : Int)) f x out' k = (l, kk, ee)) := HNX.out.symm.trans HP.out
        have HOL := hide hol'
        clear hrun tv' hn hin HP HO TV HNX hol'
        go_upto_region 8 with (first
          | (go_at_call 9; with_reducible refine (isNode_is B1.out _).mono ?_; rintro e w1 ⟨rfl, hw1⟩; have hw2 := hw1.symm; clear hw1; subst hw2)
          | (go_at_call 140; with_reducible refine HI.out.mono ?_; rintro e w1 ⟨rfl, hw1⟩; have hw2 := hw1.symm; clear hw1; subst hw2)
          | (at_builtin; refine Lib.wpList_append_run _ rfl _ _ _ _ rfl _ _ rfl rfl _ _ HRN.out ?_))
        refine wp_gen (fun V => Hid (Tv 166 w V w.heap.size (w.heap.size + 1) (.slice ao' out'.length cp') out' k (-1))) TVA.out ?_
        clear TVA HRN HI NA x0 x1 x2 f0 f1 f2 hXw cw0 fw0 xw
        rintro V TV
        have hk15' : k ≤ 15 * (out'.length : Int) - 15 := by have := HOL.out; omega
        have hol7 : out'.length ≤ 7 := by have := HO2.out.2.2; omega
        clear hk15 HOL
        have gV := hide TV.out.gr
        obtain ⟨hv, hhv⟩ : ∃ hv, letH t rs a x = hv := ⟨_, rfl⟩
        have HLF := hide (fun (X : World) (ao : Option Addr) (cp : Nat) (h : RowAt X (fun _ => True) ao (fullL t (x : Int) rs)) => HL.out X x ao cp h)
        have HLG := hide (fun (X : World) (ao : Option Addr) (cp : Nat) (h : RowAt X (fun _ => True) ao (lstL (fullL t (x : Int) rs))) => HLS.out X x ao cp h)
        rw [hhv] at HLF HLG
        unfold goS at HPS
        rw [hhv] at HPS
        have HFX := hide (fun (X : World) (g : Gr w X) => HF.out X x g)
        have HSX := hide (fun (X : World) (g : Gr w X) => HS.out X x g)
        clear hhv
        generalize fullL t (x : Int) rs = fs at *
        generalize lstL fs = ss at *
        cases sm
        all_goals
          go_upto_region 12 with (first
            | (go_at_call 97; with_reducible refine (HFX.out _ gV.out).mono ?_; rintro e V2 ⟨ao2, c2, rfl, r2', g2'⟩; have R2 := hide r2'; have TV2 := hide (TV.out.ext g2'); have G2 := hide (gV.out.trans g2'); clear r2' g2')
            | (go_at_call 98; with_reducible refine (HSX.out _ G2.out).mono ?_; rintro e V3 ⟨ao3, c3, rfl, r3', g3'⟩; have R3 := hide r3'; have TV3 := hide (TV2.out.ext g3'); clear r3' g3')
            | (go_at_call 141; with_reducible refine (HLG.out _ _ _ R3.out).mono ?_; rintro e V4 ⟨rfl, g4'⟩; have TV4 := hide (TV3.out.ext g4'); clear g4')
            | (go_at_call 141; with_reducible refine (HLF.out _ _ _ R2.out).mono ?_; rintro e V4 ⟨rfl, g4'⟩; have TV4 := hide (TV2.out.ext g4'); clear g4')
            | fail)
          clear TV TV2 gV G2 HFX HSX HLF HLG
          obtain ⟨y0, y1, y2⟩ := TV4.out.cells
          obtain ⟨f0, f1, f2⟩ := TV4.out.free
          have hX4 := TV4.out.x.lt
          by_cases hhx : hv = (x : Int)
          · have exx : ((x : Int) == (x : Int)) = true := by simp
            have HR : Hid ((out', k, (x : Int)) = (l, kk, ee)) := by
              have := HPS.out
              rw [if_pos hhx] at this
              exact this
            subst hhx
            have TV5 := hide (TV4.out.setE hne (x : Int))
            clear TV4 HPS
            go_upto_region 14 with (fail)
            refine wp_gen (fun V => Hid (Tv 166 w V w.heap.size (w.heap.size + 1) (.slice ao' out'.length cp') out' k (x : Int))) TV5.out ?_
            rintro V TVe
            obtain ⟨⟨x0', x1', x2'⟩, ⟨ra, rb, rc, r0, r1, r2⟩, ⟨s0, s1, s2⟩, hRw, hXw'⟩ := TVe.out.facts
            have TRt := hide (TVe.out.ret hne)
            clear TVe
            go_wp2_with fail
            refine bp_gen' (fun Z => VArr Z 166 3 w.heap.size (trF (.slice ao' out'.length cp') k (x : Int)) ∧ (NmAt Z ao' out' ∧ (∀ b o, ao' = some ⟨b, o, none⟩ → w.heap.size ≤ b) ∧ out'.length ≤ cp') ∧ Gr w Z) ⟨TRt.out.1, TRt.out.2.1 _ _ rfl, TRt.out.2.2⟩ ?_
            rintro Z ⟨vz, nz, gz⟩
            obtain ⟨z0, z1, z2⟩ := vz.three
            obtain ⟨hq1, hq2, hq3⟩ : out' = l ∧ k = kk ∧ (x : Int) = ee := by have := HR.out; simp only [Prod.mk.injEq] at this; exact this
            refine bodyPost_ret (v := .agg #[.slice ao' out'.length cp', iv k, iv (x : Int)]) (by simp [results, Tryz.results99, go_sem, z0, z1, z2]) rfl ⟨ao', cp', by rw [← hq1, ← hq2, ← hq3], by rw [← hq1]; exact nz, gz⟩
          · have ehx : (hv == (x : Int)) = false := by simpa using hhx
            by_cases hnv : isN hv
            · have B2 : Hid (decide (0 ≤ hv ∧ hv < 6) = true) := decide_eq_true hnv
              obtain ⟨y, rfl⟩ : ∃ y : Nat, hv = (y : Int) := ⟨hv.toNat, by have := hnv.1; omega⟩
              have hy : y < 6 := by have := hnv.2; omega
              have HPN : Hid (goN (letH t rs a) (fun u v => (c u v : Int)) f (y : Int) out' (k + (c x y : Int)) = (l, kk, ee)) := by
                have := HPS.out
                rw [if_neg hhx, if_pos hnv, Int.toNat_natCast] at this
                exact this
              obtain ⟨ct, hTV⟩ := HCS.out V4 x y TV4.out.gr hx hy
              have h15 := HC15.out x y
              have wkk : IntKind.i64.wrap (k + (c x y : Int)) = k + (c x y : Int) := by rw [IntKind.wrap_i64]; omega
              have TV5 := hide (TV4.out.setK hne (k + (c x y : Int)))
              have hcx : (0 : Int) ≤ (c x y : Int) ∧ (c x y : Int) ≤ 15 := ⟨by omega, by omega⟩
              have hxi : (x : Int) < 6 := by omega
              have hyi : (y : Int) < 6 := by omega
              generalize (c x y : Int) = cxy at *
              clear TV4 HPS hnv
              go_upto_region 16 with (go_at_call 9; with_reducible refine (isNode_is B2.out _).mono ?_; rintro e w1 ⟨rfl, hw1⟩; have hw2 := hw1.symm; clear hw1; subst hw2)
              go_still_tail 12, (by kernel_rfl)
              go_wp2_with fail
              go_roundg f
              case measure => omega
              case rel => exact ⟨out', (y : Int), k + cxy, _, rfl, by omega, by omega, HPN, TV5.out.ext ((Gr.refl _).drew), HO2⟩
            · have B2 : Hid (decide (0 ≤ hv ∧ hv < 6) = false) := decide_eq_false hnv
              have HPN : Hid (goN (letH t rs a) (fun u v => (c u v : Int)) f hv out' k = (l, kk, ee)) := by
                have := HPS.out
                rw [if_neg hhx, if_neg hnv, Int.add_zero] at this
                exact this
              clear HPS hnv
              go_wp2_with (go_at_call 9; with_reducible refine (isNode_is B2.out _).mono ?_; rintro e w1 ⟨rfl, hw1⟩; have hw2 := hw1.symm; clear hw1; subst hw2)
              go_roundg f
              case measure => omega
              case rel => exact ⟨out', hv, k, _, rfl, by omega, by omega, HPN, TV4, HO2⟩
    · have B1 : Hid (decide (0 ≤ at_ ∧ at_ < 6) = false) := decide_eq_false hn
      have HR : Hid ((out, k, (-1 : Int)) = (l, kk, ee)) := by
        have := HP.out
        rw [goN, if_neg hn] at this
        exact this
      have TV2 := hide TV.out
      clear hn HP HO TV
      go_upto_region 18 with (go_at_call 9; with_reducible refine (isNode_is B1.out _).mono ?_; rintro e w1 ⟨rfl, hw1⟩; have hw2 := hw1.symm; clear hw1; subst hw2)
      refine wp_gen (fun V => Hid (Tv 166 w V w.heap.size (w.heap.size + 1) (.slice ao out.length cp) out k (-1))) TV2.out ?_
      rintro V TVe
      obtain ⟨⟨x0', x1', x2'⟩, ⟨ra, rb, rc, r0, r1, r2⟩, ⟨s0, s1, s2⟩, hRw, hXw'⟩ := TVe.out.facts
      have TRt := hide (TVe.out.ret hne)
      clear TVe
      go_wp2_with fail
      refine bp_gen' (fun Z => VArr Z 166 3 w.heap.size (trF (.slice ao out.length cp) k (-1)) ∧ (NmAt Z ao out ∧ (∀ b o, ao = some ⟨b, o, none⟩ → w.heap.size ≤ b) ∧ out.length ≤ cp) ∧ Gr w Z) ⟨TRt.out.1, TRt.out.2.1 _ _ rfl, TRt.out.2.2⟩ ?_
      rintro Z ⟨vz, nz, gz⟩
      obtain ⟨z0, z1, z2⟩ := vz.three
      obtain ⟨hq1, hq2, hq3⟩ : out = l ∧ k = kk ∧ (-1) = ee := by have := HR.out; simp only [Prod.mk.injEq] at this; exact this
      refine bodyPost_ret (v := .agg #[.slice ao out.length cp, iv k, iv (-1)]) (by simp [results, Tryz.results99, go_sem, z0, z1, z2]) rfl ⟨ao, cp, by rw [← hq1, ← hq2, ← hq3], by rw [← hq1]; exact nz, gz⟩
end

end Go.Proofs.YtfcknkanbcndjagGreatDoor
