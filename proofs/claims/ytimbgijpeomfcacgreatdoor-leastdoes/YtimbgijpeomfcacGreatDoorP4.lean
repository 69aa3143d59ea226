/- CONTRACT OF handpostref.Done: changes done to a list of routes, those that take away first. (Written by tools/gendone.py.) -/
import Derived.Test.YtimbgijpeomfcacGreatDoorS9
import Derived.Test.YtimbgijpeomfcacGreatDoorChMem
import Derived.Test.YtimbgijpeomfcacGreatDoorT3
import Derived.Deep.RegionHeld3
import Derived.Deep.DeepCutAuto
namespace Go.Proofs.YtimbgijpeomfcacGreatDoor
open Go.RowKit
attribute [local go_sem] Ext.all Ext.cell Ext.frozen Ext.lt Ext.lt1 Ext.lt2 Ext.ne Ext.ne'

/-- What is left to be done at the head of each pass. -/
def finO (kk : Int) (cur : List Rt) (cs : List Ch) : List Rt × Int := if kk = 0 then doneL cur cs else if kk = 1 then passD false cur cs else (cur, 0)
def finF (cs : List Ch) (p : List Rt × Int) : List Rt × Int := if p.2 ≠ 0 then p else passD false p.1 cs

set_option maxRecDepth 20000 in
set_option maxHeartbeats 8000000 in
theorem done_any (w : World) (M N : Nat → Prop) (ao co : Option Addr) (ca cc m : Nat) (rs : List Rt) (cs : List Ch) (H : RowAt w M ao rs) (hT : Tab rs) (hC : ChAt w N co cs) (hm : cs.length = m) (hm2 : m ≤ 1000) :
    Calls Tryz.prog 16 #[.slice ao rs.length ca, .slice co m cc] w fun e w' => ∃ ao' c', e = .returned (.tuple #[.slice ao' (doneL rs cs).1.length c', .int .i64 (doneL rs cs).2]) ∧ RowAt w' (fun _ => True) ao' (doneL rs cs).1 ∧ Gr w w' := by
  have HCG := hide (fun (X : World) (g : Gr w X) => hC.gr g)
  have HR0 := hide (H.mono (N := fun _ => True) (fun _ _ _ => trivial))
  have HT0 := hide hT
  have HF0 : Hid (finO 0 rs cs = doneL rs cs) := rfl
  generalize doneL rs cs = res at *
  clear H hT hC
  go_enter Tryz.func16, Tryz.ntmps16
  go_wp2_with fail
  go_loopw [0, 6] (fun v0 v6 wr => ∃ (kk : Int) (cur : List Rt) (xo : Option Addr) (xc : Nat), (kk = 0 ∨ kk = 1 ∨ kk = 2) ∧ v6 = .int .i64 kk ∧ v0 = .slice xo cur.length xc ∧ Hid (Tab cur) ∧ Hid (RowAt wr (fun _ => True) xo cur) ∧ Hid (finO kk cur cs = res) ∧ Gr w wr) (fun _ v6 _ => (2 - intOf v6).toNat)
  case atStart => exact ⟨0, rs, ao, ca, by decide, rfl, rfl, HT0, HR0, HF0, Gr.refl _⟩
  case round =>
    obtain ⟨kk, cur, xo, xc, hkk, rfl, rfl, HT, HR, HF, gk⟩ := hrel
    clear HT0 HR0 HF0
    rcases hkk with rfl | rfl | rfl
    · have HFX : Hid (∀ p : List Rt × Int, p.2 ≠ 0 → finF cs p = p) := fun p hp => by unfold finF; rw [if_pos hp]
      have HF2 : Hid (∀ cur, finF cs (passD true cur []) = res → Hid (finO 1 cur cs = res)) := fun cur h => h
      have HF' : Hid (finF cs (passD true cur cs) = res) := HF
      clear HF
      have HF := HF'
      clear HF'
      generalize finF cs = F at *
      go_wp2_with fail
      go_loopw [0, 7] (fun v0 v7 wc => ∃ (i : Nat) (cur : List Rt) (xo : Option Addr) (xc : Nat), i ≤ m ∧ v7 = .int .i64 i ∧ v0 = .slice xo cur.length xc ∧ Hid (Tab cur) ∧ Hid (RowAt wc (fun _ => True) xo cur) ∧ Hid (F (passD true cur (cs.drop i)) = res) ∧ Gr w wc) (fun _ v7 _ => m - (intOf v7).toNat)
      case atStart => exact ⟨0, cur, xo, xc, by omega, rfl, rfl, HT, HR, by rw [List.drop_zero]; exact HF, gk⟩
      case round =>
        clear HT HR HF gk
        obtain ⟨i, cur, xo, xc, hi, rfl, rfl, HT, HR, HF, gi⟩ := hrel
        by_cases hlt : i < m
        · have hii : (i : Int) < (m : Int) := by omega
          have HS : Hid (cs.drop i = cs[i]'(by omega) :: cs.drop (i + 1)) := List.drop_eq_getElem_cons (by omega)
          obtain ⟨q, o, rfl, hq, hcs⟩ : ∃ b o, co = some ⟨b, o, none⟩ ∧ b < wr.heap.size ∧ ∀ i (h : i < cs.length), wr.cell? ⟨b, o + i * 4, none⟩ = some (iv cs[i].1) ∧ wr.cell? ⟨b, o + i * 4 + 1, none⟩ = some (iv cs[i].2.1) ∧ wr.cell? ⟨b, o + i * 4 + 2, none⟩ = some (iv cs[i].2.2.1) ∧ wr.cell? ⟨b, o + i * 4 + 3, none⟩ = some (iv cs[i].2.2.2) := by
            rcases HCG.out _ gi with e | ⟨b', o', ha, hb', _, hc'⟩
            · rw [e] at hm; simp at hm; omega
            · exact ⟨b', o', ha, hb', hc'⟩
          obtain ⟨c0, c1, c2, c3⟩ := hcs i (by omega)
          clear hcs
          generalize cs[i]'(by omega) = ch at *
          obtain ⟨l, b, x, y⟩ := ch
          simp only at c0 c1 c2 c3
          have HK := hide (fun (X : World) (g : Gr wr X) => (show X.cell? ⟨q, o + i * 4, none⟩ = some (iv l) ∧ X.cell? ⟨q, o + i * 4 + 1, none⟩ = some (iv b) ∧ X.cell? ⟨q, o + i * 4 + 2, none⟩ = some (iv x) ∧ X.cell? ⟨q, o + i * 4 + 3, none⟩ = some (iv y) from ⟨(Below.cell g (p := ⟨q, _, none⟩) hq).trans c0, (Below.cell g (p := ⟨q, _, none⟩) hq).trans c1, (Below.cell g (p := ⟨q, _, none⟩) hq).trans c2, (Below.cell g (p := ⟨q, _, none⟩) hq).trans c3⟩))
          by_cases hy : y = -2
          · subst hy
            have HN : Hid (passD true cur (cs.drop i) = if getL cur l b ≠ x then (cur, 11) else if (setL cur l b (-2)).2 ≠ 0 then (cur, (setL cur l b (-2)).2) else passD true (setL cur l b (-2)).1 (cs.drop (i + 1))) := by
              unfold Hid
              rw [HS.out, passD, if_neg (by simp)]
            have H1 : Hid (∀ (d : Ext wr), Calls Tryz.prog 30 #[.slice xo cur.length xc, pfx l b] d.out fun e w' => e = .returned (.int .i64 (getL cur l b)) ∧ ∃ m : Ext wr, w' = m.out) := fun d => by
              have := getOf_any d.out (fun _ => True) xo cur.length xc cur l b (HR.out.gr d.gr) rfl (by have := HT.out.len; omega)
              rw [HT.out.getR] at this
              exact Calls.ext_of this
            have H2 := hide (fun (X : World) (g : Gr wr X) => setOf_any X (fun _ => True) xo xc cur l b (-2) (HR.out.gr g) HT.out)
            have HT2 := hide (HT.out.set_tab l b (-2))
            clear HS
            generalize setL cur l b (-2) = SR at *
            obtain ⟨nx, ec⟩ := SR
            simp only at HN H2 HT2
            generalize getL cur l b = gg at *
            by_cases hg : gg = x
            · have hgb : (gg != x) = false := by simpa using hg
              rw [if_neg (by simpa using hg)] at HN
              clear hg
              go_wp2_with fail
              refine wp_region_ext (by kernel_rfl) (by kernel_rfl) ?_
              repeat (go_big_quiet_step ((go_at_call 30; with_reducible exact H1.out _)))
              refine wpQuiet_nil ?_
              rintro _ ⟨d1, rfl⟩
              go_upto_region 10 with (fail)
              refine wp_gen (fun X => Gr wr X) d1.gr ?_
              intro X gX
              obtain ⟨x0, x1, x2, x3⟩ := HK.out X gX
              have gD := hide gX.drew
              have H3 := hide (H2.out _ gX.drew)
              clear H1 H2
              go_wp2_with fail
              go_region_held3 (fun w' => w'.cell? ⟨q, o + i * 4, none⟩ = some (iv l) ∧ w'.cell? ⟨q, o + i * 4 + 1, none⟩ = some (iv b) ∧ w'.cell? ⟨q, o + i * 4 + 2, none⟩ = some (iv x) ∧ w'.cell? ⟨q, o + i * 4 + 3, none⟩ = some (iv (-2))) (first | exact HK.out _ G4.out | exact HK.out _ gD.out | go_keep)
                (first
                | (go_at_call 20; have H3x := H3.out; refine H3x.mono ?_; clear H3x; rintro e _ ⟨ao', c', rfl, r4, d4, rfl⟩; have G4 := hide (gX.drew.ext d4); have R4 := hide r4; clear r4)
                | fail)
              all_goals
                by_cases hec : ec = 0
                · have hecb : (ec != 0) = false := by simpa using hec
                  rw [if_neg (by simpa using hec)] at HN
                  clear hec
                  go_wp2_with fail
                  go_roundw
                  case rel => exact ⟨i + 1, nx, ao', c', by omega, by go_num, rfl, HT2, R4.out.mono (fun _ _ _ => trivial), by unfold Hid; rw [← HF.out, HN.out], gi.trans G4.out⟩
                  case measure => simp [intOf]; omega
                · have hecb : (ec != 0) = true := by simpa using hec
                  rw [if_pos hec] at HN
                  have HE : Hid (res = (cur, ec)) := by unfold Hid; rw [← HF.out, HN.out]; exact HFX.out _ hec
                  obtain rfl := HE.out
                  clear hec
                  go_wp2_with fail
                  go_ret2
                  first | exact ⟨xo, xc, rfl, (HR.out.gr G4.out), gi.trans G4.out⟩ | exact ⟨xo, ⟨xc, rfl⟩, (HR.out.gr G4.out), gi.trans G4.out⟩
            · have hgb : (gg != x) = true := by simpa using hg
              rw [if_pos hg] at HN
              have HE : Hid (res = (cur, 11)) := by unfold Hid; rw [← HF.out, HN.out]; exact HFX.out _ (by simp)
              obtain rfl := HE.out
              clear hg
              go_wp2_with fail
              refine wp_region_ext (by kernel_rfl) (by kernel_rfl) ?_
              repeat (go_big_quiet_step ((go_at_call 30; with_reducible exact H1.out _)))
              refine wpQuiet_nil ?_
              rintro _ ⟨d1, rfl⟩
              go_wp2_with fail
              go_ret2
              first | exact ⟨xo, xc, rfl, (HR.out.gr d1.gr), gi.ext d1⟩ | exact ⟨xo, ⟨xc, rfl⟩, (HR.out.gr d1.gr), gi.ext d1⟩
          · have hyb : (y == -2) = false := by simpa using hy
            have HN : Hid (passD true cur (cs.drop i) = passD true cur (cs.drop (i + 1))) := by
              unfold Hid
              rw [HS.out, passD, if_pos (by simp; exact hy)]
            clear HS
            go_wp2_with fail
            go_roundw
            case rel => exact ⟨i + 1, cur, xo, xc, by omega, by go_num, rfl, HT, HR, by unfold Hid; rw [← HF.out, HN.out], gi⟩
            case measure => simp [intOf]; omega
        · have hii : ¬ (i : Int) < (m : Int) := by omega
          have hde : cs.drop i = [] := List.drop_eq_nil_of_le (by omega)
          rw [hde] at HF
          clear hde
          go_wp2_with fail
          go_roundw
          case rel => exact ⟨1, cur, xo, xc, by decide, by first | rfl | simp, rfl, HT, HR, HF2.out _ HF.out, gi⟩
          case measure => simp [intOf]
    · have HFX : Hid (∀ p : List Rt × Int, p.2 ≠ 0 → (fun q : List Rt × Int => q) p = p) := fun p hp => rfl
      have HF2 : Hid (∀ cur, (fun q : List Rt × Int => q) (passD false cur []) = res → Hid (finO 2 cur cs = res)) := fun cur h => h
      have HF' : Hid ((fun q : List Rt × Int => q) (passD false cur cs) = res) := HF
      clear HF
      have HF := HF'
      clear HF'
      generalize (fun q : List Rt × Int => q) = F at *
      go_wp2_with fail
      go_loopw [0, 7] (fun v0 v7 wc => ∃ (i : Nat) (cur : List Rt) (xo : Option Addr) (xc : Nat), i ≤ m ∧ v7 = .int .i64 i ∧ v0 = .slice xo cur.length xc ∧ Hid (Tab cur) ∧ Hid (RowAt wc (fun _ => True) xo cur) ∧ Hid (F (passD false cur (cs.drop i)) = res) ∧ Gr w wc) (fun _ v7 _ => m - (intOf v7).toNat)
      case atStart => exact ⟨0, cur, xo, xc, by omega, rfl, rfl, HT, HR, by rw [List.drop_zero]; exact HF, gk⟩
      case round =>
        clear HT HR HF gk
        obtain ⟨i, cur, xo, xc, hi, rfl, rfl, HT, HR, HF, gi⟩ := hrel
        by_cases hlt : i < m
        · have hii : (i : Int) < (m : Int) := by omega
          have HS : Hid (cs.drop i = cs[i]'(by omega) :: cs.drop (i + 1)) := List.drop_eq_getElem_cons (by omega)
          obtain ⟨q, o, rfl, hq, hcs⟩ : ∃ b o, co = some ⟨b, o, none⟩ ∧ b < wr.heap.size ∧ ∀ i (h : i < cs.length), wr.cell? ⟨b, o + i * 4, none⟩ = some (iv cs[i].1) ∧ wr.cell? ⟨b, o + i * 4 + 1, none⟩ = some (iv cs[i].2.1) ∧ wr.cell? ⟨b, o + i * 4 + 2, none⟩ = some (iv cs[i].2.2.1) ∧ wr.cell? ⟨b, o + i * 4 + 3, none⟩ = some (iv cs[i].2.2.2) := by
            rcases HCG.out _ gi with e | ⟨b', o', ha, hb', _, hc'⟩
            · rw [e] at hm; simp at hm; omega
            · exact ⟨b', o', ha, hb', hc'⟩
          obtain ⟨c0, c1, c2, c3⟩ := hcs i (by omega)
          clear hcs
          generalize cs[i]'(by omega) = ch at *
          obtain ⟨l, b, x, y⟩ := ch
          simp only at c0 c1 c2 c3
          have HK := hide (fun (X : World) (g : Gr wr X) => (show X.cell? ⟨q, o + i * 4, none⟩ = some (iv l) ∧ X.cell? ⟨q, o + i * 4 + 1, none⟩ = some (iv b) ∧ X.cell? ⟨q, o + i * 4 + 2, none⟩ = some (iv x) ∧ X.cell? ⟨q, o + i * 4 + 3, none⟩ = some (iv y) from ⟨(Below.cell g (p := ⟨q, _, none⟩) hq).trans c0, (Below.cell g (p := ⟨q, _, none⟩) hq).trans c1, (Below.cell g (p := ⟨q, _, none⟩) hq).trans c2, (Below.cell g (p := ⟨q, _, none⟩) hq).trans c3⟩))
          by_cases hy : y = -2
          · subst hy
            have HN : Hid (passD false cur (cs.drop i) = passD false cur (cs.drop (i + 1))) := by
              unfold Hid
              rw [HS.out, passD, if_pos (by simp)]
            clear HS
            go_wp2_with fail
            go_roundw
            case rel => exact ⟨i + 1, cur, xo, xc, by omega, by go_num, rfl, HT, HR, by unfold Hid; rw [← HF.out, HN.out], gi⟩
            case measure => simp [intOf]; omega
          · have hyb : (y == -2) = false := by simpa using hy
            have HN : Hid (passD false cur (cs.drop i) = if getL cur l b ≠ x then (cur, 11) else if (setL cur l b y).2 ≠ 0 then (cur, (setL cur l b y).2) else passD false (setL cur l b y).1 (cs.drop (i + 1))) := by
              unfold Hid
              rw [HS.out, passD, if_neg (by simp; exact hy)]
            have H1 : Hid (∀ (d : Ext wr), Calls Tryz.prog 30 #[.slice xo cur.length xc, pfx l b] d.out fun e w' => e = .returned (.int .i64 (getL cur l b)) ∧ ∃ m : Ext wr, w' = m.out) := fun d => by
              have := getOf_any d.out (fun _ => True) xo cur.length xc cur l b (HR.out.gr d.gr) rfl (by have := HT.out.len; omega)
              rw [HT.out.getR] at this
              exact Calls.ext_of this
            have H2 := hide (fun (X : World) (g : Gr wr X) => setOf_any X (fun _ => True) xo xc cur l b y (HR.out.gr g) HT.out)
            have HT2 := hide (HT.out.set_tab l b y)
            clear HS
            generalize setL cur l b y = SR at *
            obtain ⟨nx, ec⟩ := SR
            simp only at HN H2 HT2
            generalize getL cur l b = gg at *
            by_cases hg : gg = x
            · have hgb : (gg != x) = false := by simpa using hg
              rw [if_neg (by simpa using hg)] at HN
              clear hg
              go_wp2_with fail
              refine wp_region_ext (by kernel_rfl) (by kernel_rfl) ?_
              repeat (go_big_quiet_step ((go_at_call 30; with_reducible exact H1.out _)))
              refine wpQuiet_nil ?_
              rintro _ ⟨d1, rfl⟩
              go_upto_region 10 with (fail)
              refine wp_gen (fun X => Gr wr X) d1.gr ?_
              intro X gX
              obtain ⟨x0, x1, x2, x3⟩ := HK.out X gX
              have gD := hide gX.drew
              have H3 := hide (H2.out _ gX.drew)
              clear H1 H2
              go_wp2_with fail
              go_region_held3 (fun w' => w'.cell? ⟨q, o + i * 4, none⟩ = some (iv l) ∧ w'.cell? ⟨q, o + i * 4 + 1, none⟩ = some (iv b) ∧ w'.cell? ⟨q, o + i * 4 + 2, none⟩ = some (iv x) ∧ w'.cell? ⟨q, o + i * 4 + 3, none⟩ = some (iv y)) (first | exact HK.out _ G4.out | exact HK.out _ gD.out | go_keep)
                (first
                | (go_at_call 20; have H3x := H3.out; refine H3x.mono ?_; clear H3x; rintro e _ ⟨ao', c', rfl, r4, d4, rfl⟩; have G4 := hide (gX.drew.ext d4); have R4 := hide r4; clear r4)
                | fail)
              all_goals
                by_cases hec : ec = 0
                · have hecb : (ec != 0) = false := by simpa using hec
                  rw [if_neg (by simpa using hec)] at HN
                  clear hec
                  go_wp2_with fail
                  go_roundw
                  case rel => exact ⟨i + 1, nx, ao', c', by omega, by go_num, rfl, HT2, R4.out.mono (fun _ _ _ => trivial), by unfold Hid; rw [← HF.out, HN.out], gi.trans G4.out⟩
                  case measure => simp [intOf]; omega
                · have hecb : (ec != 0) = true := by simpa using hec
                  rw [if_pos hec] at HN
                  have HE : Hid (res = (cur, ec)) := by unfold Hid; rw [← HF.out, HN.out]; exact HFX.out _ hec
                  obtain rfl := HE.out
                  clear hec
                  go_wp2_with fail
                  go_ret2
                  first | exact ⟨xo, xc, rfl, (HR.out.gr G4.out), gi.trans G4.out⟩ | exact ⟨xo, ⟨xc, rfl⟩, (HR.out.gr G4.out), gi.trans G4.out⟩
            · have hgb : (gg != x) = true := by simpa using hg
              rw [if_pos hg] at HN
              have HE : Hid (res = (cur, 11)) := by unfold Hid; rw [← HF.out, HN.out]; exact HFX.out _ (by simp)
              obtain rfl := HE.out
              clear hg
              go_wp2_with fail
              refine wp_region_ext (by kernel_rfl) (by kernel_rfl) ?_
              repeat (go_big_quiet_step ((go_at_call 30; with_reducible exact H1.out _)))
              refine wpQuiet_nil ?_
              rintro _ ⟨d1, rfl⟩
              go_wp2_with fail
              go_ret2
              first | exact ⟨xo, xc, rfl, (HR.out.gr d1.gr), gi.ext d1⟩ | exact ⟨xo, ⟨xc, rfl⟩, (HR.out.gr d1.gr), gi.ext d1⟩
        · have hii : ¬ (i : Int) < (m : Int) := by omega
          have hde : cs.drop i = [] := List.drop_eq_nil_of_le (by omega)
          rw [hde] at HF
          clear hde
          go_wp2_with fail
          go_roundw
          case rel => exact ⟨2, cur, xo, xc, by decide, by first | rfl | simp, rfl, HT, HR, HF2.out _ HF.out, gi⟩
          case measure => simp [intOf]
    · have HE : Hid (res = (cur, 0)) := HF.out.symm
      obtain rfl := HE.out
      go_wp2_with fail
      go_ret2
      first | exact ⟨xo, xc, rfl, HR.out, gk⟩ | exact ⟨xo, ⟨xc, rfl⟩, HR.out, gk⟩

end Go.Proofs.YtimbgijpeomfcacGreatDoor
