import Derived.Test.YtfcknkanbcndjagGreatDoorDkMem
import Derived.Test.YtfcknkanbcndjagGreatDoorShelf
import Derived.Test.YtfcknkanbcndjagGreatDoorW2
import Derived.Lib.AppendIntMem
import Derived.Lib.ItoaLen
import Derived.Test.YtfcknkanbcndjagGreatDoorPo1
/- CONTRACT OF handpostref.Words. -/
namespace Go.Proofs.YtfcknkanbcndjagGreatDoor
open Go.RowKit
attribute [local go_sem] Ext.all Ext.cell Ext.frozen Ext.lt Ext.lt1 Ext.lt2 Ext.ne Ext.ne'
/-- What is still to be parted, behind k bytes. -/
def wleft (L : Tx) (k : Nat) (done : List Tx) (cur : Tx) : Prop := if k ≤ L.length then wordsT L = done ++ wgo (L.drop k) cur else wordsT L = done
theorem wleft_zero (L : Tx) : wleft L 0 [] [] := by unfold wleft; rw [if_pos (by omega)]; rfl
theorem wleft_more {L : Tx} {k : Nat} {done : List Tx} {cur : Tx} (h : wleft L k done cur) (hk : k < L.length) (hb : L[k] ≠ 32) : wleft L (k + 1) done (cur ++ [L[k]]) := by
  unfold wleft at *
  rw [if_pos (by omega)] at h ⊢
  rw [h, List.drop_eq_getElem_cons hk, wgo, if_neg hb]
theorem wleft_cut {L : Tx} {k : Nat} {done : List Tx} {cur : Tx} (h : wleft L k done cur) (hk : k < L.length) (hb : L[k] = 32) : wleft L (k + 1) (if cur = [] then done else done ++ [cur]) [] := by
  unfold wleft at *
  rw [if_pos (by omega)] at h ⊢
  rw [h, List.drop_eq_getElem_cons hk, wgo, if_pos hb]
  by_cases hc : cur = []
  · rw [if_pos hc, if_pos hc]
  · rw [if_neg hc, if_neg hc]; simp
theorem wleft_end {L : Tx} {k : Nat} {done : List Tx} {cur : Tx} (h : wleft L k done cur) (hk : k = L.length) : wleft L (k + 1) (if cur = [] then done else done ++ [cur]) [] := by
  subst hk
  unfold wleft at *
  rw [if_pos (by omega)] at h
  rw [if_neg (by omega), h, List.drop_length, wgo]
  by_cases hc : cur = []
  · rw [if_pos hc, if_pos hc]; simp
  · rw [if_neg hc, if_neg hc]
theorem wleft_done {L : Tx} {k : Nat} {done : List Tx} {cur : Tx} (h : wleft L k done cur) (hk : L.length < k) : done = wordsT L := by
  unfold wleft at h
  rw [if_neg (by omega)] at h
  exact h.symm
theorem one_more (cur : Tx) (s : ByteArray) (k : Nat) (hk : k < s.size) : (⟨cur.toArray⟩ ++ s.extract k (k + 1) : ByteArray) = ⟨(cur ++ [s[k]]).toArray⟩ := by
  apply ByteArray.ext
  rw [ByteArray.data_append, ByteArray.data_extract]
  apply Array.ext'
  simp only [Array.toList_append, Array.toList_extract]
  rw [List.extract_eq_take_drop]
  have hl : k < s.data.toList.length := by simpa using hk
  rw [show k + 1 - k = 1 by omega, List.drop_eq_getElem_cons hl]
  rfl
set_option maxRecDepth 20000 in
set_option maxHeartbeats 4000000 in
theorem words_any (w : World) (s : ByteArray) (hs : s.size ≤ 2000000) :
    Calls Tryz.prog 39 #[.string s] w fun e w' => ∃ v, e = .returned v ∧ OwnS w w' v (wordsT s.data.toList) ∧ Gr w w' := by
  have hsz : s.data.toList.length = s.size := by simp
  have HSZ := hide hsz
  clear hsz
  go_enter Tryz.func39, Tryz.ntmps39
  go_wp2_with fail
  go_loopw [3, 4, 5] (fun v3 v4 v5 wr => ∃ (k : Nat) (done : List Tx) (cur : Tx), k ≤ s.size + 1 ∧ v5 = .int .i64 k ∧ v4 = .string ⟨cur.toArray⟩ ∧ Hid (OwnS w wr v3 done) ∧ Gr w wr ∧ cur.length ≤ k ∧ done.length ≤ k ∧ Hid (wleft s.data.toList k done cur)) (fun _ _ v5 _ => s.size + 1 - (intOf v5).toNat)
  case atStart => exact ⟨0, [], [], by omega, rfl, rfl, OwnV.nil _ _ _, Gr.refl _, by simp, by simp, wleft_zero _⟩
  case round =>
    obtain ⟨k, done, cur, hk, rfl, rfl, HO, gk, hcl, hdl, HL⟩ := hrel
    by_cases hlt : k < s.size
    · have hkI : (k : Int) < (s.size : Int) := by omega
      by_cases hb : s[k] = 32
      · have HN := hide (wleft_cut HL.out (by rw [HSZ.out]; exact hlt) hb)
        have eb : ((s[k].toNat : Int) != 32) = false := by rw [hb]; rfl
        clear hb
        by_cases hc : cur = []
        · subst hc
          rw [if_pos rfl] at HN
          go_wp2_with fail
          go_roundw
          case rel => exact ⟨k + 1, done, [], by omega, by go_num, rfl, HO, gk, by simp, by omega, HN⟩
          case measure => simp [intOf]; omega
        · have ec : (cur == []) = false := by simpa using hc
          obtain ⟨v', w', hrun, hown, hgr⟩ := OwnV.appS 58 HO.out gk cur (by simp; omega)
          have HR := hide hrun
          have HW := hide hown
          clear hrun hown
          rw [if_neg hc] at HN
          go_wp2_with (at_builtin; refine Lib.wpList_append_run _ rfl _ _ _ _ rfl _ _ rfl rfl _ _ HR.out ?_)
          go_roundw
          case rel => exact ⟨k + 1, done ++ [cur], [], by omega, by go_num, rfl, ownS_snoc HW.out, hgr, by simp, by simp; omega, HN⟩
          case measure => simp [intOf]; omega
      · have HN := hide (wleft_more HL.out (by rw [HSZ.out]; exact hlt) hb)
        have eb : ((s[k].toNat : Int) != 32) = true := by
          simp only [bne_iff_ne, ne_eq]; intro h; exact hb (UInt8.toNat_inj.1 (by simpa using (by omega : s[k].toNat = 32)))
        have HM := hide (one_more cur s k hlt)
        clear hb
        go_wp2_with fail
        go_roundw
        case rel => exact ⟨k + 1, done, cur ++ [s[k]], by omega, by go_num, by rw [← HM.out], HO, gk, by simp; omega, by omega, HN⟩
        case measure => simp [intOf]; omega
    · by_cases he : k = s.size
      · have HN := hide (wleft_end HL.out (by rw [HSZ.out]; exact he))
        have hk1 : k ≤ s.size := by omega
        have hk2 : decide ((k : Int) < (s.size : Int)) = false := decide_eq_false (by omega)
        have hk3 : decide ((k : Int) ≤ (s.size : Int)) = true := decide_eq_true (by omega)
        clear he
        by_cases hc : cur = []
        · subst hc
          rw [if_pos rfl] at HN
          go_wp2_with fail
          go_roundw
          case rel => exact ⟨k + 1, done, [], by omega, by go_num, rfl, HO, gk, by simp, by omega, HN⟩
          case measure => simp [intOf]; omega
        · have ec : (cur == []) = false := by simpa using hc
          obtain ⟨v', w', hrun, hown, hgr⟩ := OwnV.appS 58 HO.out gk cur (by simp; omega)
          have HR := hide hrun
          have HW := hide hown
          clear hrun hown
          rw [if_neg hc] at HN
          go_wp2_with (at_builtin; refine Lib.wpList_append_run _ rfl _ _ _ _ rfl _ _ rfl rfl _ _ HR.out ?_)
          go_roundw
          case rel => exact ⟨k + 1, done ++ [cur], [], by omega, by go_num, rfl, ownS_snoc HW.out, hgr, by simp, by simp; omega, HN⟩
          case measure => simp [intOf]; omega
      · have hk3 : decide ((k : Int) ≤ (s.size : Int)) = false := decide_eq_false (by omega)
        have HD := hide (wleft_done HL.out (by rw [HSZ.out]; omega))
        go_wp2_with fail
        go_ret
        exact ⟨_, rfl, by rw [← HD.out]; exact HO.out, gk⟩

end Go.Proofs.YtfcknkanbcndjagGreatDoor

/- CONTRACTS OF strconv's Itoa and Atoi, and of handpostref.num, in worlds where the library's variables are as they start. -/
namespace Go.Proofs.YtfcknkanbcndjagGreatDoor
open Go.RowKit
attribute [local go_sem] Ext.all Ext.cell Ext.frozen Ext.lt Ext.lt1 Ext.lt2 Ext.ne Ext.ne'
/-- The library's variables are as they start. -/
structure Lb (w : World) : Prop where
  t64 : Tab64 w
  p10 : Lib.TabIs Tryz.prog w "internal/strconv.uint64pow10" .u64 Lib.pow10Tab
  syn : ∃ tp p, w.var? Tryz.prog "strconv.ErrSyntax" = some #[.iface tp p]
  rng : ∃ tp p, w.var? Tryz.prog "strconv.ErrRange" = some #[.iface tp p]
  ml : ∃ m, w.cell? ⟨0, 0, none⟩ = some (.int .i64 m)
theorem var_gr {w w' : World} {name : String} {x : Array Value} (h : w.var? Tryz.prog name = some x) (g : Gr w w') : w'.var? Tryz.prog name = some x := by
  unfold World.var? at *
  cases hg : Tryz.prog.globalNamed name with
  | none => simp [hg] at h
  | some k =>
    simp only [hg, Option.bind_some] at h ⊢
    have hlt : k < w.heap.size := by
      rcases Nat.lt_or_ge k w.heap.size with h' | h'
      · exact h'
      · rw [Array.getElem?_eq_none h'] at h; simp at h
    rw [Below.block g k hlt]
    exact h
theorem Lb.gr {w w' : World} (h : Lb w) (g : Gr w w') : Lb w' := by
  obtain ⟨a, b, ⟨t1, p1, c⟩, ⟨t2, p2, d⟩, ⟨m, hm⟩⟩ := h
  exact ⟨a.gr g, (Lib.tabBelow_of_tabIs b) w' g, ⟨t1, p1, var_gr c g⟩, ⟨t2, p2, var_gr d g⟩, ⟨m, (Below.cell g (p := ⟨0, 0, none⟩) (World.block_lt_of_cell? _ _ hm)).trans hm⟩⟩
/-- A number of 64 bits. -/
def i64B (n : Int) : Prop := -9223372036854775808 ≤ n ∧ n ≤ 9223372036854775807
theorem itoa_any {w : World} (hL : Lb w) {n : Int} (hn : i64B n) :
    Calls Tryz.prog 133 #[iv n] w fun e w' => e = .returned (sv (ito n)) ∧ Gr w w' :=
  (Tryz.strconv_Itoa n hn.1 hn.2 w hL.p10).mono fun _ _ ⟨he, k, os, hw⟩ => ⟨he, by rw [hw]; exact Lib.below_grow _ w (Nat.le_refl _) k os⟩
theorem ito_len {n : Int} (hn : i64B n) : (ito n).length ≤ 21 := Lib.itoa_length_le n hn.1 hn.2
/-- What Atoi tells. -/
def AtoE (s : Tx) (k : Int) (er : Value) : Prop := match Lib.atoiAll s with
  | .ok v => k = v ∧ er = .nilIface
  | _ => ∃ T N, er = .iface T (pv N)
theorem atoi_any {w : World} (hL : Lb w) (s : ByteArray) (hs : s.size ≤ 2000000) :
    Calls Tryz.prog 91 #[.string s] w fun e w' => ∃ k er, e = .returned (.tuple #[iv k, er]) ∧ AtoE s.data.toList k er ∧ i64B k ∧ Gr w w' := by
  obtain ⟨t1, p1, h1⟩ := hL.syn
  obtain ⟨t2, p2, h2⟩ := hL.rng
  cases h : Lib.atoiAll s.data.toList with
  | ok v =>
    obtain ⟨b0, b1⟩ := Lib.atoiAll_bounds h
    refine (Tryz.strconv_Atoi_ok s (by omega) v h w).mono ?_
    rintro e w' ⟨rfl, hw⟩
    refine ⟨v, .nilIface, rfl, by unfold AtoE; rw [h]; exact ⟨rfl, rfl⟩, ⟨b0, b1⟩, ?_⟩
    rcases hw with rfl | ⟨t, rfl⟩
    · exact Gr.refl _
    · exact Lib.bytesWorld_below w _ t
  | «syntax» =>
    refine (Tryz.strconv_Atoi_syntax_var s (by omega) h t1 p1 w h1).mono ?_
    rintro e w' ⟨N, rfl, _, _, hb⟩
    exact ⟨0, _, rfl, by unfold AtoE; rw [h]; exact ⟨_, N, rfl⟩, ⟨by decide, by decide⟩, hb⟩
  | range =>
    obtain ⟨b0, b1⟩ := Lib.atoiSat_bounds s.data.toList
    refine (Tryz.strconv_Atoi_range_var s (by omega) h t2 p2 w h2).mono ?_
    rintro e w' ⟨N, rfl, _, _, hb⟩
    exact ⟨_, _, rfl, by unfold AtoE; rw [h]; exact ⟨_, N, rfl⟩, ⟨b0, b1⟩, hb⟩
/-- The reference's num. -/
theorem num_any {w : World} (hL : Lb w) {n : Int} (hn : i64B n) :
    Calls Tryz.prog 92 #[iv n] w fun e w' => e = .returned (sv (ito n)) ∧ Gr w w' := by
  have HC := hide (itoa_any hL hn)
  clear hL hn
  generalize ito n = x at *
  go_enter Tryz.func92, Tryz.ntmps92
  go_wp2_with (go_at_call 133; refine HC.out.mono ?_; rintro e w1 ⟨rfl, g1⟩)
  go_ret
  exact ⟨rfl, g1⟩

end Go.Proofs.YtfcknkanbcndjagGreatDoor

/- CONTRACT OF handpostref.LinesFault. -/
namespace Go.Proofs.YtfcknkanbcndjagGreatDoor
open Go.RowKit
attribute [local go_sem] Ext.all Ext.cell Ext.frozen Ext.lt Ext.lt1 Ext.lt2 Ext.ne Ext.ne'
/-- The first line with a newline in it, from i on. -/
def fltGo : List Tx → Nat → Int × Int
  | [], _ => (0, 0)
  | l :: r, i => if (10 : UInt8) ∈ l then (10, (i : Int)) else fltGo r (i + 1)
/-- May there be such lines? A code and a place. -/
def fltD (ls : List Tx) : Int × Int := if 150 < ls.length then (3, -1) else fltGo ls 0
theorem flt_miss {ls : List Tx} {i : Nat} (hi : i < ls.length) (h : (10 : UInt8) ∉ ls[i]) : fltGo (ls.drop i) i = fltGo (ls.drop (i + 1)) (i + 1) := by
  rw [List.drop_eq_getElem_cons hi, fltGo, if_neg h]
theorem flt_hit {ls : List Tx} {i : Nat} (hi : i < ls.length) (h : (10 : UInt8) ∈ ls[i]) : fltGo (ls.drop i) i = (10, (i : Int)) := by
  rw [List.drop_eq_getElem_cons hi, fltGo, if_pos h]
theorem flt_end {ls : List Tx} {i : Nat} (hi : ls.length ≤ i) : fltGo (ls.drop i) i = (0, 0) := by
  rw [List.drop_of_length_le hi]; rfl
theorem rF_any (c a : Int) (w : World) : Calls Tryz.prog 44 #[iv c, iv a] w fun e w' => e = .returned (.agg #[iv c, iv a]) ∧ Gr w w' := by
  go_enter Tryz.func44, Tryz.ntmps44
  go_wp2
  refine bodyPost_ret (v := .agg #[iv c, iv a]) (by simp [results, Tryz.results44, go_sem]) rfl ⟨rfl, ?_⟩
  first
    | exact (Gr.refl w).alloc _
    | exact (((Gr.refl w).alloc _).setCell (by simp) _).setCell (by simp) _
/-- The place of a fault, in a world that has grown since. -/
abbrev FBx (w wr : World) (R : Nat) (c a : Int) : Prop := wr.heap[R]? = some (.cells #[iv c, iv a] 66 (0, 0)) ∧ w.heap.size ≤ R ∧ Gr w wr
theorem fbx_set {w wr : World} {R : Nat} {c a : Int} (h : FBx w wr R c a) (c' a' : Int) : FBx w ((wr.setCell ⟨R, 0, none⟩ (iv c')).setCell ⟨R, 1, none⟩ (iv a')) R c' a' :=
  ⟨heap_setCell_same _ R 1 _ _ (iv a') (heap_setCell_same wr R 0 _ _ (iv c') h.1), h.2.1, (h.2.2.setCell h.2.1 _).setCell h.2.1 _⟩
set_option maxRecDepth 20000 in
set_option maxHeartbeats 8000000 in
theorem linesFault_any {w : World} {ao : Option Addr} {cp : Nat} {ls : List Tx} (h : ValAt w ao (ls.map sv)) (hl : ls.length ≤ 2000000) (hy : ∀ y ∈ ls, y.length ≤ 2000000) :
    Calls Tryz.prog 24 #[.slice ao ls.length cp] w fun e w' => e = .returned (.agg #[iv (fltD ls).1, iv (fltD ls).2]) ∧ Gr w w' := by
  have hb0 := heap_alloc_new w (.cells #[iv 0, iv 0] 66)
  have B0 : Hid (FBx w (w.alloc (.cells #[iv 0, iv 0] 66)) w.heap.size 0 0) := ⟨hb0, Nat.le_refl _, (Gr.refl w).alloc _⟩
  clear hb0
  have HV := hide h
  have HY := hide hy
  clear h hy
  by_cases h150 : 150 < ls.length
  · have HF : Hid (fltD ls = (3, -1)) := by unfold Hid fltD; rw [if_pos h150]
    rw [HF.out]
    have hI : (150 : Int) < (ls.length : Int) := by omega
    have hI2 : decide ((150 : Int) < (ls.length : Int)) = true := decide_eq_true hI
    have HC := hide (rF_any 3 (-1) (w.alloc (.cells #[iv 0, iv 0] 66)))
    clear HF
    go_enter Tryz.func24, Tryz.ntmps24
    go_wp2_with (go_at_call 44; refine HC.out.mono ?_; rintro e w3 ⟨rfl, g3⟩; obtain ⟨d3, hd3⟩ := ext_mk g3; subst hd3; clear g3)
    have B3 : Hid (FBx w d3.out w.heap.size 0 0) := ⟨(Below.block d3.gr _ (by simp)).trans B0.out.1, Nat.le_refl _, B0.out.2.2.trans d3.gr⟩
    have B4 := hide (fbx_set B3.out 3 (-1))
    refine bp_gen' (fun Z => Hid (FBx w Z w.heap.size 3 (-1))) B4.out ?_
    rintro Z HZ
    obtain ⟨z0, z1⟩ := cells2 HZ.out.1
    exact bodyPost_ret (v := .agg #[iv 3, iv (-1)]) (by simp [results, Tryz.results24, go_sem, z0, z1]) rfl ⟨rfl, HZ.out.2.2⟩
  have hI2 : decide ((150 : Int) < (ls.length : Int)) = false := decide_eq_false (by omega)
  have HF : Hid (fltD ls = fltGo (ls.drop 0) 0) := by unfold Hid fltD; rw [if_neg h150]; rfl
  have HP := hide h150
  clear h150
  go_enter Tryz.func24, Tryz.ntmps24
  go_upto_region 3 with (fail)
  refine wp_gen (fun Z => Hid (FBx w Z w.heap.size 0 0)) B0.out ?_
  clear B0
  obtain ⟨R, hR⟩ : ∃ R, w.heap.size = R := ⟨_, rfl⟩
  rw [hR]
  clear hR
  rintro Z0 BZ
  have HVZ := hide (HV.out.gr BZ.out.2.2)
  obtain ⟨z0, z1⟩ := cells2 BZ.out.1
  have zf0 : Z0.frozen? ⟨R, 0, none⟩ = false := frozen_of_row Z0 R 0 _ _ BZ.out.1
  have zf1 : Z0.frozen? ⟨R, 1, none⟩ = false := frozen_of_row Z0 R 1 _ _ BZ.out.1
  have zl : R < Z0.heap.size := lt_of_block BZ.out.1
  go_wp2_with fail
  go_loopw [3] (fun v3 wr => ∃ i : Nat, i ≤ ls.length ∧ v3 = .int .i64 (i : Int) ∧ Hid (fltD ls = fltGo (ls.drop i) i) ∧ wr = Z0) (fun v3 _ => ls.length - (intOf v3).toNat)
  case atStart => exact ⟨0, by omega, rfl, HF, rfl⟩
  case round =>
    obtain ⟨i, hi, rfl, HI, hwr⟩ := hrel
    subst hwr
    by_cases hlt : i < ls.length
    · have hiI : (i : Int) < (ls.length : Int) := by omega
      have wri : IntKind.i64.wrap ((i : Int) + 1) = (i : Int) + 1 := by rw [IntKind.wrap_i64]; omega
      obtain ⟨b, o, hao⟩ : ∃ b o, ao = some ⟨b, o, none⟩ := by
        rcases HVZ.out with h | ⟨b', o', ha, _⟩
        · have : ls = [] := by simpa using h
          rw [this] at hlt; simp at hlt
        · exact ⟨b', o', ha⟩
      subst hao
      have hcell : wr.cell? ⟨b, o + i, none⟩ = some (sv ls[i]) ∧ b < wr.heap.size := by
        rcases HVZ.out with h | ⟨b', o', ha, hb, hc⟩
        · have : ls = [] := by simpa using h
          rw [this] at hlt; simp at hlt
        · cases ha
          have := hc i (by simpa using hlt)
          exact ⟨by simpa using this, hb⟩
      obtain ⟨cy, hb⟩ := hcell
      have hyl := HY.out ls[i] (List.getElem_mem hlt)
      have HM := hide (fun h => flt_miss hlt h)
      have HH := hide (fun h => flt_hit hlt h)
      generalize ls[i] = y at cy hyl HM HH
      obtain ⟨s, hs⟩ : ∃ s : ByteArray, s = ⟨y.toArray⟩ := ⟨_, rfl⟩
      have hsz : s.size = y.length := by rw [hs, size_of_list]
      have HS : Hid (∀ k (h : k < s.size), s[k] ∈ y) := fun k h => by subst hs; exact List.getElem_mem (by rw [← hsz]; exact h)
      have HS2 : Hid ((10 : UInt8) ∈ y → ∃ k, ∃ h : k < s.size, s[k] = 10) := fun hm => by
        subst hs
        obtain ⟨k, hk, e⟩ := List.mem_iff_getElem.1 hm
        exact ⟨k, by rw [hsz]; exact hk, e⟩
      rw [show sv y = Value.string s by rw [hs]] at cy
      have hss : s.size ≤ 2000000 := by omega
      clear hs hsz hyl
      go_wp2_with fail
      go_loopw [4] (fun v4 wq => ∃ k : Nat, k ≤ s.size ∧ v4 = .int .i64 (k : Int) ∧ Hid (∀ j (h : j < s.size), j < k → s[j] ≠ 10) ∧ wq = wr) (fun v4 _ => s.size - (intOf v4).toNat)
      case atStart => exact ⟨0, by omega, rfl, fun j _ h => by omega, rfl⟩
      case round =>
        obtain ⟨k, hk, rfl, HK, hwq⟩ := hrel
        subst hwq
        by_cases hkl : k < s.size
        · have hkI : (k : Int) < (s.size : Int) := by omega
          have wrk : IntKind.i64.wrap ((k : Int) + 1) = (k : Int) + 1 := by rw [IntKind.wrap_i64]; omega
          by_cases h10 : s[k] = 10
          · have eb : ((s[k].toNat : Int) == 10) = true := by rw [h10]; rfl
            have HE := hide (HI.out.trans (HH.out (by have := HS.out k hkl; rw [h10] at this; exact this)))
            have HC := hide (rF_any 10 (i : Int) wr)
            clear h10
            go_wp2_with (go_at_call 44; refine HC.out.mono ?_; rintro e w3 ⟨rfl, g3⟩; obtain ⟨d3, hd3⟩ := ext_mk g3; subst hd3; clear g3)
            have B3 : Hid (FBx w d3.out R 0 0) := ⟨(Below.block d3.gr R zl).trans BZ.out.1, BZ.out.2.1, BZ.out.2.2.trans d3.gr⟩
            have B4 := hide (fbx_set B3.out 10 (i : Int))
            refine bp_gen' (fun Z => Hid (FBx w Z R 10 (i : Int))) B4.out ?_
            rintro Z HZ
            obtain ⟨y0, y1⟩ := cells2 HZ.out.1
            exact bodyPost_ret (v := .agg #[iv 10, iv (i : Int)]) (by simp [results, Tryz.results24, go_sem, y0, y1]) rfl ⟨by rw [HE.out], HZ.out.2.2⟩
          · have eb : ((s[k].toNat : Int) == 10) = false := by
              simp only [beq_eq_false_iff_ne, ne_eq]; intro h; exact h10 (UInt8.toNat_inj.1 (by simpa using (by omega : s[k].toNat = 10)))
            have H10 := hide h10
            clear h10
            go_wp2_with fail
            go_roundw
            case rel => exact ⟨k + 1, by omega, by congr 1, fun j h hj => by
              by_cases e : j = k
              · subst e; exact H10.out
              · exact HK.out j h (by omega), trivial⟩
            case measure => simp [intOf]; omega
        · have hkI : decide ((k : Int) < (s.size : Int)) = false := decide_eq_false (by omega)
          have HE := hide (HI.out.trans (HM.out (fun hm => by
            obtain ⟨j, hj, e⟩ := HS2.out hm
            exact HK.out j hj (by omega) e)))
          go_wp2_with fail
          go_roundw
          case rel => exact ⟨i + 1, by omega, by congr 1, HE, trivial⟩
          case measure => simp [intOf]; omega
    · have hiI : decide ((i : Int) < (ls.length : Int)) = false := decide_eq_false (by omega)
      have HE := hide (HI.out.trans (flt_end (by omega)))
      have B4 := hide (fbx_set BZ.out 0 0)
      go_wp2_with fail
      refine bp_gen' (fun Z => Hid (FBx w Z R 0 0)) B4.out ?_
      rintro Z HZ
      obtain ⟨z0, z1⟩ := cells2 HZ.out.1
      exact bodyPost_ret (v := .agg #[iv 0, iv 0]) (by simp [results, Tryz.results24, go_sem, z0, z1]) rfl ⟨by rw [HE.out], HZ.out.2.2⟩

end Go.Proofs.YtfcknkanbcndjagGreatDoor

/- BOUNDS OF ALL THAT A DESK TELLS. No Go here. -/
namespace Go.Proofs.YtfcknkanbcndjagGreatDoor

theorem say_code (t : Tn) (a b : Int) : 0 ≤ (sayC t a b).2 ∧ (sayC t a b).2 ≤ 11 := by
  unfold sayC
  repeat' split
  all_goals (constructor <;> simp)
theorem sayAll_code (t : Tn) (a : Nat) : ∀ b, 0 ≤ (sayAll t a b).2 ∧ (sayAll t a b).2 ≤ 11
  | 0 => by unfold sayAll; constructor <;> simp
  | b + 1 => by
    have ih := sayAll_code t a b
    unfold sayAll
    split
    · exact ih
    · split
      · exact say_code _ _ _
      · exact ih
theorem do_code (t : Tn) (x : Sp) : 0 ≤ (doT t x).2 ∧ (doT t x).2 ≤ 11 := by
  unfold doT
  split
  · unfold linkC; split <;> (constructor <;> simp)
  · split
    · split
      · exact sayAll_code _ _ _
      · (constructor <;> simp)
    · split
      · exact say_code _ _ _
      · split
        · unfold newsC hearC
          repeat' split
          all_goals (constructor <;> simp)
        · (constructor <;> simp)
theorem fdo_code (t : Tn) (rs : List Rt) (x : Sp) (l b : Int) : 0 ≤ (fdoC t rs x l b).2 ∧ (fdoC t rs x l b).2 ≤ 11 := by
  unfold fdoC
  split
  · show 0 ≤ (ownC rs x.a x.n l b).2 ∧ _
    unfold ownC
    split
    · unfold setL
      repeat' split
      all_goals (constructor <;> simp)
    · (constructor <;> simp)
  · exact do_code t x
theorem i64_of {n : Int} (h : -1000000 ≤ n ∧ n ≤ 1000000) : i64B n := ⟨by omega, by omega⟩
section
variable {t : Tn} {c : Nat → Nat → Nat} {n : Nat}
/-- A way's age, length and hop. -/
theorem way_bd (H : TnA t c) (hg : ∀ k, k < 6 → agT t k ≤ (n : Int)) (hn : n ≤ 100000) (a k : Int) : (-1000000 ≤ (wayTn t a k).1 ∧ (wayTn t a k).1 ≤ 1000000) ∧ (-1000000 ≤ (wayTn t a k).2.1 ∧ (wayTn t a k).2.1 ≤ 1000000) ∧ (-1000000 ≤ (wayTn t a k).2.2 ∧ (wayTn t a k).2.2 ≤ 1000000) := by
  unfold wayTn
  split
  · rename_i ha
    unfold wayOf
    split
    · rename_i hk
      have ha6 : a.toNat < 6 := by omega
      have hk6 : k.toNat < 6 := by omega
      have hgk := hg k.toNat hk6
      obtain ⟨hx, hme⟩ := H.ok.node a.toNat ha6
      by_cases hm : k.toNat = a.toNat
      · obtain ⟨h0, hw, _⟩ := H.self ha6
        have hga := hg a.toNat ha6
        rw [hm, hw]
        refine ⟨?_, ?_, ?_⟩ <;> simp only <;> omega
      · by_cases hd : ((t.nd a.toNat).ways k.toNat).2.2 = -1
        · have e := hx.none_ k.toNat hd
          have hb := hx.ok.best k.toNat
          have hA := H.bestA a.toNat k.toNat ha6 hk6
          rw [e]
          refine ⟨?_, ?_, ?_⟩ <;> simp only <;> omega
        · obtain ⟨j, hj, e, _, hlt, _⟩ := (hx.ok.way k.toNat hk6 (by rw [hme]; exact hm)).by_ hd (by rw [hme]; exact hm)
          have hs := hx.ok.said j k.toNat
          have hc := hx.ok.cost j
          have hA := H.heardA a.toNat j k.toNat ha6 hj hk6
          rw [e]
          unfold wayBy
          refine ⟨?_, ?_, ?_⟩ <;> simp only <;> omega
    · refine ⟨?_, ?_, ?_⟩ <;> simp only <;> omega
  · refine ⟨?_, ?_, ?_⟩ <;> simp only <;> omega
theorem news_bd (H : TnA t c) (hg : ∀ k, k < 6 → agT t k ≤ (n : Int)) (hn : n ≤ 100000) : ∀ x ∈ newsL t.news, i64B x.1 ∧ i64B x.2.1 ∧ i64B x.2.2.1 ∧ i64B x.2.2.2.1 ∧ i64B x.2.2.2.2 := by
  intro x hx
  obtain ⟨y, hy, rfl⟩ := List.mem_map.1 hx
  obtain ⟨h1, h2, _, h3, h4, h5, h6, _⟩ := H.ok.news y hy
  have h7 := H.newsA y hy
  have h8 := hg y.to h3
  refine ⟨i64_of ?_, i64_of ?_, i64_of ?_, i64_of ?_, i64_of ?_⟩ <;> simp only <;> omega
end

end Go.Proofs.YtfcknkanbcndjagGreatDoor
