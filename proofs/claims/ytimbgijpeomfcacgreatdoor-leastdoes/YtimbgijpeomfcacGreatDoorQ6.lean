import Derived.Test.YtimbgijpeomfcacGreatDoorQ4
/- CONTRACT OF slices.Compact at prefixes. -/
namespace Go.Proofs.YtimbgijpeomfcacGreatDoor
open Go.RowKit Go.Sort Go.Lib
attribute [local go_sem] Ext.all Ext.cell Ext.frozen Ext.lt Ext.lt1 Ext.lt2 Ext.ne Ext.ne'

theorem cmpGo_snoc (x : Pf) : ∀ (A : List Pf) (q : Pf), cmpGo q (A ++ [x]) = cmpGo q A ++ (if x = (q :: A).getLast (by simp) then [] else [x])
  | [], q => by
    rw [List.nil_append, cmpGo, cmpGo]
    show (if x = q then cmpGo q [] else x :: cmpGo x []) = (if x = q then [] else [x])
    rw [cmpGo, cmpGo]
  | p :: A, q => by
    rw [List.cons_append, cmpGo, cmpGo, List.getLast_cons (by simp)]
    by_cases e : p = q
    · subst e
      rw [if_pos rfl, if_pos rfl, cmpGo_snoc x A p]
    · rw [if_neg e, if_neg e, cmpGo_snoc x A p, List.cons_append]
/-- What the first m are, each once. -/
def cmpM (d : Array Pf) (m : Nat) : List Pf := cmpL (d.toList.take m)
theorem cmpM_all (d : Array Pf) : cmpM d d.size = cmpL d.toList := by unfold cmpM; rw [List.take_of_length_le (by simp)]
theorem cmpM_succ (d : Array Pf) {m : Nat} (h1 : 1 ≤ m) (hm : m < d.size) : cmpM d (m + 1) = if d[m]! = d[m - 1]! then cmpM d m else cmpM d m ++ [d[m]!] := by
  have hl : m < d.toList.length := by simpa using hm
  have e0 : d[m]! = d.toList[m] := by rw [getElem!_pos d m hm]; simp
  have e1 : d[m - 1]! = d.toList[m - 1] := by rw [getElem!_pos d (m - 1) (by omega)]; simp
  unfold cmpM
  rw [List.take_succ_eq_append_getElem hl, ← e0]
  cases hA : d.toList.take m with
  | nil =>
    have := congrArg List.length hA
    rw [List.length_take] at this
    have h0 : min m d.toList.length = 0 := this
    omega
  | cons q A =>
    have hlast : (q :: A).getLast (by simp) = d[m - 1]! := by
      rw [e1]
      simp only [← hA]
      rw [List.getLast_eq_getElem, List.getElem_take]
      congr 1
      rw [List.length_take]; omega
    rw [List.cons_append, cmpL, cmpGo_snoc, hlast]
    show q :: (cmpGo q A ++ _) = _
    split
    · rw [List.append_nil]; rfl
    · rfl
theorem cmpM_one (d : Array Pf) (h : 1 ≤ d.size) : cmpM d 1 = [d[0]!] := by
  unfold cmpM
  have hl : 0 < d.toList.length := by simp; omega
  rw [List.take_succ_eq_append_getElem hl, List.take_zero, List.nil_append]
  rw [getElem!_pos d 0 h]; simp [cmpL, cmpGo]
/-- The row behind stores: the first k are R, the others as they were. -/
structure Mix (d : Array Pf) (R : List Pf) (dj : Array Pf) : Prop where
  size : dj.size = d.size
  low : ∀ i, i < R.length → dj[i]! = R[i]!
  high : ∀ i, R.length ≤ i → i < d.size → dj[i]! = d[i]!
theorem get_set (d : Array Pf) (k i : Nat) (p : Pf) (hi : i < d.size) : (d.setIfInBounds k p)[i]! = if i = k then p else d[i]! := by
  rw [getElem!_pos _ i (by simpa using hi), Array.getElem_setIfInBounds]
  by_cases e : k = i
  · subst e; simp
  · rw [if_neg e, if_neg (fun h => e h.symm), getElem!_pos d i hi]
theorem Mix.snoc {d dj : Array Pf} {R : List Pf} (h : Mix d R dj) (p : Pf) (hR : R.length < d.size) : Mix d (R ++ [p]) (dj.setIfInBounds R.length p) := by
  have hs := h.size
  refine ⟨by simpa using hs, fun i hi => ?_, fun i hi hl => ?_⟩
  · rw [get_set _ _ _ _ (by simp at hi; omega)]
    by_cases e : i = R.length
    · subst e; simp
    · have : i < R.length := by simp at hi; omega
      rw [if_neg e, h.low i this, getElem!_pos R i this, getElem!_pos (R ++ [p]) i hi, List.getElem_append_left this]
  · rw [get_set _ _ _ _ (by omega), if_neg (by simp at hi; omega)]
    exact h.high i (by simp at hi; omega) hl
/-- A run of stores into the row. -/
theorem SG.many {B W : World} {g : Nat} {d e : Array Pf} (h : SG B g d W) (s : Nat) (vs : List Value) (hfit : s + vs.length ≤ d.size * 2) (hs : e.size = d.size) (he : setMany (flatK encP 2 d) s vs = flatK encP 2 e) : SG B g e (W.setCells g (0 + s) vs) := by
  have hp : putRow id W g 0 (flatK encP 2 d) = W := putRowK_self encP 2 W g 0 d h.holds
  have := setCells_putRow W g 0 vs s (flatK encP 2 d) (by rw [size_flatK]; exact hfit)
  rw [hp, he] at this
  rw [this]
  refine ⟨h.kp.trans (kp_putRow _ _ _ _ _), ?_, h.lt⟩
  exact holdsK_putRowK encP 2 W g 0 d e h.holds hs
theorem SG.set {B W : World} {g : Nat} {d : Array Pf} (h : SG B g d W) {k : Nat} (hk : k < d.size) (p : Pf) : SG B g (d.setIfInBounds k p) ((W.setCell ⟨g, k * 2, none⟩ (iv p.1)).setCell ⟨g, k * 2 + 1, none⟩ (iv p.2)) := by
  have := h.many (e := d.setIfInBounds k p) (k * 2) (encP p) (by simp; omega) (by simp) ?_
  · rw [Nat.zero_add] at this; exact this
  refine ext_get! (by simp) fun t ht => ?_
  have ht' : t < d.size * 2 := by simpa using ht
  rw [get_setMany _ _ _ t (by simpa using ht'), get_flatK _ _ _ t ht', get_flatK _ _ _ t (by simpa using ht'), get_set _ _ _ _ (by omega)]
  simp only [List.length_cons, List.length_nil]
  by_cases a : t / 2 = k
  · rw [if_pos (by omega), if_pos a, show t - k * 2 = t % 2 by omega]
  · rw [if_neg (by omega), if_neg a]
/-- clear of the tail. -/
theorem SG.zero {B W : World} {g : Nat} {d : Array Pf} (h : SG B g d W) {k m : Nat} (hk : k + m = d.size) : ∃ e, e.size = d.size ∧ (∀ i, i < k → e[i]! = d[i]!) ∧ SG B g e (W.setCells g (k * 2) (Builtin.zeroCells #[iv 0, iv 0] m).toList) := by
  have hz : (Builtin.zeroCells #[iv 0, iv 0] m).toList.length = m * 2 := by simp [Builtin.zeroCells]
  refine ⟨(d.toList.take k ++ List.replicate m ((0 : Int), (0 : Int))).toArray, by simp; omega, fun i hi => ?_, ?_⟩
  · rw [getElem!_pos _ i (by simp; omega), getElem!_pos d i (by omega)]
    simp only [List.getElem_toArray]
    rw [List.getElem_append_left (by simp; omega)]
    simp
  · have := h.many (e := (d.toList.take k ++ List.replicate m ((0 : Int), (0 : Int))).toArray) (k * 2) (Builtin.zeroCells #[iv 0, iv 0] m).toList (by rw [hz]; omega) (by simp; omega) ?_
    · rw [Nat.zero_add] at this; exact this
    refine ext_get! (by simp; omega) fun t ht => ?_
    have ht' : t < d.size * 2 := by simpa using ht
    rw [get_setMany _ _ _ t (by simpa using ht'), get_flatK _ _ _ t ht', get_flatK _ _ _ t (by simp; omega), hz]
    by_cases a : k ≤ t / 2
    · rw [if_pos (by omega), getElem!_pos _ (t / 2) (by simp; omega)]
      simp only [List.getElem_toArray]
      rw [List.getElem_append_right (by simp; omega)]
      have hb : t - k * 2 < m * 2 := by omega
      have e2 : (t - k * 2) % 2 = t % 2 := by omega
      simp [Builtin.zeroCells, hb, e2]
    · rw [if_neg (by omega), getElem!_pos d (t / 2) (by omega), getElem!_pos _ (t / 2) (by simp; omega)]
      simp only [List.getElem_toArray]
      rw [List.getElem_append_left (by simp; omega)]
      simp

end Go.Proofs.YtimbgijpeomfcacGreatDoor

/- CONTRACT OF slices.Compact at prefixes: the walk. -/
namespace Go.Proofs.YtimbgijpeomfcacGreatDoor
open Go.RowKit Go.Sort Go.Lib
attribute [local go_sem] Ext.all Ext.cell Ext.frozen Ext.lt Ext.lt1 Ext.lt2 Ext.ne Ext.ne'

theorem Tryz.infoP : (Tryz.prog.info? 30).map (fun i => (i.zero, i.size, i.bytes)) = some (some (.agg #[iv 0, iv 0]), 2, 16) := by kernel_rfl
theorem zero_pfx (w : World) : (zeroValue 30).run Tryz.prog w = .ok (.agg #[iv 0, iv 0]) w := by
  obtain ⟨i0, hi, hz0, hz1, hz2⟩ := info_parts Tryz.infoP
  simp [zeroValue, typeInfo, hi, hz0]
theorem run_clear_pf {B W : World} {g k m : Nat} {d : Array Pf} (h : SG B g d W) (hk : k + m = d.size) (h0 : 0 < m) (ty : TypeId) (c : Nat) :
    (Builtin.clear_ #[61] ty #[.slice (some ⟨g, k * 2, none⟩) m c]).run Tryz.prog W = .ok (.tuple #[]) (W.setCells g (k * 2) (Builtin.zeroCells #[iv 0, iv 0] m).toList) := by
  have hz : (Builtin.zeroCells #[iv 0, iv 0] m).toList.length = m * 2 := by simp [Builtin.zeroCells]
  have hst := run_storeCells_cells (P := Tryz.prog) g (k * 2) (Builtin.zeroCells #[iv 0, iv 0] m).toList 0 W
    (fun j hj => by
      have := (h.holds (k * 2 + j) (by rw [size_flatK]; omega)).1
      rw [Nat.zero_add] at this
      rw [Nat.add_zero, this]; rfl)
    (fun j hj => by
      have := (h.holds (k * 2 + j) (by rw [size_flatK]; omega)).2
      rw [Nat.zero_add] at this
      rw [Nat.add_zero]; exact this)
    (fun v hv => by
      simp [Builtin.zeroCells] at hv
      obtain ⟨i, _, rfl⟩ := hv
      rcases (show i % 2 = 0 ∨ i % 2 = 1 by omega) with e | e <;> simp [e] <;> rfl)
  obtain ⟨m', rfl⟩ : ∃ m', m = m' + 1 := ⟨m - 1, by omega⟩
  simp only [Nat.add_zero] at hst
  simp [Builtin.clear_, run_underlying Tryz.underlying61, Value.cells, hst]

theorem eq_cases (x y : Pf) : (x = y ∧ (x.1 == y.1) = true ∧ (x.2 == y.2) = true) ∨ (x ≠ y ∧ ((x.1 == y.1) = false ∨ ((x.1 == y.1) = true ∧ (x.2 == y.2) = false))) := by
  obtain ⟨a, b⟩ := x
  obtain ⟨a', b'⟩ := y
  by_cases h1 : a = a'
  · by_cases h2 : b = b'
    · left; simp [h1, h2]
    · right; simp [h1, h2]
  · right; simp [h1]
theorem Mix.self {d : Array Pf} {R : List Pf} {k : Nat} (e : R = d.toList.take k) (hk : k ≤ d.size) : Mix d R d := by
  subst e
  refine ⟨rfl, fun i hi => ?_, fun _ _ _ => rfl⟩
  have hi' : i < k := by rw [List.length_take] at hi; omega
  rw [getElem!_pos d i (by omega), getElem!_pos (d.toList.take k) i hi, List.getElem_take]; simp

set_option maxHeartbeats 4000000 in
set_option maxRecDepth 50000 in
theorem compact_any {B W : World} {g n c : Nat} {d : Array Pf} (hS : SG B g d W) (hs : d.size = n) (h2 : 2 ≤ n) (hnc : n ≤ c) (_hc : c ≤ 9223372036854775807) (hn : n ≤ 1000) :
    Calls Tryz.prog 54 #[.slice (some ⟨g, 0, none⟩) n c] W fun e w' => e = .returned (.slice (some ⟨g, 0, none⟩) (cmpL d.toList).length c) ∧ ∃ e' : Array Pf, e'.size = n ∧ (∀ i, i < (cmpL d.toList).length → e'[i]! = (cmpL d.toList)[i]!) ∧ SG B g e' w' := by
  have hH := hide hS
  have HAL := hide (cmpM_all d)
  rw [hs] at HAL
  have HON := hide (cmpM_one d (by omega))
  have HSU := hide (fun m => cmpM_succ d (m := m))
  clear hS
  go_enter Tryz.func54, Tryz.ntmps54
  go_wp2
  go_loopw [3] (fun vk wr => ∃ k : Nat, 1 ≤ k ∧ k ≤ n ∧ vk = .int .i64 k ∧ Hid (SG B g d wr) ∧ Hid (cmpM d k = d.toList.take k)) (fun vk _ => n - (intOf vk).toNat)
  case atStart =>
    refine ⟨1, by omega, by omega, rfl, hH, ?_⟩
    unfold Hid
    rw [HON.out, List.take_succ_eq_append_getElem (by simp; omega), List.take_zero, List.nil_append, getElem!_pos d 0 (by omega)]; simp
  case round =>
    obtain ⟨k, hk1, hk, rfl, hSk, HM⟩ := hrel
    obtain ⟨j, rfl⟩ : ∃ j, k = j + 1 := ⟨k - 1, by omega⟩
    by_cases hlt : j + 1 < n
    · have hg := hSk.out.gLt
      obtain ⟨a0, a1⟩ := holds_at hSk.out.holds (i := j + 1) (by omega)
      obtain ⟨b0, b1⟩ := holds_at hSk.out.holds (i := j) (by omega)
      have hwj : IntKind.i64.wrap (j : Int) = (j : Int) := by rw [IntKind.wrap_i64]; omega
      have hjn : (j : Int) < (n : Int) := by omega
      have hj0 : (0 : Int) ≤ (j : Int) := by omega
      have HS1 := hide (HSU.out (j + 1) (by omega) (by omega))
      rw [Nat.add_sub_cancel] at HS1
      have hec := eq_cases d[j + 1]! d[j]!
      rcases hec with ⟨he, s1, s2⟩ | ⟨he, s12⟩
      · have HS2 := hide (HS1.out.trans (if_pos he))
        clear HS1 he
        generalize d[j + 1]!.1 = x1 at *
        generalize d[j + 1]!.2 = x2 at *
        generalize d[j]!.1 = y1 at *
        generalize d[j]!.2 = y2 at *
        go_wp2
        refine wp_region_ext (by kernel_rfl) (by kernel_rfl) ?_
        repeat (go_big_quiet_step (fail))
        refine wpQuiet_nil ?_
        rintro _ ⟨d1, rfl⟩
        have hjc : ¬ c = j + 1 := by omega
        clear a0 a1 b0 b1
        have hS1 := hide (hSk.out.gr d1.gr)
        go_wp2
        refine wp_gen (fun X => Hid (SG B g d X)) hS1 ?_
        rintro X1 hX1
        have HR0 : Hid (d.toList.take (j + 1) = cmpM d (j + 1 + 1)) := by unfold Hid; rw [HS2.out, HM.out]
        have hl0 : (d.toList.take (j + 1)).length = j + 1 := by simp; omega
        clear HM HS2 hS1 hSk HON s1 s2
        have hm : j + 1 + (n - (j + 1)) = n := by omega
        generalize n - (j + 1) = m at *
        go_loopw [3, 5] (fun vk v5 wr => ∃ (i : Nat) (R : List Pf) (dj : Array Pf), v5 = .int .i64 ((i : Int) + 1) ∧ i + 1 + (j + 1) ≤ n ∧ vk = .int .i64 R.length ∧ Hid (R = cmpM d (j + 1 + (i + 1))) ∧ R.length < j + 1 + (i + 1) ∧ 1 ≤ R.length ∧ Hid (Mix d R dj) ∧ Hid (SG B g dj wr)) (fun _ v5 _ => n - (intOf v5).toNat)
        case atStart => exact ⟨0, d.toList.take (j + 1), d, rfl, by omega, by rw [hl0], HR0, by omega, by omega, Mix.self rfl (by omega), hX1⟩
        case round =>
          obtain ⟨i, R, dj, rfl, hi, rfl, HR, hRl, hR1, HMx, hSj⟩ := hrel
          have hsj := HMx.out.size
          by_cases hlt2 : i + 1 < m
          · have hg := hSj.out.gLt
            obtain ⟨a0, a1⟩ := holds_at hSj.out.holds (i := j + 1 + (i + 1)) (by omega)
            obtain ⟨b0, b1⟩ := holds_at hSj.out.holds (i := j + 1 + i) (by omega)
            rw [HMx.out.high _ (by omega) (by omega), show (j + 1 + (i + 1)) * 2 = (j + 1) * 2 + (i + 1) * 2 by omega] at a0 a1
            rw [HMx.out.high _ (by omega) (by omega), show (j + 1 + i) * 2 = (j + 1) * 2 + i * 2 by omega] at b0 b1
            have hsu := HSU.out (j + 1 + (i + 1)) (by omega) (by omega)
            rw [show j + 1 + (i + 1) - 1 = j + 1 + i by omega, ← HR.out] at hsu
            have HSX := hide hsu
            clear hsu
            have hwi : IntKind.i64.wrap (i : Int) = (i : Int) := by rw [IntKind.wrap_i64]; omega
            have hin : (i : Int) < (m : Int) := by omega
            have hi1 : (i : Int) + 1 < (m : Int) := by omega
            have hi0 : (0 : Int) ≤ (i : Int) := by omega
            have hec := eq_cases d[j + 1 + (i + 1)]! d[j + 1 + i]!
            rcases hec with ⟨he, s1, s2⟩ | ⟨he, s12⟩
            · have HR' : Hid (R = cmpM d (j + 1 + (i + 1 + 1))) := by
                unfold Hid; rw [show j + 1 + (i + 1 + 1) = j + 1 + (i + 1) + 1 by omega, HSX.out, if_pos he]
              clear HSX he HR
              generalize d[j + 1 + (i + 1)]!.1 = x1 at *
              generalize d[j + 1 + (i + 1)]!.2 = x2 at *
              generalize d[j + 1 + i]!.1 = y1 at *
              generalize d[j + 1 + i]!.2 = y2 at *
              go_wp2
              refine wp_region_ext (by kernel_rfl) (by kernel_rfl) ?_
              repeat (go_big_quiet_step (fail))
              refine wpQuiet_nil ?_
              rintro _ ⟨d1, rfl⟩
              go_wp2
              go_roundw
              case rel => exact ⟨i + 1, R, dj, by go_num, by omega, rfl, HR', by omega, hR1, HMx, hSj.out.gr d1.gr⟩
              case measure => simp [intOf]; omega
            · have HR' : Hid (R ++ [(d[j + 1 + (i + 1)]!.1, d[j + 1 + (i + 1)]!.2)] = cmpM d (j + 1 + (i + 1 + 1))) := by
                unfold Hid; rw [show j + 1 + (i + 1 + 1) = j + 1 + (i + 1) + 1 by omega, HSX.out, if_neg he]
              clear HSX he HR
              generalize d[j + 1 + (i + 1)]!.1 = x1 at *
              generalize d[j + 1 + (i + 1)]!.2 = x2 at *
              generalize d[j + 1 + i]!.1 = y1 at *
              generalize d[j + 1 + i]!.2 = y2 at *
              have HMx' := hide (HMx.out.snoc (x1, x2) (by omega))
              have hlen : (R ++ [(x1, x2)]).length = R.length + 1 := by simp
              generalize hL : R.length = L at hRl hR1 HMx' hlen ⊢
              have z0 : wr.frozen? ⟨g, L * 2, none⟩ = false := by
                have := (hSj.out.holds.cell (i := L) (c := 0) (by omega) (by decide)).2; rw [show 0 + L * 2 + 0 = L * 2 by omega] at this; exact this
              have z1 : wr.frozen? ⟨g, L * 2 + 1, none⟩ = false := by
                have := (hSj.out.holds.cell (i := L) (c := 1) (by omega) (by decide)).2; rw [show 0 + L * 2 + 1 = L * 2 + 1 by omega] at this; exact this
              obtain ⟨f0, f1⟩ := holds_at hSj.out.holds (i := L) (by omega)
              generalize dj[L]!.1 = o1 at *
              generalize dj[L]!.2 = o2 at *
              have hLn : (L : Int) < (n : Int) := by omega
              rcases s12 with s1 | ⟨s1, s2⟩
              all_goals
                go_wp2
                refine wp_region_ext (by kernel_rfl) (by kernel_rfl) ?_
                repeat (go_big_quiet_step (fail))
                refine wpQuiet_nil ?_
                rintro _ ⟨d1, rfl⟩
                have HSD := hide ((hSj.out.gr d1.gr).set (k := L) (by omega) (x1, x2))
                go_wp2
                go_roundw
                case rel => exact ⟨i + 1, R ++ [(x1, x2)], dj.setIfInBounds L (x1, x2), by go_num, by omega, by rw [hlen]; go_num, HR', by omega, by omega, HMx', HSD.out⟩
                case measure => simp [intOf]; omega
          · have HRA : Hid (R = cmpL d.toList) := by unfold Hid; rw [HR.out, ← HAL.out]; congr 1; omega
            generalize hL : R.length = L at hRl hR1 ⊢
            have hk : L + (n - L) = dj.size := by omega
            obtain ⟨e', he1, he2, he3⟩ := hSj.out.zero hk
            have HC : ∀ ty c', (Builtin.clear_ #[61] ty #[.slice (some ⟨g, L * 2, none⟩) (n - L) c']).run Tryz.prog wr = .ok (.tuple #[]) (wr.setCells g (L * 2) (Builtin.zeroCells #[iv 0, iv 0] (n - L)).toList) := fun ty c' => run_clear_pf hSj.out hk (by omega) ty c'
            have HE3 := hide he3
            have HLOW : Hid (∀ i, i < R.length → e'[i]! = R[i]!) := fun i hi => by rw [he2 i (by omega), HMx.out.low i hi]
            clear he2 he3 hk HMx HR hSj
            generalize (wr.setCells g (L * 2) (Builtin.zeroCells #[iv 0, iv 0] (n - L)).toList) = WE at *
            have hLc : ¬ c = L := by omega
            have hLn : L ≤ n := by omega
            have hLc' : L ≤ c := by omega
            go_wp2
            go_ret
            exact ⟨by rw [← HRA.out, hL]; rfl, e', by omega, by rw [← HRA.out]; exact HLOW.out, HE3.out⟩
      · have HS2 := hide (HS1.out.trans (if_neg he))
        have HM2 : Hid (cmpM d (j + 1 + 1) = d.toList.take (j + 1 + 1)) := by
          unfold Hid
          rw [HS2.out, HM.out, List.take_succ_eq_append_getElem (i := j + 1) (by simp; omega), getElem!_pos d (j + 1) (by omega)]; simp
        clear HS1 HS2 he HM
        generalize d[j + 1]!.1 = x1 at *
        generalize d[j + 1]!.2 = x2 at *
        generalize d[j]!.1 = y1 at *
        generalize d[j]!.2 = y2 at *
        rcases s12 with s1 | ⟨s1, s2⟩
        all_goals
          go_wp2
          refine wp_region_ext (by kernel_rfl) (by kernel_rfl) ?_
          repeat (go_big_quiet_step (fail))
          refine wpQuiet_nil ?_
          rintro _ ⟨d1, rfl⟩
          go_wp2
          go_roundw
          case rel => exact ⟨j + 1 + 1, by omega, by omega, by go_num, hSk.out.gr d1.gr, HM2⟩
          case measure => simp [intOf]; omega
    · have hjn : j + 1 = n := by omega
      have HL : Hid (cmpL d.toList = d.toList) := by
        unfold Hid; rw [← HAL.out, ← hjn, HM.out, List.take_of_length_le (by simp; omega)]
      clear HM HAL
      go_wp2
      go_ret
      refine ⟨by rw [HL.out]; simp [hs], d, hs, fun i hi => ?_, hSk.out⟩
      rw [HL.out] at hi ⊢
      have hi' : i < d.size := by simpa using hi
      rw [getElem!_pos d i hi', getElem!_pos d.toList i hi]; simp

end Go.Proofs.YtimbgijpeomfcacGreatDoor
