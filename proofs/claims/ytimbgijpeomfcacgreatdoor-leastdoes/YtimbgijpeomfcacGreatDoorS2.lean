import Derived.Test.YtimbgijpeomfcacGreatDoorMem
/- CONTRACTS OF package table that only read: held, Look, Get, List, All, place. -/
namespace Go.Proofs.YtimbgijpeomfcacGreatDoor
open Go.RowKit
attribute [local go_sem] Ext.all Ext.cell Ext.frozen Ext.lt Ext.lt1 Ext.lt2 Ext.ne Ext.ne'

theorem held_any (w : World) (tb : Nat) (v : Value) (hc : w.cell? ⟨tb, 0, none⟩ = some v) :
    Calls Tryz.prog 26 #[.pointer (some ⟨tb, 0, none⟩)] w fun e w' => e = .returned v ∧ w' = w := by
  go_enter Tryz.func26, Tryz.ntmps26
  go_wp2
  go_ret
  exact ⟨rfl, rfl⟩

theorem look_any (w : World) (M : Nat → Prop) (tb : Nat) (ao : Option Addr) (n c : Nat) (rs : List Rt) (a : Int) (hc : w.cell? ⟨tb, 0, none⟩ = some (.slice ao n c)) (H : RowAt w M ao rs) (hn : rs.length = n) (hm : n ≤ 1000) :
    Calls Tryz.prog 60 #[.pointer (some ⟨tb, 0, none⟩), .int .i64 a] w fun e w' => e = .returned (.int .i64 (lookL rs a)) ∧ ∃ d : Ext w, w' = d.out := by
  go_enter Tryz.func60, Tryz.ntmps60
  go_wp2_with (go_at_call 26; refine (held_any w tb _ hc).mono ?_; rintro e w1 ⟨rfl, hw1⟩; subst hw1)
  go_loopw [6] (fun i wr => ∃ (k : Nat) (j : Int), (k : Int) - 1 ≤ j ∧ j ≤ (k : Int) - 1 ∧ k ≤ n ∧ i = .int .i64 j ∧ Hid (lookL (rs.take k) a = lookL rs a) ∧ Gr w1 wr) (fun i _ => (intOf i + 1).toNat)
  case atStart => exact ⟨n, _, by omega, by omega, Nat.le_refl _, rfl, by unfold Hid; rw [List.take_of_length_le (by omega)], Gr.refl _⟩
  case round =>
    obtain ⟨k, j, hj1, hj2, hk, rfl, HL, g⟩ := hrel
    obtain ⟨d, rfl⟩ := ext_mk g
    clear hc
    by_cases h0 : k = 0
    · subst h0
      have hj : j = -1 := by omega
      subst hj
      have hr : -1 = lookL rs a := HL.out
      clear H
      go_wp2
      go_ret
      exact ⟨ret_int hr, _, rfl⟩
    · obtain ⟨m, rfl⟩ : ∃ m, k = m + 1 := ⟨k - 1, by omega⟩
      have hj : j = (m : Int) := by omega
      subst hj
      have hkr : m < rs.length := by omega
      rcases H with rfl | ⟨b, o, rfl, hb, hM, hcs⟩
      · simp at hn; omega
      obtain ⟨c1, c2, c3⟩ := hcs m hkr
      have HS : Hid (lookL (rs.take (m + 1)) a = if hasB rs[m].1 rs[m].2.1 a then rs[m].2.2 else lookL (rs.take m) a) := by unfold Hid; rw [List.take_succ_eq_append_getElem hkr, lookL_snoc]
      clear hcs
      generalize rs[m] = r at c1 c2 c3 HS
      obtain ⟨rl, rb, rh⟩ := r
      simp only at c1 c2 c3 HS
      cases hh : hasB rl rb a
      · have HR : Hid (lookL (rs.take m) a = lookL rs a) := by unfold Hid; have := HS.out; rw [hh] at this; simp at this; rw [← this]; exact HL.out
        have HH : Hid (hasB rl rb a = false) := hh
        clear hh HS HL
        go_wp2_with (go_at_call 76; with_reducible refine (Calls.ext_of (has_is HH.out _)).mono ?_; rintro e _ ⟨rfl, d1, rfl⟩)
        go_roundw
        case rel => exact ⟨m, _, by omega, by omega, by omega, rfl, HR, d1.gr⟩
        case measure => simp [intOf]
      · have HR : Hid (rh = lookL rs a) := by unfold Hid; have := HS.out; rw [hh] at this; simp at this; rw [← this]; exact HL.out
        have HH : Hid (hasB rl rb a = true) := hh
        clear hh HS HL
        go_wp2_with (go_at_call 76; with_reducible refine (Calls.ext_of (has_is HH.out _)).mono ?_; rintro e _ ⟨rfl, d1, rfl⟩)
        go_ret
        exact ⟨ret_int HR.out, _, rfl⟩

/-- Is the route at i not ahead of p? (The closure that place hands to the search.) -/
theorem place1_any (w : World) (M : Nat → Prop) (rb pb : Nat) (ao : Option Addr) (n c : Nat) (rs : List Rt) (l b : Int) (i : Nat) (hrb : w.cell? ⟨rb, 0, none⟩ = some (.slice ao n c)) (hp0 : w.cell? ⟨pb, 0, none⟩ = some (iv l)) (hp1 : w.cell? ⟨pb, 1, none⟩ = some (iv b))
    (hr : rb < w.heap.size) (hpb : pb < w.heap.size) (H : RowAt w M ao rs) (hn : rs.length = n) (hi : i < n) (v : Bool) (hv : Hid ((rs[i]?.map fun r => lessB r.1 r.2.1 l b) = some v)) :
    Calls Tryz.prog 57 #[.int .i64 i, .pointer (some ⟨rb, 0, none⟩), .pointer (some ⟨pb, 0, none⟩)] w fun e w' => e = .returned (.bool (!v)) ∧ ∃ d : Ext w, w' = d.out := by
  rcases H with rfl | ⟨rbk, o, rfl, hb, hM, hcs⟩
  · simp at hn; omega
  have hir : i < rs.length := by omega
  obtain ⟨c1, c2, c3⟩ := hcs i hir
  have HV : Hid (lessB rs[i].1 rs[i].2.1 l b = v) := by unfold Hid; have := hv.out; rw [List.getElem?_eq_getElem hir] at this; simpa using this
  clear hcs hv
  generalize rs[i] = r at c1 c2 c3 HV
  obtain ⟨rl, rbb, rh⟩ := r
  simp only at c1 c2 c3 HV
  go_enter Tryz.func57, Tryz.ntmps57
  go_wp2
  refine wp_region_ext (by kernel_rfl) (by kernel_rfl) ?_
  repeat (go_big_quiet_step ((go_at_call 53; with_reducible exact Calls.ext_of (less_is HV.out _))))
  refine wpQuiet_nil ?_
  rintro _ ⟨d1, rfl⟩
  go_wp2
  go_ret
  exact ⟨rfl, _, rfl⟩

end Go.Proofs.YtimbgijpeomfcacGreatDoor

/- CONTRACTS: sort.Search at the closure of place; place; Get; Hop; IsHop; New. -/
namespace Go.Proofs.YtimbgijpeomfcacGreatDoor
open Go.RowKit
attribute [local go_sem] Ext.all Ext.cell Ext.frozen Ext.lt Ext.lt1 Ext.lt2 Ext.ne Ext.ne'

theorem search_any (w : World) (rb pb n cnt : Nat) (p : Nat → Bool) (hm : n ≤ 1000)
    (hf : ∀ (d : Ext w) (i : Nat), i < n → Calls Tryz.prog 57 #[.int .i64 i, .pointer (some ⟨rb, 0, none⟩), .pointer (some ⟨pb, 0, none⟩)] d.out fun e w' => e = .returned (.bool (p i)) ∧ ∃ d' : Ext d.out, w' = d'.out)
    (hc : cnt ≤ n) (h0 : ∀ t, t < cnt → p t = false) (h1 : ∀ t, cnt ≤ t → t < n → p t = true) :
    Calls Tryz.prog 56 #[.int .i64 n, .func (.func 57) #[] #[.pointer (some ⟨rb, 0, none⟩), .pointer (some ⟨pb, 0, none⟩)]] w fun e w' => e = .returned (.int .i64 cnt) ∧ ∃ d : Ext w, w' = d.out := by
  have HF : Hid _ := hf
  have H0 : Hid _ := h0
  have H1 : Hid _ := h1
  clear hf h0 h1
  go_enter Tryz.func56, Tryz.ntmps56
  go_wp2
  go_loopw [5, 6] (fun s5 s6 wr => ∃ (lo hi : Nat), s5 = .int .i64 lo ∧ s6 = .int .i64 hi ∧ lo ≤ cnt ∧ cnt ≤ hi ∧ hi ≤ n ∧ Gr w wr) (fun s5 s6 _ => (intOf s6 - intOf s5).toNat)
  case atStart => exact ⟨0, n, rfl, rfl, Nat.zero_le _, hc, Nat.le_refl _, Gr.refl _⟩
  case round =>
    obtain ⟨lo, hi, rfl, rfl, hlc, hch, hin, g⟩ := hrel
    obtain ⟨d, rfl⟩ := ext_mk g
    by_cases hlt : lo < hi
    · have hcl := HF.out d ((lo + hi) / 2) (by omega)
      rw [show (((lo + hi) / 2 : Nat) : Int) = ((lo : Int) + (hi : Int)) / 2 by omega] at hcl
      cases hp : p ((lo + hi) / 2) <;> rw [hp] at hcl
      · have hlo : (lo + hi) / 2 < cnt := by
          rcases Nat.lt_or_ge ((lo + hi) / 2) cnt with h | h
          · exact h
          · rw [H1.out _ h (by omega)] at hp; cases hp
        clear hp
        have HC : Hid _ := hcl
        clear hcl
        go_wp2_with (go_at_call 57; refine (Calls.ext_of HC.out).mono ?_; rintro e _ ⟨rfl, d1, rfl⟩)
        go_roundw
        case rel => exact ⟨(lo + hi) / 2 + 1, hi, by go_num, rfl, by omega, hch, hin, d1.gr⟩
        case measure => simp [intOf]; omega
      · have hlo : cnt ≤ (lo + hi) / 2 := by
          rcases Nat.lt_or_ge ((lo + hi) / 2) cnt with h | h
          · rw [H0.out _ h] at hp; cases hp
          · exact h
        clear hp
        have HC : Hid _ := hcl
        clear hcl
        go_wp2_with (go_at_call 57; refine (Calls.ext_of HC.out).mono ?_; rintro e _ ⟨rfl, d1, rfl⟩)
        go_roundw
        case rel => exact ⟨lo, (lo + hi) / 2, rfl, by go_num, hlc, by omega, by omega, d1.gr⟩
        case measure => simp [intOf]; omega
    · have : lo = cnt := by omega
      subst this
      go_wp2
      go_ret
      exact ⟨rfl, _, rfl⟩

theorem boxes (w : World) (l b : Int) (v : Value) : ∃ W, W = (w.alloc (.cells #[iv l, iv b] 30)).alloc (.cells #[v] 22) ∧ Gr w W ∧ W.cell? ⟨w.heap.size + 1, 0, none⟩ = some v ∧ W.cell? ⟨w.heap.size, 0, none⟩ = some (iv l) ∧ W.cell? ⟨w.heap.size, 1, none⟩ = some (iv b) ∧ w.heap.size + 1 < W.heap.size ∧ w.heap.size < W.heap.size := by
  refine ⟨_, rfl, ((Gr.refl w).alloc _).alloc _, ?_, ?_, ?_, ?_, ?_⟩ <;> simp [go_sem] <;> omega

theorem place_any (w : World) (M : Nat → Prop) (tb : Nat) (ao : Option Addr) (n c : Nat) (rs : List Rt) (l b : Int) (hc : w.cell? ⟨tb, 0, none⟩ = some (.slice ao n c)) (htb : tb < w.heap.size) (H : RowAt w M ao rs) (hn : rs.length = n) (hT : Tab rs) :
    Calls Tryz.prog 37 #[.pointer (some ⟨tb, 0, none⟩), pfx l b] w fun e w' => e = .returned (.tuple #[.int .i64 (plc rs l b), .bool (fnd rs l b)]) ∧ ∃ d : Ext w, w' = d.out := by
  have hc1 : ∀ o, (w.alloc o).cell? ⟨tb, 0, none⟩ = some (.slice ao n c) := fun o => (Ext.cell ⟨w.alloc o, (Gr.refl w).alloc o⟩ tb 0 htb).trans hc
  obtain ⟨W, hW, g0, b0, b1, b2, s1, s0⟩ := boxes w l b (.slice ao n c)
  have HW : Hid (W = _) := hW
  clear hW
  have hle := plc_le rs l b
  have hm : n ≤ 1000 := by have := hT.len; omega
  have HP : Hid (∀ t (ht : t < rs.length), (t < plc rs l b → ltB rs[t] l b = true) ∧ (plc rs l b ≤ t → ltB rs[t] l b = false)) := plc_lt hT l b
  have hrow := H.gr g0
  have HS : Hid (Calls Tryz.prog 56 #[.int .i64 n, .func (.func 57) #[] #[.pointer (some ⟨w.heap.size + 1, 0, none⟩), .pointer (some ⟨w.heap.size, 0, none⟩)]] W fun e w' => e = .returned (.int .i64 (plc rs l b)) ∧ ∃ d : Ext W, w' = d.out) := by
    refine search_any W _ _ n (plc rs l b) (fun i => !((rs[i]?.map fun r => lessB r.1 r.2.1 l b).getD true)) hm ?_ (by omega) ?_ ?_
    · intro d i hi
      have hir : i < rs.length := by omega
      refine place1_any d.out M _ _ ao n c rs l b i ?_ ?_ ?_ ?_ ?_ (hrow.gr d.gr) hn hi _ (by unfold Hid; rw [List.getElem?_eq_getElem hir]; simp)
      · rw [d.cell _ _ s1]; exact b0
      · rw [d.cell _ _ s0]; exact b1
      · rw [d.cell _ _ s0]; exact b2
      · exact d.lt _ s1
      · exact d.lt _ s0
    · intro t ht
      have hir : t < rs.length := by omega
      have := (HP.out t hir).1 ht
      simp only [List.getElem?_eq_getElem hir, Option.map_some, Option.getD_some]
      unfold ltB at this; rw [this]; rfl
    · intro t ht htn
      have hir : t < rs.length := by omega
      have := (HP.out t hir).2 ht
      simp only [List.getElem?_eq_getElem hir, Option.map_some, Option.getD_some]
      unfold ltB at this; rw [this]; rfl
  clear HP
  have HF : Hid (fnd rs l b = (rs[plc rs l b]?).any (fun r => sameB r l b)) := rfl
  generalize plc rs l b = k at *
  generalize fnd rs l b = f at *
  by_cases hk : k < n
  · have hd : decide ((k : Int) < (n : Int)) = true := by simpa using hk
    have hkr : k < rs.length := by omega
    rcases hrow with rfl | ⟨rbk, o, rfl, hb, hM, hcs⟩
    · simp at hn; omega
    obtain ⟨c1, c2, c3⟩ := hcs k hkr
    have HV : Hid (f = (rs[k].1 == l && rs[k].2.1 == b)) := by unfold Hid; have := HF.out; rw [List.getElem?_eq_getElem hkr] at this; rw [this]; simp [sameB]; rw [Bool.eq_iff_iff]; simp
    clear hcs HF
    generalize rs[k] = r at *
    obtain ⟨rl, rbb, rh⟩ := r
    simp only at c1 c2 c3
    have e3 : ((rl == l) = false ∧ f = false) ∨ ((rl == l) = true ∧ (rbb == b) = false ∧ f = false) ∨ ((rl == l) = true ∧ (rbb == b) = true ∧ f = true) := by
      have := HV.out
      simp only at this
      cases h1 : rl == l <;> cases h2 : rbb == b <;> simp [this, h1, h2]
    rcases e3 with ⟨e1, rfl⟩ | ⟨e1, e2, rfl⟩ | ⟨e1, e2, rfl⟩
    all_goals
      go_enter Tryz.func37, Tryz.ntmps37
      go_wp2_with (first | (go_at_call 26; refine (held_any _ tb _ (hc1 _)).mono ?_; rintro e w1 ⟨rfl, hw1⟩; subst hw1) | (go_at_call 56; rw [← HW.out]; refine HS.out.mono ?_; rintro e _ ⟨rfl, d1, rfl⟩))
      go_quiet (fail)
      go_wp2
      go_ret2
      exact ⟨rfl, ext_mk ((g0.ext d1).drewN _)⟩
  · have hd : decide ((k : Int) < (n : Int)) = false := by simp; omega
    have hf : f = false := by have := HF.out; rw [List.getElem?_eq_none (by omega)] at this; simpa using this
    subst hf
    clear HF
    go_enter Tryz.func37, Tryz.ntmps37
    go_wp2_with (first | (go_at_call 26; refine (held_any _ tb _ (hc1 _)).mono ?_; rintro e w1 ⟨rfl, hw1⟩; subst hw1) | (go_at_call 56; rw [← HW.out]; refine HS.out.mono ?_; rintro e _ ⟨rfl, d1, rfl⟩))
    go_quiet (fail)
    go_wp2
    go_ret2
    exact ⟨rfl, ext_mk ((g0.ext d1).drewN _)⟩

theorem get_any (w : World) (M : Nat → Prop) (tb : Nat) (ao : Option Addr) (n c : Nat) (rs : List Rt) (l b : Int) (hc : w.cell? ⟨tb, 0, none⟩ = some (.slice ao n c)) (htb : tb < w.heap.size) (H : RowAt w M ao rs) (hn : rs.length = n) (hT : Tab rs) :
    Calls Tryz.prog 29 #[.pointer (some ⟨tb, 0, none⟩), pfx l b] w fun e w' => e = .returned (.int .i64 (getL rs l b)) ∧ ∃ d : Ext w, w' = d.out := by
  have g0 : ∀ o, Gr w (w.alloc o) := fun o => (Gr.refl w).alloc o
  have HP : Hid (∀ o, Calls Tryz.prog 37 #[.pointer (some ⟨tb, 0, none⟩), pfx l b] (w.alloc o) fun e w' => e = .returned (.tuple #[.int .i64 (plc rs l b), .bool (fnd rs l b)]) ∧ ∃ d : Ext (w.alloc o), w' = d.out) := fun o =>
    place_any (w.alloc o) M tb ao n c rs l b ((Ext.cell ⟨_, g0 o⟩ tb 0 htb).trans hc) (Ext.lt ⟨_, g0 o⟩ tb htb) (H.gr (g0 o)) hn hT
  have HF : Hid (fnd rs l b = (rs[plc rs l b]?).any (fun r => sameB r l b)) := rfl
  have HG : Hid (getL rs l b = match rs[plc rs l b]? with | some r => if sameB r l b then r.2.2 else -2 | none => -2) := rfl
  have hle := plc_le rs l b
  generalize plc rs l b = k at *
  generalize fnd rs l b = f at *
  generalize getL rs l b = g at *
  cases f
  · have hg : g = -2 := by
      have h1 := HF.out; have h2 := HG.out
      cases hr : rs[k]? with
      | none => rw [hr] at h2; exact h2
      | some r => rw [hr] at h1 h2; simp only [Option.any_some] at h1; rw [h2]; simp [← h1]
    subst hg
    clear HF HG
    go_enter Tryz.func29, Tryz.ntmps29
    go_wp2_with (go_at_call 37; refine (HP.out _).mono ?_; rintro e _ ⟨rfl, d1, rfl⟩)
    go_ret
    exact ⟨rfl, ext_mk ((g0 _).ext d1)⟩
  · have hkr : k < rs.length := by
      have h1 := HF.out
      rcases Nat.lt_or_ge k rs.length with h | h
      · exact h
      · rw [List.getElem?_eq_none h] at h1; cases h1
    have hkn : k < n := by omega
    rcases H with rfl | ⟨rbk, o, rfl, hb, hM, hcs⟩
    · simp at hkr
    obtain ⟨c1, c2, c3⟩ := hcs k hkr
    have hg : g = rs[k].2.2 := by
      have h1 := HF.out; have h2 := HG.out
      rw [List.getElem?_eq_getElem hkr] at h1 h2
      simp only [Option.any_some] at h1
      rw [h2]; simp [← h1]
    subst hg
    clear HF HG hcs
    go_enter Tryz.func29, Tryz.ntmps29
    go_wp2_with (go_at_call 37; refine (HP.out _).mono ?_; rintro e _ ⟨rfl, d1, rfl⟩)
    go_ret
    exact ⟨rfl, ext_mk ((g0 _).ext d1)⟩

theorem hop_any (h : Int) (w : World) : Calls Tryz.prog 36 #[.int .i64 h] w fun e w' => e = .returned (.bool (hopB h)) ∧ ∃ d : Ext w, w' = d.out := by
  have e3 : ((h == -1) = true ∧ hopB h = true) ∨ ((h == -1) = false ∧ decide (0 ≤ h) = false ∧ hopB h = false) ∨ ((h == -1) = false ∧ decide (0 ≤ h) = true ∧ hopB h = decide (h < 6)) := by
    unfold hopB
    by_cases h1 : h = -1
    · exact .inl (by simp [h1])
    · by_cases h2 : 0 ≤ h
      · exact .inr (.inr (by simp [h1, h2]))
      · exact .inr (.inl (by simp [h1, h2]))
  rcases e3 with ⟨e1, e⟩ | ⟨e1, e2, e⟩ | ⟨e1, e2, e⟩
  all_goals
    rw [e]; clear e
    go_enter Tryz.func36, Tryz.ntmps36
    go_wp2
    go_ret
    exact ⟨rfl, ext_mk (Gr.refl _)⟩
theorem hop_is {h : Int} {v : Bool} (e : hopB h = v) (w : World) : Calls Tryz.prog 36 #[.int .i64 h] w fun e w' => e = .returned (.bool v) ∧ ∃ d : Ext w, w' = d.out := by subst e; exact hop_any h w

theorem isHop_any (h : Int) (w : World) : Calls Tryz.prog 43 #[.int .i64 h] w fun e w' => e = .returned (.bool (hopB h)) ∧ ∃ d : Ext w, w' = d.out := by
  have e3 : ((h == -1) = true ∧ hopB h = true) ∨ ((h == -1) = false ∧ decide (0 ≤ h) = false ∧ hopB h = false) ∨ ((h == -1) = false ∧ decide (0 ≤ h) = true ∧ hopB h = decide (h < 6)) := by
    unfold hopB
    by_cases h1 : h = -1
    · exact .inl (by simp [h1])
    · by_cases h2 : 0 ≤ h
      · exact .inr (.inr (by simp [h1, h2]))
      · exact .inr (.inl (by simp [h1, h2]))
  rcases e3 with ⟨e1, e⟩ | ⟨e1, e2, e⟩ | ⟨e1, e2, e⟩
  all_goals
    rw [e]; clear e
    go_enter Tryz.func43, Tryz.ntmps43
    go_wp2
    go_ret
    exact ⟨rfl, ext_mk (Gr.refl _)⟩
theorem isHop_is {h : Int} {v : Bool} (e : hopB h = v) (w : World) : Calls Tryz.prog 43 #[.int .i64 h] w fun e w' => e = .returned (.bool v) ∧ ∃ d : Ext w, w' = d.out := by subst e; exact isHop_any h w

/-- A new table. -/
theorem new_any (w : World) : Calls Tryz.prog 17 #[] w fun e w' => e = .returned (.pointer (some ⟨w.heap.size, 0, none⟩)) ∧ w' = w.alloc (.cells #[.slice none 0 0] 70) := by
  go_enter Tryz.func17, Tryz.ntmps17
  go_wp2
  go_ret
  exact ⟨rfl, rfl⟩

end Go.Proofs.YtimbgijpeomfcacGreatDoor
