import Derived.Test.YtfcknkanbcndjagGreatDoorKt5
import Derived.Test.YtfcknkanbcndjagGreatDoorDkSay
import Derived.Test.YtfcknkanbcndjagGreatDoorShelf
import Derived.Test.YtfcknkanbcndjagGreatDoorDkText
/- CONTRACTS OF the program's desk: check; the builder's String. -/
namespace Go.Proofs.YtfcknkanbcndjagGreatDoor
open Go.RowKit
attribute [local go_sem] Ext.all Ext.cell Ext.frozen Ext.lt Ext.lt1 Ext.lt2 Ext.ne Ext.ne'
/-- Is there a newline in it? -/
theorem nl_any (w : World) (s : Tx) : Calls Tryz.prog 75 #[sv s, .string ⟨#[10]⟩] w fun e w' => e = .returned (.bool (decide (10 ∈ s))) ∧ w' = w := by
  refine (Tryz.strings_Contains_one ⟨s.toArray⟩ 10 w).mono ?_
  rintro e w' ⟨rfl, rfl⟩
  refine ⟨?_, rfl⟩
  have : decide (0 ≤ Go.Lib.indexByte s 10) = decide ((10 : UInt8) ∈ s) := by
    rw [← Go.Lib.contains_iff_indexByte]
    by_cases h : (10 : UInt8) ∈ s
    · rw [decide_eq_true h, List.contains_iff_mem]; exact h
    · rw [decide_eq_false h, Bool.eq_false_iff, ne_eq, List.contains_iff_mem]; exact h
  show Ending.returned (.bool (decide (0 ≤ Go.Lib.indexByte s 10))) = _
  rw [this]
theorem check1_is {s : Tx} {b : Bool} (hb : decide (10 ∈ s) = b) (w : World) : Calls Tryz.prog 74 #[sv s] w fun e w' => e = .returned (.bool b) ∧ w' = w := by
  have HC := hide (nl_any w s)
  rw [hb] at HC
  clear hb
  go_enter Tryz.func74, Tryz.ntmps74
  go_wp2_with (go_at_call 75; refine HC.out.mono ?_; rintro e w1 ⟨rfl, hw1⟩; subst hw1)
  go_ret
  exact ⟨rfl, rfl⟩
/-- The place of the first line with a newline in it, from i on; -1: none. -/
def idxGo : List Tx → Nat → Int
  | [], _ => -1
  | l :: r, i => if (10 : UInt8) ∈ l then (i : Int) else idxGo r (i + 1)
theorem idx_flt : ∀ (ls : List Tx) (i : Nat), (idxGo ls i = -1 ∧ fltGo ls i = (0, 0)) ∨ (0 ≤ idxGo ls i ∧ fltGo ls i = (10, idxGo ls i))
  | [], _ => .inl ⟨rfl, rfl⟩
  | l :: r, i => by
    unfold idxGo fltGo
    by_cases h : (10 : UInt8) ∈ l
    · rw [if_pos h, if_pos h]; exact .inr ⟨by omega, rfl⟩
    · rw [if_neg h, if_neg h]; exact idx_flt r (i + 1)
theorem idx_miss {ls : List Tx} {i : Nat} (hi : i < ls.length) (h : (10 : UInt8) ∉ ls[i]) : idxGo (ls.drop i) i = idxGo (ls.drop (i + 1)) (i + 1) := by
  rw [List.drop_eq_getElem_cons hi, idxGo, if_neg h]
theorem idx_hit {ls : List Tx} {i : Nat} (hi : i < ls.length) (h : (10 : UInt8) ∈ ls[i]) : idxGo (ls.drop i) i = (i : Int) := by
  rw [List.drop_eq_getElem_cons hi, idxGo, if_pos h]
theorem idx_end {ls : List Tx} {i : Nat} (hi : ls.length ≤ i) : idxGo (ls.drop i) i = -1 := by
  rw [List.drop_of_length_le hi]; rfl
set_option maxRecDepth 20000 in
set_option maxHeartbeats 4000000 in
/-- slices.IndexFunc at check's closure. -/
theorem indexFunc_any {w : World} {ao : Option Addr} {cp : Nat} {ls : List Tx} (h : ValAt w ao (ls.map sv)) (hl : ls.length ≤ 2000000) :
    Calls Tryz.prog 73 #[.slice ao ls.length cp, .func (.func 74) #[] #[]] w fun e w' => e = .returned (iv (idxGo ls 0)) ∧ w' = w := by
  have HV := hide h
  clear h
  go_enter Tryz.func73, Tryz.ntmps73
  go_wp2_with fail
  go_loopw [8] (fun v8 wr => ∃ k : Nat, k ≤ ls.length ∧ v8 = .int .i64 (k : Int) ∧ Hid (idxGo ls 0 = idxGo (ls.drop k) k) ∧ wr = w) (fun v8 _ => ls.length - (intOf v8).toNat)
  case atStart => exact ⟨0, by omega, rfl, rfl, rfl⟩
  case round =>
    obtain ⟨k, hk, rfl, HI, rfl⟩ := hrel
    by_cases hlt : k < ls.length
    · have hkI : (k : Int) < (ls.length : Int) := by omega
      rcases HV.out with h0 | ⟨b, o, hao, hbl, hcs⟩
      · exfalso
        rw [List.map_eq_nil_iff] at h0
        rw [h0] at hlt; simp at hlt
      have hc := hcs k (by simpa using hlt)
      rw [List.getElem_map] at hc
      subst hao
      cases hb : decide ((10 : UInt8) ∈ ls[k]) with
      | true =>
        have HF : Hid (idxGo ls 0 = (k : Int)) := by unfold Hid; rw [HI.out, idx_hit hlt (of_decide_eq_true hb)]
        have HC := hide (check1_is hb wr)
        clear hb hcs
        generalize ls[k] = y at *
        go_wp2_with (go_at_call 74; refine HC.out.mono ?_; rintro e w1 ⟨rfl, hw1⟩; subst hw1)
        go_ret
        exact ⟨by rw [HF.out]; rfl, rfl⟩
      | false =>
        have HF : Hid (idxGo ls 0 = idxGo (ls.drop (k + 1)) (k + 1)) := by unfold Hid; rw [HI.out, idx_miss hlt (of_decide_eq_false hb)]
        have HC := hide (check1_is hb wr)
        clear hb hcs
        generalize ls[k] = y at *
        go_wp2_with (go_at_call 74; refine HC.out.mono ?_; rintro e w1 ⟨rfl, hw1⟩; have hw2 := hw1.symm; clear hw1; subst hw2)
        go_roundw
        case rel => exact ⟨k + 1, by omega, by go_num, HF, trivial⟩
        case measure => simp [intOf]; omega
    · have hkl : decide ((k : Int) < (ls.length : Int)) = false := decide_eq_false (by omega)
      have HF : Hid (idxGo ls 0 = -1) := by unfold Hid; rw [HI.out, idx_end (by omega)]
      go_wp2_with fail
      go_ret
      exact ⟨by rw [HF.out]; rfl, rfl⟩
set_option maxRecDepth 20000 in
set_option maxHeartbeats 4000000 in
/-- The program's check. -/
theorem kcheck_any {w : World} {ao : Option Addr} {cp : Nat} {ls : List Tx} (h : ValAt w ao (ls.map sv)) (hl : ls.length ≤ 2000000) :
    Calls Tryz.prog 40 #[.slice ao ls.length cp] w fun e w' => e = .returned (.agg #[iv (fltD ls).1, iv (fltD ls).2]) ∧ Gr w w' := by
  have hb0 := heap_alloc_new w (.cells #[iv 0, iv 0] 66)
  have B0 : Hid (FBx w (w.alloc (.cells #[iv 0, iv 0] 66)) w.heap.size 0 0) := ⟨hb0, Nat.le_refl _, (Gr.refl w).alloc _⟩
  clear hb0
  by_cases h150 : 150 < ls.length
  · have HF : Hid (fltD ls = (3, -1)) := by unfold Hid fltD; rw [if_pos h150]
    rw [HF.out]
    have hI : (150 : Int) < (ls.length : Int) := by omega
    have hI2 : decide ((150 : Int) < (ls.length : Int)) = true := decide_eq_true hI
    clear HF h
    go_enter Tryz.func40, Tryz.ntmps40
    go_wp2_with fail
    refine bp_gen' (fun Z => Hid (FBx w Z w.heap.size 3 (-1))) ⟨heap_alloc_new w _, Nat.le_refl _, (Gr.refl w).alloc _⟩ ?_
    rintro Z HZ
    obtain ⟨z0, z1⟩ := cells2 HZ.out.1
    exact bodyPost_ret (v := .agg #[iv 3, iv (-1)]) (by simp [results, Tryz.results40, go_sem, z0, z1]) rfl ⟨rfl, HZ.out.2.2⟩
  · have hI2 : decide ((150 : Int) < (ls.length : Int)) = false := decide_eq_false (by omega)
    have HC := hide (indexFunc_any (cp := cp) (h.gr ((Gr.refl w).alloc (.cells #[iv 0, iv 0] 66))) hl)
    have hE : fltD ls = fltGo ls 0 := by unfold fltD; rw [if_neg h150]
    rcases idx_flt ls 0 with ⟨h1, h2⟩ | ⟨h1, h2⟩
    · rw [hE, h2]
      rw [h1] at HC
      clear hE h1 h2 h h150
      go_enter Tryz.func40, Tryz.ntmps40
      go_wp2_with (go_at_call 73; refine HC.out.mono ?_; rintro e w1 ⟨rfl, hw1⟩; subst hw1)
      refine bp_gen' (fun Z => Hid (FBx w Z w.heap.size 0 0)) ⟨heap_alloc_new w _, Nat.le_refl _, (Gr.refl w).alloc _⟩ ?_
      rintro Z HZ
      obtain ⟨z0, z1⟩ := cells2 HZ.out.1
      exact bodyPost_ret (v := .agg #[iv 0, iv 0]) (by simp [results, Tryz.results40, go_sem, z0, z1]) rfl ⟨rfl, HZ.out.2.2⟩
    · rw [hE, h2]
      generalize idxGo ls 0 = ix at *
      clear hE h2 h h150
      have h1' : decide (0 ≤ ix) = true := decide_eq_true h1
      go_enter Tryz.func40, Tryz.ntmps40
      go_wp2_with (go_at_call 73; refine HC.out.mono ?_; rintro e w1 ⟨rfl, hw1⟩; subst hw1)
      refine bp_gen' (fun Z => Hid (FBx w Z w.heap.size 10 ix)) ⟨heap_alloc_new w _, Nat.le_refl _, (Gr.refl w).alloc _⟩ ?_
      rintro Z HZ
      obtain ⟨z0, z1⟩ := cells2 HZ.out.1
      exact bodyPost_ret (v := .agg #[iv 10, iv ix]) (by simp [results, Tryz.results40, go_sem, z0, z1]) rfl ⟨rfl, HZ.out.2.2⟩

theorem kp_freeze {M : Nat → Prop} (w : World) {g : Nat} (n : Nat) (hg : ¬ M g) : Kp M w (w.freeze ⟨g, 0, none⟩ n) := by
  unfold World.freeze
  split
  · exact Kp.refl _ _
  · refine ⟨rfl, rfl, rfl, by simp, fun k hk hm => ?_⟩
    have : g ≠ k := fun e => hg (e ▸ hm)
    simp only [Array.getElem?_modify]
    rw [if_neg this]
section
variable {B w w' : World} {t P : Nat} {v v' : Value} {told : Tx}
set_option maxRecDepth 100000 in
set_option maxHeartbeats 4000000 in
/-- The builder's String. -/
theorem bstr_any (H : Tk B w t P v told) (h1 : told.length ≤ 4000000) : Calls Tryz.prog 43 #[.pointer (some ⟨t, 1, none⟩)] w fun e w' => e = .returned (sv told) ∧ Kp (fun b => ¬ ownK t v b) w w' := by
  obtain ⟨p, hblk, _⟩ := H.blk
  have lt := lt_of_block hblk
  have hne := H.ne
  have hown := H.own
  have c0 : w.cell? ⟨t, 2, none⟩ = some v := by simp [World.cell?, hblk]
  by_cases h0 : told = []
  · subst h0
    rcases hown.2 with ⟨hv, _⟩ | ⟨g, cap, cur, hv, hbg, hg, hnc, hcm, hcs, htake⟩
    · subst hv
      have HK := hide (fun (V : World) (g : Gr w V) => g.kp (fun b => ¬ ownK t (.slice none 0 0) b))
      have c1 : w.drew.cell? ⟨t, 2, none⟩ = some (.slice none 0 0) := c0
      have hSD : (Builtin.unsafeSliceData_ #[92] 156 #[.slice none 0 0]).run Tryz.prog w.drew = .ok (.pointer none) w.drew := rfl
      have hUS := fun (W : World) (q : Option Addr) => Lib.run_unsafeString_none (P := Tryz.prog) W 156 3 9 q
      clear H hblk hown hne
      go_enter Tryz.func43, Tryz.ntmps43
      go_wp2_with fail
      go_region
      all_goals (go_wp2_with fail; go_ret; exact ⟨rfl, HK.out _ (Gr.refl w).drew⟩)
    · subst hv
      have HK := hide (fun (V : World) (gr : Gr w V) => gr.kp (fun b => ¬ ownK t (.slice (some ⟨g, 0, none⟩) 0 cap) b))
      have hUS := fun (W : World) (q : Option Addr) => Lib.run_unsafeString_none (P := Tryz.prog) W 156 3 9 q
      by_cases hcap : cap = 0
      · subst hcap
        have c1 : w.drew.cell? ⟨t, 2, none⟩ = some (.slice (some ⟨g, 0, none⟩) 0 0) := c0
        have hSD : (Builtin.unsafeSliceData_ #[92] 156 #[.slice (some ⟨g, 0, none⟩) 0 0]).run Tryz.prog w.drew = .ok (.pointer (some ⟨w.drew.heap.size, 0, none⟩)) (w.drew.alloc (.view ⟨g, 0, none⟩ 5)) :=
          Lib.run_unsafeSliceData_zero w.drew _ _ 5 Tryz.underlying156 ⟨g, 0, none⟩ 0 (5, cur.size) (by have hg' : w.drew.heap[g]? = some (.cells cur 5 (0, 0)) := hg; simp [World.shape?, hg'])
        have c2 : (w.drew.alloc (.view ⟨g, 0, none⟩ 5)).cell? ⟨t, 2, none⟩ = some (.slice (some ⟨g, 0, none⟩) 0 0) := (Below.cell (Gr.alloc (Gr.refl w.drew) _) (p := ⟨t, 2, none⟩) lt).trans c1
        have c3 : (w.alloc (.view ⟨g, 0, none⟩ 5)).drew.cell? ⟨t, 2, none⟩ = some (.slice (some ⟨g, 0, none⟩) 0 0) := c2
        clear H hblk hown hne hg hbg htake
        go_enter Tryz.func43, Tryz.ntmps43
        go_wp2_with fail
        go_region
        all_goals (go_wp2_with fail; go_ret; exact ⟨rfl, HK.out _ ((Gr.refl w).drew.alloc _)⟩)
      · have c1 : w.drew.cell? ⟨t, 2, none⟩ = some (.slice (some ⟨g, 0, none⟩) 0 cap) := c0
        have hSD : (Builtin.unsafeSliceData_ #[92] 156 #[.slice (some ⟨g, 0, none⟩) 0 cap]).run Tryz.prog w.drew = .ok (.pointer (some ⟨g, 0, none⟩)) w.drew := Lib.run_unsafeSliceData_row _ _ _ _ _ _ hcap
        clear H hblk hown hne hg hbg htake hcap
        go_enter Tryz.func43, Tryz.ntmps43
        go_wp2_with fail
        go_region
        all_goals (go_wp2_with fail; go_ret; exact ⟨rfl, HK.out _ (Gr.refl w).drew⟩)
  · have hl0 : told.length ≠ 0 := fun e => h0 (List.eq_nil_of_length_eq_zero e)
    rcases hown.2 with ⟨_, hz⟩ | ⟨g, cap, cur, hv, hbg, hg, hnc, hcm, hcs, htake⟩
    · exact absurd hz hl0
    subst hv
    have c1 : w.drew.cell? ⟨t, 2, none⟩ = some (.slice (some ⟨g, 0, none⟩) told.length cap) := c0
    have hSD : (Builtin.unsafeSliceData_ #[92] 156 #[.slice (some ⟨g, 0, none⟩) told.length cap]).run Tryz.prog w.drew = .ok (.pointer (some ⟨g, 0, none⟩)) w.drew := Lib.run_unsafeSliceData_row _ _ _ _ _ _ (by omega)
    have hUS : (Builtin.unsafeString_ #[156, 3] 9 #[.pointer (some ⟨g, 0, none⟩), .int .i64 told.length]).run Tryz.prog w.drew = .ok (sv told) (w.drew.freeze ⟨g, 0, none⟩ told.length) := by
      refine Lib.run_unsafeString_row w.drew 156 3 9 5 Tryz.underlying156 (by kernel_rfl) g cur.size (by have hg' : w.drew.heap[g]? = some (.cells cur 5 (0, 0)) := hg; simp [World.shape?, hg']) told h0 (by omega) (by omega) ?_
      intro j x hx
      exact hown.cells (g := g) rfl j (.int .u8 x.toNat) (by simp [Lib.byteCells, hx])
    have HK : Hid (Kp (fun b => ¬ ownK t (.slice (some ⟨g, 0, none⟩) told.length cap) b) w (w.drew.freeze ⟨g, 0, none⟩ told.length)) := by
      refine ((Gr.refl w).drew.kp _).trans (kp_freeze _ _ (fun e => e (.inr rfl)))
    clear H hblk hown hne hg hbg htake
    go_enter Tryz.func43, Tryz.ntmps43
    go_wp2_with fail
    go_region
    all_goals (go_wp2_with fail; go_ret; exact ⟨rfl, HK.out⟩)
end

end Go.Proofs.YtfcknkanbcndjagGreatDoor

/- WHAT A LINE ASKS, word by word: the numbers' loop, the place of the word. No Go here. -/
namespace Go.Proofs.YtfcknkanbcndjagGreatDoor

theorem nums_snoc : ∀ {a : List Tx} {x : Tx} {m : List Int} {v : Int}, numsT a = some m → numT x = some v → numsT (a ++ [x]) = some (m ++ [v])
  | [], x, m, v, h, k => by
    cases h
    simp [numsT, k]
  | s :: a, x, m, v, h, k => by
    rw [List.cons_append]
    unfold numsT at h ⊢
    cases e : numT s with
    | none => rw [e] at h; cases h
    | some u =>
      rw [e] at h
      simp only [Option.map_eq_some_iff] at h ⊢
      obtain ⟨m', hm, rfl⟩ := h
      exact ⟨m' ++ [v], nums_snoc hm k, rfl⟩
theorem nums_none : ∀ {a : List Tx} {x : Tx}, x ∈ a → numT x = none → numsT a = none
  | s :: a, x, h, k => by
    unfold numsT
    rcases List.mem_cons.1 h with rfl | h
    · rw [k]
    · cases e : numT s with
      | none => rfl
      | some u => simp [nums_none h k]
/-- Behind j words: all were numbers, these; or one was none. -/
def nuI (R : List Tx) (j : Nat) (ok0 ok : Bool) (m : List Int) : Prop := if ok = true then ok0 = true ∧ numsT (R.take j) = some m else (ok0 = false ∨ numsT R = none)
theorem nuI_zero (R : List Tx) (ok0 : Bool) : nuI R 0 ok0 ok0 [] := by
  unfold nuI
  cases ok0
  · simp
  · simp [numsT]
theorem nuI_yes {R : List Tx} {j : Nat} {ok0 : Bool} {m : List Int} {v : Int} (h : nuI R j ok0 true m) (hj : j < R.length) (hv : numT R[j] = some v) : nuI R (j + 1) ok0 true (m ++ [v]) := by
  unfold nuI at *
  rw [if_pos rfl] at h ⊢
  exact ⟨h.1, by rw [List.take_succ_eq_append_getElem hj]; exact nums_snoc h.2 hv⟩
theorem nuI_no {R : List Tx} {j : Nat} (ok0 : Bool) (m : List Int) (hj : j < R.length) (hv : numT R[j] = none) : nuI R (j + 1) ok0 false m := by
  unfold nuI
  rw [if_neg (by decide)]
  exact .inr (nums_none (List.getElem_mem hj) hv)
/-- What is known when the numbers were read. -/
def nuE (R : List Tx) (ok0 ok : Bool) (m : List Int) : Prop := if ok = true then ok0 = true ∧ numsT R = some m else (ok0 = false ∨ numsT R = none)
theorem nuI_end {R : List Tx} {j : Nat} {ok0 ok : Bool} {m : List Int} (h : nuI R j ok0 ok m) (hj : ok = true → R.length ≤ j) : nuE R ok0 ok m := by
  unfold nuI at h
  unfold nuE
  cases ok
  · rw [if_neg (by decide)] at h ⊢; exact h
  · rw [if_pos rfl] at h ⊢
    rw [List.take_of_length_le (hj rfl)] at h
    exact h
/-- The head of a line: its prefix, its words behind it; or there is none. -/
def hdE (w0 : Tx) (r R : List Tx) (ok0 : Bool) (l b : Int) : Prop := if ok0 = true then headT w0 r = some (l, b, R) else headT w0 r = none
theorem ask_no {w0 : Tx} {r R : List Tx} {ok0 : Bool} {l b : Int} {m : List Int} (h : hdE w0 r R ok0 l b) (e : nuE R ok0 false m) : askW (w0 :: r) = .what := by
  unfold nuE at e
  rw [if_neg (by decide)] at e
  unfold hdE at h
  unfold askW
  cases ok0
  · rw [if_neg (by decide)] at h
    simp only [h]
  · rw [if_pos rfl] at h
    rcases e with e | e
    · cases e
    · simp only [h, e]
theorem ask_yes {w0 : Tx} {r R : List Tx} {ok0 : Bool} {l b : Int} {m : List Int} (h : hdE w0 r R ok0 l b) (e : nuE R ok0 true m) : askW (w0 :: r) = askI (atK w0 m.length 13) m l b := by
  unfold nuE at e
  rw [if_pos rfl] at e
  unfold hdE at h
  rw [if_pos e.1] at h
  unfold askW
  simp only [h, e.2]
theorem hd_other {w0 : Tx} (r : List Tx) (h : ¬ (w0 = wOwn ∨ w0 = wFree)) : hdE w0 r r true 0 0 := by
  unfold hdE headT
  rw [if_pos rfl, if_neg h]
theorem hd_short {w0 : Tx} {r : List Tx} (R : List Tx) (h : w0 = wOwn ∨ w0 = wFree) (hr : r.length ≠ 2) : hdE w0 r R false 0 0 := by
  unfold hdE headT
  rw [if_neg (by decide), if_pos h]
  match r, hr with
  | [], _ => rfl
  | [_], _ => rfl
  | [_, _], hr => exact absurd rfl hr
  | _ :: _ :: _ :: _, _ => rfl
theorem hd_bad {w0 p x : Tx} (R : List Tx) (h : w0 = wOwn ∨ w0 = wFree) (hp : parseL p = none) : hdE w0 [p, x] R false 0 0 := by
  unfold hdE headT
  rw [if_neg (by decide), if_pos h]
  simp [hp]
theorem hd_good {w0 p x : Tx} {l : Nat} {b : Int} (h : w0 = wOwn ∨ w0 = wFree) (hp : parseL p = some (l, b)) : hdE w0 [p, x] [x] true l b := by
  unfold hdE headT
  rw [if_pos rfl, if_pos h]
  simp [hp]
theorem at_bd (w : Tx) (m : Nat) : ∀ k, -1 ≤ atK w m k ∧ atK w m k < (k : Int) ∧ (0 ≤ atK w m k → wdL[(atK w m k).toNat]? = some w ∧ mnL[(atK w m k).toNat]? = some m)
  | 0 => by
    unfold atK
    refine ⟨by omega, by omega, fun h => ?_⟩
    omega
  | k + 1 => by
    have ih := at_bd w m k
    unfold atK
    split
    · rename_i h
      refine ⟨by omega, by omega, fun _ => ?_⟩
      simpa using h
    · exact ⟨ih.1, by omega, ih.2.2⟩
theorem at_hit {w : Tx} {m k : Nat} (h : wdL[k]? = some w ∧ mnL[k]? = some m) : atK w m (k + 1) = (k : Int) := by
  conv => lhs; unfold atK
  rw [if_pos h]
theorem at_miss {w : Tx} {m k : Nat} (h : ¬ (wdL[k]? = some w ∧ mnL[k]? = some m)) : atK w m (k + 1) = atK w m k := by
  conv => lhs; unfold atK
  rw [if_neg h]

end Go.Proofs.YtfcknkanbcndjagGreatDoor

/- CONTRACT OF handpostref.Parse. -/
namespace Go.Proofs.YtfcknkanbcndjagGreatDoor
open Go.RowKit
attribute [local go_sem] Ext.all Ext.cell Ext.frozen Ext.lt Ext.lt1 Ext.lt2 Ext.ne Ext.ne'
theorem rtext_is {l b : Int} {v : List UInt8} (h : textL l b = v) (w : World) :
    Calls Tryz.prog 134 #[pfx l b] w fun e w' => e = .returned (.string ⟨v.toArray⟩) ∧ ∃ d : Ext w, w' = d.out := by subst h; exact rtext_any l b w

/-- A struct of two cells that was laid, in a world that has grown since. -/
theorem Gr.pair {A B : World} {u v : Value} (g : Gr (A.alloc (.cells #[u, v] 52)) B) : B.cell? ⟨A.heap.size, 0, none⟩ = some u ∧ B.cell? ⟨A.heap.size, 1, none⟩ = some v ∧ A.heap.size < B.heap.size ∧ B.frozen? ⟨A.heap.size, 0, none⟩ = false ∧ B.frozen? ⟨A.heap.size, 1, none⟩ = false := by
  have hs : (A.alloc (.cells #[u, v] 52)).heap.size = A.heap.size + 1 := World.size_alloc _ _
  refine ⟨?_, ?_, ?_, ?_, ?_⟩
  · rw [Below.cell g (p := ⟨A.heap.size, 0, none⟩) (by rw [hs]; exact Nat.lt_succ_self _)]; simp [go_sem]
  · rw [Below.cell g (p := ⟨A.heap.size, 1, none⟩) (by rw [hs]; exact Nat.lt_succ_self _)]; simp [go_sem]
  · have := Below.size g; omega
  · rw [Below.frozen g (p := ⟨A.heap.size, 0, none⟩) (by rw [hs]; exact Nat.lt_succ_self _)]; simp [go_sem]
  · rw [Below.frozen g (p := ⟨A.heap.size, 1, none⟩) (by rw [hs]; exact Nat.lt_succ_self _)]; simp [go_sem]

theorem val_bd9 (s : ByteArray) (k : Nat) (hk : k ≤ 9) : 0 ≤ valL (s.data.toList.take k) ∧ valL (s.data.toList.take k) < 1024 := by
  obtain ⟨h0, h1⟩ := valL_bd (s.data.toList.take k)
  refine ⟨h0, Int.lt_of_lt_of_le h1 ?_⟩
  have hl : (s.data.toList.take k).length ≤ 9 := by simp; omega
  by_cases e : (s.data.toList.take k).length = 9
  · rw [e]; decide
  · have := (pw_bd ((s.data.toList.take k).length : Nat) (by omega)).2
    have e2 : (2 : Int) ^ (s.data.toList.take k).length ≤ 256 := by simpa using this
    omega

set_option maxRecDepth 20000 in
set_option maxHeartbeats 1000000 in
/-- The text tells a prefix: n bits, and there the bits end. -/
theorem rparse_yes (s : ByteArray) (n : Nat) (V : Int) (_hs : s.size ≤ 100000) (hn : n ≤ s.size) (h8 : n ≤ 8) (hall : ∀ k (h : k < n), bitB s[k] = true) (hend : ∀ h : n < s.size, bitB s[n] = false)
    (hV : valL (s.data.toList.take n) = V) (ht : textL n V = s.data.toList) (w : World) :
    Calls Tryz.prog 90 #[.string s] w fun e w' => e = .returned (.tuple #[pfx n V, .bool true]) ∧ ∃ d : Ext w, w' = d.out := by
  have HA := hide hall; have HE := hide hend; have HW := hide hV; have HT := hide ht
  clear hall hend hV ht
  go_enter Tryz.func90, Tryz.ntmps90
  go_wp2
  go_loop [4, 5] (fun x i => ∃ (k : Nat) (v : Int), k ≤ n ∧ Hid (v = valL (s.data.toList.take k)) ∧ x = .int .i64 v ∧ i = .int .i64 k) (fun _ i => n - (intOf i).toNat)
  case atStart => exact ⟨0, 0, by omega, (by simp [valL, Hid]), rfl, rfl⟩
  case round =>
    obtain ⟨k, v, hk, HV, rfl, rfl⟩ := hrel
    obtain ⟨v0, v1⟩ : 0 ≤ v ∧ v < 1024 := by rw [HV.out]; exact val_bd9 s k (by omega)
    by_cases hlt : k < n
    · have hks : k < s.size := by omega
      have htk := take_snoc s k hks
      rcases bit_cases (HA.out k hlt) with ⟨hc, hb⟩ | ⟨hc, hb⟩
      · have hv' : valL (s.data.toList.take (k + 1)) = v * 2 := by rw [htk, valL_snoc, ← HV.out, hc]; simp
        have HV' : Hid _ := hv'
        clear hv' htk hc
        go_wp2
        go_round
        case rel => exact ⟨k + 1, v * 2, by omega, HV'.out.symm, by go_num, by go_num⟩
        case measure => simp [intOf]; omega
      · have hv' : valL (s.data.toList.take (k + 1)) = v * 2 + 1 := by rw [htk, valL_snoc, ← HV.out, hc]; simp
        have HV' : Hid _ := hv'
        clear hv' htk hc
        go_wp2
        go_round
        case rel => exact ⟨k + 1, v * 2 + 1, by omega, HV'.out.symm, by go_num, by go_num⟩
        case measure => simp [intOf]; omega
    · have hkn : k = n := by omega
      subst hkn
      have hvV : v = V := by rw [HV.out]; exact HW.out
      subst hvV
      by_cases hsz : k < s.size
      · have hb := HE.out hsz
        have hb' : s[k] ≠ 48 ∧ s[k] ≠ 49 := by simpa [bitB] using hb
        have e1 : ((s[k].toNat : Int) == 48) = false := by
          simp only [beq_eq_false_iff_ne, ne_eq]; intro h; exact hb'.1 (UInt8.toNat_inj.1 (by simpa using (by omega : s[k].toNat = 48)))
        have e2 : ((s[k].toNat : Int) == 49) = false := by
          simp only [beq_eq_false_iff_ne, ne_eq]; intro h; exact hb'.2 (UInt8.toNat_inj.1 (by simpa using (by omega : s[k].toNat = 49)))
        have hd : decide ((k : Int) < (s.size : Int)) = true := by simp; omega
        clear hb hb'
        go_wp2_with (go_at_call 134; with_reducible refine (rtext_is HT.out _).mono ?_; rintro e _ ⟨rfl, d1, rfl⟩)
        obtain ⟨c0, c1, _, _, _⟩ := Gr.pair (((Gr.refl (w.alloc (.cells #[.int .i64 0, .int .i64 0] 52))).alloc _).ext d1)
        refine bodyPost_ret (v := .tuple #[pfx k v, .bool true]) (by simp [results, Tryz.results90, go_sem, c0, c1]) rfl ⟨rfl, ext_mk ?_⟩
        exact (((((Gr.refl _).alloc _).alloc _).ext d1).setCell (by simp) _).setCell (by simp) _
      · have hd : decide ((k : Int) < (s.size : Int)) = false := by simp; omega
        go_wp2_with (go_at_call 134; with_reducible refine (rtext_is HT.out _).mono ?_; rintro e _ ⟨rfl, d1, rfl⟩)
        obtain ⟨c0, c1, _, _, _⟩ := Gr.pair (((Gr.refl (w.alloc (.cells #[.int .i64 0, .int .i64 0] 52))).alloc _).ext d1)
        refine bodyPost_ret (v := .tuple #[pfx k v, .bool true]) (by simp [results, Tryz.results90, go_sem, c0, c1]) rfl ⟨rfl, ext_mk ?_⟩
        exact (((((Gr.refl _).alloc _).alloc _).ext d1).setCell (by simp) _).setCell (by simp) _

set_option maxRecDepth 20000 in
set_option maxHeartbeats 1000000 in
/-- The text tells none: too many bits, or another text. -/
theorem rparse_no (s : ByteArray) (n : Nat) (_hs : s.size ≤ 100000) (hn : n ≤ s.size) (h9 : n ≤ 9) (hall : ∀ k (h : k < n), bitB s[k] = true) (hend : ∀ h : n < s.size, n = 9 ∨ bitB s[n] = false)
    (ht : n ≤ 8 → textL n (valL (s.data.toList.take n)) ≠ s.data.toList) (w : World) :
    Calls Tryz.prog 90 #[.string s] w fun e w' => e = .returned (.tuple #[pfx 0 0, .bool false]) ∧ ∃ d : Ext w, w' = d.out := by
  have HA := hide hall; have HE := hide hend; have HT := hide ht
  clear hall hend ht
  go_enter Tryz.func90, Tryz.ntmps90
  go_wp2
  go_loop [4, 5] (fun x i => ∃ (k : Nat) (v : Int), k ≤ n ∧ Hid (v = valL (s.data.toList.take k)) ∧ x = .int .i64 v ∧ i = .int .i64 k) (fun _ i => n - (intOf i).toNat)
  case atStart => exact ⟨0, 0, by omega, (by simp [valL, Hid]), rfl, rfl⟩
  case round =>
    obtain ⟨k, v, hk, HV, rfl, rfl⟩ := hrel
    obtain ⟨v0, v1⟩ : 0 ≤ v ∧ v < 1024 := by rw [HV.out]; exact val_bd9 s k (by omega)
    by_cases hlt : k < n
    · have hks : k < s.size := by omega
      have htk := take_snoc s k hks
      rcases bit_cases (HA.out k hlt) with ⟨hc, hb⟩ | ⟨hc, hb⟩
      · have hv' : valL (s.data.toList.take (k + 1)) = v * 2 := by rw [htk, valL_snoc, ← HV.out, hc]; simp
        have HV' : Hid _ := hv'
        clear hv' htk hc
        go_wp2
        go_round
        case rel => exact ⟨k + 1, v * 2, by omega, HV'.out.symm, by go_num, by go_num⟩
        case measure => simp [intOf]; omega
      · have hv' : valL (s.data.toList.take (k + 1)) = v * 2 + 1 := by rw [htk, valL_snoc, ← HV.out, hc]; simp
        have HV' : Hid _ := hv'
        clear hv' htk hc
        go_wp2
        go_round
        case rel => exact ⟨k + 1, v * 2 + 1, by omega, HV'.out.symm, by go_num, by go_num⟩
        case measure => simp [intOf]; omega
    · have hkn : k = n := by omega
      subst hkn
      by_cases hsz : k < s.size
      · have hd : decide ((k : Int) < (s.size : Int)) = true := by simp; omega
        rcases HE.out hsz with h | hb
        · have k9 : 8 < k := by omega
          rcases Bool.eq_false_or_eq_true (bitB s[k]) with hb | hb
          · rcases bit_cases hb with ⟨hc, hb⟩ | ⟨hc, hb⟩
            · clear h hc
              go_wp2
              refine bodyPost_ret (v := .tuple #[pfx 0 0, .bool false]) (by simp [results, Tryz.results90, go_sem]) rfl ⟨rfl, ext_mk ?_⟩
              exact ((Gr.refl _).alloc _).alloc _
            · clear h hc
              go_wp2
              refine bodyPost_ret (v := .tuple #[pfx 0 0, .bool false]) (by simp [results, Tryz.results90, go_sem]) rfl ⟨rfl, ext_mk ?_⟩
              exact ((Gr.refl _).alloc _).alloc _
          · have hb' : s[k] ≠ 48 ∧ s[k] ≠ 49 := by simpa [bitB] using hb
            have e1 : ((s[k].toNat : Int) == 48) = false := by
              simp only [beq_eq_false_iff_ne, ne_eq]; intro h; exact hb'.1 (UInt8.toNat_inj.1 (by simpa using (by omega : s[k].toNat = 48)))
            have e2 : ((s[k].toNat : Int) == 49) = false := by
              simp only [beq_eq_false_iff_ne, ne_eq]; intro h; exact hb'.2 (UInt8.toNat_inj.1 (by simpa using (by omega : s[k].toNat = 49)))
            clear h hb hb'
            go_wp2
            refine bodyPost_ret (v := .tuple #[pfx 0 0, .bool false]) (by simp [results, Tryz.results90, go_sem]) rfl ⟨rfl, ext_mk ?_⟩
            exact ((Gr.refl _).alloc _).alloc _
        · have hb' : s[k] ≠ 48 ∧ s[k] ≠ 49 := by simpa [bitB] using hb
          have e1 : ((s[k].toNat : Int) == 48) = false := by
            simp only [beq_eq_false_iff_ne, ne_eq]; intro h; exact hb'.1 (UInt8.toNat_inj.1 (by simpa using (by omega : s[k].toNat = 48)))
          have e2 : ((s[k].toNat : Int) == 49) = false := by
            simp only [beq_eq_false_iff_ne, ne_eq]; intro h; exact hb'.2 (UInt8.toNat_inj.1 (by simpa using (by omega : s[k].toNat = 49)))
          clear hb hb'
          by_cases k9 : 8 < k
          · go_wp2
            refine bodyPost_ret (v := .tuple #[pfx 0 0, .bool false]) (by simp [results, Tryz.results90, go_sem]) rfl ⟨rfl, ext_mk ?_⟩
            exact ((Gr.refl _).alloc _).alloc _
          · have hne := HT.out (by omega)
            rw [← HV.out] at hne
            generalize htx : textL k v = T at hne
            have TX := hide htx
            have hne' : (T == s.toList) = false := by rw [ByteArray.toList_eq]; simpa using hne
            have hd8 : decide (8 < (k : Int)) = false := by simp; omega
            clear htx hne
            go_wp2_with (go_at_call 134; with_reducible refine (rtext_is TX.out _).mono ?_; rintro e _ ⟨rfl, d1, rfl⟩)
            obtain ⟨c0, c1, _, _, _⟩ := Gr.pair (((Gr.refl (w.alloc (.cells #[.int .i64 0, .int .i64 0] 52))).alloc _).ext d1)
            refine bodyPost_ret (v := .tuple #[pfx 0 0, .bool false]) (by simp [results, Tryz.results90, go_sem, c0, c1]) rfl ⟨rfl, ext_mk ?_⟩
            exact (((((Gr.refl _).alloc _).alloc _).ext d1).setCell (by simp) _).setCell (by simp) _
      · have hd : decide ((k : Int) < (s.size : Int)) = false := by simp; omega
        by_cases k9 : 8 < k
        · go_wp2
          refine bodyPost_ret (v := .tuple #[pfx 0 0, .bool false]) (by simp [results, Tryz.results90, go_sem]) rfl ⟨rfl, ext_mk ?_⟩
          exact ((Gr.refl _).alloc _).alloc _
        · have hne := HT.out (by omega)
          rw [← HV.out] at hne
          generalize htx : textL k v = T at hne
          have TX := hide htx
          have hne' : (T == s.toList) = false := by rw [ByteArray.toList_eq]; simpa using hne
          have hd8 : decide (8 < (k : Int)) = false := by simp; omega
          clear htx hne
          go_wp2_with (go_at_call 134; with_reducible refine (rtext_is TX.out _).mono ?_; rintro e _ ⟨rfl, d1, rfl⟩)
          obtain ⟨c0, c1, _, _, _⟩ := Gr.pair (((Gr.refl (w.alloc (.cells #[.int .i64 0, .int .i64 0] 52))).alloc _).ext d1)
          refine bodyPost_ret (v := .tuple #[pfx 0 0, .bool false]) (by simp [results, Tryz.results90, go_sem, c0, c1]) rfl ⟨rfl, ext_mk ?_⟩
          exact (((((Gr.refl _).alloc _).alloc _).ext d1).setCell (by simp) _).setCell (by simp) _

end Go.Proofs.YtfcknkanbcndjagGreatDoor

/- CONTRACT OF handpostref.Parse, by the plain function. -/
namespace Go.Proofs.YtfcknkanbcndjagGreatDoor
open Go.RowKit

theorem rparse_some (s : ByteArray) (n : Nat) (v : Int) (hs : s.size ≤ 100000) (h : parseL s.data.toList = some (n, v)) (w : World) :
    Calls Tryz.prog 90 #[.string s] w fun e w' => e = .returned (.tuple #[pfx n v, .bool true]) ∧ ∃ d : Ext w, w' = d.out := by
  obtain ⟨ok, ht⟩ := text_parse _ _ _ h
  obtain ⟨_, h8, hv, hl⟩ := ok_iff.1 ok
  have hl' : v < 2 ^ n := by simpa using hl
  have hlen : s.data.toList.length = s.size := by simp
  have hbl := bitsL_length n v
  have e : s.data.toList = bitsL n v ++ (if (n : Int) < 8 then [42] else []) := by rw [← ht]; simp [textL, ok]
  have hn : n ≤ s.size := by rw [← hlen, e, List.length_append]; omega
  have htk : s.data.toList.take n = bitsL n v := by rw [e, List.take_append_of_le_length (by omega), List.take_of_length_le (by omega)]
  have hall := bitsL_bits n v
  refine rparse_yes s n v hs hn (by omega) (fun k hk => ?_) (fun hk => ?_) (by rw [htk]; exact valL_bitsL n v hv hl') ht w
  · rw [← htk, List.all_eq_true] at hall
    apply hall
    rw [List.mem_take_iff_getElem]
    exact ⟨k, by simp; omega, rfl⟩
  · have h1 : s[n] = s.data.toList[n]'(by rw [hlen]; exact hk) := rfl
    have h2 : s.data.toList[n]? = some s[n] := by rw [h1]; exact List.getElem?_eq_getElem _
    rw [e, List.getElem?_append_right (by omega), hbl, Nat.sub_self] at h2
    by_cases hn8 : (n : Int) < 8
    · rw [if_pos hn8] at h2
      simp at h2
      rw [← h2]; rfl
    · rw [if_neg hn8] at h2
      simp at h2

/-- How many bits a text begins with, nine at most. -/
theorem leads (l : List UInt8) : ∃ n, n ≤ 9 ∧ ∃ hn : n ≤ l.length, (∀ k (h : k < n), bitB (l[k]'(by omega)) = true) ∧ ∀ h : n < l.length, n = 9 ∨ bitB l[n] = false := by
  by_cases ha : (l.take 9).all bitB = true
  · refine ⟨min 9 l.length, by omega, by omega, fun k hk => ?_, fun h => .inl (by omega)⟩
    rw [List.all_eq_true] at ha
    apply ha
    rw [List.mem_take_iff_getElem]
    exact ⟨k, by omega, rfl⟩
  · obtain ⟨m, h1, h2, h3⟩ := first_bad bitB (l.take 9) (by simpa using ha)
    have hm : m < 9 ∧ m < l.length := by simp at h1; omega
    refine ⟨m, by omega, by omega, fun k hk => ?_, fun h => .inr ?_⟩
    · have := h3 k hk
      rw [List.getElem_take] at this
      exact this
    · rw [List.getElem_take] at h2
      exact h2

theorem rparse_nil (s : ByteArray) (hs : s.size ≤ 100000) (h : parseL s.data.toList = none) (w : World) :
    Calls Tryz.prog 90 #[.string s] w fun e w' => e = .returned (.tuple #[pfx 0 0, .bool false]) ∧ ∃ d : Ext w, w' = d.out := by
  have hlen : s.data.toList.length = s.size := by simp
  obtain ⟨n, h9, hn, hall, hend⟩ := leads s.data.toList
  refine rparse_no s n hs (by omega) h9 (fun k hk => hall k hk) (fun hk => hend (by omega)) (fun h8 ht => ?_) w
  obtain ⟨v0, v1⟩ := valL_bd (s.data.toList.take n)
  have hl2 : (s.data.toList.take n).length = n := by rw [List.length_take]; omega
  rw [hl2] at v1
  have ok : okB n (valL (s.data.toList.take n)) = true := ok_iff.2 ⟨by omega, by omega, v0, by simpa using v1⟩
  have := parse_text n _ ok
  rw [ht, h] at this
  cases this

end Go.Proofs.YtfcknkanbcndjagGreatDoor
