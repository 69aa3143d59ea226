import Derived.Test.YtfcknkanbcndjagGreatDoorL1
import Derived.Test.YtfcknkanbcndjagGreatDoorD2
import Derived.Lib.AtoiAll
import Derived.Lib.ItoaNum
import Derived.Test.YtfcknkanbcndjagGreatDoorPo0
import Derived.Test.YtfcknkanbcndjagGreatDoorNtPlain6
import Derived.Test.YtfcknkanbcndjagGreatDoorNe8
import Derived.Test.YtfcknkanbcndjagGreatDoorRInv
import Derived.Test.YtfcknkanbcndjagGreatDoorNe1
import Derived.Laws.OwnMore
/- CONTRACT OF package prefix: Text. -/
namespace Go.Proofs.YtfcknkanbcndjagGreatDoor
open Go.RowKit
attribute [local go_sem] Ext.all Ext.cell Ext.frozen Ext.lt Ext.lt1 Ext.lt2 Ext.ne Ext.ne'
theorem Tryz.info5 : (Tryz.prog.info? 5).map (fun i => (i.zero, i.size, i.bytes)) = some (some (.int .u8 0), 1, 1) := by kernel_rfl

theorem or_0p (b : Int) (h0 : 0 ≤ b) (h : b < 256) : bits .or .i64 (b * 2) 0 = b * 2 := by
  have : ∀ n : Fin 256, bits .or .i64 ((n.val : Int) * 2) 0 = (n.val : Int) * 2 := by decide +kernel
  have h1 := this ⟨b.toNat, by omega⟩
  simpa [Int.toNat_of_nonneg h0] using h1
theorem or_1p (b : Int) (h0 : 0 ≤ b) (h : b < 256) : bits .or .i64 (b * 2) 1 = b * 2 + 1 := by
  have : ∀ n : Fin 256, bits .or .i64 ((n.val : Int) * 2) 1 = (n.val : Int) * 2 + 1 := by decide +kernel
  have h1 := this ⟨b.toNat, by omega⟩
  simpa [Int.toNat_of_nonneg h0] using h1

theorem and_1 (x : Int) (h0 : 0 ≤ x) (h : x < 256) : bits .and .i64 x 1 = x % 2 := by
  have : ∀ n : Fin 256, bits .and .i64 (n.val : Int) 1 = (n.val : Int) % 2 := by decide +kernel
  have h1 := this ⟨x.toNat, by omega⟩
  simpa [Int.toNat_of_nonneg h0] using h1

theorem div_bd (b : Int) (k : Nat) (h0 : 0 ≤ b) (h : b < 256) : 0 ≤ b / 2 ^ k ∧ b / 2 ^ k < 256 := by
  have hp : (0 : Int) < 2 ^ k := Int.pow_pos (by decide)
  exact ⟨Int.ediv_nonneg h0 (Int.le_of_lt hp), Int.lt_of_le_of_lt (Int.ediv_le_self _ h0) h⟩

abbrev ub (u : UInt8) : Value := .int .u8 u.toNat

/-- 'string(b)' of bytes that the call itself has gathered. -/
theorem own_string {w : World} {base n : Nat} {v : Value} {l : List UInt8} (h : w.ownsRow base 5 1 v n (l.map ub)) :
    (convert 92 9 v).run Tryz.prog w = .ok (.string ⟨l.toArray⟩) w := by
  obtain ⟨hlen, h | ⟨g, cap, cur, rfl, hg, hh, hn, hc, hs, ht⟩⟩ := h
  · obtain ⟨rfl, rfl⟩ := h
    have : l = [] := by simpa using hlen
    subst this
    rw [run_convert_bytes_string w 92 9 5 none 0 0 Tryz.underlying92 Tryz.underlying5 Tryz.underlying9]; rfl
  · have hl : l.length = n := by simpa using hlen
    subst hl
    refine run_convert_bytes_back (P := Tryz.prog) w 92 9 5 ⟨g, 0, none⟩ cap l Tryz.underlying92 Tryz.underlying5 Tryz.underlying9 (fun j hj => ?_)
    have hc : w.cell? ⟨g, j, none⟩ = (l.map ub)[j]? := by
      have hown : w.ownsRow base 5 1 (.slice (some ⟨g, 0, none⟩) l.length cap) l.length (l.map ub) := ⟨hlen, .inr ⟨g, cap, cur, rfl, hg, hh, hn, hc, hs, ht⟩⟩
      exact hown.cellAt j (by omega)
    rw [Addr.add_lit, Nat.zero_add, hc]
    simp [hj]

theorem text_no (l b : Int) (ho : okB l b = false) (w : World) :
    Calls Tryz.prog 126 #[pfx l b] w fun e w' => e = .returned (.string ⟨#[]⟩) ∧ ∃ d : Ext w, w' = d.out := by
  go_enter Tryz.func126, Tryz.ntmps126
  go_wp2_with (go_at_call 114; refine (check_is ho _).mono ?_; rintro e _ ⟨rfl, d1, rfl⟩)
  go_ret
  exact ⟨rfl, ext_mk (((Gr.refl _).alloc _).ext d1)⟩

set_option maxRecDepth 20000 in
set_option maxHeartbeats 800000 in
theorem text_yes (n : Nat) (b : Int) (ho : okB n b = true) (w : World) :
    Calls Tryz.prog 126 #[pfx n b] w fun e w' => e = .returned (.string ⟨(textL n b).toArray⟩) ∧ ∃ d : Ext w, w' = d.out := by
  obtain ⟨h0, h8, hb, hl, g1, g2⟩ := ok_pows ho
  obtain ⟨p1, p2⟩ := pw_bd n (by omega)
  have hb8 : b < 256 := by omega
  obtain ⟨i0, hi, hz0, hz1, hz2⟩ := info_parts Tryz.info5
  go_enter Tryz.func126, Tryz.ntmps126
  go_wp2_with (first | (go_at_call 114; refine (check_is ho _).mono ?_; rintro e _ ⟨rfl, d1, rfl⟩) | (at_make; refine wpList_make_own _ rfl _ _ 92 rfl d1.out.heap.size 5 i0 (.int .u8 0) 1 Tryz.underlying92 hi hz0 hz1 _ _ _ 8 rfl rfl rfl ?b2 ?b3 (Nat.le_refl _) ?_))
  case b2 => rw [hz2]; decide
  case b3 => unfold maxLen; decide
  intro w0 hown0 hgrow0
  have gr0 : Gr d1.out w0 := (Gr.refl _).grown hgrow0 (fun k h => by cases h)
  obtain ⟨d0, rfl⟩ := ext_mk gr0
  clear hgrow0 gr0
  go_wp2
  go_loopw [3, 4] (fun v i wr => ∃ (m : Nat) (j : Int), (m : Int) - 1 ≤ j ∧ j ≤ (m : Int) - 1 ∧ m ≤ n ∧ i = .int .i64 j ∧ wr.ownsRow d1.out.heap.size 5 1 v (n - m) ((bitsL (n - m) (b / 2 ^ m)).map ub) ∧ Gr d1.out wr) (fun _ i _ => (intOf i + 1).toNat)
  case atStart => exact ⟨n, n - 1, by omega, by omega, by omega, rfl, by simpa [bitsL] using hown0, d0.gr⟩
  case round =>
    clear hown0
    obtain ⟨m, j, j1, j2, hm, rfl, hown, hgr⟩ := hrel
    obtain ⟨dr, rfl⟩ := ext_mk hgr
    clear hgr d0
    cases m with
    | zero =>
      have hj : ¬ 0 ≤ j := by omega
      by_cases h7 : n < 8
      · go_wp2_with (at_builtin; refine wpList_append_own _ rfl (.tmp 29) (.tmp 30) 92 rfl d1.out.heap.size 5 i0 (.int .u8 0) 1 1 Tryz.underlying92 hi hz0 hz1 hz2 rfl (by decide) _ _ _ rfl (hown.alloc _) ⟨dr.out.heap.size, 0, none⟩ 1 1 [.int .u8 42] rfl rfl (cell_one_new _ _ _) ?c2 ?c3 ?c4 ?c5 ?_)
        case c2 => first | rfl | (intro u hu; simp at hu; subst hu; rfl)
        case c3 => unfold maxLen; omega
        case c4 => omega
        case c5 => have := Below.size dr.gr; simp; omega
        intro v' w1 hown' hgrow _
        have hl := hown.lt
        have gr1 : Gr d1.out w1 := (dr.gr.alloc _).grown hgrow (fun k hk => (hl k hk).1)
        have hcv := own_string (l := bitsL n b ++ [42]) (w := w1) (by simpa [ub] using hown')
        have ht : textL n b = bitsL n b ++ [42] := by simp [textL, ho]; omega
        have HT : Hid _ := ht
        obtain ⟨d2, rfl⟩ := ext_mk gr1
        clear hown' hgrow hown hl gr1 ht
        go_wp2
        go_ret
        exact ⟨by rw [HT.out]; rfl, ext_mk ((((Gr.refl _).alloc _).ext d1).ext d2)⟩
      · have ht : textL n b = bitsL n b := by simp [textL, ho]; omega
        have HT : Hid _ := ht
        have hcv := own_string (l := bitsL n b) (w := dr.out) (by simpa [ub] using hown)
        clear hown ht
        go_wp2
        go_ret
        exact ⟨by rw [HT.out]; rfl, ext_mk ((((Gr.refl _).alloc _).ext d1).ext dr)⟩
    | succ m =>
      have hj : 0 ≤ j := by omega
      have hjm : j.toNat = m := by omega
      obtain ⟨q0, q1⟩ := div_bd b j.toNat hb hb8
      have hand := and_1 _ q0 q1
      by_cases hbit : b / 2 ^ m % 2 = 1
      · have hand1 : bits .and .i64 (b / 2 ^ j.toNat) 1 = 1 := by rw [hand, hjm]; exact hbit
        have hnx := bitsL_next n m b 49 (by omega) (by simp [hbit])
        have HN : Hid _ := hnx
        clear hand hjm hbit hnx
        go_wp2_with (at_builtin; refine wpList_append_own _ rfl (.tmp 16) (.tmp 24) 92 rfl d1.out.heap.size 5 i0 (.int .u8 0) 1 1 Tryz.underlying92 hi hz0 hz1 hz2 rfl (by decide) _ _ _ rfl (hown.alloc _) ⟨dr.out.heap.size, 0, none⟩ 1 1 [.int .u8 49] rfl rfl (cell_one_new _ _ _) ?e2 ?e3 ?e4 ?e5 ?_)
        case e2 => first | rfl | (intro u hu; simp at hu; subst hu; rfl)
        case e3 => unfold maxLen; omega
        case e4 => omega
        case e5 => have := Below.size dr.gr; simp; omega
        intro v' w1 hown' hgrow _
        have hl := hown.lt
        have gr1 : Gr d1.out w1 := (dr.gr.alloc _).grown hgrow (fun k hk => (hl k hk).1)
        have hown2 : w1.ownsRow d1.out.heap.size 5 1 v' (n - m) ((bitsL (n - m) (b / 2 ^ m)).map ub) := by
          rw [HN.out, show n - m = n - (m + 1) + 1 by omega]; simpa [ub] using hown'
        obtain ⟨d2, rfl⟩ := ext_mk gr1
        clear hown' hgrow hown hl gr1
        go_wp2
        go_roundw
        case rel => exact ⟨m, j - 1, by omega, by omega, by omega, rfl, hown2, d2.gr⟩
        case measure => simp [intOf]; omega
      · have hand1 : bits .and .i64 (b / 2 ^ j.toNat) 1 = 0 := by rw [hand, hjm]; omega
        have hnx := bitsL_next n m b 48 (by omega) (by simp [hbit])
        have HN : Hid _ := hnx
        clear hand hjm hbit hnx
        go_wp2_with (at_builtin; refine wpList_append_own _ rfl (.tmp 16) (.tmp 24) 92 rfl d1.out.heap.size 5 i0 (.int .u8 0) 1 1 Tryz.underlying92 hi hz0 hz1 hz2 rfl (by decide) _ _ _ rfl (hown.alloc _) ⟨dr.out.heap.size, 0, none⟩ 1 1 [.int .u8 48] rfl rfl (cell_one_new _ _ _) ?g2 ?g3 ?g4 ?g5 ?_)
        case g2 => first | rfl | (intro u hu; simp at hu; subst hu; rfl)
        case g3 => unfold maxLen; omega
        case g4 => omega
        case g5 => have := Below.size dr.gr; simp; omega
        intro v' w1 hown' hgrow _
        have hl := hown.lt
        have gr1 : Gr d1.out w1 := (dr.gr.alloc _).grown hgrow (fun k hk => (hl k hk).1)
        have hown2 : w1.ownsRow d1.out.heap.size 5 1 v' (n - m) ((bitsL (n - m) (b / 2 ^ m)).map ub) := by
          rw [HN.out, show n - m = n - (m + 1) + 1 by omega]; simpa [ub] using hown'
        obtain ⟨d2, rfl⟩ := ext_mk gr1
        clear hown' hgrow hown hl gr1
        go_wp2
        go_roundw
        case rel => exact ⟨m, j - 1, by omega, by omega, by omega, rfl, hown2, d2.gr⟩
        case measure => simp [intOf]; omega

theorem text_any (l b : Int) (w : World) :
    Calls Tryz.prog 126 #[pfx l b] w fun e w' => e = .returned (.string ⟨(textL l b).toArray⟩) ∧ ∃ d : Ext w, w' = d.out := by
  cases ho : okB l b
  · have ht : textL l b = [] := by simp [textL, ho]
    rw [ht]
    exact text_no l b ho w
  · obtain ⟨n, rfl⟩ := Int.eq_ofNat_of_zero_le (ok_pows ho).1
    exact text_yes n b ho w

end Go.Proofs.YtfcknkanbcndjagGreatDoor

/- CONTRACTS OF package prefix: bitCount, Parse. -/
namespace Go.Proofs.YtfcknkanbcndjagGreatDoor
open Go.RowKit
attribute [local go_sem] Ext.all Ext.cell Ext.frozen Ext.lt Ext.lt1 Ext.lt2 Ext.ne Ext.ne'
theorem count_full (s : ByteArray) (b1 : s.size ≤ 8) (b2 : 8 ≤ s.size) (hl : ((s[s.size - 1]'(by omega)).toNat : Int) ≠ 42) (w : World) :
    Calls Tryz.prog 198 #[.string s] w fun e w' => e = .returned (.tuple #[.int .i64 8, .bool true]) ∧ w' = w := by
  have e8 : ((s.size : Int) == 8) = true := by simp; omega
  have el : (((s[s.size - 1]'(by omega)).toNat : Int) != 42) = true := by simpa using hl
  clear hl
  go_enter Tryz.func198, Tryz.ntmps198
  go_wp2
  go_ret2
  exact ⟨rfl, rfl⟩

theorem count_star (s : ByteArray) (h0 : 0 < s.size) (h8 : s.size ≤ 8) (hl : ((s[s.size - 1]'(by omega)).toNat : Int) = 42) (w : World) :
    Calls Tryz.prog 198 #[.string s] w fun e w' => e = .returned (.tuple #[.int .i64 (s.size - 1), .bool true]) ∧ w' = w := by
  have el : (((s[s.size - 1]'(by omega)).toNat : Int) != 42) = false := by simpa using hl
  have el2 : (((s[s.size - 1]'(by omega)).toNat : Int) == 42) = true := by simpa using hl
  have d1 : decide ((s.size : Int) ≤ 8) = true := by simp; omega
  have d2 : decide (0 < (s.size : Int)) = true := by simp; omega
  clear hl
  by_cases e : s.size = 8
  · have e8 : ((s.size : Int) == 8) = true := by simp; omega
    have b2 : 8 ≤ s.size := by omega
    clear e
    go_enter Tryz.func198, Tryz.ntmps198
    go_wp2
    go_ret2
    exact ⟨rfl, rfl⟩
  · have e8 : ((s.size : Int) == 8) = false := by simp; omega
    go_enter Tryz.func198, Tryz.ntmps198
    go_wp2
    go_ret2
    exact ⟨rfl, rfl⟩

theorem count_none (s : ByteArray) (hz : s.size = 0 ∨ 8 < s.size) (w : World) (hs : s.size ≤ maxLen) :
    Calls Tryz.prog 198 #[.string s] w fun e w' => e = .returned (.tuple #[.int .i64 0, .bool false]) ∧ w' = w := by
  unfold maxLen at hs
  have e8 : ((s.size : Int) == 8) = false := by simp; omega
  by_cases e : 8 < s.size
  · have d1 : decide ((s.size : Int) ≤ 8) = false := by simp; omega
    have d2 : decide (0 < (s.size : Int)) = true := by simp; omega
    clear hz
    go_enter Tryz.func198, Tryz.ntmps198
    go_wp2
    go_ret2
    exact ⟨rfl, rfl⟩
  · have d2 : decide (0 < (s.size : Int)) = false := decide_eq_false (by omega)
    have d3 : s.size ≤ 0 := by omega
    clear hz
    go_enter Tryz.func198, Tryz.ntmps198
    go_wp2
    go_ret2
    exact ⟨rfl, rfl⟩

theorem count_short (s : ByteArray) (h0 : 0 < s.size) (h8 : s.size < 8) (hl : ((s[s.size - 1]'(by omega)).toNat : Int) ≠ 42) (w : World) :
    Calls Tryz.prog 198 #[.string s] w fun e w' => e = .returned (.tuple #[.int .i64 0, .bool false]) ∧ w' = w := by
  have el2 : (((s[s.size - 1]'(by omega)).toNat : Int) == 42) = false := by simpa using hl
  have d1 : decide ((s.size : Int) ≤ 8) = true := by simp; omega
  have d2 : decide (0 < (s.size : Int)) = true := by simp; omega
  have e8 : ((s.size : Int) == 8) = false := by simp; omega
  clear hl
  go_enter Tryz.func198, Tryz.ntmps198
  go_wp2
  go_ret2
  exact ⟨rfl, rfl⟩

/-- What the first k bytes of a text tell, as bits. -/
def valL : List UInt8 → Int
  | [] => 0
  | c :: t => (if c = 49 then 2 ^ t.length else 0) + valL t

theorem valL_snoc : ∀ (l : List UInt8) (c : UInt8), valL (l ++ [c]) = valL l * 2 + if c = 49 then 1 else 0
  | [], c => by simp [valL]
  | d :: t, c => by
    simp only [List.cons_append, valL, valL_snoc t c, List.length_append, List.length_singleton]
    split <;> split <;> simp [Int.pow_succ] <;> omega

theorem valL_bd : ∀ l : List UInt8, 0 ≤ valL l ∧ valL l < 2 ^ l.length
  | [] => by simp [valL]
  | c :: t => by
    have h := valL_bd t
    have hp : (0 : Int) < 2 ^ t.length := Int.pow_pos (by decide)
    simp only [valL, List.length_cons, Int.pow_succ]
    split <;> omega

def bitB (c : UInt8) : Bool := c = 48 || c = 49

theorem take_snoc (s : ByteArray) (k : Nat) (h : k < s.size) : s.data.toList.take (k + 1) = s.data.toList.take k ++ [s[k]] := by
  rw [List.take_succ_eq_append_getElem (by simpa using h)]; rfl

theorem val_bd (s : ByteArray) (k : Nat) (hk : k < 8) : 0 ≤ valL (s.data.toList.take k) ∧ valL (s.data.toList.take k) < 256 := by
  obtain ⟨h0, h1⟩ := valL_bd (s.data.toList.take k)
  refine ⟨h0, Int.lt_of_lt_of_le h1 ?_⟩
  have hl : (s.data.toList.take k).length ≤ 8 := by simp; omega
  have := (pw_bd ((s.data.toList.take k).length : Nat) (by omega)).2
  simpa using this

theorem bit_cases {c : UInt8} (h : bitB c = true) : (c = 48 ∧ (c.toNat : Int) = 48) ∨ (c = 49 ∧ (c.toNat : Int) = 49) := by
  simp [bitB] at h
  rcases h with rfl | rfl
  · left; decide
  · right; decide

/-- The second field of the newest struct is stored into, behind some draws. -/
theorem put_2 (X : World) (x y u : Value) (q z : Nat) (hz : z = X.heap.size) : ((X.alloc (.cells #[x, y] 52)).drewN q).setCell ⟨z, 1, none⟩ u = (X.alloc (.cells #[x, u] 52)).drewN q := by
  subst hz
  have h := World.setCell_alloc_at (w := X) #[x, y] 52 X.heap.size 1 u rfl
  show ((X.alloc (.cells #[x, y] 52)).setCell ⟨X.heap.size, 1, none⟩ u).drewN q = _
  rw [h]; rfl

set_option maxRecDepth 20000 in
set_option maxHeartbeats 1000000 in
theorem parse_bits (s : ByteArray) (n : Nat) (hn : n ≤ s.size) (h8 : n ≤ 8) (hct : ∀ w, Calls Tryz.prog 198 #[.string s] w fun e w' => e = .returned (.tuple #[.int .i64 n, .bool true]) ∧ w' = w) 
    (hall : ∀ k (h : k < n), bitB s[k] = true) (w : World) :
    Calls Tryz.prog 166 #[.string s] w fun e w' => e = .returned (.tuple #[pfx n (valL (s.data.toList.take n)), .bool true]) ∧ ∃ d : Ext w, w' = d.out := by
  have HC : Hid _ := hct
  have HA : Hid _ := hall
  clear hct hall
  go_enter Tryz.func166, Tryz.ntmps166
  go_wp2_with (go_at_call 198; refine (HC.out _).mono ?_; rintro e w' ⟨rfl, hw⟩; subst hw)
  go_loopw [19] (fun i wr => ∃ (k q : Nat) (v : Int), k ≤ n ∧ Hid (v = valL (s.data.toList.take k)) ∧ i = .int .i64 k ∧ wr = ((w.alloc (.cells #[.int .i64 0, .int .i64 0] 52)).alloc (.cells #[.int .i64 n, .int .i64 v] 52)).drewN q) (fun i _ => n - (intOf i).toNat)
  case atStart => exact ⟨0, 0, 0, by omega, (by simp [valL, Hid]), rfl, rfl⟩
  case round =>
    obtain ⟨k, q, v, hk, HV, rfl, rfl⟩ := hrel
    by_cases hlt : k < n
    · obtain ⟨v0, v1⟩ : 0 ≤ v ∧ v < 256 := by rw [HV.out]; exact val_bd s k (by omega)
      have hks : k < s.size := by omega
      have htk := take_snoc s k hks
      rcases bit_cases (HA.out k hlt) with ⟨hc, hb⟩ | ⟨hc, hb⟩
      · have hv' : valL (s.data.toList.take (k + 1)) = v * 2 := by rw [htk, valL_snoc, ← HV.out, hc]; simp
        have HV' : Hid _ := hv'
        have o0 := or_0p v v0 v1
        clear hv' htk hc
        go_wp2
        go_region
        go_wp2
        go_roundw
        case rel => exact ⟨k + 1, _, v * 2, by omega, HV'.out.symm, by go_num, put_2 _ _ _ _ _ _ (by simp)⟩
        case measure => simp [intOf]; omega
      · have hv' : valL (s.data.toList.take (k + 1)) = v * 2 + 1 := by rw [htk, valL_snoc, ← HV.out, hc]; simp
        have HV' : Hid _ := hv'
        have o1 := or_1p v v0 v1
        clear hv' htk hc
        go_wp2
        go_region
        go_wp2
        go_roundw
        case rel => exact ⟨k + 1, _, v * 2 + 1, by omega, HV'.out.symm, by go_num, put_2 _ _ _ _ _ _ (by simp)⟩
        case measure => simp [intOf]; omega
    · have hkn : k = n := by omega
      have HK : Hid _ := hkn
      clear hkn
      go_wp2
      refine bodyPost_ret (v := .tuple #[pfx n v, .bool true]) (by simp [results, Tryz.results166, go_sem]) rfl ⟨by rw [HV.out, HK.out], ext_mk ?_⟩
      exact (((((Gr.refl _).alloc _).alloc _).drewN _).setCell (by simp) _).setCell (by simp) _

set_option maxRecDepth 20000 in
set_option maxHeartbeats 1000000 in
theorem parse_bad (s : ByteArray) (n m : Nat) (hn : n ≤ s.size) (h8 : n ≤ 8) (hct : ∀ w, Calls Tryz.prog 198 #[.string s] w fun e w' => e = .returned (.tuple #[.int .i64 n, .bool true]) ∧ w' = w) 
    (hm : m < n) (hall : ∀ k (h : k < m), bitB s[k] = true) (hbad : bitB s[m] = false) (w : World) :
    Calls Tryz.prog 166 #[.string s] w fun e w' => e = .returned (.tuple #[pfx 0 0, .bool false]) ∧ ∃ d : Ext w, w' = d.out := by
  have HC : Hid _ := hct
  have HA : Hid _ := hall
  have HB : Hid _ := hbad
  clear hct hall hbad
  go_enter Tryz.func166, Tryz.ntmps166
  go_wp2_with (go_at_call 198; refine (HC.out _).mono ?_; rintro e w' ⟨rfl, hw⟩; subst hw)
  go_loopw [19] (fun i wr => ∃ (k q : Nat) (v : Int), k ≤ m ∧ Hid (v = valL (s.data.toList.take k)) ∧ i = .int .i64 k ∧ wr = ((w.alloc (.cells #[.int .i64 0, .int .i64 0] 52)).alloc (.cells #[.int .i64 n, .int .i64 v] 52)).drewN q) (fun i _ => n - (intOf i).toNat)
  case atStart => exact ⟨0, 0, 0, by omega, (by simp [valL, Hid]), rfl, rfl⟩
  case round =>
    obtain ⟨k, q, v, hk, HV, rfl, rfl⟩ := hrel
    have hks : k < s.size := by omega
    by_cases hlt : k < m
    · obtain ⟨v0, v1⟩ : 0 ≤ v ∧ v < 256 := by rw [HV.out]; exact val_bd s k (by omega)
      have htk := take_snoc s k hks
      rcases bit_cases (HA.out k hlt) with ⟨hc, hb⟩ | ⟨hc, hb⟩
      · have hv' : valL (s.data.toList.take (k + 1)) = v * 2 := by rw [htk, valL_snoc, ← HV.out, hc]; simp
        have HV' : Hid _ := hv'
        have o0 := or_0p v v0 v1
        clear hv' htk hc
        go_wp2
        go_region
        go_wp2
        go_roundw
        case rel => exact ⟨k + 1, _, v * 2, by omega, HV'.out.symm, by go_num, put_2 _ _ _ _ _ _ (by simp)⟩
        case measure => simp [intOf]; omega
      · have hv' : valL (s.data.toList.take (k + 1)) = v * 2 + 1 := by rw [htk, valL_snoc, ← HV.out, hc]; simp
        have HV' : Hid _ := hv'
        have o1 := or_1p v v0 v1
        clear hv' htk hc
        go_wp2
        go_region
        go_wp2
        go_roundw
        case rel => exact ⟨k + 1, _, v * 2 + 1, by omega, HV'.out.symm, by go_num, put_2 _ _ _ _ _ _ (by simp)⟩
        case measure => simp [intOf]; omega
    · have hkm : k = m := by omega
      subst hkm
      have hb : s[k] ≠ 48 ∧ s[k] ≠ 49 := by have := HB.out; simpa [bitB] using this
      have e1 : ((s[k].toNat : Int) != 48) = true := by
        simp only [bne_iff_ne, ne_eq]; intro h; exact hb.1 (UInt8.toNat_inj.1 (by simpa using (by omega : s[k].toNat = 48)))
      have e2 : ((s[k].toNat : Int) != 49) = true := by
        simp only [bne_iff_ne, ne_eq]; intro h; exact hb.2 (UInt8.toNat_inj.1 (by simpa using (by omega : s[k].toNat = 49)))
      clear hb
      go_wp2
      refine bodyPost_ret (v := .tuple #[pfx 0 0, .bool false]) (by simp [results, Tryz.results166, go_sem]) rfl ⟨rfl, ext_mk ?_⟩
      exact (((((Gr.refl _).alloc _).alloc _).drewN _).setCell (by simp) _).setCell (by simp) _

theorem parse_none (s : ByteArray) (hct : ∀ w, Calls Tryz.prog 198 #[.string s] w fun e w' => e = .returned (.tuple #[.int .i64 0, .bool false]) ∧ w' = w) (w : World) :
    Calls Tryz.prog 166 #[.string s] w fun e w' => e = .returned (.tuple #[pfx 0 0, .bool false]) ∧ ∃ d : Ext w, w' = d.out := by
  have HC : Hid _ := hct
  clear hct
  go_enter Tryz.func166, Tryz.ntmps166
  go_wp2_with (go_at_call 198; refine (HC.out _).mono ?_; rintro e w' ⟨rfl, hw⟩; subst hw)
  refine bodyPost_ret (v := .tuple #[pfx 0 0, .bool false]) (by simp [results, Tryz.results166, go_sem]) rfl ⟨rfl, ext_mk ?_⟩
  exact ((Gr.refl _).alloc _)

/-- How many bytes are to be bits. -/
def pcntL (l : List UInt8) : Option Nat :=
  if l.length = 8 ∧ l.getLast? ≠ some 42 then some 8 else if 0 < l.length ∧ l.length ≤ 8 ∧ l.getLast? = some 42 then some (l.length - 1) else none
/-- The prefix that has that text. -/
def parseL (l : List UInt8) : Option (Nat × Int) :=
  match pcntL l with
  | none => none
  | some n => if (l.take n).all bitB then some (n, valL (l.take n)) else none

theorem last_at (s : ByteArray) (h : 0 < s.size) : s.data.toList.getLast? = some (s[s.size - 1]'(by omega)) := by
  rw [List.getLast?_eq_getElem?]
  have : s.data.toList.length = s.size := by simp
  rw [this, List.getElem?_eq_getElem (by rw [this]; omega)]
  rfl

theorem last_42 (s : ByteArray) (h : 0 < s.size) : (s.data.toList.getLast? = some 42) ↔ ((s[s.size - 1]'(by omega)).toNat : Int) = 42 := by
  rw [last_at s h]
  simp only [Option.some.injEq]
  constructor
  · intro h; rw [h]; rfl
  · intro h; exact UInt8.toNat_inj.1 (by simpa using (by omega : (s[s.size - 1]'(by omega)).toNat = 42))

/-- bitCount, whatever the text. -/
theorem count_some (s : ByteArray) (n : Nat) (h : pcntL s.data.toList = some n) : n ≤ s.size ∧ n ≤ 8 ∧ ∀ w, Calls Tryz.prog 198 #[.string s] w fun e w' => e = .returned (.tuple #[.int .i64 n, .bool true]) ∧ w' = w := by
  have hl : s.data.toList.length = s.size := by simp
  unfold pcntL at h
  rw [hl] at h
  split at h
  · rename_i hc
    cases h
    have h42 := last_42 s (by omega)
    refine ⟨by omega, by omega, fun w => ?_⟩
    exact count_full s (by omega) (by omega) (fun e => hc.2 (h42.2 e)) w
  · split at h
    · rename_i hc
      cases h
      have h42 := last_42 s (by omega)
      refine ⟨by omega, by omega, fun w => ?_⟩
      have := count_star s hc.1 hc.2.1 (h42.1 hc.2.2) w
      have e : ((s.size : Int) - 1) = ((s.size - 1 : Nat) : Int) := by omega
      rw [e] at this
      exact this
    · cases h

theorem count_no (s : ByteArray) (hs : s.size ≤ maxLen) (h : pcntL s.data.toList = none) : ∀ w, Calls Tryz.prog 198 #[.string s] w fun e w' => e = .returned (.tuple #[.int .i64 0, .bool false]) ∧ w' = w := by
  have hl : s.data.toList.length = s.size := by simp
  intro w
  unfold pcntL at h
  rw [hl] at h
  split at h
  · cases h
  · split at h
    · cases h
    · rename_i h1 h2
      by_cases hz : s.size = 0 ∨ 8 < s.size
      · exact count_none s hz w hs
      · have h42 := last_42 s (by omega)
        have h3 : ¬ s.data.toList.getLast? = some 42 := fun e => h2 ⟨by omega, by omega, e⟩
        have h4 : s.size ≠ 8 := fun e => h1 ⟨e, h3⟩
        exact count_short s (by omega) (by omega) (fun e => h3 (h42.2 e)) w

theorem parse_some (s : ByteArray) (n : Nat) (v : Int) (h : parseL s.data.toList = some (n, v)) (w : World) :
    Calls Tryz.prog 166 #[.string s] w fun e w' => e = .returned (.tuple #[pfx n v, .bool true]) ∧ ∃ d : Ext w, w' = d.out := by
  unfold parseL at h
  split at h
  · cases h
  · rename_i m hm
    obtain ⟨c1, c2, c3⟩ := count_some s m hm
    split at h
    · rename_i hall
      simp only [Option.some.injEq, Prod.mk.injEq] at h
      obtain ⟨rfl, rfl⟩ := h
      refine parse_bits s m c1 c2 c3 (fun k hk => ?_) w
      rw [List.all_eq_true] at hall
      apply hall
      rw [List.mem_take_iff_getElem]
      exact ⟨k, by simp; omega, rfl⟩
    · cases h

/-- The first place at which a text of bits is none. -/
theorem first_bad (f : UInt8 → Bool) : ∀ l : List UInt8, l.all f = false → ∃ m, ∃ h : m < l.length, f l[m] = false ∧ ∀ k (hk : k < m), f (l[k]'(by omega)) = true
  | [], h => by cases h
  | c :: t, h => by
    by_cases hc : f c = true
    · simp [hc] at h
      obtain ⟨m, h1, h2, h3⟩ := first_bad f t (by simpa using h)
      refine ⟨m + 1, by simpa using h1, by simpa using h2, fun k hk => ?_⟩
      cases k with
      | zero => simpa using hc
      | succ k => simpa using h3 k (by omega)
    · exact ⟨0, by simp, by simpa using hc, fun k hk => by omega⟩

theorem parse_nil (s : ByteArray) (hs : s.size ≤ maxLen) (h : parseL s.data.toList = none) (w : World) :
    Calls Tryz.prog 166 #[.string s] w fun e w' => e = .returned (.tuple #[pfx 0 0, .bool false]) ∧ ∃ d : Ext w, w' = d.out := by
  have hl : s.data.toList.length = s.size := by simp
  unfold parseL at h
  split at h
  · rename_i hc
    exact parse_none s (count_no s hs hc) w
  · rename_i n hn
    obtain ⟨c1, c2, c3⟩ := count_some s n hn
    split at h
    · cases h
    · rename_i hall
      obtain ⟨m, h1, h2, h3⟩ := first_bad bitB _ (by simpa using hall)
      have hm : m < n := by simp at h1; omega
      refine parse_bad s n m c1 c2 c3 hm (fun k hk => ?_) ?_ w
      · have := h3 k hk
        rw [List.getElem_take] at this
        exact this
      · rw [List.getElem_take] at h2
        exact h2

end Go.Proofs.YtfcknkanbcndjagGreatDoor

/- PLAIN FACTS for PrefixBack: a prefix has a text that tells it, and a text that tells a prefix is its. -/
namespace Go.Proofs.YtfcknkanbcndjagGreatDoor

theorem bitsL_bits : ∀ (n : Nat) (b : Int), (bitsL n b).all bitB = true
  | 0, _ => rfl
  | n + 1, b => by
    simp only [bitsL, List.all_append, bitsL_bits n, Bool.true_and, List.all_cons, List.all_nil, Bool.and_true]
    split <;> rfl

theorem valL_bitsL : ∀ (n : Nat) (b : Int), 0 ≤ b → b < 2 ^ n → valL (bitsL n b) = b
  | 0, b, h0, h1 => by simp at h1; simp [bitsL, valL]; omega
  | n + 1, b, h0, h1 => by
    rw [Int.pow_succ] at h1
    simp only [bitsL, valL_snoc, valL_bitsL n (b / 2) (by omega) (by omega)]
    by_cases h : b % 2 = 1 <;> simp [h] <;> omega

theorem bitsL_valL : ∀ (n : Nat) (l : List UInt8), l.length = n → l.all bitB = true → bitsL n (valL l) = l
  | 0, l, hl, _ => by
    have : l = [] := by simpa using hl
    subst this; rfl
  | n + 1, l, hl, hb => by
    have hne : l ≠ [] := by intro e; subst e; simp at hl
    have e := List.dropLast_concat_getLast hne
    generalize l.dropLast = t at e
    generalize l.getLast hne = c at e
    subst e
    simp only [List.all_append, Bool.and_eq_true, List.all_cons, List.all_nil, Bool.and_true] at hb
    have ht : t.length = n := by simpa using hl
    have ih := bitsL_valL n t ht hb.1
    rw [valL_snoc, bitsL]
    rcases bit_cases hb.2 with ⟨rfl, _⟩ | ⟨rfl, _⟩
    · have e1 : (valL t * 2 + if (48 : UInt8) = 49 then 1 else 0) / 2 = valL t := by simp
      have e2 : (valL t * 2 + if (48 : UInt8) = 49 then 1 else 0) % 2 = 0 := by simp
      rw [e1, e2, ih]; rfl
    · have e1 : (valL t * 2 + if (49 : UInt8) = 49 then 1 else 0) / 2 = valL t := by simp; omega
      have e2 : (valL t * 2 + if (49 : UInt8) = 49 then 1 else 0) % 2 = 1 := by simp
      rw [e1, e2, ih]; rfl

theorem last_bit {l : List UInt8} (h : l.all bitB = true) : l.getLast? ≠ some 42 := by
  intro e
  have hm := List.mem_of_getLast? e
  rw [List.all_eq_true] at h
  have := h 42 hm
  simp [bitB] at this

/-- There and back. -/
theorem parse_text (n : Nat) (b : Int) (h : okB n b = true) : parseL (textL n b) = some (n, b) := by
  obtain ⟨h0, h8, hb, hl⟩ := ok_iff.1 h
  have hl' : b < 2 ^ n := by simpa using hl
  have h8' : n ≤ 8 := by omega
  have ht : textL n b = bitsL n b ++ (if (n : Int) < 8 then [42] else []) := by simp [textL, h]
  have hbits := bitsL_bits n b
  have hlen := bitsL_length n b
  have hval := valL_bitsL n b hb hl'
  have hlast := last_bit hbits
  by_cases e : n = 8
  · have ht' : textL n b = bitsL n b := by rw [ht, if_neg (by omega), List.append_nil]
    have hc : pcntL (bitsL n b) = some n := by
      unfold pcntL
      rw [if_pos ⟨by omega, hlast⟩, e]
    unfold parseL
    rw [ht', hc]
    simp only
    have htk : (bitsL n b).take n = bitsL n b := List.take_of_length_le (by omega)
    rw [htk, if_pos hbits, hval]
  · have ht' : textL n b = bitsL n b ++ [42] := by rw [ht, if_pos (by omega)]
    have hc : pcntL (bitsL n b ++ [42]) = some n := by
      unfold pcntL
      rw [if_neg (by simp), if_pos ⟨by simp, by simp [hlen]; omega, by simp⟩]
      simp [hlen]
    unfold parseL
    rw [ht', hc]
    simp only
    have htk : (bitsL n b ++ [42]).take n = bitsL n b := by rw [List.take_append_of_le_length (by omega), List.take_of_length_le (by omega)]
    rw [htk, if_pos hbits, hval]

/-- A text that tells a prefix is its. -/
theorem text_parse (l : List UInt8) (n : Nat) (v : Int) (h : parseL l = some (n, v)) : okB n v = true ∧ textL n v = l := by
  unfold parseL at h
  split at h
  · cases h
  · rename_i m hm
    split at h
    · rename_i hall
      simp only [Option.some.injEq, Prod.mk.injEq] at h
      obtain ⟨rfl, rfl⟩ := h
      obtain ⟨v0, v1⟩ := valL_bd (l.take m)
      unfold pcntL at hm
      split at hm
      · rename_i hc
        cases hm
        have htk : l.take 8 = l := List.take_of_length_le (by omega)
        rw [htk] at hall v0 v1 ⊢
        rw [hc.1] at v1
        have ok : okB ((8 : Nat) : Int) (valL l) = true := ok_iff.2 ⟨by omega, by omega, v0, by simpa using v1⟩
        refine ⟨ok, ?_⟩
        have hb := bitsL_valL 8 l hc.1 hall
        simp only [textL, ok, if_true]
        rw [if_neg (by omega), List.append_nil]
        exact hb
      · split at hm
        · rename_i hc
          cases hm
          obtain ⟨hc0, hc8, hc42⟩ := hc
          have hlen : (l.take (l.length - 1)).length = l.length - 1 := by simp
          rw [hlen] at v1
          have ok : okB ((l.length - 1 : Nat) : Int) (valL (l.take (l.length - 1))) = true := ok_iff.2 ⟨by omega, by omega, v0, by simpa using v1⟩
          refine ⟨ok, ?_⟩
          have hb := bitsL_valL (l.length - 1) _ hlen hall
          simp only [textL, ok, if_true]
          rw [if_pos (by omega)]
          have e2 : l.take (l.length - 1) ++ [42] = l := by
            have hne : l ≠ [] := by intro e; subst e; simp at hc0
            have e3 := List.dropLast_concat_getLast hne
            rw [List.getLast?_eq_some_getLast hne] at hc42
            rw [Option.some.inj hc42] at e3
            rw [← List.dropLast_eq_take]
            exact e3
          rw [show ((l.length - 1 : Nat) : Int).toNat = l.length - 1 from by simp, hb]
          exact e2
        · cases hm
    · cases h

end Go.Proofs.YtfcknkanbcndjagGreatDoor

/- THE DESK AS TEXTS: what a line asks. No Go here. -/
namespace Go.Proofs.YtfcknkanbcndjagGreatDoor

abbrev Tx := List UInt8
/-- Words: parted by blanks; cur: the word that was begun. -/
def wgo : Tx → Tx → List Tx
  | [], cur => if cur = [] then [] else [cur]
  | c :: s, cur => if c = 32 then (if cur = [] then wgo s [] else cur :: wgo s []) else wgo s (cur ++ [c])
def wordsT (s : Tx) : List Tx := wgo s []
/-- A number, as short as can be. -/
def numT (s : Tx) : Option Int := match Go.Lib.atoiAll s with
  | .ok v => if Go.Lib.itoa v = s then some v else none
  | _ => none
def numsT : List Tx → Option (List Int)
  | [] => some []
  | s :: r => match numT s with
    | none => none
    | some v => (numsT r).map (v :: ·)
theorem nums_len : ∀ {r : List Tx} {n : List Int}, numsT r = some n → n.length = r.length
  | [], n, h => by cases h; rfl
  | s :: r, n, h => by
    unfold numsT at h
    cases e : numT s with
    | none => rw [e] at h; cases h
    | some v =>
      rw [e] at h
      simp only [Option.map_eq_some_iff] at h
      obtain ⟨m, hm, rfl⟩ := h
      simp [nums_len hm]

def wLink : Tx := [108, 105, 110, 107]
def wTick : Tx := [116, 105, 99, 107]
def wTell : Tx := [116, 101, 108, 108]
def wHear : Tx := [104, 101, 97, 114]
def wLose : Tx := [108, 111, 115, 101]
def wDouble : Tx := [100, 111, 117, 98, 108, 101]
def wOwn : Tx := [111, 119, 110]
def wFree : Tx := [102, 114, 101, 101]
def wWays : Tx := [119, 97, 121, 115]
def wNews : Tx := [110, 101, 119, 115]
def wFull : Tx := [102, 117, 108, 108]
def wSmall : Tx := [115, 109, 97, 108, 108]
def wLetter : Tx := [108, 101, 116, 116, 101, 114]
def wWhat : Tx := [119, 104, 97, 116]
def wOk : Tx := [111, 107]
def wNo : Tx := [110, 111]
def wWay : Tx := [119, 97, 121]
def wRoute : Tx := [114, 111, 117, 116, 101]
def wEnd : Tx := [101, 110, 100]
def wTrip : Tx := [116, 114, 105, 112]
/-- The words of the table, and how many numbers stand behind each. -/
def wdL : List Tx := [wLink, wTick, wTell, wHear, wLose, wDouble, wOwn, wFree, wWays, wNews, wFull, wSmall, wLetter]
def mnL : List Nat := [3, 1, 2, 1, 1, 1, 1, 1, 1, 0, 1, 1, 2]
/-- Which of the first k words it is, with m numbers: the last such; -1: none. -/
def atK (w : Tx) (m : Nat) : Nat → Int
  | 0 => -1
  | k + 1 => if wdL[k]? = some w ∧ mnL[k]? = some m then (k : Int) else atK w m k
inductive Ask where
  | nil | what | news
  | step (x : Sp) (l b : Int)
  | ways (a : Int) | full (a : Int) | small (a : Int)
  | letter (a x : Int)
def nth (n : List Int) (i : Nat) : Int := n.getD i 0
/-- What the word in the place i asks, with its numbers and its prefix. -/
def askI (i : Int) (n : List Int) (l b : Int) : Ask :=
  if i = 0 then .step ⟨1, nth n 0, nth n 1, nth n 2⟩ 0 0
  else if i = 1 then .step ⟨2, nth n 0, 0, 0⟩ 0 0
  else if i = 2 then .step ⟨3, nth n 0, nth n 1, 0⟩ 0 0
  else if i = 3 then .step ⟨4, 0, 0, nth n 0⟩ 0 0
  else if i = 4 then .step ⟨5, 0, 0, nth n 0⟩ 0 0
  else if i = 5 then .step ⟨6, 0, 0, nth n 0⟩ 0 0
  else if i = 6 then .step ⟨7, nth n 0, 0, 1⟩ l b
  else if i = 7 then .step ⟨7, nth n 0, 0, 0⟩ l b
  else if i = 8 then .ways (nth n 0)
  else if i = 9 then .news
  else if i = 10 then .full (nth n 0)
  else if i = 11 then .small (nth n 0)
  else if i = 12 then .letter (nth n 0) (nth n 1)
  else .what
/-- The prefix of a line, and its words behind it. -/
def headT (w : Tx) (r : List Tx) : Option (Int × Int × List Tx) :=
  if w = wOwn ∨ w = wFree then
    match r with
    | [p, x] => (parseL p).map fun q => ((q.1 : Int), q.2, [x])
    | _ => none
  else some (0, 0, r)
def askW : List Tx → Ask
  | [] => .nil
  | w :: r => match headT w r with
    | none => .what
    | some (l, b, r) => match numsT r with
      | none => .what
      | some n => askI (atK w n.length 13) n l b
def askT (s : Tx) : Ask := askW (wordsT s)

def joinT : List Tx → Tx
  | [] => []
  | [a] => a
  | a :: b :: r => a ++ 32 :: joinT (b :: r)
/-- A thing told. -/
def sayD (ws : List Tx) : Tx := joinT ws ++ [10]
abbrev ito (n : Int) : Tx := Go.Lib.itoa n

end Go.Proofs.YtfcknkanbcndjagGreatDoor

/- LETTERS, as numbers: where a letter goes, what it costs, where it ends. No Go here. -/
namespace Go.Proofs.YtfcknkanbcndjagGreatDoor

/-- A letter that comes to p, behind these nodes, for so much: as the document says. -/
def goN (h : Nat → Int) (cs : Nat → Nat → Int) : Nat → Int → List Nat → Int → List Nat × Int × Int
  | 0, _, out, k => (out, k, -1)
  | f + 1, p, out, k => if isN p then (if p.toNat ∈ out then (out, k, -2) else if h p.toNat = p then (out ++ [p.toNat], k, p) else goN h cs f (h p.toNat) (out ++ [p.toNat]) (k + if isN (h p.toNat) then cs p.toNat (h p.toNat).toNat else 0)) else (out, k, -1)
/-- It is at x, the last of these. -/
def goS (h : Nat → Int) (cs : Nat → Nat → Int) (f x : Nat) (out : List Nat) (k : Int) : List Nat × Int × Int :=
  if h x = (x : Int) then (out, k, (x : Int)) else goN h cs f (h x) out (k + if isN (h x) then cs x (h x).toNat else 0)
theorem goN_new {h : Nat → Int} {cs : Nat → Nat → Int} {f x : Nat} {out : List Nat} {k : Int} (hx : x < 6) (hn : x ∉ out) : goN h cs (f + 1) (x : Int) out k = goS h cs f x (out ++ [x]) k := by
  rw [goN, if_pos ⟨by omega, by omega⟩, Int.toNat_natCast, if_neg hn]
  rfl
theorem go_chain {h : Nat → Int} {c : Nat → Nat → Nat} {R : Nat → Nat → Prop} {a : Nat} (hR : ∀ x y, R x y → h x = (y : Int)) {l : List Nat} {x : Nat} (hc : ChL R a l x) :
    l.Nodup → (∀ y ∈ l, y < 6) → ∀ f, goN h (fun u v => (c u v : Int)) (f + l.length) (a : Int) [] 0 = goS h (fun u v => (c u v : Int)) f x l (sumC c l (l.length - 1) : Nat) := by
  induction hc with
  | one =>
    intro _ h6 f
    show goN _ _ (f + 1) _ _ _ = _
    rw [goN_new (h6 a (by simp)) (by simp)]
    simp [sumC]
  | @snoc l x y h1 h2 ih =>
    intro hn h6 f
    rw [List.nodup_append] at hn
    have hy : y ∉ l := fun hm => hn.2.2 y hm y (by simp) rfl
    have hxy : (y : Int) ≠ (x : Int) := fun e => by
      have q : y = x := by omega
      exact hy (q ▸ h1.mem)
    have e0 : f + (l ++ [y]).length = f + 1 + l.length := by rw [List.length_append, List.length_singleton]; omega
    have hy6 : y < 6 := h6 y (by simp)
    rw [e0, ih hn.1 (fun u hu => h6 u (by simp [hu])) (f + 1)]
    unfold goS
    rw [hR x y h2, if_neg hxy, goN_new hy6 hy]
    unfold goS
    have hp := h1.pos
    obtain ⟨n, hnl⟩ : ∃ n, l.length = n + 1 := ⟨l.length - 1, by omega⟩
    have e1 : (l ++ [y]).length - 1 = n + 1 := by rw [List.length_append, List.length_singleton]; omega
    have e2 : (l ++ [y])[n]'(by rw [List.length_append]; omega) = x := by
      rw [List.getElem_append_left (by omega)]
      have := h1.last (by omega)
      rw [← this]; congr 1; omega
    have e3 : (l ++ [y])[n + 1]'(by rw [List.length_append, List.length_singleton]; omega) = y := by
      rw [List.getElem_append_right (by omega)]; simp [hnl]
    have e4 : sumC c (l ++ [y]) ((l ++ [y]).length - 1) = sumC c l (l.length - 1) + c x y := by
      rw [e1, sumC, sumC_app c l y n (by omega), dif_pos (by rw [List.length_append, List.length_singleton]; omega), e2, e3]
      rw [show l.length - 1 = n by omega]
    rw [e4, if_pos (show isN (y : Int) from ⟨by omega, by omega⟩), Int.toNat_natCast]
    rw [show ((sumC c l (l.length - 1) + c x y : Nat) : Int) = ((sumC c l (l.length - 1) : Nat) : Int) + (c x y : Int) by omega]
theorem goS_end {h : Nat → Int} {cs : Nat → Nat → Int} {f x : Nat} {l : List Nat} {k : Int} (hx : h x = (x : Int)) : goS h cs f x l k = (l, k, (x : Int)) := by unfold goS; rw [if_pos hx]
theorem goS_drop {h : Nat → Int} {cs : Nat → Nat → Int} {f x : Nat} {l : List Nat} {k : Int} (hx : h x = -1) : goS h cs (f + 1) x l k = (l, k, -1) := by
  unfold goS
  rw [hx, if_neg (by omega), if_neg (by omega), goN, if_neg (by omega)]
  simp
/-- What a letter's trip is: nodes, cost, end. -/
structure Trip (t : Tn) (c : Nat → Nat → Nat) (z a : Nat) (l : List Nat) (e : Nat) : Prop where
  ch : ChL (StepR t z) a l e
  lt : ∀ y ∈ l, y < 6
  nd : l.Nodup
  pos : 0 < l.length
  len : l.length ≤ 6
  fin : e = z ∨ hopT t z e = -1
section
variable {t : Tn} {c : Nat → Nat → Nat} {z a : Nat} {l : List Nat} {e : Nat}
theorem Trip.go (h : Trip t c z a l e) (H : TnA t c) (hz : z < 6) : goN (hopT t z) (fun u v => (c u v : Int)) 7 (a : Int) [] 0 = (l, ((sumC c l (l.length - 1) : Nat) : Int), if e = z then (z : Int) else -1) := by
  have hl := h.len
  obtain ⟨f, hf⟩ : ∃ f, 7 = f + 1 + l.length := ⟨6 - l.length, by omega⟩
  rw [hf, go_chain (c := c) (fun x y r => r.2.2) h.ch h.nd h.lt (f + 1)]
  by_cases q : e = z
  · subst q
    rw [if_pos rfl, goS_end (by unfold hopT; rw [(H.self hz).2.1])]
  · rw [if_neg q]
    rcases h.fin with r | r
    · exact absurd r q
    · exact goS_drop r
theorem trip_of (H : TnA t c) (ha : a < 6) (hz : z < 6) : ∃ l e, Trip t c z a l e := by
  obtain ⟨l, e, _, h2, h3, h4, h5, h6⟩ := straight H ha hz
  exact ⟨l, e, h2, h3, h4, h2.pos, h5, h6⟩
end
theorem go_none (cs : Nat → Nat → Int) {h : Nat → Int} {a : Nat} (ha : a < 6) (hh : h a = -1) : goN h cs 7 (a : Int) [] 0 = ([a], 0, -1) := by
  rw [goN_new ha (by simp)]
  exact goS_drop hh
theorem go_out (h : Nat → Int) (cs : Nat → Nat → Int) {p : Int} (hp : ¬ isN p) : goN h cs 7 p [] 0 = ([], 0, -1) := by rw [goN, if_neg hp]
/-- Where a letter to an address goes, from node to node. -/
def letH (t : Tn) (rs : List Rt) (a : Int) (x : Nat) : Int := lookL (fullL t (x : Int) rs) a
theorem let_none {t : Tn} {rs : List Rt} (h : Ows rs) {a : Int} (hl : lookL rs a = -1) (x : Nat) : letH t rs a x = -1 := by
  unfold letH
  rw [full_look _ _ h.hop, if_pos hl]
theorem let_own {t : Tn} {rs : List Rt} (h : Ows rs) {a : Int} {z : Nat} (hz : z < 6) (hl : lookL rs a = (z : Int)) {x : Nat} (hx : x < 6) : letH t rs a x = hopT t z x := by
  unfold letH
  rw [full_look _ _ h.hop, hl, if_neg (by omega)]
  unfold hpT hopT
  rw [if_pos ⟨by omega, by omega⟩, if_pos ⟨by omega, by omega⟩, Int.toNat_natCast, Int.toNat_natCast]
/-- Where it goes hangs on the nodes alone. -/
theorem goN_congr {h g : Nat → Int} {cs : Nat → Nat → Int} (e : ∀ x, x < 6 → h x = g x) : ∀ f p out k, goN h cs f p out k = goN g cs f p out k
  | 0, _, _, _ => rfl
  | f + 1, p, out, k => by
    rw [goN, goN]
    by_cases hp : isN p
    · rw [if_pos hp, if_pos hp, e p.toNat (by have := hp.1; have := hp.2; omega), goN_congr e f]
    · rw [if_neg hp, if_neg hp]
/-- Nodes and end do not hang on what links cost. -/
theorem goN_free {h : Nat → Int} {cs ds : Nat → Nat → Int} : ∀ f p out k m, (goN h cs f p out k).1 = (goN h ds f p out m).1 ∧ (goN h cs f p out k).2.2 = (goN h ds f p out m).2.2
  | 0, _, _, _, _ => ⟨rfl, rfl⟩
  | f + 1, p, out, k, m => by
    rw [goN, goN]
    by_cases hp : isN p
    · rw [if_pos hp, if_pos hp]
      by_cases q : p.toNat ∈ out
      · rw [if_pos q, if_pos q]; exact ⟨rfl, rfl⟩
      · rw [if_neg q, if_neg q]
        by_cases r : h p.toNat = p
        · rw [if_pos r, if_pos r]; exact ⟨rfl, rfl⟩
        · rw [if_neg r, if_neg r]; exact goN_free f _ _ _ _
    · rw [if_neg hp, if_neg hp]; exact ⟨rfl, rfl⟩

end Go.Proofs.YtfcknkanbcndjagGreatDoor

/- THE DESK AS TEXTS: what is told, and done. No Go here. -/
namespace Go.Proofs.YtfcknkanbcndjagGreatDoor

/-- What a desk knows. -/
structure Dk where
  c : Nat → Nat → Nat
  t : Tn
  rs : List Rt
def codeT (code : Int) : Tx := if code = 0 then sayD [wOk] else sayD [wNo, ito code]
def wayL (w : Int × Int × Int) (k : Nat) : Tx := sayD [wWay, ito k, ito w.1, ito w.2.1, ito w.2.2]
def newL (x : Nws) : Tx := sayD [wNews, ito x.1, ito x.2.1, ito x.2.2.1, ito x.2.2.2.1, ito x.2.2.2.2]
def rouL (r : Rt) : Tx := sayD [wRoute, textL r.1 r.2.1, ito r.2.2]
def tabT (a : Int) (l : List Rt) : Tx := if isN a then l.flatMap rouL ++ sayD [wEnd] else sayD [wNo, ito 1]
def trpT (x : List Nat × Int × Int) : Tx := sayD (wTrip :: ito x.2.2 :: ito x.2.1 :: x.1.map fun (k : Nat) => ito k)
/-- What is told. -/
def toldA (s : Dk) : Ask → Tx
  | .nil => []
  | .what => sayD [wWhat]
  | .step x l b => codeT (fdoC s.t s.rs x l b).2
  | .ways a => (List.range 6).flatMap fun (k : Nat) => wayL (wayTn s.t a (k : Int)) k
  | .news => (newsL s.t.news).flatMap newL ++ sayD [wEnd]
  | .full a => tabT a (fullL s.t a s.rs)
  | .small a => tabT a (lstL (fullL s.t a s.rs))
  | .letter a x => trpT (goN (letH s.t s.rs x) (fun u v => (s.c u v : Int)) 7 a [] 0)
/-- What is done. -/
def doneA (s : Dk) : Ask → Dk
  | .step x l b => ⟨nextC s.c x, (fdoC s.t s.rs x l b).1.1, (fdoC s.t s.rs x l b).1.2⟩
  | _ => s
/-- Lines, one behind the other. -/
def linesD (s : Dk) : List Tx → Dk × Tx
  | [] => (s, [])
  | a :: r => ((linesD (doneA s (askT a)) r).1, toldA s (askT a) ++ (linesD (doneA s (askT a)) r).2)
theorem lines_append : ∀ (a b : List Tx) (s : Dk), linesD s (a ++ b) = ((linesD (linesD s a).1 b).1, (linesD s a).2 ++ (linesD (linesD s a).1 b).2)
  | [], b, s => by simp [linesD]
  | x :: a, b, s => by
    simp only [List.cons_append, linesD, lines_append a b, List.append_assoc]

end Go.Proofs.YtfcknkanbcndjagGreatDoor

/- WHAT deskBegun ASKS: what nine lines tell at a new desk. No Go here. -/
namespace Go.Proofs.YtfcknkanbcndjagGreatDoor

/-- A new desk. -/
def dk0 : Dk := ⟨fun _ _ => 0, newT, []⟩
/-- "own 1* 1", "link 0 1 4", "tell 1 0", "hear 1", "small 0", "letter 0 200", "free 1* 1", "tick 9", "x" -/
def begL : List Tx := [[111, 119, 110, 32, 49, 42, 32, 49], [108, 105, 110, 107, 32, 48, 32, 49, 32, 52], [116, 101, 108, 108, 32, 49, 32, 48], [104, 101, 97, 114, 32, 49], [115, 109, 97, 108, 108, 32, 48], [108, 101, 116, 116, 101, 114, 32, 48, 32, 50, 48, 48], [102, 114, 101, 101, 32, 49, 42, 32, 49], [116, 105, 99, 107, 32, 57], [120]]
/-- "ok\nok\nok\nok\nroute 1* 1\nend\ntrip 1 4 0 1\nok\nno 1\nwhat\n" -/
def begT : Tx := [111, 107, 10, 111, 107, 10, 111, 107, 10, 111, 107, 10, 114, 111, 117, 116, 101, 32, 49, 42, 32, 49, 10, 101, 110, 100, 10, 116, 114, 105, 112, 32, 49, 32, 52, 32, 48, 32, 49, 10, 111, 107, 10, 110, 111, 32, 49, 10, 119, 104, 97, 116, 10]
set_option maxRecDepth 100000 in
theorem beg_told : (linesD dk0 begL).2 = begT := by decide +kernel

end Go.Proofs.YtfcknkanbcndjagGreatDoor

/- LISTS OF TEXTS AND OF NUMBERS IN MEMORY. -/
namespace Go.Proofs.YtfcknkanbcndjagGreatDoor
open Go.RowKit

abbrev sv (s : Tx) : Value := .string ⟨s.toArray⟩
theorem Tryz.info9 : (Tryz.prog.info? 9).map (fun i => (i.zero, i.size, i.bytes)) = some (some (.string ⟨#[]⟩), 1, 16) := by kernel_rfl
/-- A slice of one-cell values, read. -/
def ValAt (w : World) (ao : Option Addr) (l : List Value) : Prop := l = [] ∨ ∃ b o, ao = some ⟨b, o, none⟩ ∧ b < w.heap.size ∧ ∀ i (h : i < l.length), w.cell? ⟨b, o + i, none⟩ = some l[i]
theorem ValAt.gr {w w' : World} {ao : Option Addr} {l : List Value} (h : ValAt w ao l) (k : Gr w w') : ValAt w' ao l := by
  rcases h with h | ⟨b, o, ha, hb, hc⟩
  · exact .inl h
  · exact .inr ⟨b, o, ha, Nat.lt_of_lt_of_le hb (Below.size k), fun i hi => (Below.cell k (p := ⟨b, o + i, none⟩) hb).trans (hc i hi)⟩
/-- Lists that are younger than B: of texts, of numbers. -/
def OwnV (e : TypeId) (B w : World) (v : Value) (l : List Value) : Prop := w.ownsRow B.heap.size e 1 v l.length l
theorem OwnV.gr {e : TypeId} {B w w' : World} {v : Value} {l : List Value} (h : OwnV e B w v l) (g : Gr w w') : OwnV e B w' v l := own_gr h g
theorem OwnV.nil (e : TypeId) (B w : World) : OwnV e B w (.slice none 0 0) [] := World.ownsRow_nil _ _ _ _
theorem OwnV.shape {e : TypeId} {B w : World} {v : Value} {l : List Value} (h : OwnV e B w v l) : ∃ ao c, v = .slice ao l.length c ∧ ValAt w ao l ∧ l.length ≤ c := by
  rcases h.2 with ⟨rfl, hn⟩ | ⟨g, cap, cur, rfl, hb, hg, hn, hc, hs, ht⟩
  · have : l = [] := List.eq_nil_of_length_eq_zero hn
    subst this
    exact ⟨none, 0, rfl, .inl rfl, Nat.le_refl _⟩
  · refine ⟨_, _, rfl, .inr ⟨g, 0, rfl, (Array.getElem?_eq_some_iff.1 hg).1, fun i hi => ?_⟩, hn⟩
    have e : w.cell? ⟨g, 0 + i, none⟩ = l[i]? := by
      rw [← ht, List.getElem?_take_of_lt (by omega)]
      simp [World.cell?, hg]
    rw [e]
    simp [hi]
abbrev OwnS (B w : World) (v : Value) (l : List Tx) : Prop := OwnV 9 B w v (l.map sv)
abbrev OwnZ (B w : World) (v : Value) (l : List Int) : Prop := OwnV 3 B w v (l.map iv)
/-- 'append(l, x)'. -/
theorem OwnV.appS {B X : World} {v : Value} {l : List Value} (ty : TypeId) (hO : OwnV 9 B X v l) (g : Gr B X) (x : Tx) (hm : l.length ≤ 4000000) :
    ∃ v' w', (Builtin.append_ #[58, 58] ty #[v, .slice (some ⟨X.heap.size, 0, none⟩) 1 1]).run Tryz.prog (X.alloc (.cells #[sv x] 9)) = .ok v' w' ∧ OwnV 9 B w' v' (l ++ [sv x]) ∧ Gr B w' := by
  obtain ⟨i0, hi, hz0, hz1, hz2⟩ := info_parts Tryz.info9
  have hY := hO.gr ((Gr.refl X).alloc (.cells #[sv x] 9))
  obtain ⟨v', w', h1, h2, h3, _⟩ := run_append_own (P := Tryz.prog) _ B.heap.size 58 ty 9 i0 _ 1 16 Tryz.underlying58 hi hz0 hz1 hz2 (by rfl) (by decide) v l.length l hY
      ⟨X.heap.size, 0, none⟩ 1 1 [sv x] rfl
      (fun j u hj => by
        have hl : j < 1 := (List.getElem?_eq_some_iff.1 hj).1
        have : j = 0 := by omega
        subst this; simp at hj; subst hj; simp [Addr.add, go_sem])
      (by simp [Value.oneCell']) (by unfold maxLen; omega) (by omega) (by have := Below.size g; simp; omega)
  refine ⟨v', w', h1, ?_, (g.alloc _).grown h3 (fun k hk => (hO.lt k hk).1)⟩
  unfold OwnV
  rw [List.length_append]
  exact h2
theorem OwnV.appZ {B X : World} {v : Value} {l : List Value} (ty : TypeId) (hO : OwnV 3 B X v l) (g : Gr B X) (x : Int) (hm : l.length ≤ 4000000) :
    ∃ v' w', (Builtin.append_ #[34, 34] ty #[v, .slice (some ⟨X.heap.size, 0, none⟩) 1 1]).run Tryz.prog (X.alloc (.cells #[iv x] 3)) = .ok v' w' ∧ OwnV 3 B w' v' (l ++ [iv x]) ∧ Gr B w' := by
  obtain ⟨i0, hi, hz0, hz1, hz2⟩ := info_parts Tryz.info3
  have hY := hO.gr ((Gr.refl X).alloc (.cells #[iv x] 3))
  obtain ⟨v', w', h1, h2, h3, _⟩ := run_append_own (P := Tryz.prog) _ B.heap.size 34 ty 3 i0 _ 1 8 Tryz.underlying34 hi hz0 hz1 hz2 (by rfl) (by decide) v l.length l hY
      ⟨X.heap.size, 0, none⟩ 1 1 [iv x] rfl
      (fun j u hj => by
        have hl : j < 1 := (List.getElem?_eq_some_iff.1 hj).1
        have : j = 0 := by omega
        subst this; simp at hj; subst hj; simp [Addr.add, go_sem])
      (by simp [Value.oneCell']) (by unfold maxLen; omega) (by omega) (by have := Below.size g; simp; omega)
  refine ⟨v', w', h1, ?_, (g.alloc _).grown h3 (fun k hk => (hO.lt k hk).1)⟩
  unfold OwnV
  rw [List.length_append]
  exact h2
theorem ownS_snoc {B w : World} {v : Value} {l : List Tx} {x : Tx} (h : OwnV 9 B w v (l.map sv ++ [sv x])) : OwnS B w v (l ++ [x]) := by
  show OwnV _ _ _ _ ((l ++ [x]).map sv)
  rw [List.map_append]; exact h
theorem ownZ_snoc {B w : World} {v : Value} {l : List Int} {x : Int} (h : OwnV 3 B w v (l.map iv ++ [iv x])) : OwnZ B w v (l ++ [x]) := by
  show OwnV _ _ _ _ ((l ++ [x]).map iv)
  rw [List.map_append]; exact h

end Go.Proofs.YtfcknkanbcndjagGreatDoor
