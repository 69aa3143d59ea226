/- CONTRACTS OF package prefix: bitCount, Parse. -/
import Derived.Test.YtceclaboeajcaaaC
namespace Go.Proofs.Ytceclaboeajcaaa
open Go.RowKit
attribute [local go_sem] Ext.all Ext.cell Ext.frozen Ext.lt Ext.lt1 Ext.lt2 Ext.ne Ext.ne'

theorem count_full (s : ByteArray) (b1 : s.size ≤ 8) (b2 : 8 ≤ s.size) (hl : ((s[s.size - 1]'(by omega)).toNat : Int) ≠ 42) (w : World) :
    Calls Try.prog 28 #[.string s] w fun e w' => e = .returned (.tuple #[.int .i64 8, .bool true]) ∧ w' = w := by
  have e8 : ((s.size : Int) == 8) = true := by simp; omega
  have el : (((s[s.size - 1]'(by omega)).toNat : Int) != 42) = true := by simpa using hl
  clear hl
  go_enter Try.func28, Try.ntmps28
  go_wp2
  go_ret2
  exact ⟨rfl, rfl⟩

theorem count_star (s : ByteArray) (h0 : 0 < s.size) (h8 : s.size ≤ 8) (hl : ((s[s.size - 1]'(by omega)).toNat : Int) = 42) (w : World) :
    Calls Try.prog 28 #[.string s] w fun e w' => e = .returned (.tuple #[.int .i64 (s.size - 1), .bool true]) ∧ w' = w := by
  have el : (((s[s.size - 1]'(by omega)).toNat : Int) != 42) = false := by simpa using hl
  have el2 : (((s[s.size - 1]'(by omega)).toNat : Int) == 42) = true := by simpa using hl
  have d1 : decide ((s.size : Int) ≤ 8) = true := by simp; omega
  have d2 : decide (0 < (s.size : Int)) = true := by simp; omega
  clear hl
  by_cases e : s.size = 8
  · have e8 : ((s.size : Int) == 8) = true := by simp; omega
    have b2 : 8 ≤ s.size := by omega
    clear e
    go_enter Try.func28, Try.ntmps28
    go_wp2
    go_ret2
    exact ⟨rfl, rfl⟩
  · have e8 : ((s.size : Int) == 8) = false := by simp; omega
    go_enter Try.func28, Try.ntmps28
    go_wp2
    go_ret2
    exact ⟨rfl, rfl⟩

theorem count_none (s : ByteArray) (hz : s.size = 0 ∨ 8 < s.size) (w : World) (hs : s.size ≤ maxLen) :
    Calls Try.prog 28 #[.string s] w fun e w' => e = .returned (.tuple #[.int .i64 0, .bool false]) ∧ w' = w := by
  unfold maxLen at hs
  have e8 : ((s.size : Int) == 8) = false := by simp; omega
  by_cases e : 8 < s.size
  · have d1 : decide ((s.size : Int) ≤ 8) = false := by simp; omega
    have d2 : decide (0 < (s.size : Int)) = true := by simp; omega
    clear hz
    go_enter Try.func28, Try.ntmps28
    go_wp2
    go_ret2
    exact ⟨rfl, rfl⟩
  · have d2 : decide (0 < (s.size : Int)) = false := decide_eq_false (by omega)
    have d3 : s.size ≤ 0 := by omega
    clear hz
    go_enter Try.func28, Try.ntmps28
    go_wp2
    go_ret2
    exact ⟨rfl, rfl⟩

theorem count_short (s : ByteArray) (h0 : 0 < s.size) (h8 : s.size < 8) (hl : ((s[s.size - 1]'(by omega)).toNat : Int) ≠ 42) (w : World) :
    Calls Try.prog 28 #[.string s] w fun e w' => e = .returned (.tuple #[.int .i64 0, .bool false]) ∧ w' = w := by
  have el2 : (((s[s.size - 1]'(by omega)).toNat : Int) == 42) = false := by simpa using hl
  have d1 : decide ((s.size : Int) ≤ 8) = true := by simp; omega
  have d2 : decide (0 < (s.size : Int)) = true := by simp; omega
  have e8 : ((s.size : Int) == 8) = false := by simp; omega
  clear hl
  go_enter Try.func28, Try.ntmps28
  go_wp2
  go_ret2
  exact ⟨rfl, rfl⟩

/-- What the first k bytes of a text tell, as bits. -/
def valL : List UInt8 → Int
  | [] => 0
  | c :: t => (if c = 49 then 2 ^ t.length else 0) + valL t

theorem valL_snoc : ∀ (l : List UInt8) (c : UInt8), valL (l ++ [c]) = valL l * 2 + if c = 49 then 1 else 0
  | [], c => by simp [valL]
  | d :: t, c => by
    simp only [List.cons_append, valL, valL_snoc t c, List.length_append, List.length_singleton]
    split <;> split <;> simp [Int.pow_succ] <;> omega

theorem valL_bd : ∀ l : List UInt8, 0 ≤ valL l ∧ valL l < 2 ^ l.length
  | [] => by simp [valL]
  | c :: t => by
    have h := valL_bd t
    have hp : (0 : Int) < 2 ^ t.length := Int.pow_pos (by decide)
    simp only [valL, List.length_cons, Int.pow_succ]
    split <;> omega

def bitB (c : UInt8) : Bool := c = 48 || c = 49

theorem take_snoc (s : ByteArray) (k : Nat) (h : k < s.size) : s.data.toList.take (k + 1) = s.data.toList.take k ++ [s[k]] := by
  rw [List.take_succ_eq_append_getElem (by simpa using h)]; rfl

theorem val_bd (s : ByteArray) (k : Nat) (hk : k < 8) : 0 ≤ valL (s.data.toList.take k) ∧ valL (s.data.toList.take k) < 256 := by
  obtain ⟨h0, h1⟩ := valL_bd (s.data.toList.take k)
  refine ⟨h0, Int.lt_of_lt_of_le h1 ?_⟩
  have hl : (s.data.toList.take k).length ≤ 8 := by simp; omega
  have := (pw_bd ((s.data.toList.take k).length : Nat) (by omega)).2
  simpa using this

theorem bit_cases {c : UInt8} (h : bitB c = true) : (c = 48 ∧ (c.toNat : Int) = 48) ∨ (c = 49 ∧ (c.toNat : Int) = 49) := by
  simp [bitB] at h
  rcases h with rfl | rfl
  · left; decide
  · right; decide

/-- The second field of the newest struct is stored into, behind some draws. -/
theorem put_2 (X : World) (x y u : Value) (q z : Nat) (hz : z = X.heap.size) : ((X.alloc (.cells #[x, y] 23)).drewN q).setCell ⟨z, 1, none⟩ u = (X.alloc (.cells #[x, u] 23)).drewN q := by
  subst hz
  have h := World.setCell_alloc_at (w := X) #[x, y] 23 X.heap.size 1 u rfl
  show ((X.alloc (.cells #[x, y] 23)).setCell ⟨X.heap.size, 1, none⟩ u).drewN q = _
  rw [h]; rfl

set_option maxHeartbeats 1000000 in
theorem parse_bits (s : ByteArray) (n : Nat) (hn : n ≤ s.size) (h8 : n ≤ 8) (hct : ∀ w, Calls Try.prog 28 #[.string s] w fun e w' => e = .returned (.tuple #[.int .i64 n, .bool true]) ∧ w' = w) 
    (hall : ∀ k (h : k < n), bitB s[k] = true) (w : World) :
    Calls Try.prog 9 #[.string s] w fun e w' => e = .returned (.tuple #[pfx n (valL (s.data.toList.take n)), .bool true]) ∧ ∃ d : Ext w, w' = d.out := by
  have HC : Hid _ := hct
  have HA : Hid _ := hall
  clear hct hall
  go_enter Try.func9, Try.ntmps9
  go_wp2_with (go_at_call 28; refine (HC.out _).mono ?_; rintro e w' ⟨rfl, hw⟩; subst hw)
  go_loopw [19] (fun i wr => ∃ (k q : Nat) (v : Int), k ≤ n ∧ Hid (v = valL (s.data.toList.take k)) ∧ i = .int .i64 k ∧ wr = ((w.alloc (.cells #[.int .i64 0, .int .i64 0] 23)).alloc (.cells #[.int .i64 n, .int .i64 v] 23)).drewN q) (fun i _ => n - (intOf i).toNat)
  case atStart => exact ⟨0, 0, 0, by omega, (by simp [valL, Hid]), rfl, rfl⟩
  case round =>
    obtain ⟨k, q, v, hk, HV, rfl, rfl⟩ := hrel
    by_cases hlt : k < n
    · obtain ⟨v0, v1⟩ : 0 ≤ v ∧ v < 256 := by rw [HV.out]; exact val_bd s k (by omega)
      have hks : k < s.size := by omega
      have htk := take_snoc s k hks
      rcases bit_cases (HA.out k hlt) with ⟨hc, hb⟩ | ⟨hc, hb⟩
      · have hv' : valL (s.data.toList.take (k + 1)) = v * 2 := by rw [htk, valL_snoc, ← HV.out, hc]; simp
        have HV' : Hid _ := hv'
        have o0 := or_0 v v0 v1
        clear hv' htk hc
        go_wp2
        go_region
        go_wp2
        go_roundw
        case rel => exact ⟨k + 1, _, v * 2, by omega, HV'.out.symm, by go_num, put_2 _ _ _ _ _ _ (by simp)⟩
        case measure => simp [intOf]; omega
      · have hv' : valL (s.data.toList.take (k + 1)) = v * 2 + 1 := by rw [htk, valL_snoc, ← HV.out, hc]; simp
        have HV' : Hid _ := hv'
        have o1 := or_1 v v0 v1
        clear hv' htk hc
        go_wp2
        go_region
        go_wp2
        go_roundw
        case rel => exact ⟨k + 1, _, v * 2 + 1, by omega, HV'.out.symm, by go_num, put_2 _ _ _ _ _ _ (by simp)⟩
        case measure => simp [intOf]; omega
    · have hkn : k = n := by omega
      have HK : Hid _ := hkn
      clear hkn
      go_wp2
      refine bodyPost_ret (v := .tuple #[pfx n v, .bool true]) (by simp [results, Try.results9, go_sem]) rfl ⟨by rw [HV.out, HK.out], ext_mk ?_⟩
      exact (((((Gr.refl _).alloc _).alloc _).drewN _).setCell (by simp) _).setCell (by simp) _

set_option maxHeartbeats 1000000 in
theorem parse_bad (s : ByteArray) (n m : Nat) (hn : n ≤ s.size) (h8 : n ≤ 8) (hct : ∀ w, Calls Try.prog 28 #[.string s] w fun e w' => e = .returned (.tuple #[.int .i64 n, .bool true]) ∧ w' = w) 
    (hm : m < n) (hall : ∀ k (h : k < m), bitB s[k] = true) (hbad : bitB s[m] = false) (w : World) :
    Calls Try.prog 9 #[.string s] w fun e w' => e = .returned (.tuple #[pfx 0 0, .bool false]) ∧ ∃ d : Ext w, w' = d.out := by
  have HC : Hid _ := hct
  have HA : Hid _ := hall
  have HB : Hid _ := hbad
  clear hct hall hbad
  go_enter Try.func9, Try.ntmps9
  go_wp2_with (go_at_call 28; refine (HC.out _).mono ?_; rintro e w' ⟨rfl, hw⟩; subst hw)
  go_loopw [19] (fun i wr => ∃ (k q : Nat) (v : Int), k ≤ m ∧ Hid (v = valL (s.data.toList.take k)) ∧ i = .int .i64 k ∧ wr = ((w.alloc (.cells #[.int .i64 0, .int .i64 0] 23)).alloc (.cells #[.int .i64 n, .int .i64 v] 23)).drewN q) (fun i _ => n - (intOf i).toNat)
  case atStart => exact ⟨0, 0, 0, by omega, (by simp [valL, Hid]), rfl, rfl⟩
  case round =>
    obtain ⟨k, q, v, hk, HV, rfl, rfl⟩ := hrel
    have hks : k < s.size := by omega
    by_cases hlt : k < m
    · obtain ⟨v0, v1⟩ : 0 ≤ v ∧ v < 256 := by rw [HV.out]; exact val_bd s k (by omega)
      have htk := take_snoc s k hks
      rcases bit_cases (HA.out k hlt) with ⟨hc, hb⟩ | ⟨hc, hb⟩
      · have hv' : valL (s.data.toList.take (k + 1)) = v * 2 := by rw [htk, valL_snoc, ← HV.out, hc]; simp
        have HV' : Hid _ := hv'
        have o0 := or_0 v v0 v1
        clear hv' htk hc
        go_wp2
        go_region
        go_wp2
        go_roundw
        case rel => exact ⟨k + 1, _, v * 2, by omega, HV'.out.symm, by go_num, put_2 _ _ _ _ _ _ (by simp)⟩
        case measure => simp [intOf]; omega
      · have hv' : valL (s.data.toList.take (k + 1)) = v * 2 + 1 := by rw [htk, valL_snoc, ← HV.out, hc]; simp
        have HV' : Hid _ := hv'
        have o1 := or_1 v v0 v1
        clear hv' htk hc
        go_wp2
        go_region
        go_wp2
        go_roundw
        case rel => exact ⟨k + 1, _, v * 2 + 1, by omega, HV'.out.symm, by go_num, put_2 _ _ _ _ _ _ (by simp)⟩
        case measure => simp [intOf]; omega
    · have hkm : k = m := by omega
      subst hkm
      have hb : s[k] ≠ 48 ∧ s[k] ≠ 49 := by have := HB.out; simpa [bitB] using this
      have e1 : ((s[k].toNat : Int) != 48) = true := by
        simp only [bne_iff_ne, ne_eq]; intro h; exact hb.1 (UInt8.toNat_inj.1 (by simpa using (by omega : s[k].toNat = 48)))
      have e2 : ((s[k].toNat : Int) != 49) = true := by
        simp only [bne_iff_ne, ne_eq]; intro h; exact hb.2 (UInt8.toNat_inj.1 (by simpa using (by omega : s[k].toNat = 49)))
      clear hb
      go_wp2
      refine bodyPost_ret (v := .tuple #[pfx 0 0, .bool false]) (by simp [results, Try.results9, go_sem]) rfl ⟨rfl, ext_mk ?_⟩
      exact (((((Gr.refl _).alloc _).alloc _).drewN _).setCell (by simp) _).setCell (by simp) _

theorem parse_none (s : ByteArray) (hct : ∀ w, Calls Try.prog 28 #[.string s] w fun e w' => e = .returned (.tuple #[.int .i64 0, .bool false]) ∧ w' = w) (w : World) :
    Calls Try.prog 9 #[.string s] w fun e w' => e = .returned (.tuple #[pfx 0 0, .bool false]) ∧ ∃ d : Ext w, w' = d.out := by
  have HC : Hid _ := hct
  clear hct
  go_enter Try.func9, Try.ntmps9
  go_wp2_with (go_at_call 28; refine (HC.out _).mono ?_; rintro e w' ⟨rfl, hw⟩; subst hw)
  refine bodyPost_ret (v := .tuple #[pfx 0 0, .bool false]) (by simp [results, Try.results9, go_sem]) rfl ⟨rfl, ext_mk ?_⟩
  exact ((Gr.refl _).alloc _)

/-- How many bytes are to be bits. -/
def cntL (l : List UInt8) : Option Nat :=
  if l.length = 8 ∧ l.getLast? ≠ some 42 then some 8 else if 0 < l.length ∧ l.length ≤ 8 ∧ l.getLast? = some 42 then some (l.length - 1) else none
/-- The prefix that has that text. -/
def parseL (l : List UInt8) : Option (Nat × Int) :=
  match cntL l with
  | none => none
  | some n => if (l.take n).all bitB then some (n, valL (l.take n)) else none

theorem last_at (s : ByteArray) (h : 0 < s.size) : s.data.toList.getLast? = some (s[s.size - 1]'(by omega)) := by
  rw [List.getLast?_eq_getElem?]
  have : s.data.toList.length = s.size := by simp
  rw [this, List.getElem?_eq_getElem (by rw [this]; omega)]
  rfl

theorem last_42 (s : ByteArray) (h : 0 < s.size) : (s.data.toList.getLast? = some 42) ↔ ((s[s.size - 1]'(by omega)).toNat : Int) = 42 := by
  rw [last_at s h]
  simp only [Option.some.injEq]
  constructor
  · intro h; rw [h]; rfl
  · intro h; exact UInt8.toNat_inj.1 (by simpa using (by omega : (s[s.size - 1]'(by omega)).toNat = 42))

/-- bitCount, whatever the text. -/
theorem count_some (s : ByteArray) (n : Nat) (h : cntL s.data.toList = some n) : n ≤ s.size ∧ n ≤ 8 ∧ ∀ w, Calls Try.prog 28 #[.string s] w fun e w' => e = .returned (.tuple #[.int .i64 n, .bool true]) ∧ w' = w := by
  have hl : s.data.toList.length = s.size := by simp
  unfold cntL at h
  rw [hl] at h
  split at h
  · rename_i hc
    cases h
    have h42 := last_42 s (by omega)
    refine ⟨by omega, by omega, fun w => ?_⟩
    exact count_full s (by omega) (by omega) (fun e => hc.2 (h42.2 e)) w
  · split at h
    · rename_i hc
      cases h
      have h42 := last_42 s (by omega)
      refine ⟨by omega, by omega, fun w => ?_⟩
      have := count_star s hc.1 hc.2.1 (h42.1 hc.2.2) w
      have e : ((s.size : Int) - 1) = ((s.size - 1 : Nat) : Int) := by omega
      rw [e] at this
      exact this
    · cases h

theorem count_no (s : ByteArray) (hs : s.size ≤ maxLen) (h : cntL s.data.toList = none) : ∀ w, Calls Try.prog 28 #[.string s] w fun e w' => e = .returned (.tuple #[.int .i64 0, .bool false]) ∧ w' = w := by
  have hl : s.data.toList.length = s.size := by simp
  intro w
  unfold cntL at h
  rw [hl] at h
  split at h
  · cases h
  · split at h
    · cases h
    · rename_i h1 h2
      by_cases hz : s.size = 0 ∨ 8 < s.size
      · exact count_none s hz w hs
      · have h42 := last_42 s (by omega)
        have h3 : ¬ s.data.toList.getLast? = some 42 := fun e => h2 ⟨by omega, by omega, e⟩
        have h4 : s.size ≠ 8 := fun e => h1 ⟨e, h3⟩
        exact count_short s (by omega) (by omega) (fun e => h3 (h42.2 e)) w

theorem parse_some (s : ByteArray) (n : Nat) (v : Int) (h : parseL s.data.toList = some (n, v)) (w : World) :
    Calls Try.prog 9 #[.string s] w fun e w' => e = .returned (.tuple #[pfx n v, .bool true]) ∧ ∃ d : Ext w, w' = d.out := by
  unfold parseL at h
  split at h
  · cases h
  · rename_i m hm
    obtain ⟨c1, c2, c3⟩ := count_some s m hm
    split at h
    · rename_i hall
      simp only [Option.some.injEq, Prod.mk.injEq] at h
      obtain ⟨rfl, rfl⟩ := h
      refine parse_bits s m c1 c2 c3 (fun k hk => ?_) w
      rw [List.all_eq_true] at hall
      apply hall
      rw [List.mem_take_iff_getElem]
      exact ⟨k, by simp; omega, rfl⟩
    · cases h

/-- The first place at which a text of bits is none. -/
theorem first_bad (f : UInt8 → Bool) : ∀ l : List UInt8, l.all f = false → ∃ m, ∃ h : m < l.length, f l[m] = false ∧ ∀ k (hk : k < m), f (l[k]'(by omega)) = true
  | [], h => by cases h
  | c :: t, h => by
    by_cases hc : f c = true
    · simp [hc] at h
      obtain ⟨m, h1, h2, h3⟩ := first_bad f t (by simpa using h)
      refine ⟨m + 1, by simpa using h1, by simpa using h2, fun k hk => ?_⟩
      cases k with
      | zero => simpa using hc
      | succ k => simpa using h3 k (by omega)
    · exact ⟨0, by simp, by simpa using hc, fun k hk => by omega⟩

theorem parse_nil (s : ByteArray) (hs : s.size ≤ maxLen) (h : parseL s.data.toList = none) (w : World) :
    Calls Try.prog 9 #[.string s] w fun e w' => e = .returned (.tuple #[pfx 0 0, .bool false]) ∧ ∃ d : Ext w, w' = d.out := by
  have hl : s.data.toList.length = s.size := by simp
  unfold parseL at h
  split at h
  · rename_i hc
    exact parse_none s (count_no s hs hc) w
  · rename_i n hn
    obtain ⟨c1, c2, c3⟩ := count_some s n hn
    split at h
    · cases h
    · rename_i hall
      obtain ⟨m, h1, h2, h3⟩ := first_bad bitB _ (by simpa using hall)
      have hm : m < n := by simp at h1; omega
      refine parse_bad s n m c1 c2 c3 hm (fun k hk => ?_) ?_ w
      · have := h3 k hk
        rw [List.getElem_take] at this
        exact this
      · rw [List.getElem_take] at h2
        exact h2

end Go.Proofs.Ytceclaboeajcaaa
