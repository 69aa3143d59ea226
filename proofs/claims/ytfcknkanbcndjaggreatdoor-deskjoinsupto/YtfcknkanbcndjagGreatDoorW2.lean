import Derived.Test.YtfcknkanbcndjagGreatDoorE1
import Derived.Test.YtfcknkanbcndjagGreatDoorLPlain2
import Derived.Sort.Statements
import Derived.Shelf.Spec.TrailingZeros
/- CHANGES BETWEEN TABLES: what is to be changed in one so that it is another one; changes done one by one. No Go here. -/
namespace Go.Proofs.YtfcknkanbcndjagGreatDoor

end Go.Proofs.YtfcknkanbcndjagGreatDoor

/- THE REFERENCE's CHANGES: a list of the prefixes of both tables, in order, and of each where they have not the same. No Go here. -/
namespace Go.Proofs.YtfcknkanbcndjagGreatDoor

end Go.Proofs.YtfcknkanbcndjagGreatDoor

/- WISHES AS BITS: the program's sets of hops; the routes that it hands over, part by part. No Go here. -/
namespace Go.Proofs.YtfcknkanbcndjagGreatDoor

/-- A hop's place among the bits. -/
def hb (h : Int) : Nat := (h + 1).toNat
theorem hb_lt {h : Int} (hh : h ∈ hopsR) : hb h < 7 := by
  have := hop_mem.2 hh
  simp [hopB] at this
  unfold hb; omega
theorem hb_back {i : Nat} (hi : i < 7) : ((i : Int) - 1) ∈ hopsR ∧ hb ((i : Int) - 1) = i := by
  refine ⟨hop_mem.1 ?_, by unfold hb; omega⟩
  simp [hopB]; omega
theorem hb_inj {g h : Int} (hg : g ∈ hopsR) (hh : h ∈ hopsR) (e : hb g = hb h) : g = h := by
  have a := hop_mem.2 hg
  have b := hop_mem.2 hh
  simp [hopB] at a b
  unfold hb at e; omega

/-- The program's wishes of a part. -/
def wm : TT → Nat
  | .leaf _ _ h => 2 ^ hb h
  | .node _ _ lo hi => if wm lo &&& wm hi = 0 then wm lo ||| wm hi else wm lo &&& wm hi
/-- A set of hops, as bits. -/
structure Bits (W : Int → Bool) (m : Nat) : Prop where
  lt : m < 128
  bit : ∀ h ∈ hopsR, m.testBit (hb h) = W h
theorem bits_zero {m : Nat} (h : m < 128) (hz : ∀ i, i < 7 → m.testBit i = false) : m = 0 := by
  apply Nat.eq_of_testBit_eq
  intro i
  rw [Nat.zero_testBit]
  by_cases hi : i < 7
  · exact hz i hi
  · exact Nat.testBit_lt_two_pow (Nat.lt_of_lt_of_le h (by have : 2 ^ 7 ≤ 2 ^ i := Nat.pow_le_pow_right (by decide) (by omega); omega))
theorem Bits.and {A B : Int → Bool} {m n : Nat} (h : Bits A m) (k : Bits B n) : (m &&& n = 0) ↔ both A B = false := by
  have hl : m &&& n < 128 := Nat.lt_of_le_of_lt Nat.and_le_left h.lt
  constructor
  · intro e
    rw [Bool.eq_false_iff]
    intro hb'
    obtain ⟨g, hg, h1, h2⟩ := both_iff.1 hb'
    have := Nat.testBit_and m n (hb g)
    rw [e, h.bit g hg, k.bit g hg, h1, h2] at this
    simp at this
  · intro e
    refine bits_zero hl fun i hi => ?_
    obtain ⟨h1, h2⟩ := hb_back hi
    rw [Nat.testBit_and, ← h2, h.bit _ h1, k.bit _ h1]
    cases ha : A ((i : Int) - 1) <;> cases hb' : B ((i : Int) - 1) <;> try rfl
    exact absurd (both_iff.2 ⟨_, h1, ha, hb'⟩) (by rw [e]; simp)
theorem wm_tri {f : Nat → Int} (hf : ∀ j, f j ∈ hopsR) : ∀ (k : Nat) (l b : Int) (o : Nat), Bits (wish f k o) (wm (tri f k l b o))
  | k, l, b, o => by
    by_cases ha : Alk f o (2 ^ k)
    · rw [tri_alk ha, wm]
      have h7 := hb_lt (hf o)
      refine ⟨?_, fun h hh => ?_⟩
      · have : 2 ^ hb (f o) ≤ 2 ^ 6 := Nat.pow_le_pow_right (by decide) (by omega)
        omega
      · rw [wish_alk ha, Nat.testBit_two_pow]
        by_cases e : h = f o
        · subst e; simp
        · have : hb (f o) ≠ hb h := fun e' => e (hb_inj hh (hf o) e'.symm)
          simp [e, this]
    · cases k with
      | zero => exact absurd (alk_one f o) ha
      | succ k =>
        rw [tri_not ha, wm]
        have h1 := wm_tri hf k (l + 1) (b * 2) o
        have h2 := wm_tri hf k (l + 1) (b * 2 + 1) (o + 2 ^ k)
        have hz := h1.and h2
        split
        · rename_i e
          have hb' := hz.1 e
          refine ⟨Nat.or_lt_two_pow (n := 7) h1.lt h2.lt, fun h hh => ?_⟩
          rw [wish_rec hf, comb, hb', Nat.testBit_or, h1.bit h hh, h2.bit h hh]; simp
        · rename_i e
          have hb' : both (wish f k o) (wish f k (o + 2 ^ k)) = true := by
            rcases hbb : both (wish f k o) (wish f k (o + 2 ^ k)) with _ | _
            · exact absurd (hz.2 hbb) e
            · rfl
          refine ⟨Nat.lt_of_le_of_lt Nat.and_le_left h1.lt, fun h hh => ?_⟩
          rw [wish_rec hf, comb, hb', Nat.testBit_and, h1.bit h hh, h2.bit h hh]; simp
/-- The lowest bit. -/
def lowB (m : Nat) : Int := ((List.range 7).find? (fun i => m.testBit i)).getD 0 - (1 : Int)
/-- The routes that the program hands over. -/
def each : TT → Int → List Rt
  | .leaf l b g, h => if (wm (.leaf l b g)).testBit (hb h) then [] else [(l, b, lowB (wm (.leaf l b g)))]
  | .node l b lo hi, h =>
    (if (wm (.node l b lo hi)).testBit (hb h) then [] else [(l, b, lowB (wm (.node l b lo hi)))]) ++
      (each lo (if (wm (.node l b lo hi)).testBit (hb h) then h else lowB (wm (.node l b lo hi))) ++ each hi (if (wm (.node l b lo hi)).testBit (hb h) then h else lowB (wm (.node l b lo hi))))
theorem Bits.low {W : Int → Bool} {m : Nat} (h : Bits W m) (hs : ∃ g ∈ hopsR, W g = true) (x : Int) : lowB m = lowW W x := by
  have e : ∀ i : Nat, i < 7 → m.testBit i = W ((i : Int) - 1) := fun i hi => by
    obtain ⟨h1, h2⟩ := hb_back hi
    rw [← h.bit _ h1, h2]
  have e0 : m.testBit 0 = W (-1) := e 0 (by decide)
  have e1 : m.testBit 1 = W 0 := e 1 (by decide)
  have e2 : m.testBit 2 = W 1 := e 2 (by decide)
  have e3 : m.testBit 3 = W 2 := e 3 (by decide)
  have e4 : m.testBit 4 = W 3 := e 4 (by decide)
  have e5 : m.testBit 5 = W 4 := e 5 (by decide)
  have e6 : m.testBit 6 = W 5 := e 6 (by decide)
  unfold lowB lowW
  rw [show List.range 7 = [0, 1, 2, 3, 4, 5, 6] from rfl]
  unfold hopsR at hs ⊢
  simp only [List.find?, e0, e1, e2, e3, e4, e5, e6]
  cases h0 : W (-1)
  · cases h1 : W 0
    · cases h2 : W 1
      · cases h3 : W 2
        · cases h4 : W 3
          · cases h5 : W 4
            · cases h6 : W 5
              · obtain ⟨g, hg, hw⟩ := hs
                simp only [List.mem_cons, List.not_mem_nil, or_false] at hg
                rcases hg with rfl | rfl | rfl | rfl | rfl | rfl | rfl <;> simp_all
              · simp
            · simp
          · simp
        · simp
      · simp
    · simp
  · simp
/-- The program's routes are those of as few as can be. -/
theorem each_tri {f : Nat → Int} (hf : ∀ j, f j ∈ hopsR) : ∀ (k : Nat) (l b : Int) (o : Nat) (h : Int), h ∈ hopsR → each (tri f k l b o) h = leastR f k l b o h
  | k, l, b, o, h, hh => by
    have hB := wm_tri hf k l b o
    have hs := wish_some hf k o
    have hlow := hB.low hs h
    have hbit := hB.bit h hh
    have hnx := nxt_is hs hh
    unfold nxt at hnx
    by_cases ha : Alk f o (2 ^ k)
    · rw [tri_alk ha] at hB hlow hbit ⊢
      rw [each, hbit, hlow]
      cases k with
      | zero => rw [leastR]
      | succ k => rw [leastR, if_pos ha, List.append_nil]
    · cases k with
      | zero => exact absurd (alk_one f o) ha
      | succ k =>
        rw [tri_not ha] at hB hlow hbit ⊢
        rw [each, hbit, hlow, leastR, if_neg ha, each_tri hf k _ _ _ _ hnx.2, each_tri hf k _ _ _ _ hnx.2]
        rfl
theorem ctz_low : ∀ m : Nat, m < 128 → m ≠ 0 → lowB m ∈ hopsR := by decide
theorem each_T {f : Nat → Int} (hf : ∀ j, f j ∈ hopsR) : each (triT f) (-1) = leastT f := each_tri hf 8 0 0 0 (-1) mem_m1
/-- Trees whose hops are hops. -/
def HopT : TT → Prop
  | .leaf _ _ h => h ∈ hopsR
  | .node _ _ lo hi => HopT lo ∧ HopT hi
theorem hop_tri {f : Nat → Int} (hf : ∀ j, f j ∈ hopsR) : ∀ (k : Nat) (l b : Int) (o : Nat), HopT (tri f k l b o)
  | k, l, b, o => by
    by_cases ha : Alk f o (2 ^ k)
    · rw [tri_alk ha]; exact hf o
    · cases k with
      | zero => exact absurd (alk_one f o) ha
      | succ k => rw [tri_not ha]; exact ⟨hop_tri hf k _ _ _, hop_tri hf k _ _ _⟩
theorem or_pos {m n : Nat} (h : m ≠ 0) : m ||| n ≠ 0 := by
  intro e
  have : m ≤ m ||| n := Nat.left_le_or
  omega
theorem wm_bd : ∀ {T : TT}, HopT T → wm T < 128 ∧ wm T ≠ 0
  | .leaf l b h, hh => by
    have h7 := hb_lt hh
    have : 2 ^ hb h ≤ 2 ^ 6 := Nat.pow_le_pow_right (by decide) (by omega)
    have p : 0 < 2 ^ hb h := Nat.pow_pos (by decide)
    rw [wm]; omega
  | .node l b lo hi, hh => by
    obtain ⟨a1, a2⟩ := wm_bd hh.1
    obtain ⟨b1, b2⟩ := wm_bd hh.2
    rw [wm]
    split
    · exact ⟨Nat.or_lt_two_pow (n := 7) a1 b1, or_pos a2⟩
    · rename_i e
      exact ⟨Nat.lt_of_le_of_lt Nat.and_le_left a1, e⟩
end Go.Proofs.YtfcknkanbcndjagGreatDoor

/- Diff, as lists: all prefixes of two tables, sorted, each once; what is to be changed. No Go here. -/
namespace Go.Proofs.YtfcknkanbcndjagGreatDoor

end Go.Proofs.YtfcknkanbcndjagGreatDoor

/- CONTRACTS OF package least: only, has, least, wishesOf; of math/bits.TrailingZeros at sets of seven hops. -/
namespace Go.Proofs.YtfcknkanbcndjagGreatDoor
open Go.RowKit
attribute [local go_sem] Ext.all Ext.cell Ext.frozen Ext.lt Ext.lt1 Ext.lt2 Ext.ne Ext.ne'
abbrev uv (m : Nat) : Value := .int .u64 m
/-- The library's table is there. -/
abbrev Tab64 (w : World) : Prop := TabAt 7 Lib.deBruijn64tab w
theorem Tab64.gr {w w' : World} (h : Tab64 w) (g : Gr w w') : Tab64 w' := fun j hj => by
  have hc := h j hj
  have hl : 7 < w.heap.size := by
    rcases Nat.lt_or_ge 7 w.heap.size with h1 | h1
    · exact h1
    · rw [World.cell?, Array.getElem?_eq_none (by exact h1)] at hc; simp at hc
  rw [Below.cell g (p := ⟨7, j, none⟩) hl]; exact hc

theorem ret_uv {a b : Nat} (h : a = b) : Ending.returned (uv a) = .returned (uv b) := by rw [h]
theorem hops7 {h : Int} (hh : h ∈ hopsR) : h = -1 ∨ h = 0 ∨ h = 1 ∨ h = 2 ∨ h = 3 ∨ h = 4 ∨ h = 5 := by
  simpa [hopsR] using hh
theorem only_any {h : Int} (hh : h ∈ hopsR) (w : World) :
    Calls Tryz.prog 204 #[iv h] w fun e w' => e = .returned (uv (2 ^ hb h)) ∧ w' = w := by
  rcases hops7 hh with rfl | rfl | rfl | rfl | rfl | rfl | rfl <;>
  · go_enter Tryz.func204, Tryz.ntmps204
    go_wp2
    go_ret
    exact ⟨rfl, rfl⟩
theorem and_bit (m k : Nat) : (((m &&& 2 ^ k : Nat) : Int) != 0) = m.testBit k := by
  rw [Bool.eq_iff_iff]
  simp only [bne_iff_ne, ne_eq]
  constructor
  · intro h
    rcases hb : m.testBit k with _ | _
    · exfalso
      apply h
      have : m &&& 2 ^ k = 0 := by
        apply Nat.eq_of_testBit_eq
        intro i
        rw [Nat.testBit_and, Nat.testBit_two_pow, Nat.zero_testBit]
        by_cases e : k = i
        · subst e; simp [hb]
        · simp [e]
      rw [this]; rfl
    · rfl
  · intro h e
    have e' : m &&& 2 ^ k = 0 := by omega
    have := Nat.testBit_and m (2 ^ k) k
    rw [e', h, Nat.testBit_two_pow] at this
    simp at this
theorem whas_any {m : Nat} (hm : m < 128) {h : Int} {v : Bool} (hh : h ∈ hopsR) (hv : m.testBit (hb h) = v) (w : World) :
    Calls Tryz.prog 181 #[uv m, iv h] w fun e w' => e = .returned (.bool v) ∧ w' = w := by
  subst hv
  have h7 := hb_lt hh
  have hp : 2 ^ hb h ≤ 2 ^ 6 := Nat.pow_le_pow_right (by decide) (by omega)
  have key : bits BinOp.and IntKind.u64 (m : Int) ((2 ^ hb h : Nat) : Int) = ((m &&& 2 ^ hb h : Nat) : Int) := bits_and_u64_nat m _ (by omega) (by omega)
  have hx := and_bit m (hb h)
  have HO := hide (only_any hh)
  generalize m.testBit (hb h) = v at *
  generalize m &&& 2 ^ hb h = r at *
  generalize 2 ^ hb h = p at *
  go_enter Tryz.func181, Tryz.ntmps181
  go_wp2_with (go_at_call 204; refine (HO.out _).mono ?_; rintro e _ ⟨rfl, rfl⟩)
  go_ret
  exact ⟨rfl, rfl⟩
theorem tz64_core (x k idx : Nat) (w : World) (hx0 : ((x : Int) == 0) = false)
    (key : IntKind.u64.wrap (bits BinOp.and IntKind.u64 (x : Int) (IntKind.u64.wrap (-(x : Int))) * 285870213051353865) / 288230376151711744 = (idx : Int))
    (hi : idx < 64) (hk : k < 64) (hcell : w.cell? ⟨7, idx, none⟩ = some (.int .u8 k)) :
    Calls Tryz.prog 220 #[uv x] w fun e w' => e = .returned (iv k) ∧ w' = w := by
  go_enter Tryz.func220, Tryz.ntmps220
  go_wp2_with (simp only [key])
  go_ret
  exact ⟨rfl, rfl⟩
theorem tz64_any {m : Nat} (hm : m < 128) (h0 : m ≠ 0) {w : World} (hT : Tab64 w) :
    Calls Tryz.prog 220 #[uv m] w fun e w' => e = .returned (iv (Lib.ctz 64 m : Nat)) ∧ w' = w := by
  obtain ⟨hlow, hk⟩ := Lib.lowest_bit 64 m h0 (by omega)
  obtain ⟨hi, htab⟩ := Lib.deBruijn64_at _ hk
  have hcell := hT _ hi
  rw [htab] at hcell
  exact tz64_core m _ _ w (by simp; omega) (tz64_key m _ (by omega) h0 hlow) hi hk hcell
theorem tz_any {m : Nat} (hm : m < 128) (h0 : m ≠ 0) {w : World} (hT : Tab64 w) :
    Calls Tryz.prog 205 #[uv m] w fun e w' => e = .returned (iv (Lib.ctz 64 m : Nat)) ∧ w' = w := by
  have H := hide (tz64_any hm h0 hT)
  go_enter Tryz.func205, Tryz.ntmps205
  go_wp2_with (go_at_call 220; refine H.out.mono ?_; rintro e _ ⟨rfl, rfl⟩)
  go_ret
  exact ⟨rfl, rfl⟩
theorem ctz_is : ∀ m : Nat, m < 128 → m ≠ 0 → ((Lib.ctz 64 m : Nat) : Int) + -1 = lowB m := by decide +kernel
theorem wleast_any {m : Nat} {x : Int} (hm : m < 128) (h0 : m ≠ 0) (hx : lowB m = x) {w : World} (hT : Tab64 w) :
    Calls Tryz.prog 182 #[uv m] w fun e w' => e = .returned (iv x) ∧ w' = w := by
  subst hx
  have H := hide (tz_any hm h0 hT)
  have hc := ctz_is m hm h0
  have hb : Lib.ctz 64 m < 64 := (Lib.lowest_bit 64 m h0 (by omega)).2
  generalize Lib.ctz 64 m = k at *
  go_enter Tryz.func182, Tryz.ntmps182
  go_wp2_with (go_at_call 205; refine H.out.mono ?_; rintro e _ ⟨rfl, rfl⟩)
  go_ret
  exact ⟨ret_int (by omega), rfl⟩

theorem wishesOf_any : ∀ (T : TT) (w : World) (q : Nat), Tr w T q → HopT T →
    Calls Tryz.prog 180 #[pv q] w fun e w' => e = .returned (uv (wm T)) ∧ ∃ d : Ext w, w' = d.out
  | .leaf l b hp, w, q, h, hh => by
    have HL := hide (leaf_any h)
    have hq := h.lt
    have c2 : w.cell? ⟨q, 2, none⟩ = some (iv hp) := h.cells.2.2
    have HO := hide (only_any (h := hp) hh)
    have HE : Hid (wm (.leaf l b hp) = 2 ^ hb hp) := rfl
    clear h hh
    generalize wm (.leaf l b hp) = M at *
    generalize 2 ^ hb hp = p at *
    go_enter Tryz.func180, Tryz.ntmps180
    go_wp2_with (first
      | (go_at_call 183; refine HL.out.mono ?_; rintro e _ ⟨rfl, d1, rfl⟩)
      | (go_at_call 204; refine (HO.out _).mono ?_; rintro e _ ⟨rfl, rfl⟩))
    go_ret
    exact ⟨ret_uv HE.out.symm, _, rfl⟩
  | .node l b lo hi, w, q, h, hh => by
    have HL := hide (leaf_any h)
    have hq := h.lt
    obtain ⟨x, y, c3, c4, hlo, hhi⟩ := h.nodec
    have H1 := hide (fun (d : Ext w) => wishesOf_any lo d.out x (hlo.gr d.gr) hh.1)
    have H2 := hide (fun (d : Ext w) => wishesOf_any hi d.out y (hhi.gr d.gr) hh.2)
    have b1 := (wm_bd hh.1).1
    have b2 := (wm_bd hh.2).1
    have HE : Hid (wm (.node l b lo hi) = if wm lo &&& wm hi = 0 then wm lo ||| wm hi else wm lo &&& wm hi) := rfl
    have k1 : bits BinOp.and IntKind.u64 (wm lo : Int) (wm hi : Int) = ((wm lo &&& wm hi : Nat) : Int) := bits_and_u64_nat _ _ (by omega) (by omega)
    have k2 : bits BinOp.or IntKind.u64 (wm lo : Int) (wm hi : Int) = ((wm lo ||| wm hi : Nat) : Int) := bits_or_u64_nat _ _ (by omega) (by omega)
    clear h hlo hhi hh
    generalize wm (.node l b lo hi) = M at *
    generalize wm lo ||| wm hi = u at *
    generalize wm lo &&& wm hi = v at *
    generalize wm lo = m1 at *
    generalize wm hi = m2 at *
    by_cases hv : v = 0
    · have hz : ((v : Int) != 0) = false := by simp [hv]
      rw [if_pos hv] at HE
      go_enter Tryz.func180, Tryz.ntmps180
      go_wp2_with (go_at_call 183; refine HL.out.mono ?_; rintro e _ ⟨rfl, d1, rfl⟩)
      refine wp_region_ext_of (by kernel_rfl) (by kernel_rfl) ?_
      repeat (go_big_quiet_step (first | (go_at_call 180; with_reducible exact Calls.ext_of (H1.out _)) | (go_at_call 180; with_reducible exact Calls.ext_of (H2.out _))))
      refine wpQuiet_nil ?_
      rintro _ ⟨d2, rfl⟩
      go_wp2_with (simp only [k1, k2])
      go_ret
      exact ⟨ret_uv HE.out.symm, _, rfl⟩
    · have hz : ((v : Int) != 0) = true := by simp; omega
      rw [if_neg hv] at HE
      go_enter Tryz.func180, Tryz.ntmps180
      go_wp2_with (go_at_call 183; refine HL.out.mono ?_; rintro e _ ⟨rfl, d1, rfl⟩)
      refine wp_region_ext_of (by kernel_rfl) (by kernel_rfl) ?_
      repeat (go_big_quiet_step (first | (go_at_call 180; with_reducible exact Calls.ext_of (H1.out _)) | (go_at_call 180; with_reducible exact Calls.ext_of (H2.out _))))
      refine wpQuiet_nil ?_
      rintro _ ⟨d2, rfl⟩
      go_wp2_with (simp only [k1, k2])
      go_ret
      exact ⟨ret_uv HE.out.symm, _, rfl⟩

end Go.Proofs.YtfcknkanbcndjagGreatDoor

/- CONTRACTS OF package least: eachRoute, whatever it hands the routes to. -/
namespace Go.Proofs.YtfcknkanbcndjagGreatDoor
open Go.RowKit
attribute [local go_sem] Ext.all Ext.cell Ext.frozen Ext.lt Ext.lt1 Ext.lt2 Ext.ne Ext.ne'
abbrev rtV (l b h : Int) : Value := .agg #[iv l, iv b, iv h]
/-- A function that is handed routes: what is known (I) when it was handed these. -/
structure Taker (A : World) (g : FuncId) (lb : Array Value) (I : List Rt → World → Prop) : Prop where
  enters : ∀ args w, (callFunc g args).run Tryz.prog w = .ok (.enter g args) w
  base : ∀ {xs w}, I xs w → Gr A w
  gr : ∀ {xs w w'}, I xs w → Gr w w' → I xs w'
  take : ∀ {xs w} (l b h : Int), I xs w → xs.length ≤ 1000 → Calls Tryz.prog g (#[rtV l b h] ++ lb) w fun e w' => e = .returned (.tuple #[]) ∧ I (xs ++ [(l, b, h)]) w'
/-- A callee that only makes memory. -/
theorem Taker.keep {A : World} {g : FuncId} {lb : Array Value} {I : List Rt → World → Prop} (K : Taker A g lb I) {f : FuncId} {args : Array Value} {v : Value} {X : Ext A} {xs : List Rt} (hI : I xs X.out)
    (h : Calls Tryz.prog f args X.out fun e w' => e = .returned v ∧ ∃ d : Ext X.out, w' = d.out) : Calls Tryz.prog f args X.out fun e w' => e = .returned v ∧ ∃ m : Ext A, w' = m.out ∧ I xs m.out :=
  h.mono fun _ _ ⟨he, d, hd⟩ => ⟨he, ⟨d.out, X.gr.ext d⟩, hd, K.gr hI d.gr⟩
theorem Taker.keep0 {A : World} {I : List Rt → World → Prop} {f : FuncId} {args : Array Value} {v : Value} {X : Ext A} {xs : List Rt} (hI : I xs X.out)
    (h : Calls Tryz.prog f args X.out fun e w' => e = .returned v ∧ w' = X.out) : Calls Tryz.prog f args X.out fun e w' => e = .returned v ∧ ∃ m : Ext A, w' = m.out ∧ I xs m.out :=
  h.mono fun _ _ ⟨he, hd⟩ => ⟨he, X, hd, hI⟩
theorem Taker.keepI {A : World} {g : FuncId} {lb : Array Value} {I : List Rt → World → Prop} (K : Taker A g lb I) {f : FuncId} {args : Array Value} {v : Value} {w : World} {xs : List Rt}
    (h : Calls Tryz.prog f args w fun e w' => e = .returned v ∧ I xs w') : Calls Tryz.prog f args w fun e w' => e = .returned v ∧ ∃ m : Ext A, w' = m.out ∧ I xs m.out :=
  h.mono fun _ w' ⟨he, hd⟩ => ⟨he, ⟨w', K.base hd⟩, rfl, hd⟩

set_option maxRecDepth 20000 in
set_option maxHeartbeats 2000000 in
theorem each_any {A : World} {g : FuncId} {lb : Array Value} {I : List Rt → World → Prop} (K : Taker A g lb I) (h64 : Tab64 A) :
    ∀ (T : TT) (q : Nat) (xs : List Rt) (X : Ext A) (h : Int), Tr A T q → HopT T → h ∈ hopsR → I xs X.out → xs.length + (each T h).length ≤ 1000 →
      Calls Tryz.prog 148 #[pv q, iv h, .func (.func g) #[] lb] X.out fun e w' => e = .returned (.tuple #[]) ∧ I (xs ++ each T h) w'
  | .leaf l b hp, q, xs, X, h, hT, hH, hh, hI, hm => by
    have eg := K.enters
    have hq := hT.lt
    obtain ⟨c0, c1, c2⟩ := hT.cells
    obtain ⟨b1, b2⟩ := wm_bd hH
    have HW := hide (fun (Y : Ext A) ys (hY : I ys Y.out) => K.keep hY (wishesOf_any _ Y.out q (hT.gr Y.gr) hH))
    have HL := hide (fun (Y : Ext A) ys (hY : I ys Y.out) => K.keep hY (leaf_as (hT.gr Y.gr) (show TT.isLeaf (.leaf l b hp) = true from rfl)))
    cases hv : (wm (.leaf l b hp)).testBit (hb h)
    · have HH := hide (fun (Y : Ext A) ys (hY : I ys Y.out) => Taker.keep0 hY (whas_any b1 hh hv Y.out))
      have HE : Hid (each (.leaf l b hp) h = [(l, b, lowB (wm (.leaf l b hp)))]) := by unfold Hid; rw [each, hv]; rfl
      have HS := hide (fun (Y : Ext A) ys (hY : I ys Y.out) => Taker.keep0 hY (wleast_any b1 b2 rfl (h64.gr Y.gr)))
      have HX := hide (fun (Y : Ext A) ys (hY : I ys Y.out) (hy : ys.length ≤ 1000) => K.keepI (K.take l b (lowB (wm (.leaf l b hp))) hY hy))
      clear hT hH
      generalize wm (.leaf l b hp) = M at *
      generalize lowB M = z at *
      rw [HE.out]
      have hxl : xs.length ≤ 1000 := by rw [HE.out] at hm; omega
      clear HE hm
      go_enter Tryz.func148, Tryz.ntmps148
      go_wp2_with (first
        | (go_at_call 180; refine (HW.out X xs hI).mono ?_; rintro e _ ⟨rfl, m1, rfl, i1⟩)
        | (go_at_call 181; refine (HH.out m1 xs i1).mono ?_; rintro e _ ⟨rfl, m2, rfl, i2⟩)
        | (go_at_call 182; refine (HS.out m2 xs i2).mono ?_; rintro e _ ⟨rfl, m3, rfl, i3⟩)
        | (go_at_fn g; refine (HX.out m3 xs i3 hxl).mono ?_; rintro e _ ⟨rfl, m4, rfl, i4⟩)
        | (go_at_call 183; refine (HL.out m4 _ i4).mono ?_; rintro e _ ⟨rfl, m5, rfl, i5⟩)
        | fail)
      refine bodyPost_ret (results_none rfl _ _ _) rfl ?_
      exact ⟨rfl, i5⟩
    · have HH := hide (fun (Y : Ext A) ys (hY : I ys Y.out) => Taker.keep0 hY (whas_any b1 hh hv Y.out))
      have HE : Hid (each (.leaf l b hp) h = []) := by unfold Hid; rw [each, hv]; rfl
      clear hT hH
      generalize wm (.leaf l b hp) = M at *
      rw [HE.out, List.append_nil]
      clear HE hm
      go_enter Tryz.func148, Tryz.ntmps148
      go_wp2_with (first
        | (go_at_call 180; refine (HW.out X xs hI).mono ?_; rintro e _ ⟨rfl, m1, rfl, i1⟩)
        | (go_at_call 181; refine (HH.out m1 xs i1).mono ?_; rintro e _ ⟨rfl, m2, rfl, i2⟩)
        | (go_at_call 183; refine (HL.out m2 _ i2).mono ?_; rintro e _ ⟨rfl, m5, rfl, i5⟩)
        | fail)
      refine bodyPost_ret (results_none rfl _ _ _) rfl ?_
      exact ⟨rfl, i5⟩
  | .node l b lo hi, q, xs, X, h, hT, hH, hh, hI, hm => by
    have eg := K.enters
    have hq := hT.lt
    obtain ⟨c0, c1, c2⟩ := hT.cells
    have c0' : A.cell? ⟨q, 0, none⟩ = some (iv l) := c0
    have c1' : A.cell? ⟨q, 1, none⟩ = some (iv b) := c1
    clear c0 c1 c2
    obtain ⟨x, y, c3, c4, hlo, hhi⟩ := hT.nodec
    obtain ⟨b1, b2⟩ := wm_bd hH
    have HW := hide (fun (Y : Ext A) ys (hY : I ys Y.out) => K.keep hY (wishesOf_any _ Y.out q (hT.gr Y.gr) hH))
    have HL := hide (fun (Y : Ext A) ys (hY : I ys Y.out) => K.keep hY (leaf_as (hT.gr Y.gr) (show TT.isLeaf (.node l b lo hi) = false from rfl)))
    cases hv : (wm (.node l b lo hi)).testBit (hb h)
    · have HH := hide (fun (Y : Ext A) ys (hY : I ys Y.out) => Taker.keep0 hY (whas_any b1 hh hv Y.out))
      have hz := ctz_low _ b1 b2
      have HE : Hid (each (.node l b lo hi) h = (l, b, lowB (wm (.node l b lo hi))) :: (each lo (lowB (wm (.node l b lo hi))) ++ each hi (lowB (wm (.node l b lo hi))))) := by unfold Hid; rw [each, hv]; rfl
      have HS := hide (fun (Y : Ext A) ys (hY : I ys Y.out) => Taker.keep0 hY (wleast_any b1 b2 rfl (h64.gr Y.gr)))
      have HX := hide (fun (Y : Ext A) ys (hY : I ys Y.out) (hy : ys.length ≤ 1000) => K.keepI (K.take l b (lowB (wm (.node l b lo hi))) hY hy))
      have R1 := hide (fun (Y : Ext A) ys (hY : I ys Y.out) hy => K.keepI (each_any K h64 lo x ys Y (lowB (wm (.node l b lo hi))) hlo hH.1 hz hY hy))
      have R2 := hide (fun (Y : Ext A) ys (hY : I ys Y.out) hy => K.keepI (each_any K h64 hi y ys Y (lowB (wm (.node l b lo hi))) hhi hH.2 hz hY hy))
      clear hT hH hlo hhi
      generalize wm (.node l b lo hi) = M at *
      generalize lowB M = z at *
      rw [HE.out] at hm ⊢
      simp only [List.length_cons, List.length_append] at hm
      clear HE
      have hxl : xs.length ≤ 1000 := by omega
      have l1 : Hid ((xs ++ [(l, b, z)]).length + (each lo z).length ≤ 1000) := by unfold Hid; simp only [List.length_append, List.length_singleton]; omega
      have l2 : Hid ((xs ++ [(l, b, z)] ++ each lo z).length + (each hi z).length ≤ 1000) := by unfold Hid; simp only [List.length_append, List.length_singleton]; omega
      have HL2 : Hid (xs ++ (l, b, z) :: (each lo z ++ each hi z) = xs ++ [(l, b, z)] ++ each lo z ++ each hi z) := by unfold Hid; simp
      rw [HL2.out]
      clear HL2 hm
      generalize each lo z = e1 at *
      generalize each hi z = e2 at *
      go_enter Tryz.func148, Tryz.ntmps148
      go_wp2_with (first
        | (go_at_call 180; refine (HW.out X xs hI).mono ?_; rintro e _ ⟨rfl, m1, rfl, i1⟩)
        | (go_at_call 181; refine (HH.out m1 xs i1).mono ?_; rintro e _ ⟨rfl, m2, rfl, i2⟩)
        | (go_at_call 182; refine (HS.out m2 xs i2).mono ?_; rintro e _ ⟨rfl, m3, rfl, i3⟩)
        | (go_at_fn g; refine (HX.out m3 xs i3 hxl).mono ?_; rintro e _ ⟨rfl, m4, rfl, i4⟩)
        | (go_at_call 183; refine (HL.out m4 _ i4).mono ?_; rintro e _ ⟨rfl, m5, rfl, i5⟩)
        | (go_at_call 148; with_reducible refine (R1.out m5 _ i5 l1.out).mono ?_; rintro e _ ⟨rfl, m6, rfl, i6⟩)
        | (go_at_call 148; with_reducible refine (R2.out m6 _ i6 l2.out).mono ?_; rintro e _ ⟨rfl, m7, rfl, i7⟩)
        | fail)
      go_end0
      exact ⟨rfl, i7⟩
    · have HH := hide (fun (Y : Ext A) ys (hY : I ys Y.out) => Taker.keep0 hY (whas_any b1 hh hv Y.out))
      have HE : Hid (each (.node l b lo hi) h = each lo h ++ each hi h) := by unfold Hid; rw [each, hv]; rfl
      have R1 := hide (fun (Y : Ext A) ys (hY : I ys Y.out) hy => K.keepI (each_any K h64 lo x ys Y h hlo hH.1 hh hY hy))
      have R2 := hide (fun (Y : Ext A) ys (hY : I ys Y.out) hy => K.keepI (each_any K h64 hi y ys Y h hhi hH.2 hh hY hy))
      clear hT hH hlo hhi
      generalize wm (.node l b lo hi) = M at *
      rw [HE.out] at hm ⊢
      simp only [List.length_append] at hm
      clear HE
      have l1 : Hid (xs.length + (each lo h).length ≤ 1000) := by unfold Hid; omega
      have l2 : Hid ((xs ++ each lo h).length + (each hi h).length ≤ 1000) := by unfold Hid; simp only [List.length_append]; omega
      rw [← List.append_assoc]
      clear hm
      generalize each lo h = e1 at *
      generalize each hi h = e2 at *
      go_enter Tryz.func148, Tryz.ntmps148
      go_wp2_with (first
        | (go_at_call 180; refine (HW.out X xs hI).mono ?_; rintro e _ ⟨rfl, m1, rfl, i1⟩)
        | (go_at_call 181; refine (HH.out m1 xs i1).mono ?_; rintro e _ ⟨rfl, m2, rfl, i2⟩)
        | (go_at_call 183; refine (HL.out m2 _ i2).mono ?_; rintro e _ ⟨rfl, m5, rfl, i5⟩)
        | (go_at_call 148; with_reducible refine (R1.out m5 _ i5 l1.out).mono ?_; rintro e _ ⟨rfl, m6, rfl, i6⟩)
        | (go_at_call 148; with_reducible refine (R2.out m6 _ i6 l2.out).mono ?_; rintro e _ ⟨rfl, m7, rfl, i7⟩)
        | fail)
      go_end0
      exact ⟨rfl, i7⟩

end Go.Proofs.YtfcknkanbcndjagGreatDoor
