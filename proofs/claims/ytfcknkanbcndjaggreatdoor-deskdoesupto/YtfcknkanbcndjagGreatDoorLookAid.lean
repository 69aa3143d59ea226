import Derived.Test.YtfcknkanbcndjagGreatDoorMPlain
import Derived.Shelf.Spec.TrailingZeros
import Derived.Test.YtfcknkanbcndjagGreatDoorS5
import Derived.Deep.RegionHeld3
import Derived.Deep.DeepCutAuto
import Derived.Test.YtfcknkanbcndjagGreatDoorPo0
import Derived.Sort.Statements
import Derived.Test.YtfcknkanbcndjagGreatDoorRuns
import Derived.Shelf.Small.Bits
import Derived.Lib.ReflectliteSwap
import Derived.Laws.Externs
import Derived.WalkKit
import Derived.Shelf.GgSortFunc.SmallK
/- CONTRACTS OF package least: only, has, least, wishesOf; of math/bits.TrailingZeros at sets of seven hops. -/
namespace Go.Proofs.YtfcknkanbcndjagGreatDoor
open Go.RowKit
attribute [local go_sem] Ext.all Ext.cell Ext.frozen Ext.lt Ext.lt1 Ext.lt2 Ext.ne Ext.ne'
abbrev uv (m : Nat) : Value := .int .u64 m
/-- The library's table is there. -/
abbrev Tab64 (w : World) : Prop := TabAt 7 Lib.deBruijn64tab w
theorem Tab64.gr {w w' : World} (h : Tab64 w) (g : Gr w w') : Tab64 w' := fun j hj => by
  have hc := h j hj
  have hl : 7 < w.heap.size := by
    rcases Nat.lt_or_ge 7 w.heap.size with h1 | h1
    · exact h1
    · rw [World.cell?, Array.getElem?_eq_none (by exact h1)] at hc; simp at hc
  rw [Below.cell g (p := ⟨7, j, none⟩) hl]; exact hc

theorem ret_uv {a b : Nat} (h : a = b) : Ending.returned (uv a) = .returned (uv b) := by rw [h]
theorem hops7 {h : Int} (hh : h ∈ hopsR) : h = -1 ∨ h = 0 ∨ h = 1 ∨ h = 2 ∨ h = 3 ∨ h = 4 ∨ h = 5 := by
  simpa [hopsR] using hh
theorem only_any {h : Int} (hh : h ∈ hopsR) (w : World) :
    Calls Tryz.prog 204 #[iv h] w fun e w' => e = .returned (uv (2 ^ hb h)) ∧ w' = w := by
  rcases hops7 hh with rfl | rfl | rfl | rfl | rfl | rfl | rfl <;>
  · go_enter Tryz.func204, Tryz.ntmps204
    go_wp2
    go_ret
    exact ⟨rfl, rfl⟩
theorem and_bit (m k : Nat) : (((m &&& 2 ^ k : Nat) : Int) != 0) = m.testBit k := by
  rw [Bool.eq_iff_iff]
  simp only [bne_iff_ne, ne_eq]
  constructor
  · intro h
    rcases hb : m.testBit k with _ | _
    · exfalso
      apply h
      have : m &&& 2 ^ k = 0 := by
        apply Nat.eq_of_testBit_eq
        intro i
        rw [Nat.testBit_and, Nat.testBit_two_pow, Nat.zero_testBit]
        by_cases e : k = i
        · subst e; simp [hb]
        · simp [e]
      rw [this]; rfl
    · rfl
  · intro h e
    have e' : m &&& 2 ^ k = 0 := by omega
    have := Nat.testBit_and m (2 ^ k) k
    rw [e', h, Nat.testBit_two_pow] at this
    simp at this
theorem whas_any {m : Nat} (hm : m < 128) {h : Int} {v : Bool} (hh : h ∈ hopsR) (hv : m.testBit (hb h) = v) (w : World) :
    Calls Tryz.prog 181 #[uv m, iv h] w fun e w' => e = .returned (.bool v) ∧ w' = w := by
  subst hv
  have h7 := hb_lt hh
  have hp : 2 ^ hb h ≤ 2 ^ 6 := Nat.pow_le_pow_right (by decide) (by omega)
  have key : bits BinOp.and IntKind.u64 (m : Int) ((2 ^ hb h : Nat) : Int) = ((m &&& 2 ^ hb h : Nat) : Int) := bits_and_u64_nat m _ (by omega) (by omega)
  have hx := and_bit m (hb h)
  have HO := hide (only_any hh)
  generalize m.testBit (hb h) = v at *
  generalize m &&& 2 ^ hb h = r at *
  generalize 2 ^ hb h = p at *
  go_enter Tryz.func181, Tryz.ntmps181
  go_wp2_with (go_at_call 204; refine (HO.out _).mono ?_; rintro e _ ⟨rfl, rfl⟩)
  go_ret
  exact ⟨rfl, rfl⟩
theorem tz64_core (x k idx : Nat) (w : World) (hx0 : ((x : Int) == 0) = false)
    (key : IntKind.u64.wrap (bits BinOp.and IntKind.u64 (x : Int) (IntKind.u64.wrap (-(x : Int))) * 285870213051353865) / 288230376151711744 = (idx : Int))
    (hi : idx < 64) (hk : k < 64) (hcell : w.cell? ⟨7, idx, none⟩ = some (.int .u8 k)) :
    Calls Tryz.prog 220 #[uv x] w fun e w' => e = .returned (iv k) ∧ w' = w := by
  go_enter Tryz.func220, Tryz.ntmps220
  go_wp2_with (simp only [key])
  go_ret
  exact ⟨rfl, rfl⟩
theorem tz64_any {m : Nat} (hm : m < 128) (h0 : m ≠ 0) {w : World} (hT : Tab64 w) :
    Calls Tryz.prog 220 #[uv m] w fun e w' => e = .returned (iv (Lib.ctz 64 m : Nat)) ∧ w' = w := by
  obtain ⟨hlow, hk⟩ := Lib.lowest_bit 64 m h0 (by omega)
  obtain ⟨hi, htab⟩ := Lib.deBruijn64_at _ hk
  have hcell := hT _ hi
  rw [htab] at hcell
  exact tz64_core m _ _ w (by simp; omega) (tz64_key m _ (by omega) h0 hlow) hi hk hcell
theorem tz_any {m : Nat} (hm : m < 128) (h0 : m ≠ 0) {w : World} (hT : Tab64 w) :
    Calls Tryz.prog 205 #[uv m] w fun e w' => e = .returned (iv (Lib.ctz 64 m : Nat)) ∧ w' = w := by
  have H := hide (tz64_any hm h0 hT)
  go_enter Tryz.func205, Tryz.ntmps205
  go_wp2_with (go_at_call 220; refine H.out.mono ?_; rintro e _ ⟨rfl, rfl⟩)
  go_ret
  exact ⟨rfl, rfl⟩
theorem ctz_is : ∀ m : Nat, m < 128 → m ≠ 0 → ((Lib.ctz 64 m : Nat) : Int) + -1 = lowB m := by decide +kernel
theorem wleast_any {m : Nat} {x : Int} (hm : m < 128) (h0 : m ≠ 0) (hx : lowB m = x) {w : World} (hT : Tab64 w) :
    Calls Tryz.prog 182 #[uv m] w fun e w' => e = .returned (iv x) ∧ w' = w := by
  subst hx
  have H := hide (tz_any hm h0 hT)
  have hc := ctz_is m hm h0
  have hb : Lib.ctz 64 m < 64 := (Lib.lowest_bit 64 m h0 (by omega)).2
  generalize Lib.ctz 64 m = k at *
  go_enter Tryz.func182, Tryz.ntmps182
  go_wp2_with (go_at_call 205; refine H.out.mono ?_; rintro e _ ⟨rfl, rfl⟩)
  go_ret
  exact ⟨ret_int (by omega), rfl⟩

theorem wishesOf_any : ∀ (T : TT) (w : World) (q : Nat), Tr w T q → HopT T →
    Calls Tryz.prog 180 #[pv q] w fun e w' => e = .returned (uv (wm T)) ∧ ∃ d : Ext w, w' = d.out
  | .leaf l b hp, w, q, h, hh => by
    have HL := hide (leaf_any h)
    have hq := h.lt
    have c2 : w.cell? ⟨q, 2, none⟩ = some (iv hp) := h.cells.2.2
    have HO := hide (only_any (h := hp) hh)
    have HE : Hid (wm (.leaf l b hp) = 2 ^ hb hp) := rfl
    clear h hh
    generalize wm (.leaf l b hp) = M at *
    generalize 2 ^ hb hp = p at *
    go_enter Tryz.func180, Tryz.ntmps180
    go_wp2_with (first
      | (go_at_call 183; refine HL.out.mono ?_; rintro e _ ⟨rfl, d1, rfl⟩)
      | (go_at_call 204; refine (HO.out _).mono ?_; rintro e _ ⟨rfl, rfl⟩))
    go_ret
    exact ⟨ret_uv HE.out.symm, _, rfl⟩
  | .node l b lo hi, w, q, h, hh => by
    have HL := hide (leaf_any h)
    have hq := h.lt
    obtain ⟨x, y, c3, c4, hlo, hhi⟩ := h.nodec
    have H1 := hide (fun (d : Ext w) => wishesOf_any lo d.out x (hlo.gr d.gr) hh.1)
    have H2 := hide (fun (d : Ext w) => wishesOf_any hi d.out y (hhi.gr d.gr) hh.2)
    have b1 := (wm_bd hh.1).1
    have b2 := (wm_bd hh.2).1
    have HE : Hid (wm (.node l b lo hi) = if wm lo &&& wm hi = 0 then wm lo ||| wm hi else wm lo &&& wm hi) := rfl
    have k1 : bits BinOp.and IntKind.u64 (wm lo : Int) (wm hi : Int) = ((wm lo &&& wm hi : Nat) : Int) := bits_and_u64_nat _ _ (by omega) (by omega)
    have k2 : bits BinOp.or IntKind.u64 (wm lo : Int) (wm hi : Int) = ((wm lo ||| wm hi : Nat) : Int) := bits_or_u64_nat _ _ (by omega) (by omega)
    clear h hlo hhi hh
    generalize wm (.node l b lo hi) = M at *
    generalize wm lo ||| wm hi = u at *
    generalize wm lo &&& wm hi = v at *
    generalize wm lo = m1 at *
    generalize wm hi = m2 at *
    by_cases hv : v = 0
    · have hz : ((v : Int) != 0) = false := by simp [hv]
      rw [if_pos hv] at HE
      go_enter Tryz.func180, Tryz.ntmps180
      go_wp2_with (go_at_call 183; refine HL.out.mono ?_; rintro e _ ⟨rfl, d1, rfl⟩)
      refine wp_region_ext_of (by kernel_rfl) (by kernel_rfl) ?_
      repeat (go_big_quiet_step (first | (go_at_call 180; with_reducible exact Calls.ext_of (H1.out _)) | (go_at_call 180; with_reducible exact Calls.ext_of (H2.out _))))
      refine wpQuiet_nil ?_
      rintro _ ⟨d2, rfl⟩
      go_wp2_with (simp only [k1, k2])
      go_ret
      exact ⟨ret_uv HE.out.symm, _, rfl⟩
    · have hz : ((v : Int) != 0) = true := by simp; omega
      rw [if_neg hv] at HE
      go_enter Tryz.func180, Tryz.ntmps180
      go_wp2_with (go_at_call 183; refine HL.out.mono ?_; rintro e _ ⟨rfl, d1, rfl⟩)
      refine wp_region_ext_of (by kernel_rfl) (by kernel_rfl) ?_
      repeat (go_big_quiet_step (first | (go_at_call 180; with_reducible exact Calls.ext_of (H1.out _)) | (go_at_call 180; with_reducible exact Calls.ext_of (H2.out _))))
      refine wpQuiet_nil ?_
      rintro _ ⟨d2, rfl⟩
      go_wp2_with (simp only [k1, k2])
      go_ret
      exact ⟨ret_uv HE.out.symm, _, rfl⟩

end Go.Proofs.YtfcknkanbcndjagGreatDoor

/- LISTS OF ROUTES OF A CALL's OWN: appended to, one or many. -/
namespace Go.Proofs.YtfcknkanbcndjagGreatDoor
open Go.RowKit
attribute [local go_sem] Ext.all Ext.cell Ext.frozen Ext.lt Ext.lt1 Ext.lt2 Ext.ne Ext.ne'
/-- A list of routes in memory that is younger than B. -/
def Own (B w : World) (v : Value) (rs : List Rt) : Prop := w.ownsRow B.heap.size 133 3 v rs.length (cels rs)
theorem Own.gr {B w w' : World} {v : Value} {rs : List Rt} (h : Own B w v rs) (g : Gr w w') : Own B w' v rs := ownR_gr h g
theorem Own.nil (B w : World) : Own B w (.slice none 0 0) [] := World.ownsRow_nil _ _ _ _
/-- Where such a list stands. -/
theorem Own.shape {B w : World} {v : Value} {rs : List Rt} (h : Own B w v rs) : ∃ ao c, v = .slice ao rs.length c ∧ rs.length ≤ c ∧ RowAt w (fun k => B.heap.size ≤ k) ao rs := by
  obtain ⟨ao, c, rfl, hb⟩ := ownR_shape h
  obtain ⟨h1, _, h3, _⟩ := rowAt_own (M := fun k => B.heap.size ≤ k) h hb
  exact ⟨ao, c, rfl, h3, h1⟩

/-- 'append(l, x...)', l a list of the call's own. -/
theorem run_app {B w : World} {v : Value} {rs xs : List Rt} {M : Nat → Prop} {ao : Option Addr} {m c : Nat} (ty : TypeId) (hO : Own B w v rs) (g : Gr B w) (H : RowAt w M ao xs) (hl : xs.length = m) (h0 : 0 < m) (hm : rs.length + m ≤ 2000) :
    ∃ v' w', (Builtin.append_ #[108, 108] ty #[v, .slice ao m c]).run Tryz.prog w = .ok v' w' ∧ Own B w' v' (rs ++ xs) ∧ Gr B w' := by
  obtain ⟨i0, hi, hz0, hz1, hz2⟩ := info_parts Tryz.info133
  rcases H with h | ⟨b, o, rfl, _, _, hcs⟩
  · subst h; simp at hl; omega
  · obtain ⟨v', w', h1, h2, h3, _⟩ := run_append_own (P := Tryz.prog) w B.heap.size 108 ty 133 i0 _ 3 24 Tryz.underlying108 hi hz0 hz1 hz2 (by rfl) (by decide) v rs.length (cels rs) hO
      ⟨b, o, none⟩ m c (cels xs) (by rw [cels_length, hl]) (fun j u hj => by rw [Addr.add_lit]; exact cels_cells hcs j u hj) (cels_one xs) (by unfold maxLen; omega) (by omega) (Below.size g)
    refine ⟨v', w', h1, ?_, g.grown h3 (fun k hk => (hO.lt k hk).1)⟩
    unfold Own
    rw [cels_append, List.length_append, hl]
    exact h2

theorem Own.mono {A B w : World} {v : Value} {rs : List Rt} (h : Own B w v rs) (g : Gr A B) : Own A w v rs := by
  have hs := Below.size g
  refine ⟨h.1, ?_⟩
  rcases h.2 with hn | ⟨g', cap, cur, rfl, hb, rest⟩
  · exact .inl hn
  · exact .inr ⟨g', cap, cur, rfl, by omega, rest⟩
theorem wrap_in (x : Int) (h : -1000 ≤ x) (k : x ≤ 1000) : IntKind.i64.wrap x = x := by
  rw [IntKind.wrap_i64]; omega

end Go.Proofs.YtfcknkanbcndjagGreatDoor

/- CONTRACTS OF package least: eachRoute, whatever it hands the routes to. -/
namespace Go.Proofs.YtfcknkanbcndjagGreatDoor
open Go.RowKit
attribute [local go_sem] Ext.all Ext.cell Ext.frozen Ext.lt Ext.lt1 Ext.lt2 Ext.ne Ext.ne'
abbrev rtV (l b h : Int) : Value := .agg #[iv l, iv b, iv h]
/-- A function that is handed routes: what is known (I) when it was handed these. -/
structure Taker (A : World) (g : FuncId) (lb : Array Value) (I : List Rt → World → Prop) : Prop where
  enters : ∀ args w, (callFunc g args).run Tryz.prog w = .ok (.enter g args) w
  base : ∀ {xs w}, I xs w → Gr A w
  gr : ∀ {xs w w'}, I xs w → Gr w w' → I xs w'
  take : ∀ {xs w} (l b h : Int), I xs w → xs.length ≤ 1000 → Calls Tryz.prog g (#[rtV l b h] ++ lb) w fun e w' => e = .returned (.tuple #[]) ∧ I (xs ++ [(l, b, h)]) w'
/-- A callee that only makes memory. -/
theorem Taker.keep {A : World} {g : FuncId} {lb : Array Value} {I : List Rt → World → Prop} (K : Taker A g lb I) {f : FuncId} {args : Array Value} {v : Value} {X : Ext A} {xs : List Rt} (hI : I xs X.out)
    (h : Calls Tryz.prog f args X.out fun e w' => e = .returned v ∧ ∃ d : Ext X.out, w' = d.out) : Calls Tryz.prog f args X.out fun e w' => e = .returned v ∧ ∃ m : Ext A, w' = m.out ∧ I xs m.out :=
  h.mono fun _ _ ⟨he, d, hd⟩ => ⟨he, ⟨d.out, X.gr.ext d⟩, hd, K.gr hI d.gr⟩
theorem Taker.keep0 {A : World} {I : List Rt → World → Prop} {f : FuncId} {args : Array Value} {v : Value} {X : Ext A} {xs : List Rt} (hI : I xs X.out)
    (h : Calls Tryz.prog f args X.out fun e w' => e = .returned v ∧ w' = X.out) : Calls Tryz.prog f args X.out fun e w' => e = .returned v ∧ ∃ m : Ext A, w' = m.out ∧ I xs m.out :=
  h.mono fun _ _ ⟨he, hd⟩ => ⟨he, X, hd, hI⟩
theorem Taker.keepI {A : World} {g : FuncId} {lb : Array Value} {I : List Rt → World → Prop} (K : Taker A g lb I) {f : FuncId} {args : Array Value} {v : Value} {w : World} {xs : List Rt}
    (h : Calls Tryz.prog f args w fun e w' => e = .returned v ∧ I xs w') : Calls Tryz.prog f args w fun e w' => e = .returned v ∧ ∃ m : Ext A, w' = m.out ∧ I xs m.out :=
  h.mono fun _ w' ⟨he, hd⟩ => ⟨he, ⟨w', K.base hd⟩, rfl, hd⟩

set_option maxRecDepth 20000 in
set_option maxHeartbeats 2000000 in
theorem each_any {A : World} {g : FuncId} {lb : Array Value} {I : List Rt → World → Prop} (K : Taker A g lb I) (h64 : Tab64 A) :
    ∀ (T : TT) (q : Nat) (xs : List Rt) (X : Ext A) (h : Int), Tr A T q → HopT T → h ∈ hopsR → I xs X.out → xs.length + (each T h).length ≤ 1000 →
      Calls Tryz.prog 148 #[pv q, iv h, .func (.func g) #[] lb] X.out fun e w' => e = .returned (.tuple #[]) ∧ I (xs ++ each T h) w'
  | .leaf l b hp, q, xs, X, h, hT, hH, hh, hI, hm => by
    have eg := K.enters
    have hq := hT.lt
    obtain ⟨c0, c1, c2⟩ := hT.cells
    obtain ⟨b1, b2⟩ := wm_bd hH
    have HW := hide (fun (Y : Ext A) ys (hY : I ys Y.out) => K.keep hY (wishesOf_any _ Y.out q (hT.gr Y.gr) hH))
    have HL := hide (fun (Y : Ext A) ys (hY : I ys Y.out) => K.keep hY (leaf_as (hT.gr Y.gr) (show TT.isLeaf (.leaf l b hp) = true from rfl)))
    cases hv : (wm (.leaf l b hp)).testBit (hb h)
    · have HH := hide (fun (Y : Ext A) ys (hY : I ys Y.out) => Taker.keep0 hY (whas_any b1 hh hv Y.out))
      have HE : Hid (each (.leaf l b hp) h = [(l, b, lowB (wm (.leaf l b hp)))]) := by unfold Hid; rw [each, hv]; rfl
      have HS := hide (fun (Y : Ext A) ys (hY : I ys Y.out) => Taker.keep0 hY (wleast_any b1 b2 rfl (h64.gr Y.gr)))
      have HX := hide (fun (Y : Ext A) ys (hY : I ys Y.out) (hy : ys.length ≤ 1000) => K.keepI (K.take l b (lowB (wm (.leaf l b hp))) hY hy))
      clear hT hH
      generalize wm (.leaf l b hp) = M at *
      generalize lowB M = z at *
      rw [HE.out]
      have hxl : xs.length ≤ 1000 := by rw [HE.out] at hm; omega
      clear HE hm
      go_enter Tryz.func148, Tryz.ntmps148
      go_wp2_with (first
        | (go_at_call 180; refine (HW.out X xs hI).mono ?_; rintro e _ ⟨rfl, m1, rfl, i1⟩)
        | (go_at_call 181; refine (HH.out m1 xs i1).mono ?_; rintro e _ ⟨rfl, m2, rfl, i2⟩)
        | (go_at_call 182; refine (HS.out m2 xs i2).mono ?_; rintro e _ ⟨rfl, m3, rfl, i3⟩)
        | (go_at_fn g; refine (HX.out m3 xs i3 hxl).mono ?_; rintro e _ ⟨rfl, m4, rfl, i4⟩)
        | (go_at_call 183; refine (HL.out m4 _ i4).mono ?_; rintro e _ ⟨rfl, m5, rfl, i5⟩)
        | fail)
      refine bodyPost_ret (results_none rfl _ _ _) rfl ?_
      exact ⟨rfl, i5⟩
    · have HH := hide (fun (Y : Ext A) ys (hY : I ys Y.out) => Taker.keep0 hY (whas_any b1 hh hv Y.out))
      have HE : Hid (each (.leaf l b hp) h = []) := by unfold Hid; rw [each, hv]; rfl
      clear hT hH
      generalize wm (.leaf l b hp) = M at *
      rw [HE.out, List.append_nil]
      clear HE hm
      go_enter Tryz.func148, Tryz.ntmps148
      go_wp2_with (first
        | (go_at_call 180; refine (HW.out X xs hI).mono ?_; rintro e _ ⟨rfl, m1, rfl, i1⟩)
        | (go_at_call 181; refine (HH.out m1 xs i1).mono ?_; rintro e _ ⟨rfl, m2, rfl, i2⟩)
        | (go_at_call 183; refine (HL.out m2 _ i2).mono ?_; rintro e _ ⟨rfl, m5, rfl, i5⟩)
        | fail)
      refine bodyPost_ret (results_none rfl _ _ _) rfl ?_
      exact ⟨rfl, i5⟩
  | .node l b lo hi, q, xs, X, h, hT, hH, hh, hI, hm => by
    have eg := K.enters
    have hq := hT.lt
    obtain ⟨c0, c1, c2⟩ := hT.cells
    have c0' : A.cell? ⟨q, 0, none⟩ = some (iv l) := c0
    have c1' : A.cell? ⟨q, 1, none⟩ = some (iv b) := c1
    clear c0 c1 c2
    obtain ⟨x, y, c3, c4, hlo, hhi⟩ := hT.nodec
    obtain ⟨b1, b2⟩ := wm_bd hH
    have HW := hide (fun (Y : Ext A) ys (hY : I ys Y.out) => K.keep hY (wishesOf_any _ Y.out q (hT.gr Y.gr) hH))
    have HL := hide (fun (Y : Ext A) ys (hY : I ys Y.out) => K.keep hY (leaf_as (hT.gr Y.gr) (show TT.isLeaf (.node l b lo hi) = false from rfl)))
    cases hv : (wm (.node l b lo hi)).testBit (hb h)
    · have HH := hide (fun (Y : Ext A) ys (hY : I ys Y.out) => Taker.keep0 hY (whas_any b1 hh hv Y.out))
      have hz := ctz_low _ b1 b2
      have HE : Hid (each (.node l b lo hi) h = (l, b, lowB (wm (.node l b lo hi))) :: (each lo (lowB (wm (.node l b lo hi))) ++ each hi (lowB (wm (.node l b lo hi))))) := by unfold Hid; rw [each, hv]; rfl
      have HS := hide (fun (Y : Ext A) ys (hY : I ys Y.out) => Taker.keep0 hY (wleast_any b1 b2 rfl (h64.gr Y.gr)))
      have HX := hide (fun (Y : Ext A) ys (hY : I ys Y.out) (hy : ys.length ≤ 1000) => K.keepI (K.take l b (lowB (wm (.node l b lo hi))) hY hy))
      have R1 := hide (fun (Y : Ext A) ys (hY : I ys Y.out) hy => K.keepI (each_any K h64 lo x ys Y (lowB (wm (.node l b lo hi))) hlo hH.1 hz hY hy))
      have R2 := hide (fun (Y : Ext A) ys (hY : I ys Y.out) hy => K.keepI (each_any K h64 hi y ys Y (lowB (wm (.node l b lo hi))) hhi hH.2 hz hY hy))
      clear hT hH hlo hhi
      generalize wm (.node l b lo hi) = M at *
      generalize lowB M = z at *
      rw [HE.out] at hm ⊢
      simp only [List.length_cons, List.length_append] at hm
      clear HE
      have hxl : xs.length ≤ 1000 := by omega
      have l1 : Hid ((xs ++ [(l, b, z)]).length + (each lo z).length ≤ 1000) := by unfold Hid; simp only [List.length_append, List.length_singleton]; omega
      have l2 : Hid ((xs ++ [(l, b, z)] ++ each lo z).length + (each hi z).length ≤ 1000) := by unfold Hid; simp only [List.length_append, List.length_singleton]; omega
      have HL2 : Hid (xs ++ (l, b, z) :: (each lo z ++ each hi z) = xs ++ [(l, b, z)] ++ each lo z ++ each hi z) := by unfold Hid; simp
      rw [HL2.out]
      clear HL2 hm
      generalize each lo z = e1 at *
      generalize each hi z = e2 at *
      go_enter Tryz.func148, Tryz.ntmps148
      go_wp2_with (first
        | (go_at_call 180; refine (HW.out X xs hI).mono ?_; rintro e _ ⟨rfl, m1, rfl, i1⟩)
        | (go_at_call 181; refine (HH.out m1 xs i1).mono ?_; rintro e _ ⟨rfl, m2, rfl, i2⟩)
        | (go_at_call 182; refine (HS.out m2 xs i2).mono ?_; rintro e _ ⟨rfl, m3, rfl, i3⟩)
        | (go_at_fn g; refine (HX.out m3 xs i3 hxl).mono ?_; rintro e _ ⟨rfl, m4, rfl, i4⟩)
        | (go_at_call 183; refine (HL.out m4 _ i4).mono ?_; rintro e _ ⟨rfl, m5, rfl, i5⟩)
        | (go_at_call 148; with_reducible refine (R1.out m5 _ i5 l1.out).mono ?_; rintro e _ ⟨rfl, m6, rfl, i6⟩)
        | (go_at_call 148; with_reducible refine (R2.out m6 _ i6 l2.out).mono ?_; rintro e _ ⟨rfl, m7, rfl, i7⟩)
        | fail)
      go_end0
      exact ⟨rfl, i7⟩
    · have HH := hide (fun (Y : Ext A) ys (hY : I ys Y.out) => Taker.keep0 hY (whas_any b1 hh hv Y.out))
      have HE : Hid (each (.node l b lo hi) h = each lo h ++ each hi h) := by unfold Hid; rw [each, hv]; rfl
      have R1 := hide (fun (Y : Ext A) ys (hY : I ys Y.out) hy => K.keepI (each_any K h64 lo x ys Y h hlo hH.1 hh hY hy))
      have R2 := hide (fun (Y : Ext A) ys (hY : I ys Y.out) hy => K.keepI (each_any K h64 hi y ys Y h hhi hH.2 hh hY hy))
      clear hT hH hlo hhi
      generalize wm (.node l b lo hi) = M at *
      rw [HE.out] at hm ⊢
      simp only [List.length_append] at hm
      clear HE
      have l1 : Hid (xs.length + (each lo h).length ≤ 1000) := by unfold Hid; omega
      have l2 : Hid ((xs ++ each lo h).length + (each hi h).length ≤ 1000) := by unfold Hid; simp only [List.length_append]; omega
      rw [← List.append_assoc]
      clear hm
      generalize each lo h = e1 at *
      generalize each hi h = e2 at *
      go_enter Tryz.func148, Tryz.ntmps148
      go_wp2_with (first
        | (go_at_call 180; refine (HW.out X xs hI).mono ?_; rintro e _ ⟨rfl, m1, rfl, i1⟩)
        | (go_at_call 181; refine (HH.out m1 xs i1).mono ?_; rintro e _ ⟨rfl, m2, rfl, i2⟩)
        | (go_at_call 183; refine (HL.out m2 _ i2).mono ?_; rintro e _ ⟨rfl, m5, rfl, i5⟩)
        | (go_at_call 148; with_reducible refine (R1.out m5 _ i5 l1.out).mono ?_; rintro e _ ⟨rfl, m6, rfl, i6⟩)
        | (go_at_call 148; with_reducible refine (R2.out m6 _ i6 l2.out).mono ?_; rintro e _ ⟨rfl, m7, rfl, i7⟩)
        | fail)
      go_end0
      exact ⟨rfl, i7⟩

end Go.Proofs.YtfcknkanbcndjagGreatDoor

/- CONTRACT OF slices.Equal at 256 numbers. -/
namespace Go.Proofs.YtfcknkanbcndjagGreatDoor
open Go.RowKit
attribute [local go_sem] Ext.all Ext.cell Ext.frozen Ext.lt Ext.lt1 Ext.lt2 Ext.ne Ext.ne'
end Go.Proofs.YtfcknkanbcndjagGreatDoor

/- CONTRACT OF trie.part: the trie of a prefix, out of where its addresses go. -/
namespace Go.Proofs.YtfcknkanbcndjagGreatDoor
open Go.RowKit
attribute [local go_sem] Ext.all Ext.cell Ext.frozen Ext.lt Ext.lt1 Ext.lt2 Ext.ne Ext.ne'
/-- All alike: a leaf. -/
theorem part_leaf (f : Nat → Int) (g : Nat) (k : Nat) (l b : Int) (o n c : Nat) (w : World) (hn : 2 ^ k = n) (hm : n ≤ 256) (H : Nums w g o n f) (hk : Alk f o n) :
    Calls Tryz.prog 150 #[pfx l b, .slice (some ⟨g, o, none⟩) n c] w fun e w' => ∃ q, e = .returned (pv q) ∧ Tr w' (tri f k l b o) q ∧ ∃ d : Ext w, w' = d.out := by
  have h0 : 0 < n := by rw [← hn]; exact Nat.pow_pos (by decide)
  have c0 := H.2 0 h0
  have hg := H.1
  rw [Nat.add_zero] at c0
  rw [tri_alk (show Alk f o (2 ^ k) by rw [hn]; exact hk)]
  obtain ⟨W, hW, gW, b0, b1, s0⟩ := pbox_gr w l b
  have HA := hide (alike_any W g o n c f (H.gr gW) h0 hm)
  rw [decide_eq_true hk] at HA
  rw [← Below.cell gW (p := ⟨g, o, none⟩) hg] at c0
  have hg2 : g < W.heap.size := Nat.lt_of_lt_of_le hg (Below.size gW)
  have HW := hide hW
  clear hW H hk
  go_enter Tryz.func150, Tryz.ntmps150
  go_wp2_with (go_at_call 184; rw [← HW.out]; refine HA.out.mono ?_; rintro e _ ⟨rfl, d1, rfl⟩)
  go_region
  all_goals
    go_wp2
    go_ret
    exact ⟨_, rfl, heap_alloc_new _ _, ext_mk ((gW.ext d1).drew.alloc _)⟩

set_option maxHeartbeats 1000000 in
theorem part_any (f : Nat → Int) (g : Nat) : ∀ (k : Nat) (l b : Int) (o n c : Nat) (w : World), SpT k l b o → 2 ^ k = n → n ≤ c → Nums w g o n f →
    Calls Tryz.prog 150 #[pfx l b, .slice (some ⟨g, o, none⟩) n c] w fun e w' => ∃ q, e = .returned (pv q) ∧ Tr w' (tri f k l b o) q ∧ ∃ d : Ext w, w' = d.out := by
  intro k
  induction k with
  | zero =>
    intro l b o n c w hS hn hc H
    refine part_leaf f g 0 l b o n c w hn (by have := hS.top; omega) H ?_
    rw [← hn]; exact alk_one f o
  | succ k ih =>
    intro l b o n c w hS hn hc H
    by_cases hk : Alk f o n
    · exact part_leaf f g (k + 1) l b o n c w hn (by have := hS.top; omega) H hk
    · rw [tri_not (show ¬ Alk f o (2 ^ (k + 1)) by rw [hn]; exact hk)]
      have hm : n ≤ 256 := by have := hS.top; omega
      obtain ⟨m, hmk⟩ : ∃ m, 2 ^ k = m := ⟨_, rfl⟩
      have hnm : n = m + m := by rw [← hn, ← hmk, Nat.pow_succ]; omega
      have h0 : 0 < m := by rw [← hmk]; exact Nat.pow_pos (by decide)
      have hg := H.1
      obtain ⟨bl0, bl8, bb0, bb8⟩ := hS.bd
      have hl8 : l < 8 := by have := hS.1; omega
      obtain ⟨W, hW, gW, b0, b1, s0⟩ := pbox_gr w l b
      have HA := hide (alike_any W g o n c f (H.gr gW) (by omega) hm)
      rw [decide_eq_false hk] at HA
      have hg2 : g < W.heap.size := Nat.lt_of_lt_of_le hg (Below.size gW)
      have HC0 := hide (fun (d : Ext W) => Calls.ext_of (child_yes0 l b hS.2.1 hl8 d.out))
      have HC1 := hide (fun (wX : World) => child_yes1 l b hS.2.1 hl8 wX)
      have H1 := hide (fun (wX : World) (gX : Gr W wX) => ih (l + 1) (b * 2) o m c wX hS.low hmk (by omega) ((H.low (by omega)).gr (gW.trans gX)))
      have H2 := hide (fun (wX : World) (gX : Gr W wX) => ih (l + 1) (b * 2 + 1) (o + m) m (c - m) wX (hmk ▸ hS.high) hmk (by omega) ((H.high (by omega)).gr (gW.trans gX)))
      have HW := hide hW
      rw [hmk]
      clear hW H hk hn hmk ih hS
      subst hnm
      have e1 : ((m : Int) + (m : Int)) / 2 = m := by omega
      have hcc : (m : Int) ≤ c := by omega
      have hmm : (m : Int) ≤ (m : Int) + m := by omega
      go_enter Tryz.func150, Tryz.ntmps150
      go_upto_region 4 with (first
        | (go_at_call 184; rw [← HW.out]; refine HA.out.mono ?_; rintro e _ ⟨rfl, d1, rfl⟩)
        | (go_at_call 185; with_reducible refine (HC0.out d1).mono ?_; rintro e _ ⟨rfl, d2, rfl⟩))
      refine wp_gen (fun X => Gr W X ∧ d2.out.heap.size < X.heap.size ∧ W.heap.size ≤ d2.out.heap.size ∧ X.cell? ⟨d2.out.heap.size, 0, none⟩ = some (iv (l + 1)) ∧ X.cell? ⟨d2.out.heap.size, 1, none⟩ = some (iv (b * 2))) ⟨d2.gr.alloc _, by simp, Below.size d2.gr, by simp [go_sem], by simp [go_sem]⟩ ?_
      rintro X ⟨gX, sX, sW, x0, x1⟩
      generalize d2.out.heap.size = q at *
      have y0 := (Below.cell gX (p := ⟨w.heap.size, 0, none⟩) s0).trans b0
      have y1 := (Below.cell gX (p := ⟨w.heap.size, 1, none⟩) s0).trans b1
      have s1 : w.heap.size < X.heap.size := by omega
      clear b0 b1 HA HC0 HW
      go_upto_region 6 with (first
        | (go_at_call 185; with_reducible refine (HC1.out _).mono ?_; rintro e _ ⟨rfl, d3, rfl⟩))
      refine wp_gen (fun Y => Gr X Y ∧ d3.out.heap.size < Y.heap.size ∧ X.heap.size ≤ d3.out.heap.size ∧ Y.cell? ⟨d3.out.heap.size, 0, none⟩ = some (iv (l + 1)) ∧ Y.cell? ⟨d3.out.heap.size, 1, none⟩ = some (iv (b * 2 + 1))) ⟨d3.gr.alloc _, by simp, Below.size d3.gr, by simp [go_sem], by simp [go_sem]⟩ ?_
      rintro Y ⟨gY, sY, sZ, z0, z1⟩
      generalize d3.out.heap.size = q2 at *
      have HK := hide (fun (wX : World) (hg : Gr Y wX) => (show (wX.cell? ⟨w.heap.size, 0, none⟩ = some (iv l) ∧ wX.cell? ⟨w.heap.size, 1, none⟩ = some (iv b)) ∧ (wX.cell? ⟨q, 0, none⟩ = some (iv (l + 1)) ∧ wX.cell? ⟨q, 1, none⟩ = some (iv (b * 2))) ∧ (wX.cell? ⟨q2, 0, none⟩ = some (iv (l + 1)) ∧ wX.cell? ⟨q2, 1, none⟩ = some (iv (b * 2 + 1))) from
        ⟨⟨(Below.cell (gY.trans hg) (p := ⟨w.heap.size, 0, none⟩) s1).trans y0, (Below.cell (gY.trans hg) (p := ⟨w.heap.size, 1, none⟩) s1).trans y1⟩, ⟨(Below.cell (gY.trans hg) (p := ⟨q, 0, none⟩) sX).trans x0, (Below.cell (gY.trans hg) (p := ⟨q, 1, none⟩) sX).trans x1⟩, ⟨(Below.cell hg (p := ⟨q2, 0, none⟩) sY).trans z0, (Below.cell hg (p := ⟨q2, 1, none⟩) sY).trans z1⟩⟩))
      have gWY : Hid (Gr W Y) := gX.trans gY
      have g0 := hide (gW.trans gWY.out)
      obtain ⟨⟨a0, a1⟩, ⟨a2, a3⟩, a4, a5⟩ := HK.out Y (Gr.refl Y)
      clear x0 x1 y0 y1 z0 z1 gX gY HC1 sZ sW
      have gD := hide ((Gr.refl Y).drew)
      go_wp2_with fail
      go_region_held3 (fun w' => (w'.cell? ⟨w.heap.size, 0, none⟩ = some (iv l) ∧ w'.cell? ⟨w.heap.size, 1, none⟩ = some (iv b)) ∧ (w'.cell? ⟨q, 0, none⟩ = some (iv (l + 1)) ∧ w'.cell? ⟨q, 1, none⟩ = some (iv (b * 2))) ∧ (w'.cell? ⟨q2, 0, none⟩ = some (iv (l + 1)) ∧ w'.cell? ⟨q2, 1, none⟩ = some (iv (b * 2 + 1)))) (first | exact HK.out _ G2.out | exact HK.out _ G1.out | exact HK.out _ gD.out | go_keep)
        (first
        | (go_at_call 150; with_reducible refine (H1.out _ (gWY.out.trans gD.out)).mono ?_; rintro e w1 ⟨r1, rfl, t1, d1, hd1⟩; have T1 := hide t1; have G1 := hide (show Gr Y w1 by rw [hd1]; exact gD.out.ext d1); clear t1 hd1)
        | (go_at_call 150; with_reducible refine (H2.out _ (gWY.out.trans G1.out)).mono ?_; rintro e w2 ⟨r2, rfl, t2, d2, hd2⟩; have T2 := hide t2; have G2 := hide (show Gr Y w2 by rw [hd2]; exact G1.out.ext d2); have T12 := hide (show Tr w2 _ r1 from Tr.gr (by rw [hd2]; exact d2.gr) T1.out); clear t2 hd2)
        | fail)
      all_goals
        go_wp2
        go_ret
        exact ⟨_, rfl, ⟨r1, r2, heap_alloc_new _ _, Tr.gr ((Gr.refl w2).alloc _) T12.out, Tr.gr ((Gr.refl w2).alloc _) T2.out⟩, ext_mk ((g0.out.trans G2.out).alloc _)⟩

end Go.Proofs.YtfcknkanbcndjagGreatDoor

/- FOR THE LAWS: a table and a list beside it, in a world that has kept what was there. -/
namespace Go.Proofs.YtfcknkanbcndjagGreatDoor
open Go.RowKit
attribute [local go_sem] Ext.all Ext.cell Ext.frozen Ext.lt Ext.lt1 Ext.lt2 Ext.ne Ext.ne'
/-- In wX: the table at tb has the routes rs; the list at aw reads as 'was'; all below w's size is as it was in w. -/
structure St (w wX : World) (tb : Nat) (rs : List Rt) (aw : Option Addr) (was : List Rt) : Prop where
  tab : ∃ M v, TabS wX M tb v rs ∧ RowAt wX M aw was ∧ (∀ k, k < w.heap.size → M k)
  old : Below w.heap.size w wX

theorem St.gr {w w1 w2 : World} {tb : Nat} {ro : Option Addr} {rs was : List Rt} (h : St w w1 tb rs ro was) (g : Gr w1 w2) : St w w2 tb rs ro was := by
  obtain ⟨M, v, hS, hR, hM⟩ := h.tab
  exact ⟨⟨M, v, hS.gr g, hR.gr g, hM⟩, Below.trans h.old (Below.mono g (Below.size h.old))⟩
theorem St.cell {w w1 : World} {tb : Nat} {ro : Option Addr} {rs was : List Rt} (h : St w w1 tb rs ro was) {b o : Nat} {v : Value} (hb : b < w.heap.size) (hc : w.cell? ⟨b, o, none⟩ = some v) : w1.cell? ⟨b, o, none⟩ = some v :=
  (Below.cell h.old (p := ⟨b, o, none⟩) hb).trans hc
theorem St.set {w w1 : World} {tb : Nat} {ro : Option Addr} {rs was rs' : List Rt} {l b hp code : Int} (h : St w w1 tb rs ro was) (hT : Tab rs) (e : setL rs l b hp = (rs', code)) :
    Calls Tryz.prog 66 #[.pointer (some ⟨tb, 0, none⟩), pfx l b, .int .i64 hp] w1 fun e w2 => e = .returned (.int .i64 code) ∧ St w w2 tb rs' ro was := by
  obtain ⟨M, v, hS, hR, hM⟩ := h.tab
  refine (set_is hS hT e).mono ?_
  rintro e w2 ⟨rfl, v', hS', hK⟩
  exact ⟨rfl, ⟨M, v', hS', hR.kept hK, hM⟩, Below.trans h.old (hK.below (Below.size h.old) hM)⟩
theorem St.look {w w1 : World} {tb : Nat} {ro : Option Addr} {rs was : List Rt} {a x : Int} (h : St w w1 tb rs ro was) (hT : Tab rs) (e : lookL rs a = x) :
    Calls Tryz.prog 34 #[.pointer (some ⟨tb, 0, none⟩), .int .i64 a] w1 fun e w2 => e = .returned (.int .i64 x) ∧ ∃ d : Ext w1, w2 = d.out := by
  obtain ⟨M, v, hS, hR, hM⟩ := h.tab
  exact look_is hS (by have := hT.len; omega) e ⟨w1, Gr.refl w1⟩
theorem St.list {w w1 : World} {tb : Nat} {ro : Option Addr} {rs was : List Rt} (h : St w w1 tb rs ro was) (hT : Tab rs) :
    Calls Tryz.prog 60 #[.pointer (some ⟨tb, 0, none⟩)] w1 fun e w2 => ∃ ao' c', e = .returned (.slice ao' rs.length c') ∧ St w w2 tb rs ao' rs ∧ St w w2 tb rs ro was ∧ ∃ d : Ext w1, w2 = d.out := by
  obtain ⟨M, v, hS, hR, hM⟩ := h.tab
  refine (list_is hS (by have := hT.len; omega)).mono ?_
  rintro e _ ⟨ao', c', rfl, hrow, d, rfl⟩
  refine ⟨ao', c', rfl, ⟨⟨_, v, hS.more d.gr, hrow.mono fun k hk hge => .inr ⟨hge, hk⟩, fun k hk => .inl (hM k hk)⟩, (h.gr d.gr).old⟩, h.gr d.gr, d, rfl⟩
theorem St.all {w w1 : World} {tb : Nat} {ro : Option Addr} {rs was : List Rt} (h : St w w1 tb rs ro was) (hT : Tab rs) :
    Calls Tryz.prog 151 #[.pointer (some ⟨tb, 0, none⟩)] w1 fun e w2 => ∃ g, e = .returned (.slice (some ⟨g, 0, none⟩) 256 256) ∧ g < w2.heap.size ∧ (∀ j : Nat, j < 256 → w2.cell? ⟨g, j, none⟩ = some (iv (lookL rs j))) ∧ ∃ d : Ext w1, w2 = d.out := by
  obtain ⟨M, v, hS, hR, hM⟩ := h.tab
  refine (all_is hS (by have := hT.len; omega) ⟨w1, Gr.refl w1⟩).mono ?_
  rintro e w2 ⟨g, rfl, _, h2, h3, d, hd⟩
  exact ⟨g, rfl, h2, h3, d, hd⟩
end Go.Proofs.YtfcknkanbcndjagGreatDoor

/- CONTRACTS OF handpostref: Look, AllOf, SameInts, SameRoutes, as the laws of tries ask them: of any sorted list of routes; of two lists that may be other ones. -/
namespace Go.Proofs.YtfcknkanbcndjagGreatDoor
open Go.RowKit
attribute [local go_sem] Ext.all Ext.cell Ext.frozen Ext.lt Ext.lt1 Ext.lt2 Ext.ne Ext.ne'
/-- Routes of prefixes, in order. -/
structure Srt (rs : List Rt) : Prop where
  ok : ∀ r ∈ rs, okB r.1 r.2.1 = true
  srt : rs.Pairwise (fun r s => lessB r.1 r.2.1 s.1 s.2.1 = true)
  len : rs.length ≤ 256
theorem Tab.toSrt {rs : List Rt} (h : Tab rs) : Srt rs := ⟨fun r hr => (h.ok r hr).1, h.srt, by have := h.len; omega⟩
theorem sbeyond_zero {rs : List Rt} (h : Srt rs) (a : Int) : Beyond rs a 0 (-1) := by
  intro r hr hra
  obtain ⟨h0, _⟩ := ok_iff.1 (h.ok r (by simpa using hr))
  omega
theorem sbeyond_next {rs : List Rt} {a : Int} {k : Nat} (hT : Srt rs) (hk : k < rs.length) (hh : hasB rs[k].1 rs[k].2.1 a = true) : Beyond rs a (k + 1) rs[k].1 := by
  intro r hr hra
  have hp : (rs.drop k).Pairwise (fun r s => lessB r.1 r.2.1 s.1 s.2.1 = true) := hT.srt.sublist (List.drop_sublist _ _)
  rw [List.drop_eq_getElem_cons hk] at hp
  exact (less_len hh hra).1 ((List.pairwise_cons.1 hp).1 r hr)

set_option maxRecDepth 20000 in
set_option maxHeartbeats 1000000 in
theorem rlook_any (w : World) (M : Nat → Prop) (ao : Option Addr) (n c : Nat) (rs : List Rt) (a : Int) (H : RowAt w M ao rs) (hn : rs.length = n) (hT : Srt rs) :
    Calls Tryz.prog 141 #[.slice ao n c, .int .i64 a] w fun e w' => e = .returned (.int .i64 (lookL rs a)) ∧ ∃ d : Ext w, w' = d.out := by
  have hm : rs.length ≤ 256 := hT.len
  have HT := hide hT
  clear hT
  go_enter Tryz.func141, Tryz.ntmps141
  go_wp2
  go_loopw [5, 6, 7] (fun hp nv i wr => ∃ (k : Nat) (nn hv : Int), k ≤ n ∧ i = .int .i64 k ∧ hp = .int .i64 hv ∧ nv = .int .i64 nn ∧ Hid (lookL (rs.take k) a = hv) ∧ Hid (Beyond rs a k nn) ∧ Gr w wr) (fun _ _ i _ => n - (intOf i).toNat)
  case atStart => exact ⟨0, -1, -1, by omega, rfl, rfl, rfl, rfl, sbeyond_zero HT.out a, Gr.refl _⟩
  case round =>
    obtain ⟨k, nn, hv, hk, rfl, rfl, rfl, HL, HY, g⟩ := hrel
    obtain ⟨d, rfl⟩ := ext_mk g
    by_cases hlt : k < n
    · have hkr : k < rs.length := by omega
      rcases H with rfl | ⟨rb, o, rfl, hb, hM, hcs⟩
      · simp at hkr
      obtain ⟨c1, c2, c3⟩ := hcs k hkr
      have HS := hide (lookL_take hkr a)
      have HY1 := hide (beyond_skip hkr HY.out)
      have HY2 := hide (fun hh => beyond_here hkr HY.out hh)
      have HY3 := hide (fun hh => sbeyond_next (a := a) HT.out hkr hh)
      clear hcs HY
      generalize rs[k] = r at *
      obtain ⟨rl, rbb, rh⟩ := r
      simp only at c1 c2 c3 HS HY2 HY3
      cases hq : hasB rl rbb a
      · have HQ := hide hq
        have HR : Hid (lookL (rs.take (k + 1)) a = hv) := by unfold Hid; rw [HS.out, hq]; simpa using HL.out
        clear hq HS HL HY2 HY3
        go_wp2_with (go_at_call 177; with_reducible refine (Calls.ext_of (rhas_is HQ.out _)).mono ?_; rintro e _ ⟨rfl, d1, rfl⟩)
        go_roundw
        case rel => exact ⟨k + 1, nn, hv, by omega, by go_num, rfl, rfl, HR, HY1.out, d1.gr⟩
        case measure => simp [intOf]; omega
      · have HQ := hide hq
        have hlt2 : nn < rl := HY2.out hq
        have HR : Hid (lookL (rs.take (k + 1)) a = rh) := by unfold Hid; rw [HS.out, hq]; simp
        have HY4 := hide (HY3.out hq)
        clear hq HS HL HY2 HY3 HY1
        go_wp2_with (go_at_call 177; with_reducible refine (Calls.ext_of (rhas_is HQ.out _)).mono ?_; rintro e _ ⟨rfl, d1, rfl⟩)
        refine wp_region_ext_of (by kernel_rfl) (by kernel_rfl) ?_
        repeat (go_big_quiet_step (fail))
        refine wpQuiet_nil ?_
        rintro _ ⟨d2, rfl⟩
        go_wp2
        go_roundw
        case rel => exact ⟨k + 1, rl, rh, by omega, by go_num, rfl, rfl, HR, HY4.out, d2.gr⟩
        case measure => simp [intOf]; omega
    · have HR : Hid (hv = lookL rs a) := by unfold Hid; rw [← HL.out, List.take_of_length_le (by omega)]
      clear HL H
      go_wp2
      go_ret
      exact ⟨ret_int HR.out, _, rfl⟩

set_option maxRecDepth 20000 in
theorem allOf_any (w : World) (M : Nat → Prop) (ao : Option Addr) (n c : Nat) (rs : List Rt) (H : RowAt w M ao rs) (hn : rs.length = n) (hT : Srt rs) :
    Calls Tryz.prog 139 #[.slice ao n c] w fun e w' => ∃ g, e = .returned (.slice (some ⟨g, 0, none⟩) 256 256) ∧ g < w'.heap.size ∧ (∀ j : Nat, j < 256 → w'.cell? ⟨g, j, none⟩ = some (iv (lookL rs j))) ∧ ∃ d : Ext w, w' = d.out := by
  obtain ⟨i0, hi, hz0, hz1, hz2⟩ := info_parts Tryz.info3
  go_enter Tryz.func139, Tryz.ntmps139
  go_wp2_with (at_make; refine wpList_make_full _ rfl _ _ 34 rfl w.heap.size 3 i0 (.int .i64 0) 1 Tryz.underlying34 hi hz0 hz1 _ _ _ _ 256 rfl rfl rfl rfl ?b2 ?b3 (Nat.le_refl _) ?_)
  case b2 => rw [hz2]; decide
  case b3 => unfold maxLen; decide
  intro w0 hown0 hgrow0
  have gr0 : Gr w w0 := (Gr.refl _).grown hgrow0 (fun k h => by cases h)
  clear hgrow0
  have hown1 : w0.ownsRow w.heap.size 3 1 (.slice (some ⟨w.heap.size, 0, none⟩) 256 256) 256 (hopsL rs 0) := by
    rw [made_hops rs] at hown0; exact hown0
  clear hown0
  obtain ⟨G, hG⟩ : ∃ G, G = w.heap.size := ⟨_, rfl⟩
  rw [← hG] at hown1 ⊢
  have HG : Hid (G = w.heap.size) := hG
  clear hG
  go_wp2
  go_loopw [4] (fun i wr => ∃ k : Nat, k ≤ 256 ∧ i = .int .i64 k ∧ Hid (wr.ownsRow G 3 1 (.slice (some ⟨G, 0, none⟩) 256 256) 256 (hopsL rs k)) ∧ Gr w wr) (fun i _ => 256 - (intOf i).toNat)
  case atStart => exact ⟨0, by omega, rfl, hown1, gr0⟩
  case round =>
    clear hown1
    obtain ⟨k, hk, rfl, hown, g⟩ := hrel
    obtain ⟨d, rfl⟩ := ext_mk g
    by_cases hlt : k < 256
    · have HC := hide (rlook_any d.out M ao n c rs k (H.gr d.gr) hn hT)
      clear H
      go_wp2_with (go_at_call 141; refine HC.out.mono ?_; rintro e _ ⟨rfl, d1, rfl⟩; have hown2 := hide (ownR_gr hown.out d1.gr); have hce := (hown2.out.cellAt k (by omega)).trans (hopsL_next rs k hlt); have hfz := hown2.out.frozenAt k)
      have hst := hown2.out.stored k (iv (lookL rs k))
      rw [hopsL_set rs k hlt] at hst
      go_roundw
      case rel => exact ⟨k + 1, by omega, by go_num, hst.1, (d.gr.ext d1).grown hst.2 (fun x hx => by cases hx; exact Nat.le_of_eq HG.out.symm)⟩
      case measure => simp [intOf]; omega
    · have : k = 256 := by omega
      subst this
      have hw := hown.out
      clear H
      go_wp2
      go_ret
      exact ⟨G, rfl, (hw.lt G rfl).2, fun j hj => (hw.cellAt j (by omega)).trans (hopsL_at rs j hj), d, rfl⟩

/-- 256 cells read as f. -/
structure Ints (w : World) (g : Nat) (f : Nat → Int) : Prop where
  lt : g < w.heap.size
  cell : ∀ j : Nat, j < 256 → w.cell? ⟨g, j, none⟩ = some (iv (f j))
theorem Ints.gr {w w' : World} {g : Nat} {f : Nat → Int} (h : Ints w g f) (k : Gr w w') : Ints w' g f :=
  ⟨Nat.lt_of_lt_of_le h.lt (Below.size k), fun j hj => (Below.cell k (p := ⟨g, j, none⟩) h.lt).trans (h.cell j hj)⟩
/-- 256 numbers, alike one by one? -/
def eqF (f g : Nat → Int) : Bool := decide (∀ j : Nat, j < 256 → f j = g j)
attribute [irreducible] eqF
end Go.Proofs.YtfcknkanbcndjagGreatDoor

/- CONTRACTS OF trie.Of AND trie.Same; of handpostref.SameRoutes at two lists that may be other ones. -/
namespace Go.Proofs.YtfcknkanbcndjagGreatDoor
open Go.RowKit
attribute [local go_sem] Ext.all Ext.cell Ext.frozen Ext.lt Ext.lt1 Ext.lt2 Ext.ne Ext.ne'
/-- All, as cells of numbers. -/
theorem all_nums {w : World} {M : Nat → Prop} {tb : Nat} {v : Value} {rs : List Rt} (S : TabS w M tb v rs) (hm : rs.length ≤ 1000) (wX : World) (gX : Gr w wX) :
    Calls Tryz.prog 151 #[.pointer (some ⟨tb, 0, none⟩)] wX fun e w' => ∃ g, e = .returned (.slice (some ⟨g, 0, none⟩) 256 256) ∧ Nums w' g 0 256 (fun j => lookL rs j) ∧ Gr wX w' := by
  refine (all_is (S.gr gX) hm ⟨wX, Gr.refl wX⟩).mono ?_
  rintro e w' ⟨g, rfl, _, h2, h3, d, hd⟩
  exact ⟨g, rfl, ⟨h2, fun j hj => by rw [Nat.zero_add]; exact h3 j hj⟩, by rw [hd]; exact d.gr⟩

set_option maxRecDepth 20000 in
theorem tof_is {w : World} {M : Nat → Prop} {tb : Nat} {v : Value} {rs : List Rt} (S : TabS w M tb v rs) (hm : rs.length ≤ 1000) (wX : World) (gX : Gr w wX) :
    Calls Tryz.prog 112 #[.pointer (some ⟨tb, 0, none⟩)] wX fun e w' => ∃ q, e = .returned (pv q) ∧ Tr w' (trT rs) q ∧ Gr wX w' := by
  have HA := hide (all_nums S hm wX gX)
  have HP := hide (fun (wY : World) (g : Nat) (hN : Nums wY g 0 256 (fun j => lookL rs j)) => part_any (fun j => lookL rs j) g 8 0 0 0 256 256 wY SpT.root (by decide) (by decide) hN)
  have HT : Hid (trT rs = tri (fun j => lookL rs j) 8 0 0 0) := by unfold Hid trT triT; rfl
  clear S
  go_enter Tryz.func112, Tryz.ntmps112
  go_wp2_with (first
    | (go_at_call 151; refine HA.out.mono ?_; rintro e w1 ⟨g1, rfl, n1, gr1⟩; have N1 := hide n1; have G1 := hide gr1; clear n1 gr1)
    | (go_at_call 150; refine (HP.out w1 g1 N1.out).mono ?_; rintro e w2 ⟨q, rfl, t2, d2, hd2⟩; have TQ := hide t2; have G2 := hide (show Gr w1 w2 by rw [hd2]; exact d2.gr); clear t2 hd2))
  go_ret
  exact ⟨_, rfl, by rw [HT.out]; exact TQ.out, G1.out.trans G2.out⟩

end Go.Proofs.YtfcknkanbcndjagGreatDoor

/- CONTRACTS OF package least: tableOf, countOf, Of, Count. -/
namespace Go.Proofs.YtfcknkanbcndjagGreatDoor
open Go.RowKit
attribute [local go_sem] Ext.all Ext.cell Ext.frozen Ext.lt Ext.lt1 Ext.lt2 Ext.ne Ext.ne'
/-- 'append(l, x...)', l a list of the call's own: what else was there stays. -/
theorem run_app2 {B w : World} {v : Value} {rs xs : List Rt} {M : Nat → Prop} {ao : Option Addr} {m c : Nat} (ty : TypeId) (hO : Own B w v rs) (g : Gr B w) (H : RowAt w M ao xs) (hl : xs.length = m) (h0 : 0 < m) (hm : rs.length + m ≤ 2000) :
    ∃ v' w', (Builtin.append_ #[108, 108] ty #[v, .slice ao m c]).run Tryz.prog w = .ok v' w' ∧ Own B w' v' (rs ++ xs) ∧ Gr B w' ∧ w.grownBy w' v.ownBlock := by
  obtain ⟨i0, hi, hz0, hz1, hz2⟩ := info_parts Tryz.info133
  rcases H with h | ⟨b, o, rfl, _, _, hcs⟩
  · subst h; simp at hl; omega
  · obtain ⟨v', w', h1, h2, h3, _⟩ := run_append_own (P := Tryz.prog) w B.heap.size 108 ty 133 i0 _ 3 24 Tryz.underlying108 hi hz0 hz1 hz2 (by rfl) (by decide) v rs.length (cels rs) hO
      ⟨b, o, none⟩ m c (cels xs) (by rw [cels_length, hl]) (fun j u hj => by rw [Addr.add_lit]; exact cels_cells hcs j u hj) (cels_one xs) (by unfold maxLen; omega) (by omega) (Below.size g)
    refine ⟨v', w', h1, ?_, g.grown h3 (fun k hk => (hO.lt k hk).1), h3⟩
    unfold Own
    rw [cels_append, List.length_append, hl]
    exact h2

/-- A variable that holds a list of routes of the call's own. -/
def BoxL (A X : World) (bx : Nat) (xs : List Rt) : Prop := Gr A X ∧ A.heap.size ≤ bx ∧ ∃ v, X.heap[bx]? = some (.cells #[v] 108 (0, 0)) ∧ Own A X v xs
theorem BoxL.gr {A X Y : World} {bx : Nat} {xs : List Rt} (h : BoxL A X bx xs) (g : Gr X Y) : BoxL A Y bx xs := by
  obtain ⟨h1, h2, v, h3, h4⟩ := h
  exact ⟨h1.trans g, h2, v, (Below.block g bx (lt_of_block h3)).trans h3, h4.gr g⟩
theorem own_ne {A X : World} {bx : Nat} {xs : List Rt} {v u : Value} (h : Own A X v xs) (hb : X.heap[bx]? = some (.cells #[u] 108 (0, 0))) : v.ownBlock ≠ some bx := by
  intro e
  rcases h.2 with ⟨hn, _⟩ | ⟨g, cap, cur, hv, _, hgg, rest⟩
  · rw [hn] at e; cases e
  · rw [hv] at e
    simp only [Value.ownBlock, Option.some.injEq] at e
    rw [e, hb] at hgg
    simp at hgg

set_option maxRecDepth 20000 in
theorem take_table {A X : World} {bx : Nat} {xs : List Rt} (l b h : Int) (hX : BoxL A X bx xs) (hm : xs.length ≤ 1000) :
    Calls Tryz.prog 149 #[rtV l b h, pv bx] X fun e w' => e = .returned (.tuple #[]) ∧ BoxL A w' bx (xs ++ [(l, b, h)]) := by
  obtain ⟨gX, hbx, v, hc, hO⟩ := hX
  have hlt := lt_of_block hc
  have c0 : X.cell? ⟨bx, 0, none⟩ = some v := cell_of_one hc
  have f0 : X.frozen? ⟨bx, 0, none⟩ = false := free_of_one hc
  obtain ⟨Y, hY⟩ : ∃ Y, Y = (X.alloc (.cells #[iv l, iv b, iv h] 133)).alloc (.cells #[iv l, iv b, iv h] 133) := ⟨_, rfl⟩
  have gXY : Gr X Y := by rw [hY]; exact ((Gr.refl X).alloc _).alloc _
  have hrow : RowAt Y (fun _ => True) (some ⟨X.heap.size + 1, 0, none⟩) [(l, b, h)] := by
    refine .inr ⟨X.heap.size + 1, 0, rfl, by rw [hY]; simp, trivial, fun i hi => ?_⟩
    have : i = 0 := by simpa using hi
    subst this
    rw [hY]
    refine ⟨?_, ?_, ?_⟩ <;> simp [go_sem]
  have OY := hO.gr gXY
  have hcY : Y.heap[bx]? = some (.cells #[v] 108 (0, 0)) := (Below.block gXY bx hlt).trans hc
  obtain ⟨v', w', hrun, hown, hgr, hgb⟩ := run_app2 (m := 1) (c := 1) 108 OY (gX.trans gXY) hrow rfl (by decide) (by omega)
  have hcw : w'.heap[bx]? = some (.cells #[v] 108 (0, 0)) := by
    rw [hgb.block bx (lt_of_block hcY) (fun e => own_ne OY hcY e.symm)]; exact hcY
  have d0 : w'.cell? ⟨bx, 0, none⟩ = some v := cell_of_one hcw
  have d1 : w'.frozen? ⟨bx, 0, none⟩ = false := free_of_one hcw
  have HB : Hid (BoxL A (w'.setCell ⟨bx, 0, none⟩ v') bx (xs ++ [(l, b, h)])) :=
    ⟨hgr.setCell hbx v', hbx, v', one_setCell hcw, ownsRow_setCell_other hown (own_ne hown hcw) v'⟩
  obtain ⟨ao', c', hv', _⟩ := hown.shape
  subst hv'
  rw [show (xs ++ [(l, b, h)]).length = xs.length + 1 by simp] at HB hrun
  have HR := hide hrun
  have HY := hide hY
  clear hrun hY hown hgr hgb hcw hcY OY hrow hO gX hc
  go_enter Tryz.func149, Tryz.ntmps149
  go_wp2_with (at_builtin; refine Lib.wpList_append_run _ rfl _ _ _ _ rfl _ _ rfl rfl _ _ (by rw [← HY.out]; exact HR.out) ?_)
  go_end0
  exact ⟨rfl, HB.out⟩

/-- A variable that counts. -/
def BoxN (A X : World) (bx : Nat) (xs : List Rt) : Prop := Gr A X ∧ A.heap.size ≤ bx ∧ X.heap[bx]? = some (.cells #[iv xs.length] 3 (0, 0))
theorem BoxN.gr {A X Y : World} {bx : Nat} {xs : List Rt} (h : BoxN A X bx xs) (g : Gr X Y) : BoxN A Y bx xs := by
  obtain ⟨h1, h2, h3⟩ := h
  exact ⟨h1.trans g, h2, (Below.block g bx (lt_of_block h3)).trans h3⟩
theorem taker_table (A : World) (bx : Nat) : Taker A 149 #[pv bx] (fun xs w => BoxL A w bx xs) where
  enters := enters_of Tryz.func149 (by kernel_rfl) rfl
  base := fun h => h.1
  gr := fun h g => h.gr g
  take := fun l b h hI hm => take_table l b h hI hm
theorem tableOf_any {A : World} {T : TT} {q : Nat} {xs : List Rt} (h64 : Tab64 A) (hT : Tr A T q) (hH : HopT T) (hx : each T (-1) = xs) (hm : xs.length ≤ 1000) (hc : chkL xs = 0) :
    Calls Tryz.prog 111 #[pv q] A fun e w' => ∃ tb v, e = .returned (.tuple #[pv tb, .bool true]) ∧ TabS w' (fun k => k < A.heap.size) tb v xs ∧ Gr A w' := by
  have hs : BoxL A (A.alloc (.cells #[.slice none 0 0] 108)) A.heap.size [] :=
    ⟨(Gr.refl A).alloc _, Nat.le_refl _, _, heap_alloc_new A _, Own.nil _ _⟩
  obtain ⟨X, hX⟩ : ∃ X, X = A.alloc (.cells #[.slice none 0 0] 108) := ⟨_, rfl⟩
  rw [← hX] at hs
  subst hx
  have HE := hide (show Calls Tryz.prog 148 #[pv q, iv (-1), .func (.func 149) #[] #[pv A.heap.size]] X fun e w' => e = .returned (.tuple #[]) ∧ BoxL A w' A.heap.size (each T (-1)) from
    each_any (taker_table A A.heap.size) h64 T q [] ⟨X, hs.1⟩ (-1) hT hH mem_m1 hs (by simp; omega))
  generalize each T (-1) = xs at *
  have HX := hide hX
  clear hX hs
  have HOf := hide (fun (w : World) ao c (H : RowAt w (fun k => A.heap.size ≤ k) ao xs) => of_any w _ ao xs.length c xs H rfl hc)
  go_enter Tryz.func111, Tryz.ntmps111
  go_wp2_with (first
    | (go_at_call 148; rw [← HX.out]; refine HE.out.mono ?_; rintro e w2 ⟨rfl, hB⟩; obtain ⟨g2, _, v, hb, hO⟩ := hB; obtain ⟨ao, c, hv, _, hR⟩ := hO.shape; subst hv; have c0 := cell_of_one hb; clear hb)
    | (go_at_call 61; refine (HOf.out w2 ao c hR).mono ?_; rintro e _ ⟨tb, u, rfl, hS, d, rfl⟩)
    | fail)
  go_ret2
  have hsz := Below.size g2
  refine ⟨tb, u, rfl, ⟨hS.cell, hS.own, fun e => hS.notTb (by omega), fun g hg e => hS.notRow g hg (by omega), fun k hk => hS.bd k (by omega)⟩, g2.ext d⟩

/-- Where addresses go by these routes: hops all. -/
theorem Tab.hops {rs : List Rt} (h : Tab rs) (j : Nat) : lookL rs j ∈ hopsR := hop_mem.1 (h.look_hop j)
/-- The table of as few routes as can be. -/
def lstL (rs : List Rt) : List Rt := leastT fun j => lookL rs j
theorem lst_each {rs : List Rt} (h : Tab rs) : each (trT rs) (-1) = lstL rs := each_T h.hops
theorem lst_le {rs : List Rt} (h : Tab rs) : (lstL rs).length ≤ rs.length := least_min h.hops (fun r hr => (h.ok r hr).1) h.srt (fun _ _ => rfl)
theorem lst_tab {rs : List Rt} (h : Tab rs) : Tab (lstL rs) := least_tab h.hops (Nat.le_trans (lst_le h) h.len)
theorem tab_chk {rs : List Rt} (h : Tab rs) : chkL rs = 0 := by
  unfold chkL
  rw [if_neg (by have := h.len; omega)]
  exact chkGo_ok rs none h.ok h.srt (fun q hq => by cases hq)
theorem hopT_tr {rs : List Rt} (h : Tab rs) : HopT (trT rs) := hop_tri h.hops 8 0 0 0
/-- least.Of of a table. -/
theorem lof_is {B : World} {M : Nat → Prop} {tb : Nat} {v : Value} {rs : List Rt} (h64 : Tab64 B) (hS : TabS B M tb v rs) (hT : Tab rs) (wX : World) (gX : Gr B wX) :
    Calls Tryz.prog 59 #[pv tb] wX fun e w' => ∃ ub u, e = .returned (.tuple #[pv ub, .bool true]) ∧ TabS w' (fun k => k < wX.heap.size) ub u (lstL rs) ∧ Gr wX w' := by
  have hlen := hT.len
  have hl := lst_le hT
  have HT := hide (tof_is hS (by omega) wX gX)
  have HC := hide (fun (A : World) q (gA : Gr wX A) (hTr : Tr A (trT rs) q) => tableOf_any (h64.gr (gX.trans gA)) hTr (hopT_tr hT) (lst_each hT) (by omega) (tab_chk (lst_tab hT)))
  clear hS
  go_enter Tryz.func59, Tryz.ntmps59
  go_wp2_with (first
    | (go_at_call 112; refine HT.out.mono ?_; rintro e w2 ⟨q, rfl, tr, g2⟩)
    | (go_at_call 111; refine (HC.out w2 q g2 tr).mono ?_; rintro e w3 ⟨ub, u, rfl, hU, g3⟩)
    | fail)
  go_ret2
  have hsz := Below.size g2
  exact ⟨ub, u, rfl, ⟨hU.cell, hU.own, fun e => hU.notTb (by omega), fun g hg e => hU.notRow g hg (by omega), fun k hk => hU.bd k (by omega)⟩, g2.trans g3⟩

end Go.Proofs.YtfcknkanbcndjagGreatDoor

/- CHANGES BETWEEN TABLES: what is to be changed in one so that it is another one; changes done one by one. No Go here. -/
namespace Go.Proofs.YtfcknkanbcndjagGreatDoor

/-- In a strict order lists with the same members are the same. -/
theorem srt_unique {α : Type} (lt : α → α → Prop) (irr : ∀ x, ¬ lt x x) (asy : ∀ x y, lt x y → ¬ lt y x) : ∀ (A B : List α), A.Pairwise lt → B.Pairwise lt → (∀ x, x ∈ A ↔ x ∈ B) → A = B
  | [], B, _, _, h => by
    cases B with
    | nil => rfl
    | cons y B => exact absurd ((h y).2 (by simp)) (by simp)
  | x :: A, [], _, _, h => absurd ((h x).1 (by simp)) (by simp)
  | x :: A, y :: B, hA, hB, h => by
    rw [List.pairwise_cons] at hA hB
    have e : x = y := by
      rcases List.mem_cons.1 ((h x).1 (by simp)) with e | e
      · exact e
      · rcases List.mem_cons.1 ((h y).2 (by simp)) with e' | e'
        · exact e'.symm
        · exact absurd (hA.1 y e') (asy _ _ (hB.1 x e))
    subst e
    have ih := srt_unique lt irr asy A B hA.2 hB.2 (fun z => ?_)
    · rw [ih]
    · constructor
      · intro hz
        rcases List.mem_cons.1 ((h z).1 (by simp [hz])) with e | e
        · subst e; exact absurd (hA.1 z hz) (irr z)
        · exact e
      · intro hz
        rcases List.mem_cons.1 ((h z).2 (by simp [hz])) with e | e
        · subst e; exact absurd (hB.1 z hz) (irr z)
        · exact e
theorem less_not (l b : Int) : ¬ lessB l b l b = true := by rw [less_irr]; simp
theorem less_asy' {l b m c : Int} (h : lessB l b m c = true) : ¬ lessB m c l b = true := by rw [less_asy h]; simp
/-- A change: Len, Bits, Old, New. -/
abbrev Ch := Int × Int × Int × Int
/-- What is to be changed in rs so that it is ss. -/
structure IsDiff (rs ss : List Rt) (ds : List Ch) : Prop where
  srt : ds.Pairwise (fun c d => lessB c.1 c.2.1 d.1 d.2.1 = true)
  mem : ∀ l b x y, (l, b, x, y) ∈ ds ↔ getL rs l b = x ∧ getL ss l b = y ∧ x ≠ y
theorem IsDiff.unique {rs ss : List Rt} {ds es : List Ch} (h : IsDiff rs ss ds) (k : IsDiff rs ss es) : ds = es := by
  refine srt_unique _ (fun x => less_not _ _) (fun x y => less_asy') ds es h.srt k.srt (fun c => ?_)
  obtain ⟨l, b, x, y⟩ := c
  rw [h.mem, k.mem]
theorem IsDiff.self {rs : List Rt} {ds : List Ch} (h : IsDiff rs rs ds) : ds = [] := by
  cases ds with
  | nil => rfl
  | cons c ds =>
    obtain ⟨l, b, x, y⟩ := c
    obtain ⟨h1, h2, h3⟩ := (h.mem l b x y).1 (by simp)
    exact absurd (h1.symm.trans h2) h3

end Go.Proofs.YtfcknkanbcndjagGreatDoor

/- THE REFERENCE's CHANGES: a list of the prefixes of both tables, in order, and of each where they have not the same. No Go here. -/
namespace Go.Proofs.YtfcknkanbcndjagGreatDoor

/-- Prefixes in order. -/
structure Ord (all : List Rt) : Prop where
  ok : ∀ r ∈ all, okB r.1 r.2.1 = true
  srt : all.Pairwise (fun r s => lessB r.1 r.2.1 s.1 s.2.1 = true)
theorem Ord.cut {all : List Rt} (h : Ord all) (l b : Int) : (∀ r ∈ all.takeWhile (fun s => ltB s l b), ltB r l b = true) ∧ (∀ r ∈ all.dropWhile (fun s => ltB s l b), ltB r l b = false) := by
  refine ⟨fun r hr => ?_, ?_⟩
  · have hs := h
    clear h
    induction all with
    | nil => simp at hr
    | cons x all ih =>
      rw [List.takeWhile_cons] at hr
      split at hr
      · rename_i hx
        rcases List.mem_cons.1 hr with rfl | hr
        · exact hx
        · exact ih hr ⟨fun s hm => hs.ok s (by simp [hm]), (List.pairwise_cons.1 hs.srt).2⟩
      · simp at hr
  · have hs := h.srt
    clear h
    induction all with
    | nil => intro r hr; simp at hr
    | cons x all ih =>
      intro r hr
      rw [List.dropWhile_cons] at hr
      rw [List.pairwise_cons] at hs
      split at hr
      · exact ih hs.2 r hr
      · rename_i hx
        rcases List.mem_cons.1 hr with rfl | hr
        · simpa using hx
        · cases e : ltB r l b
          · rfl
          · exact absurd (less_tr (hs.1 r hr) e) hx
end Go.Proofs.YtfcknkanbcndjagGreatDoor

/- Diff, as lists: all prefixes of two tables, sorted, each once; what is to be changed. No Go here. -/
namespace Go.Proofs.YtfcknkanbcndjagGreatDoor

end Go.Proofs.YtfcknkanbcndjagGreatDoor

/- FOR THE LAWS: tables and lists in a world; what each call says in whatever world has grown out of it. -/
namespace Go.Proofs.YtfcknkanbcndjagGreatDoor
open Go.RowKit
attribute [local go_sem] Ext.all Ext.cell Ext.frozen Ext.lt Ext.lt1 Ext.lt2 Ext.ne Ext.ne'
/-- In B the table at tb and the list at ro have the routes rs. -/
def Laid (B : World) (tb : Nat) (ro : Option Addr) (rs : List Rt) : Prop := ∃ M v, TabS B M tb v rs ∧ RowAt B M ro rs
theorem St.laid {w wX : World} {tb : Nat} {ro : Option Addr} {rs : List Rt} (h : St w wX tb rs ro rs) : Laid wX tb ro rs := by
  obtain ⟨M, v, hS, hR, _⟩ := h.tab
  exact ⟨M, v, hS, hR⟩
theorem Laid.gr {B wX : World} {tb : Nat} {ro : Option Addr} {rs : List Rt} (h : Laid B tb ro rs) (g : Gr B wX) : Laid wX tb ro rs := by
  obtain ⟨M, v, hS, hR⟩ := h
  exact ⟨M, v, hS.gr g, hR.gr g⟩
theorem Laid.look {B : World} {tb : Nat} {ro : Option Addr} {rs : List Rt} {a x : Int} (h : Laid B tb ro rs) (hT : Tab rs) (e : lookL rs a = x) (wX : World) (gX : Gr B wX) :
    Calls Tryz.prog 34 #[.pointer (some ⟨tb, 0, none⟩), .int .i64 a] wX fun e w' => e = .returned (.int .i64 x) ∧ Gr wX w' := by
  obtain ⟨M, v, hS, hR⟩ := h
  refine (look_is (hS.gr gX) (by have := hT.len; omega) e ⟨wX, Gr.refl wX⟩).mono ?_
  rintro e _ ⟨rfl, d, rfl⟩
  exact ⟨rfl, d.gr⟩
end Go.Proofs.YtfcknkanbcndjagGreatDoor

/- CONTRACT OF handpostlaw.leastBegun. -/
namespace Go.Proofs.YtfcknkanbcndjagGreatDoor
open Go.RowKit
attribute [local go_sem] Ext.all Ext.cell Ext.frozen Ext.lt Ext.lt1 Ext.lt2 Ext.ne Ext.ne'
theorem lst_look {rs : List Rt} (h : Tab rs) (j : Nat) (hj : j < 256) : lookL (lstL rs) j = lookL rs j := least_T_look h.hops j hj
end Go.Proofs.YtfcknkanbcndjagGreatDoor

/- FOR THE LAWS OF LAYER 4: a table in a world, asked in whatever world has grown out of it. -/
namespace Go.Proofs.YtfcknkanbcndjagGreatDoor
open Go.RowKit
attribute [local go_sem] Ext.all Ext.cell Ext.frozen Ext.lt Ext.lt1 Ext.lt2 Ext.ne Ext.ne'
/-- In B a table of these routes stands at tb. -/
def Is (B : World) (tb : Nat) (rs : List Rt) : Prop := ∃ M v, TabS B M tb v rs
theorem Is.gr {B X : World} {tb : Nat} {rs : List Rt} (h : Is B tb rs) (g : Gr B X) : Is X tb rs := by
  obtain ⟨M, v, hS⟩ := h
  exact ⟨M, v, hS.gr g⟩
theorem Is.list {B : World} {tb : Nat} {rs : List Rt} (h : Is B tb rs) (hT : Tab rs) :
    Calls Tryz.prog 60 #[pv tb] B fun e w' => ∃ ao c, e = .returned (.slice ao rs.length c) ∧ RowAt w' (fun k => B.heap.size ≤ k) ao rs ∧ Gr B w' := by
  obtain ⟨M, v, hS⟩ := h
  refine (list_is hS (by have := hT.len; omega)).mono ?_
  rintro e _ ⟨ao, c, rfl, hR, d, rfl⟩
  exact ⟨ao, c, rfl, hR, d.gr⟩
theorem lst_lookI {rs : List Rt} (h : Tab rs) (a : Int) : lookL (lstL rs) a = lookL rs a := by
  by_cases ha : 0 ≤ a ∧ a < 256
  · obtain ⟨j, rfl⟩ : ∃ j : Nat, a = j := ⟨a.toNat, by omega⟩
    exact lst_look h j (by omega)
  · rw [look_no ha, look_no ha]

end Go.Proofs.YtfcknkanbcndjagGreatDoor

/- FOR THE LAWS OF LAYER 4: Look. -/
namespace Go.Proofs.YtfcknkanbcndjagGreatDoor
open Go.RowKit

theorem Is.look {B : World} {tb : Nat} {rs : List Rt} {a x : Int} (h : Is B tb rs) (hT : Tab rs) (e : lookL rs a = x) :
    Calls Tryz.prog 34 #[pv tb, .int .i64 a] B fun e w' => e = .returned (iv x) ∧ Gr B w' := by
  obtain ⟨M, v, hS⟩ := h
  refine (look_is hS (by have := hT.len; omega) e ⟨B, Gr.refl B⟩).mono ?_
  rintro e _ ⟨rfl, d, rfl⟩
  exact ⟨rfl, d.gr⟩

end Go.Proofs.YtfcknkanbcndjagGreatDoor
