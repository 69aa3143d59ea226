import Derived.Test.YtimbgijpeomfcacGreatDoorT3
import Derived.Test.YtimbgijpeomfcacGreatDoorPlainAll
import Derived.Shelf.Spec.TrailingZeros
import Derived.Test.YtimbgijpeomfcacGreatDoorOwnL
import Derived.Test.YtimbgijpeomfcacGreatDoorT7
import Derived.Test.YtimbgijpeomfcacGreatDoorS12
/- CONTRACTS OF package least: only, has, least, wishesOf; of math/bits.TrailingZeros at sets of seven hops. -/
namespace Go.Proofs.YtimbgijpeomfcacGreatDoor
open Go.RowKit
attribute [local go_sem] Ext.all Ext.cell Ext.frozen Ext.lt Ext.lt1 Ext.lt2 Ext.ne Ext.ne'

abbrev uv (m : Nat) : Value := .int .u64 m
/-- The library's table is there. -/
abbrev Tab64 (w : World) : Prop := TabAt 1 Lib.deBruijn64tab w
theorem Tab64.gr {w w' : World} (h : Tab64 w) (g : Gr w w') : Tab64 w' := fun j hj => by
  have hc := h j hj
  have hl : 1 < w.heap.size := by
    rcases Nat.lt_or_ge 1 w.heap.size with h1 | h1
    · exact h1
    · rw [World.cell?, Array.getElem?_eq_none (by exact h1)] at hc; simp at hc
  rw [Below.cell g (p := ⟨1, j, none⟩) hl]; exact hc

theorem ret_uv {a b : Nat} (h : a = b) : Ending.returned (uv a) = .returned (uv b) := by rw [h]
theorem hops7 {h : Int} (hh : h ∈ hopsR) : h = -1 ∨ h = 0 ∨ h = 1 ∨ h = 2 ∨ h = 3 ∨ h = 4 ∨ h = 5 := by
  simpa [hopsR] using hh
theorem only_any {h : Int} (hh : h ∈ hopsR) (w : World) :
    Calls Tryz.prog 77 #[iv h] w fun e w' => e = .returned (uv (2 ^ hb h)) ∧ w' = w := by
  rcases hops7 hh with rfl | rfl | rfl | rfl | rfl | rfl | rfl <;>
  · go_enter Tryz.func77, Tryz.ntmps77
    go_wp2
    go_ret
    exact ⟨rfl, rfl⟩
theorem and_bit (m k : Nat) : (((m &&& 2 ^ k : Nat) : Int) != 0) = m.testBit k := by
  rw [Bool.eq_iff_iff]
  simp only [bne_iff_ne, ne_eq]
  constructor
  · intro h
    rcases hb : m.testBit k with _ | _
    · exfalso
      apply h
      have : m &&& 2 ^ k = 0 := by
        apply Nat.eq_of_testBit_eq
        intro i
        rw [Nat.testBit_and, Nat.testBit_two_pow, Nat.zero_testBit]
        by_cases e : k = i
        · subst e; simp [hb]
        · simp [e]
      rw [this]; rfl
    · rfl
  · intro h e
    have e' : m &&& 2 ^ k = 0 := by omega
    have := Nat.testBit_and m (2 ^ k) k
    rw [e', h, Nat.testBit_two_pow] at this
    simp at this
theorem whas_any {m : Nat} (hm : m < 128) {h : Int} {v : Bool} (hh : h ∈ hopsR) (hv : m.testBit (hb h) = v) (w : World) :
    Calls Tryz.prog 63 #[uv m, iv h] w fun e w' => e = .returned (.bool v) ∧ w' = w := by
  subst hv
  have h7 := hb_lt hh
  have hp : 2 ^ hb h ≤ 2 ^ 6 := Nat.pow_le_pow_right (by decide) (by omega)
  have key : bits BinOp.and IntKind.u64 (m : Int) ((2 ^ hb h : Nat) : Int) = ((m &&& 2 ^ hb h : Nat) : Int) := bits_and_u64_nat m _ (by omega) (by omega)
  have hx := and_bit m (hb h)
  have HO := hide (only_any hh)
  generalize m.testBit (hb h) = v at *
  generalize m &&& 2 ^ hb h = r at *
  generalize 2 ^ hb h = p at *
  go_enter Tryz.func63, Tryz.ntmps63
  go_wp2_with (go_at_call 77; refine (HO.out _).mono ?_; rintro e _ ⟨rfl, rfl⟩)
  go_ret
  exact ⟨rfl, rfl⟩
theorem tz64_core (x k idx : Nat) (w : World) (hx0 : ((x : Int) == 0) = false)
    (key : IntKind.u64.wrap (bits BinOp.and IntKind.u64 (x : Int) (IntKind.u64.wrap (-(x : Int))) * 285870213051353865) / 288230376151711744 = (idx : Int))
    (hi : idx < 64) (hk : k < 64) (hcell : w.cell? ⟨1, idx, none⟩ = some (.int .u8 k)) :
    Calls Tryz.prog 101 #[uv x] w fun e w' => e = .returned (iv k) ∧ w' = w := by
  go_enter Tryz.func101, Tryz.ntmps101
  go_wp2_with (simp only [key])
  go_ret
  exact ⟨rfl, rfl⟩
theorem tz64_any {m : Nat} (hm : m < 128) (h0 : m ≠ 0) {w : World} (hT : Tab64 w) :
    Calls Tryz.prog 101 #[uv m] w fun e w' => e = .returned (iv (Lib.ctz 64 m : Nat)) ∧ w' = w := by
  obtain ⟨hlow, hk⟩ := Lib.lowest_bit 64 m h0 (by omega)
  obtain ⟨hi, htab⟩ := Lib.deBruijn64_at _ hk
  have hcell := hT _ hi
  rw [htab] at hcell
  exact tz64_core m _ _ w (by simp; omega) (tz64_key m _ (by omega) h0 hlow) hi hk hcell
theorem tz_any {m : Nat} (hm : m < 128) (h0 : m ≠ 0) {w : World} (hT : Tab64 w) :
    Calls Tryz.prog 78 #[uv m] w fun e w' => e = .returned (iv (Lib.ctz 64 m : Nat)) ∧ w' = w := by
  have H := hide (tz64_any hm h0 hT)
  go_enter Tryz.func78, Tryz.ntmps78
  go_wp2_with (go_at_call 101; refine H.out.mono ?_; rintro e _ ⟨rfl, rfl⟩)
  go_ret
  exact ⟨rfl, rfl⟩
theorem ctz_is : ∀ m : Nat, m < 128 → m ≠ 0 → ((Lib.ctz 64 m : Nat) : Int) + -1 = lowB m := by decide +kernel
theorem wleast_any {m : Nat} {x : Int} (hm : m < 128) (h0 : m ≠ 0) (hx : lowB m = x) {w : World} (hT : Tab64 w) :
    Calls Tryz.prog 64 #[uv m] w fun e w' => e = .returned (iv x) ∧ w' = w := by
  subst hx
  have H := hide (tz_any hm h0 hT)
  have hc := ctz_is m hm h0
  have hb : Lib.ctz 64 m < 64 := (Lib.lowest_bit 64 m h0 (by omega)).2
  generalize Lib.ctz 64 m = k at *
  go_enter Tryz.func64, Tryz.ntmps64
  go_wp2_with (go_at_call 78; refine H.out.mono ?_; rintro e _ ⟨rfl, rfl⟩)
  go_ret
  exact ⟨ret_int (by omega), rfl⟩

theorem wishesOf_any : ∀ (T : TT) (w : World) (q : Nat), Tr w T q → HopT T →
    Calls Tryz.prog 62 #[pv q] w fun e w' => e = .returned (uv (wm T)) ∧ ∃ d : Ext w, w' = d.out
  | .leaf l b hp, w, q, h, hh => by
    have HL := hide (leaf_any h)
    have hq := h.lt
    have c2 : w.cell? ⟨q, 2, none⟩ = some (iv hp) := h.cells.2.2
    have HO := hide (only_any (h := hp) hh)
    have HE : Hid (wm (.leaf l b hp) = 2 ^ hb hp) := rfl
    clear h hh
    generalize wm (.leaf l b hp) = M at *
    generalize 2 ^ hb hp = p at *
    go_enter Tryz.func62, Tryz.ntmps62
    go_wp2_with (first
      | (go_at_call 65; refine HL.out.mono ?_; rintro e _ ⟨rfl, d1, rfl⟩)
      | (go_at_call 77; refine (HO.out _).mono ?_; rintro e _ ⟨rfl, rfl⟩))
    go_ret
    exact ⟨ret_uv HE.out.symm, _, rfl⟩
  | .node l b lo hi, w, q, h, hh => by
    have HL := hide (leaf_any h)
    have hq := h.lt
    obtain ⟨x, y, c3, c4, hlo, hhi⟩ := h.nodec
    have H1 := hide (fun (d : Ext w) => wishesOf_any lo d.out x (hlo.gr d.gr) hh.1)
    have H2 := hide (fun (d : Ext w) => wishesOf_any hi d.out y (hhi.gr d.gr) hh.2)
    have b1 := (wm_bd hh.1).1
    have b2 := (wm_bd hh.2).1
    have HE : Hid (wm (.node l b lo hi) = if wm lo &&& wm hi = 0 then wm lo ||| wm hi else wm lo &&& wm hi) := rfl
    have k1 : bits BinOp.and IntKind.u64 (wm lo : Int) (wm hi : Int) = ((wm lo &&& wm hi : Nat) : Int) := bits_and_u64_nat _ _ (by omega) (by omega)
    have k2 : bits BinOp.or IntKind.u64 (wm lo : Int) (wm hi : Int) = ((wm lo ||| wm hi : Nat) : Int) := bits_or_u64_nat _ _ (by omega) (by omega)
    clear h hlo hhi hh
    generalize wm (.node l b lo hi) = M at *
    generalize wm lo ||| wm hi = u at *
    generalize wm lo &&& wm hi = v at *
    generalize wm lo = m1 at *
    generalize wm hi = m2 at *
    by_cases hv : v = 0
    · have hz : ((v : Int) != 0) = false := by simp [hv]
      rw [if_pos hv] at HE
      go_enter Tryz.func62, Tryz.ntmps62
      go_wp2_with (go_at_call 65; refine HL.out.mono ?_; rintro e _ ⟨rfl, d1, rfl⟩)
      refine wp_region_ext_of (by kernel_rfl) (by kernel_rfl) ?_
      repeat (go_big_quiet_step (first | (go_at_call 62; with_reducible exact Calls.ext_of (H1.out _)) | (go_at_call 62; with_reducible exact Calls.ext_of (H2.out _))))
      refine wpQuiet_nil ?_
      rintro _ ⟨d2, rfl⟩
      go_wp2_with (simp only [k1, k2])
      go_ret
      exact ⟨ret_uv HE.out.symm, _, rfl⟩
    · have hz : ((v : Int) != 0) = true := by simp; omega
      rw [if_neg hv] at HE
      go_enter Tryz.func62, Tryz.ntmps62
      go_wp2_with (go_at_call 65; refine HL.out.mono ?_; rintro e _ ⟨rfl, d1, rfl⟩)
      refine wp_region_ext_of (by kernel_rfl) (by kernel_rfl) ?_
      repeat (go_big_quiet_step (first | (go_at_call 62; with_reducible exact Calls.ext_of (H1.out _)) | (go_at_call 62; with_reducible exact Calls.ext_of (H2.out _))))
      refine wpQuiet_nil ?_
      rintro _ ⟨d2, rfl⟩
      go_wp2_with (simp only [k1, k2])
      go_ret
      exact ⟨ret_uv HE.out.symm, _, rfl⟩

end Go.Proofs.YtimbgijpeomfcacGreatDoor

/- CONTRACTS OF package least: eachRoute, whatever it hands the routes to. -/
namespace Go.Proofs.YtimbgijpeomfcacGreatDoor
open Go.RowKit
attribute [local go_sem] Ext.all Ext.cell Ext.frozen Ext.lt Ext.lt1 Ext.lt2 Ext.ne Ext.ne'

abbrev rtV (l b h : Int) : Value := .agg #[iv l, iv b, iv h]
/-- A function that is handed routes: what is known (I) when it was handed these. -/
structure Taker (A : World) (g : FuncId) (lb : Array Value) (I : List Rt → World → Prop) : Prop where
  enters : ∀ args w, (callFunc g args).run Tryz.prog w = .ok (.enter g args) w
  base : ∀ {xs w}, I xs w → Gr A w
  gr : ∀ {xs w w'}, I xs w → Gr w w' → I xs w'
  take : ∀ {xs w} (l b h : Int), I xs w → xs.length ≤ 1000 → Calls Tryz.prog g (#[rtV l b h] ++ lb) w fun e w' => e = .returned (.tuple #[]) ∧ I (xs ++ [(l, b, h)]) w'
/-- A callee that only makes memory. -/
theorem Taker.keep {A : World} {g : FuncId} {lb : Array Value} {I : List Rt → World → Prop} (K : Taker A g lb I) {f : FuncId} {args : Array Value} {v : Value} {X : Ext A} {xs : List Rt} (hI : I xs X.out)
    (h : Calls Tryz.prog f args X.out fun e w' => e = .returned v ∧ ∃ d : Ext X.out, w' = d.out) : Calls Tryz.prog f args X.out fun e w' => e = .returned v ∧ ∃ m : Ext A, w' = m.out ∧ I xs m.out :=
  h.mono fun _ _ ⟨he, d, hd⟩ => ⟨he, ⟨d.out, X.gr.ext d⟩, hd, K.gr hI d.gr⟩
theorem Taker.keep0 {A : World} {I : List Rt → World → Prop} {f : FuncId} {args : Array Value} {v : Value} {X : Ext A} {xs : List Rt} (hI : I xs X.out)
    (h : Calls Tryz.prog f args X.out fun e w' => e = .returned v ∧ w' = X.out) : Calls Tryz.prog f args X.out fun e w' => e = .returned v ∧ ∃ m : Ext A, w' = m.out ∧ I xs m.out :=
  h.mono fun _ _ ⟨he, hd⟩ => ⟨he, X, hd, hI⟩
theorem Taker.keepI {A : World} {g : FuncId} {lb : Array Value} {I : List Rt → World → Prop} (K : Taker A g lb I) {f : FuncId} {args : Array Value} {v : Value} {w : World} {xs : List Rt}
    (h : Calls Tryz.prog f args w fun e w' => e = .returned v ∧ I xs w') : Calls Tryz.prog f args w fun e w' => e = .returned v ∧ ∃ m : Ext A, w' = m.out ∧ I xs m.out :=
  h.mono fun _ w' ⟨he, hd⟩ => ⟨he, ⟨w', K.base hd⟩, rfl, hd⟩

set_option maxRecDepth 20000 in
set_option maxHeartbeats 2000000 in
theorem each_any {A : World} {g : FuncId} {lb : Array Value} {I : List Rt → World → Prop} (K : Taker A g lb I) (h64 : Tab64 A) :
    ∀ (T : TT) (q : Nat) (xs : List Rt) (X : Ext A) (h : Int), Tr A T q → HopT T → h ∈ hopsR → I xs X.out → xs.length + (each T h).length ≤ 1000 →
      Calls Tryz.prog 46 #[pv q, iv h, .func (.func g) #[] lb] X.out fun e w' => e = .returned (.tuple #[]) ∧ I (xs ++ each T h) w'
  | .leaf l b hp, q, xs, X, h, hT, hH, hh, hI, hm => by
    have eg := K.enters
    have hq := hT.lt
    obtain ⟨c0, c1, c2⟩ := hT.cells
    obtain ⟨b1, b2⟩ := wm_bd hH
    have HW := hide (fun (Y : Ext A) ys (hY : I ys Y.out) => K.keep hY (wishesOf_any _ Y.out q (hT.gr Y.gr) hH))
    have HL := hide (fun (Y : Ext A) ys (hY : I ys Y.out) => K.keep hY (leaf_as (hT.gr Y.gr) (show TT.isLeaf (.leaf l b hp) = true from rfl)))
    cases hv : (wm (.leaf l b hp)).testBit (hb h)
    · have HH := hide (fun (Y : Ext A) ys (hY : I ys Y.out) => Taker.keep0 hY (whas_any b1 hh hv Y.out))
      have HE : Hid (each (.leaf l b hp) h = [(l, b, lowB (wm (.leaf l b hp)))]) := by unfold Hid; rw [each, hv]; rfl
      have HS := hide (fun (Y : Ext A) ys (hY : I ys Y.out) => Taker.keep0 hY (wleast_any b1 b2 rfl (h64.gr Y.gr)))
      have HX := hide (fun (Y : Ext A) ys (hY : I ys Y.out) (hy : ys.length ≤ 1000) => K.keepI (K.take l b (lowB (wm (.leaf l b hp))) hY hy))
      clear hT hH
      generalize wm (.leaf l b hp) = M at *
      generalize lowB M = z at *
      rw [HE.out]
      have hxl : xs.length ≤ 1000 := by rw [HE.out] at hm; omega
      clear HE hm
      go_enter Tryz.func46, Tryz.ntmps46
      go_wp2_with (first
        | (go_at_call 62; refine (HW.out X xs hI).mono ?_; rintro e _ ⟨rfl, m1, rfl, i1⟩)
        | (go_at_call 63; refine (HH.out m1 xs i1).mono ?_; rintro e _ ⟨rfl, m2, rfl, i2⟩)
        | (go_at_call 64; refine (HS.out m2 xs i2).mono ?_; rintro e _ ⟨rfl, m3, rfl, i3⟩)
        | (go_at_fn g; refine (HX.out m3 xs i3 hxl).mono ?_; rintro e _ ⟨rfl, m4, rfl, i4⟩)
        | (go_at_call 65; refine (HL.out m4 _ i4).mono ?_; rintro e _ ⟨rfl, m5, rfl, i5⟩)
        | fail)
      refine bodyPost_ret (results_none rfl _ _ _) rfl ?_
      exact ⟨rfl, i5⟩
    · have HH := hide (fun (Y : Ext A) ys (hY : I ys Y.out) => Taker.keep0 hY (whas_any b1 hh hv Y.out))
      have HE : Hid (each (.leaf l b hp) h = []) := by unfold Hid; rw [each, hv]; rfl
      clear hT hH
      generalize wm (.leaf l b hp) = M at *
      rw [HE.out, List.append_nil]
      clear HE hm
      go_enter Tryz.func46, Tryz.ntmps46
      go_wp2_with (first
        | (go_at_call 62; refine (HW.out X xs hI).mono ?_; rintro e _ ⟨rfl, m1, rfl, i1⟩)
        | (go_at_call 63; refine (HH.out m1 xs i1).mono ?_; rintro e _ ⟨rfl, m2, rfl, i2⟩)
        | (go_at_call 65; refine (HL.out m2 _ i2).mono ?_; rintro e _ ⟨rfl, m5, rfl, i5⟩)
        | fail)
      refine bodyPost_ret (results_none rfl _ _ _) rfl ?_
      exact ⟨rfl, i5⟩
  | .node l b lo hi, q, xs, X, h, hT, hH, hh, hI, hm => by
    have eg := K.enters
    have hq := hT.lt
    obtain ⟨c0, c1, c2⟩ := hT.cells
    have c0' : A.cell? ⟨q, 0, none⟩ = some (iv l) := c0
    have c1' : A.cell? ⟨q, 1, none⟩ = some (iv b) := c1
    clear c0 c1 c2
    obtain ⟨x, y, c3, c4, hlo, hhi⟩ := hT.nodec
    obtain ⟨b1, b2⟩ := wm_bd hH
    have HW := hide (fun (Y : Ext A) ys (hY : I ys Y.out) => K.keep hY (wishesOf_any _ Y.out q (hT.gr Y.gr) hH))
    have HL := hide (fun (Y : Ext A) ys (hY : I ys Y.out) => K.keep hY (leaf_as (hT.gr Y.gr) (show TT.isLeaf (.node l b lo hi) = false from rfl)))
    cases hv : (wm (.node l b lo hi)).testBit (hb h)
    · have HH := hide (fun (Y : Ext A) ys (hY : I ys Y.out) => Taker.keep0 hY (whas_any b1 hh hv Y.out))
      have hz := ctz_low _ b1 b2
      have HE : Hid (each (.node l b lo hi) h = (l, b, lowB (wm (.node l b lo hi))) :: (each lo (lowB (wm (.node l b lo hi))) ++ each hi (lowB (wm (.node l b lo hi))))) := by unfold Hid; rw [each, hv]; rfl
      have HS := hide (fun (Y : Ext A) ys (hY : I ys Y.out) => Taker.keep0 hY (wleast_any b1 b2 rfl (h64.gr Y.gr)))
      have HX := hide (fun (Y : Ext A) ys (hY : I ys Y.out) (hy : ys.length ≤ 1000) => K.keepI (K.take l b (lowB (wm (.node l b lo hi))) hY hy))
      have R1 := hide (fun (Y : Ext A) ys (hY : I ys Y.out) hy => K.keepI (each_any K h64 lo x ys Y (lowB (wm (.node l b lo hi))) hlo hH.1 hz hY hy))
      have R2 := hide (fun (Y : Ext A) ys (hY : I ys Y.out) hy => K.keepI (each_any K h64 hi y ys Y (lowB (wm (.node l b lo hi))) hhi hH.2 hz hY hy))
      clear hT hH hlo hhi
      generalize wm (.node l b lo hi) = M at *
      generalize lowB M = z at *
      rw [HE.out] at hm ⊢
      simp only [List.length_cons, List.length_append] at hm
      clear HE
      have hxl : xs.length ≤ 1000 := by omega
      have l1 : Hid ((xs ++ [(l, b, z)]).length + (each lo z).length ≤ 1000) := by unfold Hid; simp only [List.length_append, List.length_singleton]; omega
      have l2 : Hid ((xs ++ [(l, b, z)] ++ each lo z).length + (each hi z).length ≤ 1000) := by unfold Hid; simp only [List.length_append, List.length_singleton]; omega
      have HL2 : Hid (xs ++ (l, b, z) :: (each lo z ++ each hi z) = xs ++ [(l, b, z)] ++ each lo z ++ each hi z) := by unfold Hid; simp
      rw [HL2.out]
      clear HL2 hm
      generalize each lo z = e1 at *
      generalize each hi z = e2 at *
      go_enter Tryz.func46, Tryz.ntmps46
      go_wp2_with (first
        | (go_at_call 62; refine (HW.out X xs hI).mono ?_; rintro e _ ⟨rfl, m1, rfl, i1⟩)
        | (go_at_call 63; refine (HH.out m1 xs i1).mono ?_; rintro e _ ⟨rfl, m2, rfl, i2⟩)
        | (go_at_call 64; refine (HS.out m2 xs i2).mono ?_; rintro e _ ⟨rfl, m3, rfl, i3⟩)
        | (go_at_fn g; refine (HX.out m3 xs i3 hxl).mono ?_; rintro e _ ⟨rfl, m4, rfl, i4⟩)
        | (go_at_call 65; refine (HL.out m4 _ i4).mono ?_; rintro e _ ⟨rfl, m5, rfl, i5⟩)
        | (go_at_call 46; with_reducible refine (R1.out m5 _ i5 l1.out).mono ?_; rintro e _ ⟨rfl, m6, rfl, i6⟩)
        | (go_at_call 46; with_reducible refine (R2.out m6 _ i6 l2.out).mono ?_; rintro e _ ⟨rfl, m7, rfl, i7⟩)
        | fail)
      go_end0
      exact ⟨rfl, i7⟩
    · have HH := hide (fun (Y : Ext A) ys (hY : I ys Y.out) => Taker.keep0 hY (whas_any b1 hh hv Y.out))
      have HE : Hid (each (.node l b lo hi) h = each lo h ++ each hi h) := by unfold Hid; rw [each, hv]; rfl
      have R1 := hide (fun (Y : Ext A) ys (hY : I ys Y.out) hy => K.keepI (each_any K h64 lo x ys Y h hlo hH.1 hh hY hy))
      have R2 := hide (fun (Y : Ext A) ys (hY : I ys Y.out) hy => K.keepI (each_any K h64 hi y ys Y h hhi hH.2 hh hY hy))
      clear hT hH hlo hhi
      generalize wm (.node l b lo hi) = M at *
      rw [HE.out] at hm ⊢
      simp only [List.length_append] at hm
      clear HE
      have l1 : Hid (xs.length + (each lo h).length ≤ 1000) := by unfold Hid; omega
      have l2 : Hid ((xs ++ each lo h).length + (each hi h).length ≤ 1000) := by unfold Hid; simp only [List.length_append]; omega
      rw [← List.append_assoc]
      clear hm
      generalize each lo h = e1 at *
      generalize each hi h = e2 at *
      go_enter Tryz.func46, Tryz.ntmps46
      go_wp2_with (first
        | (go_at_call 62; refine (HW.out X xs hI).mono ?_; rintro e _ ⟨rfl, m1, rfl, i1⟩)
        | (go_at_call 63; refine (HH.out m1 xs i1).mono ?_; rintro e _ ⟨rfl, m2, rfl, i2⟩)
        | (go_at_call 65; refine (HL.out m2 _ i2).mono ?_; rintro e _ ⟨rfl, m5, rfl, i5⟩)
        | (go_at_call 46; with_reducible refine (R1.out m5 _ i5 l1.out).mono ?_; rintro e _ ⟨rfl, m6, rfl, i6⟩)
        | (go_at_call 46; with_reducible refine (R2.out m6 _ i6 l2.out).mono ?_; rintro e _ ⟨rfl, m7, rfl, i7⟩)
        | fail)
      go_end0
      exact ⟨rfl, i7⟩

end Go.Proofs.YtimbgijpeomfcacGreatDoor

/- CONTRACTS OF package least: tableOf, countOf, Of, Count. -/
namespace Go.Proofs.YtimbgijpeomfcacGreatDoor
open Go.RowKit
attribute [local go_sem] Ext.all Ext.cell Ext.frozen Ext.lt Ext.lt1 Ext.lt2 Ext.ne Ext.ne'

/-- 'append(l, x...)', l a list of the call's own: what else was there stays. -/
theorem run_app2 {B w : World} {v : Value} {rs xs : List Rt} {M : Nat → Prop} {ao : Option Addr} {m c : Nat} (ty : TypeId) (hO : Own B w v rs) (g : Gr B w) (H : RowAt w M ao xs) (hl : xs.length = m) (h0 : 0 < m) (hm : rs.length + m ≤ 2000) :
    ∃ v' w', (Builtin.append_ #[22, 22] ty #[v, .slice ao m c]).run Tryz.prog w = .ok v' w' ∧ Own B w' v' (rs ++ xs) ∧ Gr B w' ∧ w.grownBy w' v.ownBlock := by
  obtain ⟨i0, hi, hz0, hz1, hz2⟩ := info_parts Tryz.info49
  rcases H with h | ⟨b, o, rfl, _, _, hcs⟩
  · subst h; simp at hl; omega
  · obtain ⟨v', w', h1, h2, h3, _⟩ := run_append_own (P := Tryz.prog) w B.heap.size 22 ty 49 i0 _ 3 24 Tryz.underlying22 hi hz0 hz1 hz2 (by rfl) (by decide) v rs.length (cels rs) hO
      ⟨b, o, none⟩ m c (cels xs) (by rw [cels_length, hl]) (fun j u hj => by rw [Addr.add_lit]; exact cels_cells hcs j u hj) (cels_one xs) (by unfold maxLen; omega) (by omega) (Below.size g)
    refine ⟨v', w', h1, ?_, g.grown h3 (fun k hk => (hO.lt k hk).1), h3⟩
    unfold Own
    rw [cels_append, List.length_append, hl]
    exact h2

/-- A variable that holds a list of routes of the call's own. -/
def BoxL (A X : World) (bx : Nat) (xs : List Rt) : Prop := Gr A X ∧ A.heap.size ≤ bx ∧ ∃ v, X.heap[bx]? = some (.cells #[v] 22 (0, 0)) ∧ Own A X v xs
theorem BoxL.gr {A X Y : World} {bx : Nat} {xs : List Rt} (h : BoxL A X bx xs) (g : Gr X Y) : BoxL A Y bx xs := by
  obtain ⟨h1, h2, v, h3, h4⟩ := h
  exact ⟨h1.trans g, h2, v, (Below.block g bx (lt_of_block h3)).trans h3, h4.gr g⟩
theorem own_ne {A X : World} {bx : Nat} {xs : List Rt} {v u : Value} (h : Own A X v xs) (hb : X.heap[bx]? = some (.cells #[u] 22 (0, 0))) : v.ownBlock ≠ some bx := by
  intro e
  rcases h.2 with ⟨hn, _⟩ | ⟨g, cap, cur, hv, _, hgg, rest⟩
  · rw [hn] at e; cases e
  · rw [hv] at e
    simp only [Value.ownBlock, Option.some.injEq] at e
    rw [e, hb] at hgg
    simp at hgg

set_option maxRecDepth 20000 in
theorem take_table {A X : World} {bx : Nat} {xs : List Rt} (l b h : Int) (hX : BoxL A X bx xs) (hm : xs.length ≤ 1000) :
    Calls Tryz.prog 47 #[rtV l b h, pv bx] X fun e w' => e = .returned (.tuple #[]) ∧ BoxL A w' bx (xs ++ [(l, b, h)]) := by
  obtain ⟨gX, hbx, v, hc, hO⟩ := hX
  have hlt := lt_of_block hc
  have c0 : X.cell? ⟨bx, 0, none⟩ = some v := cell_of_one hc
  have f0 : X.frozen? ⟨bx, 0, none⟩ = false := free_of_one hc
  obtain ⟨Y, hY⟩ : ∃ Y, Y = (X.alloc (.cells #[iv l, iv b, iv h] 49)).alloc (.cells #[iv l, iv b, iv h] 49) := ⟨_, rfl⟩
  have gXY : Gr X Y := by rw [hY]; exact ((Gr.refl X).alloc _).alloc _
  have hrow : RowAt Y (fun _ => True) (some ⟨X.heap.size + 1, 0, none⟩) [(l, b, h)] := by
    refine .inr ⟨X.heap.size + 1, 0, rfl, by rw [hY]; simp, trivial, fun i hi => ?_⟩
    have : i = 0 := by simpa using hi
    subst this
    rw [hY]
    refine ⟨?_, ?_, ?_⟩ <;> simp [go_sem]
  have OY := hO.gr gXY
  have hcY : Y.heap[bx]? = some (.cells #[v] 22 (0, 0)) := (Below.block gXY bx hlt).trans hc
  obtain ⟨v', w', hrun, hown, hgr, hgb⟩ := run_app2 (m := 1) (c := 1) 22 OY (gX.trans gXY) hrow rfl (by decide) (by omega)
  have hcw : w'.heap[bx]? = some (.cells #[v] 22 (0, 0)) := by
    rw [hgb.block bx (lt_of_block hcY) (fun e => own_ne OY hcY e.symm)]; exact hcY
  have d0 : w'.cell? ⟨bx, 0, none⟩ = some v := cell_of_one hcw
  have d1 : w'.frozen? ⟨bx, 0, none⟩ = false := free_of_one hcw
  have HB : Hid (BoxL A (w'.setCell ⟨bx, 0, none⟩ v') bx (xs ++ [(l, b, h)])) :=
    ⟨hgr.setCell hbx v', hbx, v', one_setCell hcw, ownsRow_setCell_other hown (own_ne hown hcw) v'⟩
  obtain ⟨ao', c', hv', _⟩ := hown.shape
  subst hv'
  rw [show (xs ++ [(l, b, h)]).length = xs.length + 1 by simp] at HB hrun
  have HR := hide hrun
  have HY := hide hY
  clear hrun hY hown hgr hgb hcw hcY OY hrow hO gX hc
  go_enter Tryz.func47, Tryz.ntmps47
  go_wp2_with (at_builtin; refine Lib.wpList_append_run _ rfl _ _ _ _ rfl _ _ rfl rfl _ _ (by rw [← HY.out]; exact HR.out) ?_)
  go_end0
  exact ⟨rfl, HB.out⟩

/-- A variable that counts. -/
def BoxN (A X : World) (bx : Nat) (xs : List Rt) : Prop := Gr A X ∧ A.heap.size ≤ bx ∧ X.heap[bx]? = some (.cells #[iv xs.length] 3 (0, 0))
theorem BoxN.gr {A X Y : World} {bx : Nat} {xs : List Rt} (h : BoxN A X bx xs) (g : Gr X Y) : BoxN A Y bx xs := by
  obtain ⟨h1, h2, h3⟩ := h
  exact ⟨h1.trans g, h2, (Below.block g bx (lt_of_block h3)).trans h3⟩
theorem take_count {A X : World} {bx : Nat} {xs : List Rt} (l b h : Int) (hX : BoxN A X bx xs) (hm : xs.length ≤ 1000) :
    Calls Tryz.prog 50 #[rtV l b h, pv bx] X fun e w' => e = .returned (.tuple #[]) ∧ BoxN A w' bx (xs ++ [(l, b, h)]) := by
  obtain ⟨gX, hbx, hc⟩ := hX
  have hlt := lt_of_block hc
  have c0 : X.cell? ⟨bx, 0, none⟩ = some (iv xs.length) := cell_of_one hc
  have f0 : X.frozen? ⟨bx, 0, none⟩ = false := free_of_one hc
  have HB : Hid (BoxN A ((X.setCell ⟨bx, 0, none⟩ (iv (xs.length + 1))).alloc (.cells #[iv l, iv b, iv h] 49)) bx (xs ++ [(l, b, h)])) := by
    refine BoxN.gr (X := X.setCell ⟨bx, 0, none⟩ (iv (xs.length + 1))) ⟨gX.setCell hbx _, hbx, ?_⟩ ((Gr.refl _).alloc _)
    rw [one_setCell hc]
    simp
  generalize xs.length = n at *
  clear hc
  go_enter Tryz.func50, Tryz.ntmps50
  go_wp2
  go_end0
  exact ⟨rfl, HB.out⟩

theorem taker_table (A : World) (bx : Nat) : Taker A 47 #[pv bx] (fun xs w => BoxL A w bx xs) where
  enters := enters_of Tryz.func47 (by kernel_rfl) rfl
  base := fun h => h.1
  gr := fun h g => h.gr g
  take := fun l b h hI hm => take_table l b h hI hm
theorem taker_count (A : World) (bx : Nat) : Taker A 50 #[pv bx] (fun xs w => BoxN A w bx xs) where
  enters := enters_of Tryz.func50 (by kernel_rfl) rfl
  base := fun h => h.1
  gr := fun h g => h.gr g
  take := fun l b h hI hm => take_count l b h hI hm

/-- The routes of a trie of a table. -/
theorem countOf_any {A : World} {T : TT} {q n : Nat} (h64 : Tab64 A) (hT : Tr A T q) (hH : HopT T) (hn : (each T (-1)).length = n) (hm : n ≤ 1000) :
    Calls Tryz.prog 27 #[pv q] A fun e w' => e = .returned (iv n) ∧ Gr A w' := by
  have hs : BoxN A (A.alloc (.cells #[iv 0] 3)) A.heap.size [] := ⟨(Gr.refl A).alloc _, Nat.le_refl _, heap_alloc_new A _⟩
  obtain ⟨X, hX⟩ : ∃ X, X = A.alloc (.cells #[iv 0] 3) := ⟨_, rfl⟩
  rw [← hX] at hs
  have HE := hide (show Calls Tryz.prog 46 #[pv q, iv (-1), .func (.func 50) #[] #[pv A.heap.size]] X fun e w' => e = .returned (.tuple #[]) ∧ BoxN A w' A.heap.size (each T (-1)) from
    each_any (taker_count A A.heap.size) h64 T q [] ⟨X, hs.1⟩ (-1) hT hH mem_m1 hs (by simp; omega))
  have HX := hide hX
  clear hX hs
  go_enter Tryz.func27, Tryz.ntmps27
  go_wp2_with (go_at_call 46; rw [← HX.out]; refine HE.out.mono ?_; rintro e w2 ⟨rfl, hB⟩; have c0 := cell_of_one hB.2.2; rw [hn] at c0)
  go_ret
  exact ⟨rfl, hB.1⟩

theorem tableOf_any {A : World} {T : TT} {q : Nat} {xs : List Rt} (h64 : Tab64 A) (hT : Tr A T q) (hH : HopT T) (hx : each T (-1) = xs) (hm : xs.length ≤ 1000) (hc : chkL xs = 0) :
    Calls Tryz.prog 24 #[pv q] A fun e w' => ∃ tb v, e = .returned (.tuple #[pv tb, .bool true]) ∧ TabS w' (fun k => k < A.heap.size) tb v xs ∧ Gr A w' := by
  have hs : BoxL A (A.alloc (.cells #[.slice none 0 0] 22)) A.heap.size [] :=
    ⟨(Gr.refl A).alloc _, Nat.le_refl _, _, heap_alloc_new A _, Own.nil _ _⟩
  obtain ⟨X, hX⟩ : ∃ X, X = A.alloc (.cells #[.slice none 0 0] 22) := ⟨_, rfl⟩
  rw [← hX] at hs
  subst hx
  have HE := hide (show Calls Tryz.prog 46 #[pv q, iv (-1), .func (.func 47) #[] #[pv A.heap.size]] X fun e w' => e = .returned (.tuple #[]) ∧ BoxL A w' A.heap.size (each T (-1)) from
    each_any (taker_table A A.heap.size) h64 T q [] ⟨X, hs.1⟩ (-1) hT hH mem_m1 hs (by simp; omega))
  generalize each T (-1) = xs at *
  have HX := hide hX
  clear hX hs
  have HOf := hide (fun (w : World) ao c (H : RowAt w (fun k => A.heap.size ≤ k) ao xs) => of_any w _ ao xs.length c xs H rfl hc)
  go_enter Tryz.func24, Tryz.ntmps24
  go_wp2_with (first
    | (go_at_call 46; rw [← HX.out]; refine HE.out.mono ?_; rintro e w2 ⟨rfl, hB⟩; obtain ⟨g2, _, v, hb, hO⟩ := hB; obtain ⟨ao, c, hv, _, hR⟩ := hO.shape; subst hv; have c0 := cell_of_one hb; clear hb)
    | (go_at_call 48; refine (HOf.out w2 ao c hR).mono ?_; rintro e _ ⟨tb, u, rfl, hS, d, rfl⟩)
    | fail)
  go_ret2
  have hsz := Below.size g2
  refine ⟨tb, u, rfl, ⟨hS.cell, hS.own, fun e => hS.notTb (by omega), fun g hg e => hS.notRow g hg (by omega), fun k hk => hS.bd k (by omega)⟩, g2.ext d⟩

/-- Where addresses go by these routes: hops all. -/
theorem Tab.hops {rs : List Rt} (h : Tab rs) (j : Nat) : lookL rs j ∈ hopsR := hop_mem.1 (h.look_hop j)
/-- The table of as few routes as can be. -/
def lstL (rs : List Rt) : List Rt := leastT fun j => lookL rs j
theorem lst_each {rs : List Rt} (h : Tab rs) : each (trT rs) (-1) = lstL rs := each_T h.hops
theorem lst_le {rs : List Rt} (h : Tab rs) : (lstL rs).length ≤ rs.length := least_min h.hops (fun r hr => (h.ok r hr).1) h.srt (fun _ _ => rfl)
theorem lst_tab {rs : List Rt} (h : Tab rs) : Tab (lstL rs) := least_tab h.hops (Nat.le_trans (lst_le h) h.len)
theorem tab_chk {rs : List Rt} (h : Tab rs) : chkL rs = 0 := by
  unfold chkL
  rw [if_neg (by have := h.len; omega)]
  exact chkGo_ok rs none h.ok h.srt (fun q hq => by cases hq)
theorem hopT_tr {rs : List Rt} (h : Tab rs) : HopT (trT rs) := hop_tri h.hops 8 0 0 0
/-- least.Count of a table. -/
theorem lcount_is {B : World} {M : Nat → Prop} {tb n : Nat} {v : Value} {rs : List Rt} (h64 : Tab64 B) (hS : TabS B M tb v rs) (hT : Tab rs) (hn : (lstL rs).length = n) (wX : World) (gX : Gr B wX) :
    Calls Tryz.prog 11 #[pv tb] wX fun e w' => e = .returned (iv n) ∧ Gr wX w' := by
  have hlen := hT.len
  have hl := lst_le hT
  have HT := hide (tof_is hS (by omega) wX gX)
  have HC := hide (fun (A : World) q (gA : Gr wX A) (hTr : Tr A (trT rs) q) => countOf_any (n := n) (h64.gr (gX.trans gA)) hTr (hopT_tr hT) (by rw [lst_each hT]; exact hn) (by omega))
  clear hS
  go_enter Tryz.func11, Tryz.ntmps11
  go_wp2_with (first
    | (go_at_call 25; refine HT.out.mono ?_; rintro e w2 ⟨q, rfl, tr, g2⟩)
    | (go_at_call 27; refine (HC.out w2 q g2 tr).mono ?_; rintro e w3 ⟨rfl, g3⟩)
    | fail)
  go_ret
  exact ⟨rfl, g2.trans g3⟩
/-- least.Of of a table. -/
theorem lof_is {B : World} {M : Nat → Prop} {tb : Nat} {v : Value} {rs : List Rt} (h64 : Tab64 B) (hS : TabS B M tb v rs) (hT : Tab rs) (wX : World) (gX : Gr B wX) :
    Calls Tryz.prog 8 #[pv tb] wX fun e w' => ∃ ub u, e = .returned (.tuple #[pv ub, .bool true]) ∧ TabS w' (fun k => k < wX.heap.size) ub u (lstL rs) ∧ Gr wX w' := by
  have hlen := hT.len
  have hl := lst_le hT
  have HT := hide (tof_is hS (by omega) wX gX)
  have HC := hide (fun (A : World) q (gA : Gr wX A) (hTr : Tr A (trT rs) q) => tableOf_any (h64.gr (gX.trans gA)) hTr (hopT_tr hT) (lst_each hT) (by omega) (tab_chk (lst_tab hT)))
  clear hS
  go_enter Tryz.func8, Tryz.ntmps8
  go_wp2_with (first
    | (go_at_call 25; refine HT.out.mono ?_; rintro e w2 ⟨q, rfl, tr, g2⟩)
    | (go_at_call 24; refine (HC.out w2 q g2 tr).mono ?_; rintro e w3 ⟨ub, u, rfl, hU, g3⟩)
    | fail)
  go_ret2
  have hsz := Below.size g2
  exact ⟨ub, u, rfl, ⟨hU.cell, hU.own, fun e => hU.notTb (by omega), fun g hg e => hU.notRow g hg (by omega), fun k hk => hU.bd k (by omega)⟩, g2.trans g3⟩

end Go.Proofs.YtimbgijpeomfcacGreatDoor
