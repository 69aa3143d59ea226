/- CONTRACTS OF package least: eachRoute, whatever it hands the routes to. -/
import Derived.Test.YtklkminlkfnidacDoorW1
import Derived.Test.YtklkminlkfnidacDoorOwnL
namespace Go.Proofs.YtklkminlkfnidacDoor
open Go.RowKit
attribute [local go_sem] Ext.all Ext.cell Ext.frozen Ext.lt Ext.lt1 Ext.lt2 Ext.ne Ext.ne'

abbrev rtV (l b h : Int) : Value := .agg #[iv l, iv b, iv h]
/-- A function that is handed routes: what is known (I) when it was handed these. -/
structure Taker (A : World) (g : FuncId) (lb : Array Value) (I : List Rt → World → Prop) : Prop where
  enters : ∀ args w, (callFunc g args).run Tryd.prog w = .ok (.enter g args) w
  base : ∀ {xs w}, I xs w → Gr A w
  gr : ∀ {xs w w'}, I xs w → Gr w w' → I xs w'
  take : ∀ {xs w} (l b h : Int), I xs w → xs.length ≤ 1000 → Calls Tryd.prog g (#[rtV l b h] ++ lb) w fun e w' => e = .returned (.tuple #[]) ∧ I (xs ++ [(l, b, h)]) w'
/-- A callee that only makes memory. -/
theorem Taker.keep {A : World} {g : FuncId} {lb : Array Value} {I : List Rt → World → Prop} (K : Taker A g lb I) {f : FuncId} {args : Array Value} {v : Value} {X : Ext A} {xs : List Rt} (hI : I xs X.out)
    (h : Calls Tryd.prog f args X.out fun e w' => e = .returned v ∧ ∃ d : Ext X.out, w' = d.out) : Calls Tryd.prog f args X.out fun e w' => e = .returned v ∧ ∃ m : Ext A, w' = m.out ∧ I xs m.out :=
  h.mono fun _ _ ⟨he, d, hd⟩ => ⟨he, ⟨d.out, X.gr.ext d⟩, hd, K.gr hI d.gr⟩
theorem Taker.keep0 {A : World} {I : List Rt → World → Prop} {f : FuncId} {args : Array Value} {v : Value} {X : Ext A} {xs : List Rt} (hI : I xs X.out)
    (h : Calls Tryd.prog f args X.out fun e w' => e = .returned v ∧ w' = X.out) : Calls Tryd.prog f args X.out fun e w' => e = .returned v ∧ ∃ m : Ext A, w' = m.out ∧ I xs m.out :=
  h.mono fun _ _ ⟨he, hd⟩ => ⟨he, X, hd, hI⟩
theorem Taker.keepI {A : World} {g : FuncId} {lb : Array Value} {I : List Rt → World → Prop} (K : Taker A g lb I) {f : FuncId} {args : Array Value} {v : Value} {w : World} {xs : List Rt}
    (h : Calls Tryd.prog f args w fun e w' => e = .returned v ∧ I xs w') : Calls Tryd.prog f args w fun e w' => e = .returned v ∧ ∃ m : Ext A, w' = m.out ∧ I xs m.out :=
  h.mono fun _ w' ⟨he, hd⟩ => ⟨he, ⟨w', K.base hd⟩, rfl, hd⟩

set_option maxRecDepth 20000 in
set_option maxHeartbeats 2000000 in
theorem each_any {A : World} {g : FuncId} {lb : Array Value} {I : List Rt → World → Prop} (K : Taker A g lb I) (h64 : Tab64 A) :
    ∀ (T : TT) (q : Nat) (xs : List Rt) (X : Ext A) (h : Int), Tr A T q → HopT T → h ∈ hopsR → I xs X.out → xs.length + (each T h).length ≤ 1000 →
      Calls Tryd.prog 51 #[pv q, iv h, .func (.func g) #[] lb] X.out fun e w' => e = .returned (.tuple #[]) ∧ I (xs ++ each T h) w'
  | .leaf l b hp, q, xs, X, h, hT, hH, hh, hI, hm => by
    have eg := K.enters
    have hq := hT.lt
    obtain ⟨c0, c1, c2⟩ := hT.cells
    obtain ⟨b1, b2⟩ := wm_bd hH
    have HW := hide (fun (Y : Ext A) ys (hY : I ys Y.out) => K.keep hY (wishesOf_any _ Y.out q (hT.gr Y.gr) hH))
    have HL := hide (fun (Y : Ext A) ys (hY : I ys Y.out) => K.keep hY (leaf_as (hT.gr Y.gr) (show TT.isLeaf (.leaf l b hp) = true from rfl)))
    cases hv : (wm (.leaf l b hp)).testBit (hb h)
    · have HH := hide (fun (Y : Ext A) ys (hY : I ys Y.out) => Taker.keep0 hY (whas_any b1 hh hv Y.out))
      have HE : Hid (each (.leaf l b hp) h = [(l, b, lowB (wm (.leaf l b hp)))]) := by unfold Hid; rw [each, hv]; rfl
      have HS := hide (fun (Y : Ext A) ys (hY : I ys Y.out) => Taker.keep0 hY (wleast_any b1 b2 rfl (h64.gr Y.gr)))
      have HX := hide (fun (Y : Ext A) ys (hY : I ys Y.out) (hy : ys.length ≤ 1000) => K.keepI (K.take l b (lowB (wm (.leaf l b hp))) hY hy))
      clear hT hH
      generalize wm (.leaf l b hp) = M at *
      generalize lowB M = z at *
      rw [HE.out]
      have hxl : xs.length ≤ 1000 := by rw [HE.out] at hm; omega
      clear HE hm
      go_enter Tryd.func51, Tryd.ntmps51
      go_wp2_with (first
        | (go_at_call 67; refine (HW.out X xs hI).mono ?_; rintro e _ ⟨rfl, m1, rfl, i1⟩)
        | (go_at_call 68; refine (HH.out m1 xs i1).mono ?_; rintro e _ ⟨rfl, m2, rfl, i2⟩)
        | (go_at_call 69; refine (HS.out m2 xs i2).mono ?_; rintro e _ ⟨rfl, m3, rfl, i3⟩)
        | (go_at_fn g; refine (HX.out m3 xs i3 hxl).mono ?_; rintro e _ ⟨rfl, m4, rfl, i4⟩)
        | (go_at_call 37; refine (HL.out m4 _ i4).mono ?_; rintro e _ ⟨rfl, m5, rfl, i5⟩)
        | fail)
      refine bodyPost_ret (results_none rfl _ _ _) rfl ?_
      exact ⟨rfl, i5⟩
    · have HH := hide (fun (Y : Ext A) ys (hY : I ys Y.out) => Taker.keep0 hY (whas_any b1 hh hv Y.out))
      have HE : Hid (each (.leaf l b hp) h = []) := by unfold Hid; rw [each, hv]; rfl
      clear hT hH
      generalize wm (.leaf l b hp) = M at *
      rw [HE.out, List.append_nil]
      clear HE hm
      go_enter Tryd.func51, Tryd.ntmps51
      go_wp2_with (first
        | (go_at_call 67; refine (HW.out X xs hI).mono ?_; rintro e _ ⟨rfl, m1, rfl, i1⟩)
        | (go_at_call 68; refine (HH.out m1 xs i1).mono ?_; rintro e _ ⟨rfl, m2, rfl, i2⟩)
        | (go_at_call 37; refine (HL.out m2 _ i2).mono ?_; rintro e _ ⟨rfl, m5, rfl, i5⟩)
        | fail)
      refine bodyPost_ret (results_none rfl _ _ _) rfl ?_
      exact ⟨rfl, i5⟩
  | .node l b lo hi, q, xs, X, h, hT, hH, hh, hI, hm => by
    have eg := K.enters
    have hq := hT.lt
    obtain ⟨c0, c1, c2⟩ := hT.cells
    have c0' : A.cell? ⟨q, 0, none⟩ = some (iv l) := c0
    have c1' : A.cell? ⟨q, 1, none⟩ = some (iv b) := c1
    clear c0 c1 c2
    obtain ⟨x, y, c3, c4, hlo, hhi⟩ := hT.nodec
    obtain ⟨b1, b2⟩ := wm_bd hH
    have HW := hide (fun (Y : Ext A) ys (hY : I ys Y.out) => K.keep hY (wishesOf_any _ Y.out q (hT.gr Y.gr) hH))
    have HL := hide (fun (Y : Ext A) ys (hY : I ys Y.out) => K.keep hY (leaf_as (hT.gr Y.gr) (show TT.isLeaf (.node l b lo hi) = false from rfl)))
    cases hv : (wm (.node l b lo hi)).testBit (hb h)
    · have HH := hide (fun (Y : Ext A) ys (hY : I ys Y.out) => Taker.keep0 hY (whas_any b1 hh hv Y.out))
      have hz := ctz_low _ b1 b2
      have HE : Hid (each (.node l b lo hi) h = (l, b, lowB (wm (.node l b lo hi))) :: (each lo (lowB (wm (.node l b lo hi))) ++ each hi (lowB (wm (.node l b lo hi))))) := by unfold Hid; rw [each, hv]; rfl
      have HS := hide (fun (Y : Ext A) ys (hY : I ys Y.out) => Taker.keep0 hY (wleast_any b1 b2 rfl (h64.gr Y.gr)))
      have HX := hide (fun (Y : Ext A) ys (hY : I ys Y.out) (hy : ys.length ≤ 1000) => K.keepI (K.take l b (lowB (wm (.node l b lo hi))) hY hy))
      have R1 := hide (fun (Y : Ext A) ys (hY : I ys Y.out) hy => K.keepI (each_any K h64 lo x ys Y (lowB (wm (.node l b lo hi))) hlo hH.1 hz hY hy))
      have R2 := hide (fun (Y : Ext A) ys (hY : I ys Y.out) hy => K.keepI (each_any K h64 hi y ys Y (lowB (wm (.node l b lo hi))) hhi hH.2 hz hY hy))
      clear hT hH hlo hhi
      generalize wm (.node l b lo hi) = M at *
      generalize lowB M = z at *
      rw [HE.out] at hm ⊢
      simp only [List.length_cons, List.length_append] at hm
      clear HE
      have hxl : xs.length ≤ 1000 := by omega
      have l1 : Hid ((xs ++ [(l, b, z)]).length + (each lo z).length ≤ 1000) := by unfold Hid; simp only [List.length_append, List.length_singleton]; omega
      have l2 : Hid ((xs ++ [(l, b, z)] ++ each lo z).length + (each hi z).length ≤ 1000) := by unfold Hid; simp only [List.length_append, List.length_singleton]; omega
      have HL2 : Hid (xs ++ (l, b, z) :: (each lo z ++ each hi z) = xs ++ [(l, b, z)] ++ each lo z ++ each hi z) := by unfold Hid; simp
      rw [HL2.out]
      clear HL2 hm
      generalize each lo z = e1 at *
      generalize each hi z = e2 at *
      go_enter Tryd.func51, Tryd.ntmps51
      go_wp2_with (first
        | (go_at_call 67; refine (HW.out X xs hI).mono ?_; rintro e _ ⟨rfl, m1, rfl, i1⟩)
        | (go_at_call 68; refine (HH.out m1 xs i1).mono ?_; rintro e _ ⟨rfl, m2, rfl, i2⟩)
        | (go_at_call 69; refine (HS.out m2 xs i2).mono ?_; rintro e _ ⟨rfl, m3, rfl, i3⟩)
        | (go_at_fn g; refine (HX.out m3 xs i3 hxl).mono ?_; rintro e _ ⟨rfl, m4, rfl, i4⟩)
        | (go_at_call 37; refine (HL.out m4 _ i4).mono ?_; rintro e _ ⟨rfl, m5, rfl, i5⟩)
        | (go_at_call 51; with_reducible refine (R1.out m5 _ i5 l1.out).mono ?_; rintro e _ ⟨rfl, m6, rfl, i6⟩)
        | (go_at_call 51; with_reducible refine (R2.out m6 _ i6 l2.out).mono ?_; rintro e _ ⟨rfl, m7, rfl, i7⟩)
        | fail)
      go_end0
      exact ⟨rfl, i7⟩
    · have HH := hide (fun (Y : Ext A) ys (hY : I ys Y.out) => Taker.keep0 hY (whas_any b1 hh hv Y.out))
      have HE : Hid (each (.node l b lo hi) h = each lo h ++ each hi h) := by unfold Hid; rw [each, hv]; rfl
      have R1 := hide (fun (Y : Ext A) ys (hY : I ys Y.out) hy => K.keepI (each_any K h64 lo x ys Y h hlo hH.1 hh hY hy))
      have R2 := hide (fun (Y : Ext A) ys (hY : I ys Y.out) hy => K.keepI (each_any K h64 hi y ys Y h hhi hH.2 hh hY hy))
      clear hT hH hlo hhi
      generalize wm (.node l b lo hi) = M at *
      rw [HE.out] at hm ⊢
      simp only [List.length_append] at hm
      clear HE
      have l1 : Hid (xs.length + (each lo h).length ≤ 1000) := by unfold Hid; omega
      have l2 : Hid ((xs ++ each lo h).length + (each hi h).length ≤ 1000) := by unfold Hid; simp only [List.length_append]; omega
      rw [← List.append_assoc]
      clear hm
      generalize each lo h = e1 at *
      generalize each hi h = e2 at *
      go_enter Tryd.func51, Tryd.ntmps51
      go_wp2_with (first
        | (go_at_call 67; refine (HW.out X xs hI).mono ?_; rintro e _ ⟨rfl, m1, rfl, i1⟩)
        | (go_at_call 68; refine (HH.out m1 xs i1).mono ?_; rintro e _ ⟨rfl, m2, rfl, i2⟩)
        | (go_at_call 37; refine (HL.out m2 _ i2).mono ?_; rintro e _ ⟨rfl, m5, rfl, i5⟩)
        | (go_at_call 51; with_reducible refine (R1.out m5 _ i5 l1.out).mono ?_; rintro e _ ⟨rfl, m6, rfl, i6⟩)
        | (go_at_call 51; with_reducible refine (R2.out m6 _ i6 l2.out).mono ?_; rintro e _ ⟨rfl, m7, rfl, i7⟩)
        | fail)
      go_end0
      exact ⟨rfl, i7⟩

end Go.Proofs.YtklkminlkfnidacDoor
