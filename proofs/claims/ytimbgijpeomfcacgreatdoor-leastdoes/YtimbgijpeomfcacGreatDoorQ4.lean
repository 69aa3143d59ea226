import Derived.Test.YtimbgijpeomfcacGreatDoorQ0
import Derived.WalkKit
import Derived.Shelf.Small.Bits
import Derived.Lib.ReflectliteSwap
import Derived.Laws.Externs
/- CONTRACT OF sort.insertionSort_func, the comparison making memory. -/
namespace Go.Proofs.YtimbgijpeomfcacGreatDoor
open Go.RowKit Go.Sort

abbrev datV (lb sb : Array Value) : Value := .agg #[lesV lb, swaV sb]
theorem les_enters : ∀ args w, (callFunc 52 args).run Tryz.prog w = .ok (.enter 52 args) w := enters_of Tryz.func52 (by kernel_rfl) rfl

set_option maxHeartbeats 2000000 in
set_option maxRecDepth 100000 in
theorem insertion_any {B W : World} {g n : Nat} {lb sb : Array Value} {d : Array Pf} (hC : Cx B g n lb sb) (hS : SG B g d W) (hs : d.size = n) (hn : n ≤ 1000) {a b : Nat} (hab : a ≤ b) (hb : b ≤ n) :
    Calls Tryz.prog 90 #[datV lb sb, .int .i64 a, .int .i64 b] W fun e w' => e = .returned (.tuple #[]) ∧ SG B g (Sort.insertionSort ltP d a b) w' := by
  obtain ⟨A, hA, hD, hI, hOut⟩ := hC.door hS hs
  have HA := hide hA
  have HO := hide hOut
  have eg := les_enters
  clear hA hOut hC hS
  go_enter Tryz.func90, Tryz.ntmps90
  go_wp2
  rw [← HA.out]
  go_loopw [6] (fun vi wr => ∃ (i : Nat) (dk : Array Pf), vi = .int .i64 i ∧ a < i ∧ i ≤ b + 1 ∧ In A W.heap.size g n lb sb dk wr ∧ Hid (insOuter ltP a b i dk = insOuter ltP a b (a + 1) d)) (fun vi _ => b + 1 - (intOf vi).toNat)
  case atStart => exact ⟨a + 1, d, by go_num, by omega, by omega, hI, rfl⟩
  case round =>
    obtain ⟨i, dk, rfl, hai, hib, hk, HX⟩ := hrel
    by_cases hlt : i < b
    · go_wp2
      go_loopw [7] (fun vj wr2 => ∃ (j : Nat) (dj : Array Pf), vj = .int .i64 j ∧ a ≤ j ∧ j ≤ i ∧ In A W.heap.size g n lb sb dj wr2 ∧ Hid (insInner ltP a j dj = insInner ltP a i dk)) (fun vj _ => (intOf vj).toNat)
      case atStart => exact ⟨i, dk, rfl, by omega, Nat.le_refl _, hk, rfl⟩
      case round =>
        obtain ⟨j, dj, rfl, haj, hji, hj, HI⟩ := hrel
        have c0 := hj.c0
        have HOUT : Hid (∀ w1, In A W.heap.size g n lb sb dj w1 → (j ≤ a ∨ ltP dj[j]! dj[j - 1]! = false) → ∃ (i' : Nat) (dk' : Array Pf), Value.int .i64 ((i : Int) + 1) = .int .i64 i' ∧ a < i' ∧ i' ≤ b + 1 ∧ In A W.heap.size g n lb sb dk' w1 ∧ Hid (insOuter ltP a b i' dk' = insOuter ltP a b (a + 1) d)) := fun w1 h1 hst =>
          ⟨i + 1, dj, by go_num, by omega, by omega, h1, by unfold Hid; rw [← HX.out, insOuter_go _ _ _ _ _ hlt, ← HI.out, insInner_stop _ _ _ _ hst]⟩
        by_cases hja : a < j
        · cases hv : ltP dj[j]! dj[j - 1]! with
          | true =>
            have hl := hD.less hj (i := j) (j := j - 1) (by omega) (by omega) hv
            rw [show (((j - 1 : Nat) : Int)) = (j : Int) - 1 by omega] at hl
            have HL := hide hl
            clear hl
            go_wp2_with (go_at_fn 52; refine HL.out.mono ?_; rintro e w1 ⟨rfl, h1⟩; have c1 := h1.c1)
            obtain ⟨Y, hrun, hY⟩ := hD.swap h1 (i := j) (j := j - 1) (by omega) (by omega)
            rw [show (((j - 1 : Nat) : Int)) = (j : Int) - 1 by omega] at hrun
            rw [hrun, Oper.upon_value]
            go_wp2
            go_roundw
            case rel => exact ⟨j - 1, swp dj j (j - 1), by congr 1; omega, by omega, by omega, hY, by unfold Hid; rw [← HI.out, insInner_go ltP a j dj hja hv]⟩
            case measure => simp [intOf]; omega
          | false =>
            have hl := hD.less hj (i := j) (j := j - 1) (by omega) (by omega) hv
            rw [show (((j - 1 : Nat) : Int)) = (j : Int) - 1 by omega] at hl
            have HL := hide hl
            clear hl
            go_wp2_with (go_at_fn 52; refine HL.out.mono ?_; rintro e w1 ⟨rfl, h1⟩)
            go_roundw
            case rel => exact HOUT.out _ h1 (.inr hv)
            case measure => simp [intOf]; omega
        · go_wp2
          go_roundw
          case rel => exact HOUT.out _ hj (.inl (by omega))
          case measure => simp [intOf]; omega
    · have HE : Hid (insOuter ltP a b i dk = dk) := insOuter_stop _ _ _ _ _ hlt
      go_wp2
      go_end0
      exact ⟨rfl, HO.out _ _ (by unfold Sort.insertionSort; rw [← HX.out, HE.out]; exact hk.sg)⟩

end Go.Proofs.YtimbgijpeomfcacGreatDoor

/- CONTRACT OF sort.Slice at prefixes, by whatever pdqsort_func does; of math/bits.Len. -/
namespace Go.Proofs.YtimbgijpeomfcacGreatDoor
open Go.RowKit Go.Lib

def renB : Go.Shelf.Ren := ⟨fun | 125 => 72 | 128 => 88 | 129 => 89 | n => n, fun | 46 => 93 | 51 => 118 | 53 => 120 | n => n, fun n => n⟩
theorem laysB : Go.Proofs.Lays.n125 Tryz.prog renB := {
  mixed := by kernel_rfl
  f125 := Tryz.func72.trans (congrArg some (by kernel_rfl))
  f128 := Tryz.func88.trans (congrArg some (by kernel_rfl))
  f129 := Tryz.func89.trans (congrArg some (by kernel_rfl))
  t3 := Tryz.underlying3, a3 := Tryz.isAgg3, z3 := Tryz.sizeOf3, v3 := Tryz.zeroValue3
  t4 := Tryz.underlying4, a4 := Tryz.isAgg4, z4 := Tryz.sizeOf4, v4 := Tryz.zeroValue4
  t5 := Tryz.underlying5, a5 := Tryz.isAgg5, z5 := Tryz.sizeOf5, v5 := Tryz.zeroValue5
  t9 := Tryz.underlying9, a9 := Tryz.isAgg9, z9 := Tryz.sizeOf9, v9 := Tryz.zeroValue9
  t46 := Tryz.underlying93, a46 := Tryz.isAgg93, z46 := Tryz.sizeOf93, v46 := Tryz.zeroValue93
  t51 := Tryz.underlying118, a51 := Tryz.isAgg118, z51 := Tryz.sizeOf118, v51 := Tryz.zeroValue118
  t53 := Tryz.underlying120, a53 := Tryz.isAgg120, z53 := Tryz.sizeOf120, v53 := Tryz.zeroValue120 }
theorem blen_any (n : Nat) (hn : n ≤ 1000) (w : World) : Calls Tryz.prog 72 #[.int .u64 n] w fun e w' => e = .returned (.int .i64 (Lib.bitLen n : Nat)) ∧ w' = w :=
  Any.bits_Len laysB (n : Int) w (by omega) (by omega)

/-- The types' facts. -/
theorem prefs_info : ∃ i ie, Tryz.prog.info? 61 = some i ∧ i.desc = .slice 30 ∧ Tryz.prog.info? 30 = some ie ∧ ie.size = 2 ∧ ie.hasPointers = false ∧ ie.bytes = 16 := by
  have h1 : (Tryz.prog.info? 61).map (fun i => i.desc) = some (.slice 30) := by kernel_rfl
  have h2 : (Tryz.prog.info? 30).map (fun i => (i.size, i.hasPointers, i.bytes)) = some (2, false, 16) := by kernel_rfl
  cases e1 : Tryz.prog.info? 61 with
  | none => rw [e1] at h1; cases h1
  | some i =>
    cases e2 : Tryz.prog.info? 30 with
    | none => rw [e2] at h2; cases h2
    | some ie =>
      rw [e1] at h1
      rw [e2] at h2
      simp only [Option.map_some, Option.some.injEq, Prod.mk.injEq] at h1 h2
      exact ⟨i, ie, rfl, h1, rfl, h2⟩

set_option maxHeartbeats 1000000 in
set_option maxRecDepth 100000 in
theorem slice_of (p : Option Addr) (n c : Nat) (hn : n ≤ 1000) (f : Nat) (bd : Array Value) (lb : Array Value) (w : World) (R : World → Prop)
    (hf : ∀ w, (Extern.ReflectliteSwapper.swapper "internal/reflectlite" (Extern.ReflectliteValue.valueError "Swapper") #[.iface 61 (.slice p n c)]).run Tryz.prog w = .ok (.func (.func f) #[] bd) w)
    (hp : ∀ W, Gr w W → Calls Tryz.prog 73 #[.agg #[lesV lb, .func (.func f) #[] bd], .int .i64 0, .int .i64 n, .int .i64 (Lib.bitLen n : Nat)] W fun e w' => e = .returned (.tuple #[]) ∧ R w') :
    Calls Tryz.prog 51 #[.iface 61 (.slice p n c), lesV lb] w fun e w' => e = .returned (.tuple #[]) ∧ R w' := by
  obtain ⟨i, ie, hi, hd, hie, _, _, _⟩ := prefs_info
  have hv := run_valueOf_slice (P := Tryz.prog) 61 30 i hi hd p n c w
  have hl := fun a w ha => run_valueLen_slice (P := Tryz.prog) 61 30 i hi hd (by kernel_rfl) a p n c w ha
  have hb := fun w => blen_any n hn w
  have hgs : Tryz.prog.globals.size = 2 := by kernel_rfl
  simp only [typeHandle, hgs] at hv hl
  have wr : IntKind.u64.wrap (n : Int) = n := by simp [IntKind.wrap, IntKind.bits, IntKind.signed]; omega
  generalize Lib.bitLen n = lim at *
  go_enter Tryz.func51, Tryz.ntmps51
  go_wp2
  rw [run_callFunc_extern Tryz.func69 (by kernel_rfl) (by kernel_rfl) (by kernel_rfl) (e := fun args => Extern.ReflectliteValue.unpack (args.getD 0 (.tuple #[]))) (by kernel_rfl),
    show Sem.run Tryz.prog ((fun args : Array Value => Extern.ReflectliteValue.unpack (args.getD 0 (.tuple #[]))) #[.iface 61 (.slice p n c)]) w = _ from hv]
  simp only [Result.andThen]
  rw [Oper.upon_value]
  go_wp2
  rw [run_callFunc_extern Tryz.func70 (by kernel_rfl) (by kernel_rfl) (by kernel_rfl) (e := Extern.ReflectliteSwapper.swapper "internal/reflectlite" (Extern.ReflectliteValue.valueError "Swapper")) (by kernel_rfl), hf]
  simp only [Result.andThen]
  rw [Oper.upon_value]
  go_wp2
  rw [run_callFunc_extern Tryz.func71 (by kernel_rfl) (by kernel_rfl) (by kernel_rfl) (e := Extern.ReflectliteValue.method (Extern.ReflectliteValue.valueError "reflectlite.Value.Len" 0) Extern.ReflectliteValue.len) (by kernel_rfl),
    hl _ _ (by simp)]
  simp only [Result.andThen]
  rw [Oper.upon_value]
  go_wp2_with (first
    | (go_at_call 72; refine (hb _).mono ?_; rintro e w' ⟨rfl, rfl⟩)
    | (go_at_call 73; refine (hp _ (((Gr.refl w).alloc _).alloc _)).mono ?_; rintro e w' ⟨rfl, hR⟩)
    | fail)
  go_end0
  exact ⟨rfl, hR⟩

end Go.Proofs.YtimbgijpeomfcacGreatDoor

/- CONTRACTS OF package least: the comparison that is handed to sort.Slice; of pdqsort_func at twelve or fewer; of sort.Slice. -/
namespace Go.Proofs.YtimbgijpeomfcacGreatDoor
open Go.RowKit Go.Sort Go.Lib
attribute [local go_sem] Ext.all Ext.cell Ext.frozen Ext.lt Ext.lt1 Ext.lt2 Ext.ne Ext.ne'

theorem holds_at {X : World} {g : Nat} {d : Array Pf} (h : HoldsK encP 2 X g 0 d) {i : Nat} (hi : i < d.size) :
    X.cell? ⟨g, i * 2, none⟩ = some (iv d[i]!.1) ∧ X.cell? ⟨g, i * 2 + 1, none⟩ = some (iv d[i]!.2) := by
  have h0 := (h.cell hi (c := 0) (by decide)).1
  have h1 := (h.cell hi (c := 1) (by decide)).1
  rw [show 0 + i * 2 + 0 = i * 2 by omega] at h0
  rw [show 0 + i * 2 + 1 = i * 2 + 1 by omega] at h1
  exact ⟨h0, h1⟩
theorem les_any {X : World} {g bx n c : Nat} {d : Array Pf} (hH : HoldsK encP 2 X g 0 d) (hs : d.size = n) (hg : g < X.heap.size) (hc : X.cell? ⟨bx, 0, none⟩ = some (.slice (some ⟨g, 0, none⟩) n c)) (hb : bx < X.heap.size) {i j : Nat} (hi : i < n) (hj : j < n) :
    Calls Tryz.prog 52 #[.int .i64 i, .int .i64 j, pv bx] X fun e w' => e = .returned (.bool (ltP d[i]! d[j]!)) ∧ Gr X w' := by
  obtain ⟨c0, c1⟩ := holds_at hH (i := i) (by omega)
  obtain ⟨e0, e1⟩ := holds_at hH (i := j) (by omega)
  have HL := hide (fun (m : Ext X) => less_any d[i]!.1 d[i]!.2 d[j]!.1 d[j]!.2 m.out)
  have HE : Hid (ltP d[i]! d[j]! = lessB d[i]!.1 d[i]!.2 d[j]!.1 d[j]!.2) := rfl
  rw [HE.out]
  clear HE hH
  generalize lessB d[i]!.1 d[i]!.2 d[j]!.1 d[j]!.2 = v at *
  generalize d[i]!.1 = x1 at *
  generalize d[i]!.2 = x2 at *
  generalize d[j]!.1 = y1 at *
  generalize d[j]!.2 = y2 at *
  go_enter Tryz.func52, Tryz.ntmps52
  go_wp2
  refine wp_region_ext (by kernel_rfl) (by kernel_rfl) ?_
  repeat (go_big_quiet_step (first | (go_at_call 53; exact Calls.ext_of (HL.out _)) | fail))
  refine wpQuiet_nil ?_
  rintro _ ⟨d1, rfl⟩
  go_wp2
  go_ret
  exact ⟨rfl, d1.gr⟩

/-- pdqsort_func sorts n prefixes. -/
def PdqOK (n : Nat) : Prop := ∀ (B W : World) (g lim : Nat) (lb sb : Array Value) (d : Array Pf), Cx B g n lb sb → SG B g d W → d.size = n → lim ≤ 1000 →
  Calls Tryz.prog 73 #[datV lb sb, .int .i64 0, .int .i64 n, .int .i64 lim] W fun e w' => e = .returned (.tuple #[]) ∧ ∃ d', PermIn 0 n d d' ∧ SortedIn ltP 0 n d' ∧ SG B g d' w'

theorem pdq_small {n : Nat} (h12 : n ≤ 12) : PdqOK n := by
  intro B W g lim lb sb d hC hS hs hl
  obtain ⟨A, hA, hD, hI, hOut⟩ := hC.door hS hs
  have hi := hide (insertion_any hD.cx hI.sg hs (by omega) (Nat.zero_le n) (Nat.le_refl n))
  have c0 := hI.c0
  have c1 := hI.c1
  have HA := hide hA
  have HF : Hid (PermIn 0 n d (Sort.insertionSort ltP d 0 n) ∧ SortedIn ltP 0 n (Sort.insertionSort ltP d 0 n)) := by
    rw [← hs]; exact insertionSort_holds (lt := ltP) ltP_swo d 0 d.size (Nat.zero_le _) (Nat.le_refl _)
  clear hA hC hS hD hI
  go_enter Tryz.func73, Tryz.ntmps73
  go_wp2
  rw [← HA.out]
  refine wp_loop_rounds 1 ?_
  rw [rounds_succ]
  go_wp2_with (go_at_call 90; refine hi.out.mono ?_; rintro e w' ⟨rfl, hw⟩)
  (try simp only [Exit.inBlock, Exit.then])
  refine bodyPost_ret (results_none rfl _ _ _) rfl ?_
  exact ⟨rfl, _, HF.out.1, HF.out.2, hOut _ _ hw⟩

end Go.Proofs.YtimbgijpeomfcacGreatDoor

/- CONTRACT OF sort.Slice at prefixes. -/
namespace Go.Proofs.YtimbgijpeomfcacGreatDoor
open Go.RowKit Go.Sort Go.Lib
attribute [local go_sem] Ext.all Ext.cell Ext.frozen Ext.lt Ext.lt1 Ext.lt2 Ext.ne Ext.ne'

theorem insertion_tiny (u v : Value) (n : Nat) (hn : n ≤ 1) (W : World) :
    Calls Tryz.prog 90 #[.agg #[u, v], .int .i64 0, .int .i64 n] W fun e w' => e = .returned (.tuple #[]) ∧ Gr W w' := by
  go_enter Tryz.func90, Tryz.ntmps90
  go_wp2
  refine wp_loop_rounds 1 ?_
  rw [rounds_succ]
  go_wp2
  go_end0
  exact ⟨rfl, (Gr.refl W).alloc _⟩
theorem pdq_tiny (u v : Value) (n lim : Nat) (hn : n ≤ 1) (W : World) :
    Calls Tryz.prog 73 #[.agg #[u, v], .int .i64 0, .int .i64 n, .int .i64 lim] W fun e w' => e = .returned (.tuple #[]) ∧ Gr W w' := by
  have H := hide (fun w => insertion_tiny u v n hn w)
  go_enter Tryz.func73, Tryz.ntmps73
  go_wp2
  refine wp_loop_rounds 1 ?_
  rw [rounds_succ]
  go_wp2_with (go_at_call 90; refine (H.out _).mono ?_; rintro e w' ⟨rfl, hw⟩)
  (try simp only [Exit.inBlock, Exit.then])
  refine bodyPost_ret (results_none rfl _ _ _) rfl ?_
  exact ⟨rfl, ((Gr.refl W).alloc _).trans hw⟩
theorem pfx_agg (w : World) : (isAgg 30).run Tryz.prog w = .ok true w := Tryz.isAgg30 w
theorem kind_pfx (w : World) : (Extern.Rtype.kind 30).run Tryz.prog w = .ok 25 w := by kernel_rfl
theorem lim_le {n : Nat} (hn : n ≤ 1000) : Lib.bitLen n ≤ 1000 := Nat.le_trans (Lib.bitLen_le n 62 (by omega) (by omega)) (by decide)

/-- sort.Slice sorts prefixes. -/
theorem sort_any {X : World} {g bx n c : Nat} {d : Array Pf} (hH : HoldsK encP 2 X g 0 d) (hs : d.size = n) (hg : g < X.heap.size) (hc : X.cell? ⟨bx, 0, none⟩ = some (.slice (some ⟨g, 0, none⟩) n c)) (hb : bx < X.heap.size) (hne : bx ≠ g) (h2 : 2 ≤ n) (hn : n ≤ 1000) (hP : PdqOK n) :
    Calls Tryz.prog 51 #[.iface 61 (.slice (some ⟨g, 0, none⟩) n c), lesV #[pv bx]] X fun e w' => e = .returned (.tuple #[]) ∧ ∃ d', PermIn 0 n d d' ∧ SortedIn ltP 0 n d' ∧ SG X g d' w' := by
  obtain ⟨i, ie, hi, hd, hie, k1, k2, k3⟩ := prefs_info
  have hk : swapperK n ie 25 = 9 := by
    unfold swapperK
    rw [if_neg (by simp; omega), if_neg (by simp; omega), k2, k3]; rfl
  have hf := fun w => run_swapper_slice (P := Tryz.prog) 61 30 i ie hi hd hie 25 kind_pfx (some ⟨g, 0, none⟩) n c 87 (by rw [hk]; kernel_rfl) w
  rw [hk, if_neg (by decide)] at hf
  refine slice_of (some ⟨g, 0, none⟩) n c hn 87 _ #[pv bx] X _ hf ?_
  intro W gW
  have hX : SG X g d X := SG.start hH hg
  refine hP X W g (Lib.bitLen n) #[pv bx] _ d ⟨?_, ?_⟩ (hX.gr gW) hs (lim_le hn)
  · intro d' W' hs' hS' i j hi hj
    refine les_any hS'.holds hs' hS'.gLt (c := c) ?_ (Nat.lt_of_lt_of_le hb hS'.kp.size) hi hj
    rw [hS'.other hb hne]; exact hc
  · exact swapSwapsK_of_literal false 87 (fun args W => run_callFunc_extern Tryz.func87 (by kernel_rfl) (by kernel_rfl) (by kernel_rfl) (e := Extern.ReflectliteSwapper.swap false) (by kernel_rfl) args W)
      30 ie hie encP 2 (fun _ => rfl) k1 pfx_agg (fun x v hv => by simp at hv; rcases hv with rfl | rfl <;> rfl) g 0 n c
/-- Of none or one. -/
theorem sort_tiny {X : World} {p : Option Addr} {n c : Nat} (lb : Array Value) (hn : n ≤ 1) :
    Calls Tryz.prog 51 #[.iface 61 (.slice p n c), lesV lb] X fun e w' => e = .returned (.tuple #[]) ∧ Gr X w' := by
  obtain ⟨i, ie, hi, hd, hie, k1, k2, k3⟩ := prefs_info
  rcases (show n = 0 ∨ n = 1 by omega) with rfl | rfl
  · have hf := fun w => run_swapper_slice (P := Tryz.prog) 61 30 i ie hi hd hie 25 kind_pfx p 0 c 79 (by kernel_rfl) w
    refine slice_of p 0 c (by omega) 79 _ lb X _ hf ?_
    intro W gW
    refine (pdq_tiny _ _ 0 _ (by omega) W).mono ?_
    rintro e w' ⟨rfl, h⟩
    exact ⟨rfl, gW.trans h⟩
  · have hf := fun w => run_swapper_slice (P := Tryz.prog) 61 30 i ie hi hd hie 25 kind_pfx p 1 c 80 (by kernel_rfl) w
    refine slice_of p 1 c (by omega) 80 _ lb X _ hf ?_
    intro W gW
    refine (pdq_tiny _ _ 1 _ (by omega) W).mono ?_
    rintro e w' ⟨rfl, h⟩
    exact ⟨rfl, gW.trans h⟩

end Go.Proofs.YtimbgijpeomfcacGreatDoor
