/- CONTRACT OF sort.Slice at prefixes, by whatever pdqsort_func does; of math/bits.Len. -/
import Derived.Test.YtklkminlkfnidacDoorQ1
import Derived.Shelf.Small.Bits
import Derived.Lib.ReflectliteSwap
import Derived.Laws.Externs
namespace Go.Proofs.YtklkminlkfnidacDoor
open Go.RowKit Go.Lib

def renB : Go.Shelf.Ren := ⟨fun | 125 => 75 | 128 => 89 | 129 => 90 | n => n, fun | 46 => 46 | 51 => 116 | 53 => 118 | n => n, fun n => n⟩
theorem laysB : Go.Proofs.Lays.n125 Tryd.prog renB := {
  mixed := by kernel_rfl
  f125 := Tryd.func75.trans (congrArg some (by kernel_rfl))
  f128 := Tryd.func89.trans (congrArg some (by kernel_rfl))
  f129 := Tryd.func90.trans (congrArg some (by kernel_rfl))
  t3 := Tryd.underlying3, a3 := Tryd.isAgg3, z3 := Tryd.sizeOf3, v3 := Tryd.zeroValue3
  t4 := Tryd.underlying4, a4 := Tryd.isAgg4, z4 := Tryd.sizeOf4, v4 := Tryd.zeroValue4
  t5 := Tryd.underlying5, a5 := Tryd.isAgg5, z5 := Tryd.sizeOf5, v5 := Tryd.zeroValue5
  t9 := Tryd.underlying9, a9 := Tryd.isAgg9, z9 := Tryd.sizeOf9, v9 := Tryd.zeroValue9
  t46 := Tryd.underlying46, a46 := Tryd.isAgg46, z46 := Tryd.sizeOf46, v46 := Tryd.zeroValue46
  t51 := Tryd.underlying116, a51 := Tryd.isAgg116, z51 := Tryd.sizeOf116, v51 := Tryd.zeroValue116
  t53 := Tryd.underlying118, a53 := Tryd.isAgg118, z53 := Tryd.sizeOf118, v53 := Tryd.zeroValue118 }
theorem blen_any (n : Nat) (hn : n ≤ 1000) (w : World) : Calls Tryd.prog 75 #[.int .u64 n] w fun e w' => e = .returned (.int .i64 (Lib.bitLen n : Nat)) ∧ w' = w :=
  Any.bits_Len laysB (n : Int) w (by omega) (by omega)

/-- The types' facts. -/
theorem prefs_info : ∃ i ie, Tryd.prog.info? 81 = some i ∧ i.desc = .slice 43 ∧ Tryd.prog.info? 43 = some ie ∧ ie.size = 2 ∧ ie.hasPointers = false ∧ ie.bytes = 16 := by
  have h1 : (Tryd.prog.info? 81).map (fun i => i.desc) = some (.slice 43) := by kernel_rfl
  have h2 : (Tryd.prog.info? 43).map (fun i => (i.size, i.hasPointers, i.bytes)) = some (2, false, 16) := by kernel_rfl
  cases e1 : Tryd.prog.info? 81 with
  | none => rw [e1] at h1; cases h1
  | some i =>
    cases e2 : Tryd.prog.info? 43 with
    | none => rw [e2] at h2; cases h2
    | some ie =>
      rw [e1] at h1
      rw [e2] at h2
      simp only [Option.map_some, Option.some.injEq, Prod.mk.injEq] at h1 h2
      exact ⟨i, ie, rfl, h1, rfl, h2⟩

set_option maxHeartbeats 1000000 in
set_option maxRecDepth 100000 in
theorem slice_of (p : Option Addr) (n c : Nat) (hn : n ≤ 1000) (f : Nat) (bd : Array Value) (lb : Array Value) (w : World) (R : World → Prop)
    (hf : ∀ w, (Extern.ReflectliteSwapper.swapper "internal/reflectlite" (Extern.ReflectliteValue.valueError "Swapper") #[.iface 81 (.slice p n c)]).run Tryd.prog w = .ok (.func (.func f) #[] bd) w)
    (hp : ∀ W, Gr w W → Calls Tryd.prog 76 #[.agg #[lesV lb, .func (.func f) #[] bd], .int .i64 0, .int .i64 n, .int .i64 (Lib.bitLen n : Nat)] W fun e w' => e = .returned (.tuple #[]) ∧ R w') :
    Calls Tryd.prog 63 #[.iface 81 (.slice p n c), lesV lb] w fun e w' => e = .returned (.tuple #[]) ∧ R w' := by
  obtain ⟨i, ie, hi, hd, hie, _, _, _⟩ := prefs_info
  have hv := run_valueOf_slice (P := Tryd.prog) 81 43 i hi hd p n c w
  have hl := fun a w ha => run_valueLen_slice (P := Tryd.prog) 81 43 i hi hd (by kernel_rfl) a p n c w ha
  have hb := fun w => blen_any n hn w
  have hgs : Tryd.prog.globals.size = 2 := by kernel_rfl
  simp only [typeHandle, hgs] at hv hl
  have wr : IntKind.u64.wrap (n : Int) = n := by simp [IntKind.wrap, IntKind.bits, IntKind.signed]; omega
  generalize Lib.bitLen n = lim at *
  go_enter Tryd.func63, Tryd.ntmps63
  go_wp2
  rw [run_callFunc_extern Tryd.func72 (by kernel_rfl) (by kernel_rfl) (by kernel_rfl) (e := fun args => Extern.ReflectliteValue.unpack (args.getD 0 (.tuple #[]))) (by kernel_rfl),
    show Sem.run Tryd.prog ((fun args : Array Value => Extern.ReflectliteValue.unpack (args.getD 0 (.tuple #[]))) #[.iface 81 (.slice p n c)]) w = _ from hv]
  simp only [Result.andThen]
  rw [Oper.upon_value]
  go_wp2
  rw [run_callFunc_extern Tryd.func73 (by kernel_rfl) (by kernel_rfl) (by kernel_rfl) (e := Extern.ReflectliteSwapper.swapper "internal/reflectlite" (Extern.ReflectliteValue.valueError "Swapper")) (by kernel_rfl), hf]
  simp only [Result.andThen]
  rw [Oper.upon_value]
  go_wp2
  rw [run_callFunc_extern Tryd.func74 (by kernel_rfl) (by kernel_rfl) (by kernel_rfl) (e := Extern.ReflectliteValue.method (Extern.ReflectliteValue.valueError "reflectlite.Value.Len" 0) Extern.ReflectliteValue.len) (by kernel_rfl),
    hl _ _ (by simp)]
  simp only [Result.andThen]
  rw [Oper.upon_value]
  go_wp2_with (first
    | (go_at_call 75; refine (hb _).mono ?_; rintro e w' ⟨rfl, rfl⟩)
    | (go_at_call 76; refine (hp _ (((Gr.refl w).alloc _).alloc _)).mono ?_; rintro e w' ⟨rfl, hR⟩)
    | fail)
  go_end0
  exact ⟨rfl, hR⟩

end Go.Proofs.YtklkminlkfnidacDoor
