/- CONTRACTS OF package node: Tell. -/
import Derived.Test.YtfcknkanbcndjagGreatDoorD7
import Derived.Lib.AppendZerosOnto
import Derived.Lib.Overlaps
import Derived.Laws.Externs
import Derived.Laws.CopyOwn
import Derived.Deep.RegionLaw
namespace Go.Proofs.YtfcknkanbcndjagGreatDoor
open Go.RowKit
attribute [local go_sem] Ext.all Ext.cell Ext.frozen Ext.lt Ext.lt1 Ext.lt2 Ext.ne Ext.ne'
/-- An append whose run is known, as one step of a region that draws. -/
theorem step_append_eq {P : Program} {ops : Array Oper} {o : Oper} {a : Act} {w : World} {K : Act → World → Prop} {Q : Exit → Act → World → Prop} {E : Prop}
    (hg : o.guard = none) (d x : Operand) (dT sT : TypeId) (hop : o.op = Op.call { callee := Callee.builtin Builtin.append, args := #[d, x], argTypes := #[dT, sT] })
    (v u : Value) (hd : a.eval d = v) (hx : a.eval x = u) {v' : Value} {w' : World} (hr : (Builtin.append_ #[dT, sT] o.type #[v, u]).run P w = .ok v' w') (hK : K (a.put o.dst v') w') :
    if Region.wanted o (yielded ops a.tmps) = true then Oper.wp P o a w K Q else E := by
  have hw : Region.wanted o (yielded ops a.tmps) = true := by simp [Region.wanted, hg]
  rw [if_pos hw]
  unfold Oper.wp
  simp [execOp, hop, resolve, invoke, builtin, hd, hx, hr, Result.andThen]
  exact hK

/-- One of the six ways of an array, for the walk to take. -/
theorem idx_ways {C : Array Value} {g : Nat → Int × Int × Int} (hC : #[iv (g 0).1, iv (g 0).2.1, iv (g 0).2.2, iv (g 1).1, iv (g 1).2.1, iv (g 1).2.2, iv (g 2).1, iv (g 2).2.1, iv (g 2).2.2, iv (g 3).1, iv (g 3).2.1, iv (g 3).2.2, iv (g 4).1, iv (g 4).2.1, iv (g 4).2.2, iv (g 5).1, iv (g 5).2.1, iv (g 5).2.2] = C) {s : Nat} (hs : s < 6) (w : World) :
    (Instr.index 124 (.agg C) (iv s)).run Tryz.prog w = .ok (.agg #[iv (g s).1, iv (g s).2.1, iv (g s).2.2]) w := by
  subst hC
  rcases (show s = 0 ∨ s = 1 ∨ s = 2 ∨ s = 3 ∨ s = 4 ∨ s = 5 by omega) with rfl | rfl | rfl | rfl | rfl | rfl <;> kernel_rfl

set_option maxRecDepth 20000 in
set_option maxHeartbeats 8000000 in
theorem ntell_any {w : World} {p : Nat} {m : Md} (H : DAt w p m) (who : Int) :
    Calls Tryz.prog 56 #[pv p, iv who] w fun e w' => ∃ v, e = .returned v ∧ OwnN w w' v (tellL m who 6) ∧ Gr w w' := by
  have HM := hide (fun (X : World) (g : Gr w X) => H.gr g)
  have hp := H.lt
  obtain ⟨a0, a1, a2⟩ := H.ways (k := 0) (by omega)
  obtain ⟨b0, b1, b2⟩ := H.ways (k := 1) (by omega)
  obtain ⟨c0, c1, c2⟩ := H.ways (k := 2) (by omega)
  obtain ⟨d0, d1, d2⟩ := H.ways (k := 3) (by omega)
  obtain ⟨e0, e1, e2⟩ := H.ways (k := 4) (by omega)
  obtain ⟨f0, f1, f2⟩ := H.ways (k := 5) (by omega)
  simp only [Nat.reduceMul, Nat.reduceAdd] at a0 a1 a2 b0 b1 b2 c0 c1 c2 d0 d1 d2 e0 e1 e2 f0 f1 f2
  have HT : Hid (∀ k, tellL m who (k + 1) = tellL m who k ++ [((m.me : Int), who, (k : Int), (m.ways k).1, (m.ways k).2.1)]) := fun _ => rfl
  clear H
  go_enter Tryz.func56, Tryz.ntmps56
  go_wp2_with fail
  clear a0 a1 a2 b0 b1 b2 c0 c1 c2 d0 d1 d2 e0 e1 e2 f0 f1 f2
  generalize hC : (#[iv (m.ways 0).1, iv (m.ways 0).2.1, iv (m.ways 0).2.2, iv (m.ways 1).1, iv (m.ways 1).2.1, iv (m.ways 1).2.2, iv (m.ways 2).1, iv (m.ways 2).2.1, iv (m.ways 2).2.2, iv (m.ways 3).1, iv (m.ways 3).2.1, iv (m.ways 3).2.2, iv (m.ways 4).1, iv (m.ways 4).2.1, iv (m.ways 4).2.2, iv (m.ways 5).1, iv (m.ways 5).2.1, iv (m.ways 5).2.2] : Array Value) = C
  have HIX := hide (fun (s : Nat) (hs : s < 6) => idx_ways (g := m.ways) hC hs)
  clear hC
  go_loopw [5, 14] (fun v5 v14 wr => ∃ (k : Nat) (u : Value), u = v5 ∧ k ≤ 6 ∧ v14 = .int .i64 (k : Int) ∧ Hid (OwnN w wr u (tellL m who k)) ∧ Hid (Gr w wr)) (fun _ v14 _ => (6 - intOf v14).toNat)
  case atStart => exact ⟨0, _, rfl, by omega, rfl, OwnN.nil _ _, Gr.refl _⟩
  case round =>
    obtain ⟨k, u, rfl, hk6, rfl, O1, gw⟩ := hrel
    by_cases hk : k < 6
    · have hki : decide ((k : Int) < 6) = true := decide_eq_true (by omega)
      have wk : IntKind.i64.wrap ((k : Int) + 1) = (k : Int) + 1 := by rw [IntKind.wrap_i64]; omega
      have hix := HIX.out k hk
      have HTK := hide (HT.out k)
      have hlen := tell_len m who k
      generalize m.ways k = v at *
      obtain ⟨s, d, h⟩ := v
      simp only at hix HTK
      go_upto_region 7 with (fail)
      refine wp_gen (fun X => Hid (ZArr X 119 3 wr.heap.size (fun j => if j = 0 then s else if j = 1 then d else h)) ∧ Hid (OwnN w X u (tellL m who k)) ∧ Hid (Gr w X)) ⟨ZArr.new wr 119 3 (fun j => if j = 0 then s else if j = 1 then d else h), O1.out.gr ((Gr.refl _).alloc _), gw.out.alloc _⟩ ?_
      clear O1 gw hix
      rintro X ⟨A0, O1, gX⟩
      generalize wr.heap.size = q at *
      have k0 : X.cell? ⟨q, 0, none⟩ = some (iv s) := A0.out.cell (by omega)
      have k1 : X.cell? ⟨q, 1, none⟩ = some (iv d) := A0.out.cell (by omega)
      have j0 := A0.out.lt
      have j1 := (HM.out _ gX.out).lt
      have c0 := (HM.out _ gX.out).me
      obtain ⟨v', w', hrun, hown, hgr⟩ := OwnN.app 46 (O1.out.gr (Gr.refl X).drew) gX.out.drew ((m.me : Int), who, (k : Int), s, d) (by omega)
      have HR : Hid ((Builtin.append_ #[46, 46] 46 #[u, .slice (some ⟨X.heap.size, 0, none⟩) 1 1]).run Tryz.prog (X.alloc (.cells #[iv (m.me : Int), iv who, iv (k : Int), iv s, iv d] 114)).drew = .ok v' w') := hrun
      have HW := hide hown
      have HG := hide hgr
      clear hrun hown hgr
      go_region_law (refine step_append_eq rfl _ _ 46 46 rfl _ _ (by simp [Act.eval]) (by simp [Act.eval]) HR.out ?_)
      go_wp2_with fail
      all_goals
        go_roundw
        case rel => exact ⟨k + 1, _, rfl, by omega, by congr 1, by rw [HTK.out]; exact HW, HG⟩
        case measure => simp [intOf]; omega
    · have hki : decide ((k : Int) < 6) = false := decide_eq_false (by omega)
      have ek : k = 6 := by omega
      subst ek
      go_wp2_with fail
      go_ret
      exact ⟨_, rfl, O1.out, gw.out⟩

end Go.Proofs.YtfcknkanbcndjagGreatDoor
