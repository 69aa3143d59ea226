import Derived.Test.YtklkminlkfnidacDoorT1
import Derived.Test.YtklkminlkfnidacDoorT9a
/- CONTRACT OF trie's Size. -/
namespace Go.Proofs.YtklkminlkfnidacDoor
open Go.RowKit
attribute [local go_sem] Ext.all Ext.cell Ext.frozen Ext.lt Ext.lt1 Ext.lt2 Ext.ne Ext.ne'

theorem size_any : ∀ (T : TT) (w : World) (q : Nat), Tr w T q → T.leaves.length ≤ 1000 →
    Calls Tryd.prog 18 #[pv q] w fun e w' => e = .returned (.int .i64 T.leaves.length) ∧ ∃ d : Ext w, w' = d.out
  | .leaf l b hp, w, q, h, hm => by
    have HL := hide (leaf_any h)
    clear h
    go_enter Tryd.func18, Tryd.ntmps18
    go_wp2_with (go_at_call 37; refine HL.out.mono ?_; rintro e _ ⟨rfl, d1, rfl⟩)
    go_ret
    exact ⟨rfl, _, rfl⟩
  | .node l b lo hi, w, q, h, hm => by
    have HL := hide (leaf_any h)
    have hq := h.lt
    obtain ⟨x, y, c3, c4, hlo, hhi⟩ := h.nodec
    have hm2 : lo.leaves.length + hi.leaves.length ≤ 1000 := by simpa [TT.leaves] using hm
    have H1 := hide (fun (d : Ext w) => size_any lo d.out x (hlo.gr d.gr) (by omega))
    have H2 := hide (fun (d : Ext w) => size_any hi d.out y (hhi.gr d.gr) (by omega))
    have HE : Hid ((TT.node l b lo hi).leaves.length = lo.leaves.length + hi.leaves.length) := by unfold Hid; simp [TT.leaves]
    clear h hlo hhi hm
    generalize lo.leaves.length = n1 at *
    generalize hi.leaves.length = n2 at *
    go_enter Tryd.func18, Tryd.ntmps18
    go_wp2_with (go_at_call 37; refine HL.out.mono ?_; rintro e _ ⟨rfl, d1, rfl⟩)
    refine wp_region_ext_of (by kernel_rfl) (by kernel_rfl) ?_
    repeat (go_big_quiet_step (first | (go_at_call 18; with_reducible exact Calls.ext_of (H1.out _)) | (go_at_call 18; with_reducible exact Calls.ext_of (H2.out _))))
    refine wpQuiet_nil ?_
    rintro _ ⟨d2, rfl⟩
    go_wp2
    go_ret
    exact ⟨ret_int (by rw [HE.out]; omega), _, rfl⟩

end Go.Proofs.YtklkminlkfnidacDoor

/- FOR THE LAWS: Size. -/
namespace Go.Proofs.YtklkminlkfnidacDoor
open Go.RowKit
attribute [local go_sem] Ext.all Ext.cell Ext.frozen Ext.lt Ext.lt1 Ext.lt2 Ext.ne Ext.ne'

theorem size_gr {B : World} {T : TT} {q n : Nat} (h : Tr B T q) (e : T.leaves.length = n) (hm : n ≤ 1000) (wX : World) (gX : Gr B wX) :
    Calls Tryd.prog 18 #[pv q] wX fun e w' => e = .returned (.int .i64 n) ∧ Gr wX w' := by
  subst e
  refine (size_any T wX q (h.gr gX) hm).mono ?_
  rintro e _ ⟨rfl, d, rfl⟩
  exact ⟨rfl, d.gr⟩

end Go.Proofs.YtklkminlkfnidacDoor
