/- THE PROGRAM'S Net: Path. -/
import Derived.Test.YtihamicnbihgnaePthB
namespace Go.Proofs.Ytihamicnbihgnae
open Go.RowKit
theorem hop_of (a b c : Int) (w : World) : (Instr.field 41 (.agg #[iv a, iv b, iv c]) 2).run Try.prog w = .ok (iv c) w := by kernel_rfl
attribute [local go_sem] Ext.all Ext.cell Ext.frozen Ext.lt Ext.lt1 Ext.lt2 Ext.ne Ext.ne' hop_of

def slLen : Value → Nat
  | .slice _ n _ => n
  | _ => 0
def hopZ (t : Tn) (z : Int) (x : Nat) : Int := (wayOf (t.nd x) z).2.2
/-- The program's Path: as the reference's, what it tells at its end aside. -/
def pathP (hop : Nat → Int) (z : Int) : Nat → Int → List Nat → List Nat × Bool
  | 0, _, out => (out, true)
  | f + 1, p, out => if 0 ≤ p ∧ p < 6 then (if p.toNat ∈ out then (out, flP true (p == z)) else pathP hop z f (hop p.toNat) (out ++ [p.toNat])) else (out, flP false (p == z))

set_option maxRecDepth 20000 in
set_option maxHeartbeats 8000000 in
theorem netPath_any {M : Nat → Prop} {B w : World} {p k : Nat} {q : Nat → Nat} {v : Value} {c : Nat → Nat → Nat} {t : Tn} (H : Ne M B w p k q v c t) (fr z : Int) {l : List Nat} {ok : Bool} (hl : pathP (hopZ t z) z 7 fr [] = (l, ok)) :
    Calls Try.prog 17 #[pv p, iv fr, iv z] w fun e w' => ∃ u, e = .returned (.tuple #[u, .bool ok]) ∧ OwnI w w' u l ∧ Gr w w' := by
  have HW := hide (fun (X : World) (g : Gr w X) (a : Int) => netWay_any (H.ext g) a z)
  have HP := hide hl
  clear H hl
  go_enter Try.func17, Try.ntmps17
  go_wp2_with fail
  go_loopw [8, 9] (fun v8 v9 wr => ∃ (f : Nat) (out : List Nat) (at_ : Int) (u : Value), u = v8 ∧ v9 = iv at_ ∧ Hid (pathP (hopZ t z) z f at_ out = (l, ok)) ∧ Hid (OwnI w wr u out) ∧ Hid (Gr w wr) ∧ Hid ((∀ y ∈ out, y < 6) ∧ out.Nodup ∧ f + out.length = 7)) (fun v8 _ _ => 7 - slLen v8)
  case atStart => exact ⟨7, [], fr, _, rfl, rfl, HP, OwnI.nil _ _, Gr.refl _, ⟨fun y hy => (by cases hy), List.nodup_nil, rfl⟩⟩
  case round =>
    clear HP
    obtain ⟨f, out, at_, u, rfl, rfl, HP, O1, gw, HO⟩ := hrel
    have hlen : out.length ≤ 6 := nodup_len 6 out HO.out.2.1 HO.out.1
    obtain ⟨f, rfl⟩ : ∃ f', f = f' + 1 := ⟨f - 1, by have := HO.out.2.2; omega⟩
    obtain ⟨ao, cp, hu, NA'⟩ := O1.out.shape
    have NA := hide NA'
    clear NA'
    subst hu
    by_cases hn : 0 ≤ at_ ∧ at_ < 6
    · have B1 : Hid (decide (0 ≤ at_ ∧ at_ < 6) = true) := decide_eq_true hn
      obtain ⟨x, rfl⟩ : ∃ x : Nat, at_ = (x : Int) := ⟨at_.toNat, by omega⟩
      have hx : x < 6 := by omega
      by_cases hin : x ∈ out
      · have HI := hide (contains_is (cp := cp) NA.out rfl (by omega) x (decide_eq_true hin))
        have HR : Hid ((out, flP true ((x : Int) == z)) = (l, ok)) := by
          have := HP.out
          rw [pathP, if_pos hn, Int.toNat_natCast, if_pos hin] at this
          exact this
        have h1 := congrArg Prod.fst HR.out
        have h2 := congrArg Prod.snd HR.out
        simp only at h1 h2
        subst h1
        obtain ⟨eb, e1⟩ : ∃ eb, ((x : Int) == z) = eb := ⟨_, rfl⟩
        rw [e1] at h2
        have H2 : Hid (eb = ok) := h2
        clear hn HR h2 HP hin HW HO
        go_wp2_with (first | (go_at_call 28; with_reducible refine (lnode_is B1.out _).mono ?_; rintro e w1 ⟨rfl, hw1⟩; have hw2 := hw1.symm; clear hw1; subst hw2) | (go_at_call 34; with_reducible refine HI.out.mono ?_; rintro e w1 ⟨rfl, hw1⟩; have hw2 := hw1.symm; clear hw1; subst hw2))
        rw [← H2.out]
        go_ret2
        exact ⟨_, rfl, O1.out, gw.out⟩
      · have HI := hide (contains_is (cp := cp) NA.out rfl (by omega) x (decide_eq_false hin))
        have HR : Hid (pathP (hopZ t z) z f (hopZ t z x) (out ++ [x]) = (l, ok)) := by
          have := HP.out
          rw [pathP, if_pos hn, Int.toNat_natCast, if_neg hin] at this
          exact this
        have HO2 : Hid ((∀ y ∈ out ++ [x], y < 6) ∧ (out ++ [x]).Nodup ∧ f + (out ++ [x]).length = 7) := by
          obtain ⟨o1, o2, o3⟩ := HO.out
          refine ⟨fun y hy => ?_, ?_, by rw [List.length_append, List.length_singleton]; omega⟩
          · rcases List.mem_append.1 hy with r | r
            · exact o1 y r
            · rw [List.mem_singleton.1 r]; exact hx
          · rw [List.nodup_append]
            refine ⟨o2, by simp, fun a ha b hb => ?_⟩
            rw [List.mem_singleton.1 hb]
            exact fun e => hin (e ▸ ha)
        have HWX : Hid (∀ X : World, Gr w X → Calls Try.prog 11 #[pv p, iv (x : Int), iv z] X fun e w' => ∃ s d, e = .returned (.agg #[iv s, iv d, iv (hopZ t z x)]) ∧ ∃ d' : Ext X, w' = d'.out) := fun X g => by
          refine (HW.out X g (x : Int)).mono fun e w' ⟨he, d', hd'⟩ => ⟨(wayOf (t.nd x) z).1, (wayOf (t.nd x) z).2.1, ?_, d', hd'⟩
          rw [he]
          unfold wayTn
          rw [if_pos hn, Int.toNat_natCast]
          rfl
        obtain ⟨v', w', hrun, hown, hgr⟩ := OwnI.app 55 O1.out gw.out x (by omega)
        have HRN := hide hrun
        have HOW := hide hown
        have HGR := hide hgr
        clear hrun hown hgr hn hin HP HW HO
        go_wp2_with (first | (go_at_call 28; with_reducible refine (lnode_is B1.out _).mono ?_; rintro e w1 ⟨rfl, hw1⟩; have hw2 := hw1.symm; clear hw1; subst hw2) | (go_at_call 34; with_reducible refine HI.out.mono ?_; rintro e w1 ⟨rfl, hw1⟩; have hw2 := hw1.symm; clear hw1; subst hw2) | (at_builtin; refine Lib.wpList_append_run _ rfl _ _ _ _ rfl _ _ rfl rfl _ _ HRN.out ?_) | (go_at_call 11; with_reducible refine (HWX.out _ HGR.out).mono ?_; rintro e _ ⟨s3, d3, rfl, x3, rfl⟩))
        go_roundw
        case rel => exact ⟨f, out ++ [x], hopZ t z x, _, rfl, rfl, HR, HOW.out.gr x3.gr, HGR.out.trans x3.gr, HO2⟩
        case measure =>
          obtain ⟨ao2, cp2, hv2, _⟩ := HOW.out.shape
          rw [hv2]
          simp [slLen]
          omega
    · have B1 : Hid (decide (0 ≤ at_ ∧ at_ < 6) = false) := decide_eq_false hn
      have HR : Hid ((out, flP false (at_ == z)) = (l, ok)) := by
        have := HP.out
        rw [pathP, if_neg hn] at this
        exact this
      have h1 := congrArg Prod.fst HR.out
      have h2 := congrArg Prod.snd HR.out
      simp only at h1 h2
      subst h1
      obtain ⟨eb, e1⟩ : ∃ eb, (at_ == z) = eb := ⟨_, rfl⟩
      rw [e1] at h2
      have H2 := hide h2
      clear hn HR HP HW HO h2
      go_wp2_with (go_at_call 28; with_reducible refine (lnode_is B1.out _).mono ?_; rintro e w1 ⟨rfl, hw1⟩; have hw2 := hw1.symm; clear hw1; subst hw2)
      rw [← H2.out]
      go_ret2
      exact ⟨_, rfl, O1.out, gw.out⟩

end Go.Proofs.Ytihamicnbihgnae
