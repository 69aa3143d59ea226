import Derived.Test.YthiojjkgodffnaeTw4
import Derived.Lib.AppendZerosOnto
import Derived.Lib.Overlaps
import Derived.Laws.Externs
import Derived.Laws.CopyOwn
import Derived.Test.YthiojjkgodffnaeNe17
/- NUMBERS OF NODES IN A LIST; handpostref.In. -/
namespace Go.Proofs.Ythiojjkgodffnae
open Go.RowKit
attribute [local go_sem] Ext.all Ext.cell Ext.frozen Ext.lt Ext.lt1 Ext.lt2 Ext.ne Ext.ne'

/-- A slice that reads as numbers. -/
def NmAt (w : World) (ao : Option Addr) (l : List Nat) : Prop := l = [] ∨ ∃ b o, ao = some ⟨b, o, none⟩ ∧ b < w.heap.size ∧ ∀ i (h : i < l.length), w.cell? ⟨b, o + i, none⟩ = some (iv ((l[i] : Nat) : Int))
theorem NmAt.gr {w w' : World} {ao : Option Addr} {l : List Nat} (h : NmAt w ao l) (k : Gr w w') : NmAt w' ao l := by
  rcases h with h | ⟨b, o, ha, hb, hc⟩
  · exact .inl h
  · exact .inr ⟨b, o, ha, Nat.lt_of_lt_of_le hb (Below.size k), fun i hi => (Below.cell k (p := ⟨b, o + i, none⟩) hb).trans (hc i hi)⟩
/-- A list of numbers that is younger than B. -/
def OwM (B w : World) (v : Value) (l : List Nat) : Prop := w.ownsRow B.heap.size 3 1 v l.length (l.map fun (n : Nat) => iv (n : Int))
theorem OwM.gr {B w w' : World} {v : Value} {l : List Nat} (h : OwM B w v l) (g : Gr w w') : OwM B w' v l := by
  refine ⟨h.1, ?_⟩
  rcases h.2 with hn | ⟨b, cap, cur, rfl, hb, hgg, rest⟩
  · exact .inl hn
  · exact .inr ⟨b, cap, cur, rfl, hb, by rw [g.block b (lt_of_block hgg)]; exact hgg, rest⟩
theorem OwM.nil (B w : World) : OwM B w (.slice none 0 0) [] := World.ownsRow_nil _ _ _ _
theorem OwM.shape {B w : World} {v : Value} {l : List Nat} (h : OwM B w v l) : ∃ ao c, v = .slice ao l.length c ∧ NmAt w ao l := by
  rcases h.2 with ⟨rfl, hn⟩ | ⟨g, cap, cur, rfl, hb, hg, hn, hc, hs, ht⟩
  · have : l = [] := List.eq_nil_of_length_eq_zero hn
    subst this
    exact ⟨none, 0, rfl, .inl rfl⟩
  · refine ⟨_, _, rfl, .inr ⟨g, 0, rfl, (Array.getElem?_eq_some_iff.1 hg).1, fun i hi => ?_⟩⟩
    have e : w.cell? ⟨g, 0 + i, none⟩ = (l.map fun (n : Nat) => iv (n : Int))[i]? := by
      rw [← ht, List.getElem?_take_of_lt (by omega)]
      simp [World.cell?, hg]
    rw [e]
    simp [hi]
theorem OwM.app {B X : World} {v : Value} {l : List Nat} (ty : TypeId) (hO : OwM B X v l) (g : Gr B X) (x : Nat) (hm : l.length ≤ 1000) :
    ∃ v' w', (Builtin.append_ #[34, 34] ty #[v, .slice (some ⟨X.heap.size, 0, none⟩) 1 1]).run Try.prog (X.alloc (.cells #[iv (x : Int)] 3)) = .ok v' w' ∧ OwM B w' v' (l ++ [x]) ∧ Gr B w' := by
  obtain ⟨i0, hi, hz0, hz1, hz2⟩ := info_parts Try.info3
  have hY := hO.gr ((Gr.refl X).alloc (.cells #[iv (x : Int)] 3))
  obtain ⟨v', w', h1, h2, h3, _⟩ := run_append_own (P := Try.prog) _ B.heap.size 34 ty 3 i0 _ 1 8 Try.underlying34 hi hz0 hz1 hz2 (by rfl) (by decide) v l.length (l.map fun (n : Nat) => iv (n : Int)) hY
      ⟨X.heap.size, 0, none⟩ 1 1 [iv (x : Int)] rfl
      (fun j u hj => by
        have hl : j < 1 := (List.getElem?_eq_some_iff.1 hj).1
        have : j = 0 := by omega
        subst this; simp at hj; subst hj; simp [Addr.add, go_sem])
      (by simp [Value.oneCell']) (by unfold maxLen; omega) (by omega) (by have := Below.size g; simp; omega)
  refine ⟨v', w', h1, ?_, (g.alloc _).grown h3 (fun k hk => (hO.lt k hk).1)⟩
  unfold OwM
  rw [List.map_append, List.length_append]
  exact h2

set_option maxRecDepth 20000 in
set_option maxHeartbeats 8000000 in
theorem rin_is {w : World} {ao : Option Addr} {c : Nat} {l : List Nat} (H : NmAt w ao l) (hm : l.length ≤ 1000) (n : Nat) {b : Bool} (hb : decide (n ∈ l) = b) :
    Calls Try.prog 47 #[.slice ao l.length c, iv (n : Int)] w fun e w' => e = .returned (.bool b) ∧ w' = w := by
  have HB := hide hb
  clear hb
  go_enter Try.func47, Try.ntmps47
  go_wp2_with fail
  go_loopw [5] (fun v5 wr => ∃ k : Nat, k ≤ l.length ∧ v5 = .int .i64 (k : Int) ∧ Hid (wr = w) ∧ Hid (∀ i (h : i < l.length), i < k → l[i] ≠ n)) (fun v5 _ => (l.length - intOf v5).toNat)
  case atStart => exact ⟨0, by omega, rfl, rfl, fun i h hi => by omega⟩
  case round =>
    obtain ⟨k, hkn, rfl, hwr, HN⟩ := hrel
    by_cases hk : k < l.length
    · have hki : decide ((k : Int) < (l.length : Int)) = true := decide_eq_true (by omega)
      have hk0 : (k : Int) < (l.length : Int) := by omega
      have wk : IntKind.i64.wrap ((k : Int) + 1) = (k : Int) + 1 := by rw [IntKind.wrap_i64]; omega
      rcases H with h0 | ⟨bb, o, rfl, hbb, hc⟩
      · exfalso; rw [h0] at hk; simp at hk
      have c0 := hc k hk
      rw [← hwr.out] at c0 hbb
      have HE : Hid (l[k] = n → b = true) := fun e => by rw [← HB.out]; exact decide_eq_true (by rw [← e]; exact List.getElem_mem hk)
      have HF : Hid (l[k] ≠ n → ∀ i (h : i < l.length), i < k + 1 → l[i] ≠ n) := fun e i h hi => by
        by_cases q : i = k
        · subst q; exact e
        · exact HN.out i h (by omega)
      generalize hlk : l[k] = lk at *
      clear hc hlk HN
      by_cases e : lk = n
      · have e1 : ((lk : Int) == (n : Int)) = true := by simp; omega
        have hbt := HE.out e
        subst hbt
        clear HE HF e
        go_wp2_with fail
        go_ret
        exact ⟨rfl, hwr.out⟩
      · have e1 : ((lk : Int) == (n : Int)) = false := by simp; omega
        have HF2 := hide (HF.out e)
        clear HE HF e
        go_wp2_with fail
        go_roundw
        case rel => exact ⟨k + 1, by omega, by congr 1, hwr, HF2⟩
        case measure => simp [intOf]; omega
    · have hki : decide ((k : Int) < (l.length : Int)) = false := decide_eq_false (by omega)
      have hbf : b = false := by
        rw [← HB.out]
        refine decide_eq_false fun hm => ?_
        obtain ⟨i, hi, e⟩ := List.mem_iff_getElem.1 hm
        exact HN.out i hi (by omega) e
      subst hbf
      go_wp2_with fail
      go_ret
      exact ⟨rfl, hwr.out⟩

end Go.Proofs.Ythiojjkgodffnae

/- THE REFERENCE'S Town: Path. -/
namespace Go.Proofs.Ythiojjkgodffnae
open Go.RowKit
attribute [local go_sem] Ext.all Ext.cell Ext.frozen Ext.lt Ext.lt1 Ext.lt2 Ext.ne Ext.ne' hop_of

set_option maxRecDepth 20000 in
set_option maxHeartbeats 8000000 in
theorem wpath_ok {M : Nat → Prop} {B w : World} {p : Nat} {q : Nat → Nat} {v o : Value} {t : Tn} (H : Tw M B w p q v o t) (fr z : Int) {l : List Nat} {ok : Bool} (hl : pathF (hopZ t z) z 7 fr [] = (l, ok)) :
    Calls Try.prog 16 #[pv p, iv fr, iv z] w fun e w' => ∃ u, e = .returned (.tuple #[u, .bool ok]) ∧ OwM w w' u l ∧ Gr w w' := by
  have HW := hide (fun (X : World) (g : Gr w X) (a : Int) => wway_any (H.ext g) a z)
  have HP := hide hl
  clear H hl
  go_enter Try.func16, Try.ntmps16
  go_wp2_with fail
  go_loopw [8, 9] (fun v8 v9 wr => ∃ (f : Nat) (out : List Nat) (at_ : Int) (u : Value), u = v8 ∧ v9 = iv at_ ∧ Hid (pathF (hopZ t z) z f at_ out = (l, ok)) ∧ Hid (OwM w wr u out) ∧ Hid (Gr w wr) ∧ Hid ((∀ y ∈ out, y < 6) ∧ out.Nodup ∧ f + out.length = 7)) (fun v8 _ _ => 7 - slLen v8)
  case atStart => exact ⟨7, [], fr, _, rfl, rfl, HP, OwM.nil _ _, Gr.refl _, ⟨fun y hy => (by cases hy), List.nodup_nil, rfl⟩⟩
  case round =>
    clear HP
    obtain ⟨f, out, at_, u, rfl, rfl, HP, O1, gw, HO⟩ := hrel
    have hlen : out.length ≤ 6 := nodup_len 6 out HO.out.2.1 HO.out.1
    obtain ⟨f, rfl⟩ : ∃ f', f = f' + 1 := ⟨f - 1, by have := HO.out.2.2; omega⟩
    obtain ⟨ao, cp, hu, NA'⟩ := O1.out.shape
    have NA := hide NA'
    clear NA'
    subst hu
    by_cases hn : 0 ≤ at_ ∧ at_ < 6
    · have B1 : Hid (decide (0 ≤ at_ ∧ at_ < 6) = true) := decide_eq_true hn
      obtain ⟨x, rfl⟩ : ∃ x : Nat, at_ = (x : Int) := ⟨at_.toNat, by omega⟩
      have hx : x < 6 := by omega
      by_cases hin : x ∈ out
      · have HI := hide (rin_is (c := cp) NA.out (by omega) x (decide_eq_true hin))
        have HR : Hid ((out, decide ((x : Int) = z)) = (l, ok)) := by
          have := HP.out
          rw [pathF, if_pos hn, Int.toNat_natCast, if_pos hin] at this
          exact this
        have h1 := congrArg Prod.fst HR.out
        have h2 := congrArg Prod.snd HR.out
        simp only at h1 h2
        have e1 : ((x : Int) == z) = ok := by rw [← h2]; rfl
        subst h1
        clear hn HR h2 HP hin HW HO
        go_wp2_with (first | (go_at_call 29; with_reducible refine (isNode_is B1.out _).mono ?_; rintro e w1 ⟨rfl, hw1⟩; have hw2 := hw1.symm; clear hw1; subst hw2) | (go_at_call 47; with_reducible refine HI.out.mono ?_; rintro e w1 ⟨rfl, hw1⟩; have hw2 := hw1.symm; clear hw1; subst hw2))
        go_ret2
        exact ⟨_, rfl, O1.out, gw.out⟩
      · have HI := hide (rin_is (c := cp) NA.out (by omega) x (decide_eq_false hin))
        have HR : Hid (pathF (hopZ t z) z f (hopZ t z x) (out ++ [x]) = (l, ok)) := by
          have := HP.out
          rw [pathF, if_pos hn, Int.toNat_natCast, if_neg hin] at this
          exact this
        have HO2 : Hid ((∀ y ∈ out ++ [x], y < 6) ∧ (out ++ [x]).Nodup ∧ f + (out ++ [x]).length = 7) := by
          obtain ⟨o1, o2, o3⟩ := HO.out
          refine ⟨fun y hy => ?_, ?_, by rw [List.length_append, List.length_singleton]; omega⟩
          · rcases List.mem_append.1 hy with r | r
            · exact o1 y r
            · rw [List.mem_singleton.1 r]; exact hx
          · rw [List.nodup_append]
            refine ⟨o2, by simp, fun a ha b hb => ?_⟩
            rw [List.mem_singleton.1 hb]
            exact fun e => hin (e ▸ ha)
        have HWX : Hid (∀ X : World, Gr w X → Calls Try.prog 19 #[pv p, iv (x : Int), iv z] X fun e w' => ∃ s d, e = .returned (.agg #[iv s, iv d, iv (hopZ t z x)]) ∧ ∃ d' : Ext X, w' = d'.out) := fun X g => by
          refine (HW.out X g (x : Int)).mono fun e w' ⟨he, d', hd'⟩ => ⟨(wayOf (t.nd x) z).1, (wayOf (t.nd x) z).2.1, ?_, d', hd'⟩
          rw [he]
          unfold wayTn
          rw [if_pos hn, Int.toNat_natCast]
          rfl
        obtain ⟨v', w', hrun, hown, hgr⟩ := OwM.app 34 O1.out gw.out x (by omega)
        have HRN := hide hrun
        have HOW := hide hown
        have HGR := hide hgr
        clear hrun hown hgr hn hin HP HW HO
        go_wp2_with (first | (go_at_call 29; with_reducible refine (isNode_is B1.out _).mono ?_; rintro e w1 ⟨rfl, hw1⟩; have hw2 := hw1.symm; clear hw1; subst hw2) | (go_at_call 47; with_reducible refine HI.out.mono ?_; rintro e w1 ⟨rfl, hw1⟩; have hw2 := hw1.symm; clear hw1; subst hw2) | (at_builtin; refine Lib.wpList_append_run _ rfl _ _ _ _ rfl _ _ rfl rfl _ _ HRN.out ?_) | (go_at_call 19; with_reducible refine (HWX.out _ HGR.out).mono ?_; rintro e _ ⟨s3, d3, rfl, x3, rfl⟩))
        go_roundw
        case rel => exact ⟨f, out ++ [x], hopZ t z x, _, rfl, rfl, HR, HOW.out.gr x3.gr, HGR.out.trans x3.gr, HO2⟩
        case measure =>
          obtain ⟨ao2, cp2, hv2, _⟩ := HOW.out.shape
          rw [hv2]
          simp [slLen]
          omega
    · have B1 : Hid (decide (0 ≤ at_ ∧ at_ < 6) = false) := decide_eq_false hn
      have HR : Hid ((out, true) = (l, ok)) := by
        have := HP.out
        rw [pathF, if_neg hn] at this
        exact this
      have h1 := congrArg Prod.fst HR.out
      have h2 := congrArg Prod.snd HR.out
      simp only at h1 h2
      subst h1
      subst h2
      clear hn HR HP HW HO
      go_wp2_with (go_at_call 29; with_reducible refine (isNode_is B1.out _).mono ?_; rintro e w1 ⟨rfl, hw1⟩; have hw2 := hw1.symm; clear hw1; subst hw2)
      go_ret2
      exact ⟨_, rfl, O1.out, gw.out⟩

end Go.Proofs.Ythiojjkgodffnae

/- THE REFERENCE'S Town: Map.Set inside it. -/
namespace Go.Proofs.Ythiojjkgodffnae
open Go.RowKit
attribute [local go_sem] Ext.all Ext.cell Ext.frozen Ext.lt Ext.lt1 Ext.lt2 Ext.ne Ext.ne'

/-- A cost is set. -/
theorem Tw.setCst {M : Nat → Prop} {B w : World} {p : Nat} {q : Nat → Nat} {v o : Value} {t : Tn} (h : Tw M B w p q v o t) {a b : Nat} (ha : a < 6) (hb : b < 6) (n : Int) : Tw M B (w.setCell ⟨p, a * 6 + b, none⟩ (iv n)) p q v o { t with cst := cstUp t.cst a b n } := by
  refine ⟨h.kp.set h.nop _ _, h.bd, ?_, ⟨fun x hx => ?_, h.six.inj⟩, h.nw.keep (fun k e => Below.heap_setCell w ⟨p, a * 6 + b, none⟩ (iv n) k (h.vp k e).1), h.nop, h.noq, h.nov⟩
  · refine h.blk.set fun i hi => ?_
    unfold twF cstUp
    by_cases e1 : i < 36
    · rw [if_pos e1, if_pos e1]
      by_cases e2 : i = a * 6 + b
      · rw [if_pos e2]
        exact congrArg iv (if_pos ⟨by omega, by omega⟩)
      · rw [if_neg e2]
        exact congrArg iv (if_neg (fun q => e2 (by omega)))
    · rw [if_neg e1, if_neg e1, if_neg (show ¬ i = a * 6 + b by omega)]
  · exact (Below.heap_setCell w ⟨p, a * 6 + b, none⟩ (iv n) (q x) (h.pq x hx)).trans (h.six.at_ x hx)

set_option maxRecDepth 20000 in
set_option maxHeartbeats 8000000 in
theorem wset_ok {M : Nat → Prop} {B w : World} {p : Nat} {q : Nat → Nat} {v o : Value} {t : Tn} (H : Tw M B w p q v o t) {a b : Nat} {n : Int} (ha : a < 6) (hb : b < 6) (hne : a ≠ b) (h0 : 0 ≤ n) (h15 : n ≤ 15) :
    Calls Try.prog 39 #[pv p, iv a, iv b, iv n] w fun e w' => e = .returned (iv 0) ∧ Tw M B w' p q v o { t with cst := cstUp (cstUp t.cst a b n) b a n } ∧ Wr p w w' := by
  have hp := H.blk.lt
  have fz := H.blk.free
  have c0 := H.cst ha hb
  have c1 := H.cst hb ha
  have hai : (a : Int) < 6 := by omega
  have hbi : (b : Int) < 6 := by omega
  have B1 : Hid (decide (0 ≤ (a : Int) ∧ (a : Int) < 6) = true) := decide_eq_true ⟨by omega, hai⟩
  have B2 : Hid (decide (0 ≤ (b : Int) ∧ (b : Int) < 6) = true) := decide_eq_true ⟨by omega, hbi⟩
  have g1 : ((a : Int) == (b : Int)) = false := by simp; omega
  have g2 : decide (n < 0) = false := decide_eq_false (by omega)
  have g3 : decide (15 < n) = false := decide_eq_false (by omega)
  have SM := hide ((H.setCst ha hb n).setCst hb ha n)
  have SW := hide (((Wr.refl p w).set (a * 6 + b) (iv n)).set (b * 6 + a) (iv n))
  have hoff : a * 6 + b ≠ b * 6 + a := by omega
  clear H
  go_enter Try.func39, Try.ntmps39
  go_wp2_with (first | (go_at_call 29; with_reducible refine (isNode_is B1.out _).mono ?_; rintro e w1 ⟨rfl, hw1⟩; have hw2 := hw1.symm; clear hw1; subst hw2) | (go_at_call 29; with_reducible refine (isNode_is B2.out _).mono ?_; rintro e w1 ⟨rfl, hw1⟩; have hw2 := hw1.symm; clear hw1; subst hw2))
  go_ret
  exact ⟨rfl, SM.out, SW.out⟩
set_option maxRecDepth 20000 in
set_option maxHeartbeats 8000000 in
theorem wset_bad {w : World} {p : Nat} {a b n : Int} (h : ¬ (isN a ∧ isN b ∧ a ≠ b ∧ 0 ≤ n ∧ n ≤ 15)) : Calls Try.prog 39 #[pv p, iv a, iv b, iv n] w fun e w' => e = .returned (iv 1) ∧ w' = w := by
  obtain ⟨b1, B1⟩ : ∃ b1, Hid (decide (0 ≤ a ∧ a < 6) = b1) := ⟨_, rfl⟩
  obtain ⟨b2, B2⟩ : ∃ b2, Hid (decide (0 ≤ b ∧ b < 6) = b2) := ⟨_, rfl⟩
  have HB : Hid (b1 = false ∨ b2 = false ∨ (a == b) = true ∨ decide (n < 0) = true ∨ decide (15 < n) = true) := by
    unfold Hid
    rw [← B1.out, ← B2.out]
    simp only [decide_eq_true_eq, decide_eq_false_iff_not, beq_iff_eq]
    omega
  clear h
  cases b1
  · go_enter Try.func39, Try.ntmps39
    go_wp2_with (go_at_call 29; with_reducible refine (isNode_is B1.out _).mono ?_; rintro e w1 ⟨rfl, hw1⟩; have hw2 := hw1.symm; clear hw1; subst hw2)
    go_ret
    exact ⟨rfl, rfl⟩
  · cases b2
    · go_enter Try.func39, Try.ntmps39
      go_wp2_with (first | (go_at_call 29; with_reducible refine (isNode_is B1.out _).mono ?_; rintro e w1 ⟨rfl, hw1⟩; have hw2 := hw1.symm; clear hw1; subst hw2) | (go_at_call 29; with_reducible refine (isNode_is B2.out _).mono ?_; rintro e w1 ⟨rfl, hw1⟩; have hw2 := hw1.symm; clear hw1; subst hw2))
      go_ret
      exact ⟨rfl, rfl⟩
    · cases g1 : (a == b)
      · cases g2 : decide (n < 0)
        · have g3 : decide (15 < n) = true := by have := HB.out; simpa [g1, g2] using this
          clear HB
          go_enter Try.func39, Try.ntmps39
          go_wp2_with (first | (go_at_call 29; with_reducible refine (isNode_is B1.out _).mono ?_; rintro e w1 ⟨rfl, hw1⟩; have hw2 := hw1.symm; clear hw1; subst hw2) | (go_at_call 29; with_reducible refine (isNode_is B2.out _).mono ?_; rintro e w1 ⟨rfl, hw1⟩; have hw2 := hw1.symm; clear hw1; subst hw2))
          go_ret
          exact ⟨rfl, rfl⟩
        · clear HB
          go_enter Try.func39, Try.ntmps39
          go_wp2_with (first | (go_at_call 29; with_reducible refine (isNode_is B1.out _).mono ?_; rintro e w1 ⟨rfl, hw1⟩; have hw2 := hw1.symm; clear hw1; subst hw2) | (go_at_call 29; with_reducible refine (isNode_is B2.out _).mono ?_; rintro e w1 ⟨rfl, hw1⟩; have hw2 := hw1.symm; clear hw1; subst hw2))
          go_ret
          exact ⟨rfl, rfl⟩
      · clear HB
        go_enter Try.func39, Try.ntmps39
        go_wp2_with (first | (go_at_call 29; with_reducible refine (isNode_is B1.out _).mono ?_; rintro e w1 ⟨rfl, hw1⟩; have hw2 := hw1.symm; clear hw1; subst hw2) | (go_at_call 29; with_reducible refine (isNode_is B2.out _).mono ?_; rintro e w1 ⟨rfl, hw1⟩; have hw2 := hw1.symm; clear hw1; subst hw2))
        go_ret
        exact ⟨rfl, rfl⟩

end Go.Proofs.Ythiojjkgodffnae
