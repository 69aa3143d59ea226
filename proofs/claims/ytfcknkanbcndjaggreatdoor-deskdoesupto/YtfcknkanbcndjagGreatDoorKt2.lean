import Derived.Test.YtfcknkanbcndjagGreatDoorWk2
import Derived.Test.YtfcknkanbcndjagGreatDoorWg1
import Derived.Test.YtfcknkanbcndjagGreatDoorKt5
import Derived.Test.YtfcknkanbcndjagGreatDoorDkText
import Derived.Lib.CutLaws
import Derived.Lib.TrimByte
import Derived.Test.YtfcknkanbcndjagGreatDoorDkSay
/- FOR THE LAWS OF LETTERS: a Post, a Town, and walks beside them. -/
namespace Go.Proofs.YtfcknkanbcndjagGreatDoor
open Go.RowKit

section
variable {M : Nat → Prop} {B w w' : World} {T : Nat} {S : Nat → Prop} {c : Nat → Nat → Nat} {t : Tn} {n : Nat} {rs : List Rt}
theorem Tq.go (H : Tq M B w T S c t n rs) (ho : Ows rs) (fr a : Int) (sm : Bool) {l : List Nat} {kk ee : Int} (hl : goN (letH t rs a) (fun u v => (c u v : Int)) 7 fr [] 0 = (l, kk, ee)) : Calls Tryz.prog 99 #[pv T, iv fr, iv a, .bool sm] w fun e w' => TripO w w' e l kk ee := by
  obtain ⟨Q, V, ao, cp, h, hc, hr, e⟩ := H
  exact wgo_any h.h hr ho h.a fr a sm hl
end
/-- The trip of a letter, whatever its address: where nobody owns it, it stays where it is. -/
theorem trip_any {t : Tn} {c : Nat → Nat → Nat} (H : TnA t c) {rs : List Rt} (ho : Ows rs) (a : Int) {x : Nat} (hx : x < 6) :
    (lookL rs a = -1 ∧ goN (letH t rs a) (fun u v => (c u v : Int)) 7 (x : Int) [] 0 = ([x], 0, -1)) ∨
    ∃ (z : Nat) (l : List Nat) (e : Nat), z < 6 ∧ lookL rs a = (z : Int) ∧ Trip t c z x l e ∧ goN (letH t rs a) (fun u v => (c u v : Int)) 7 (x : Int) [] 0 = (l, ((sumC c l (l.length - 1) : Nat) : Int), if e = z then (z : Int) else -1) := by
  rcases Ows.look ho.hop a with q | q
  · exact .inl ⟨q, go_none _ hx (let_none ho q x)⟩
  · obtain ⟨z, hz⟩ : ∃ z : Nat, lookL rs a = (z : Int) := ⟨(lookL rs a).toNat, by have := q.1; omega⟩
    have hz6 : z < 6 := by have := q.2; omega
    obtain ⟨l, e, tr⟩ := trip_of H hx hz6
    refine .inr ⟨z, l, e, hz6, hz, tr, ?_⟩
    rw [goN_congr (g := hopT t z) (fun y hy => let_own ho hz6 hz hy), tr.go H hz6]
/-- By the tables of one time no letter goes round, whatever links cost. -/
theorem go_straight {t0 : Tn} {c0 : Nat → Nat → Nat} (A0 : TnA t0 c0) {rs0 : List Rt} (h0 : Ows rs0) (cs : Nat → Nat → Int) (fr a : Int) : (goN (letH t0 rs0 a) cs 7 fr [] 0).2.2 ≠ -2 := by
  rw [(goN_free (cs := cs) (ds := fun u v => (c0 u v : Int)) 7 fr [] 0 0).2]
  by_cases hf : isN fr
  · obtain ⟨x, rfl⟩ : ∃ x : Nat, fr = (x : Int) := ⟨fr.toNat, by have := hf.1; omega⟩
    rcases trip_any A0 h0 a (x := x) (by have := hf.2; omega) with ⟨_, q⟩ | ⟨z, l, e, _, _, _, q⟩
    · rw [q]; show (-1 : Int) ≠ -2; decide
    · rw [q]
      by_cases r : e = z
      · show (if e = z then (z : Int) else -1) ≠ -2
        rw [if_pos r]; omega
      · show (if e = z then (z : Int) else -1) ≠ -2
        rw [if_neg r]; decide
  · rw [go_out _ _ hf]; decide
section
variable {M : Nat → Prop} {B w w' : World} {X P : Nat} {SW S : Nat → Prop} {c : Nat → Nat → Nat} {t : Tn} {n : Nat} {rs : List Rt} {t0 : Tn} {c0 : Nat → Nat → Nat} {rs0 : List Rt} {sm : Bool}
/-- A letter by tables that were made when the net was t0, the owners rs0; the links cost c now. -/
theorem Wq.go (HW : Wq w X P SW (tabL t0 rs0 sm)) (H : Pq M B w P S c t n rs) (A0 : TnA t0 c0) (h0 : Ows rs0) (fr a : Int) {l : List Nat} {kk ee : Int} (hl : goN (letH t0 rs0 a) (fun u v => (c u v : Int)) 7 fr [] 0 = (l, kk, ee)) : Calls Tryz.prog 13 #[pv X, iv fr, iv a] w fun e w' => TripO w w' e l kk ee := by
  refine walkGo_any HW H (fun x _ => (tabL_look A0 h0.tab sm x a).1) fr a (fun e => ?_) ?_
  · have := go_straight A0 h0 (fun u v => (c u v : Int)) fr a
    rw [hl] at this
    exact this e
  rw [← hl]
  congr 1
  funext x
  exact (tabL_look A0 h0.tab sm x a).2
end

end Go.Proofs.YtfcknkanbcndjagGreatDoor

/- BOUNDS OF A TRIP. -/
namespace Go.Proofs.YtfcknkanbcndjagGreatDoor

theorem sumC_le {c : Nat → Nat → Nat} (h : Lk c) (l : List Nat) : ∀ k, sumC c l k ≤ 15 * k
  | 0 => by simp [sumC]
  | k + 1 => by
    have ih := sumC_le h l k
    unfold sumC
    split
    · have := h.le (l[k]'(by omega)) l[k + 1]
      omega
    · omega
/-- A trip's nodes, cost and end. -/
theorem trip_bd {t : Tn} {c : Nat → Nat → Nat} (H : TnA t c) {rs : List Rt} (ho : Ows rs) (a fr : Int) {l : List Nat} {kk ee : Int} (e : goN (letH t rs a) (fun u v => (c u v : Int)) 7 fr [] 0 = (l, kk, ee)) : l.length ≤ 6 ∧ (∀ y ∈ l, y < 6) ∧ i64B kk ∧ i64B ee := by
  by_cases hf : isN fr
  · obtain ⟨x, rfl⟩ := Int.eq_ofNat_of_zero_le hf.1
    have hx : x < 6 := by omega
    rcases trip_any H ho a hx with ⟨_, q⟩ | ⟨z, l', e', hz, _, ht, q⟩
    · rw [q] at e
      simp only [Prod.mk.injEq] at e
      obtain ⟨rfl, rfl, rfl⟩ := e
      exact ⟨by simp, by simpa using hx, ⟨by decide, by decide⟩, ⟨by decide, by decide⟩⟩
    · rw [q] at e
      simp only [Prod.mk.injEq] at e
      obtain ⟨rfl, rfl, rfl⟩ := e
      have := sumC_le H.s.tc.lk l' (l'.length - 1)
      have h6 := ht.len
      refine ⟨h6, ht.lt, i64_of ⟨by omega, by omega⟩, i64_of ?_⟩
      split <;> constructor <;> omega
  · rw [go_out _ _ hf] at e
    simp only [Prod.mk.injEq] at e
    obtain ⟨rfl, rfl, rfl⟩ := e
    exact ⟨by simp, by simp, ⟨by decide, by decide⟩, ⟨by decide, by decide⟩⟩

end Go.Proofs.YtfcknkanbcndjagGreatDoor

/- CONTRACT OF the program's talk: letter. -/
namespace Go.Proofs.YtfcknkanbcndjagGreatDoor
open Go.RowKit
attribute [local go_sem] Ext.all Ext.cell Ext.frozen Ext.lt Ext.lt1 Ext.lt2 Ext.ne Ext.ne'
/-- Numbers put behind two that were just made. -/
theorem app_two (Y : World) (a b : Int) (ty : TypeId) {ao : Option Addr} {cp : Nat} {l : List Nat} (hl : NmAt (Y.alloc (.cells #[iv a, iv b] 3)) ao l) (hm : l.length ≤ 1000) (hc : l.length ≤ cp) :
    ∃ v' w', (Builtin.append_ #[34, 34] ty #[.slice (some ⟨Y.heap.size, 0, none⟩) 2 2, .slice ao l.length cp]).run Tryz.prog (Y.alloc (.cells #[iv a, iv b] 3)) = .ok v' w' ∧ OwnV 3 Y w' v' ((a :: b :: l.map fun (n : Nat) => (n : Int)).map iv) ∧ Gr Y w' := by
  obtain ⟨i0, hi, hz0, hz1, hz2⟩ := info_parts Tryz.info3
  have hY := heap_alloc_new Y (.cells #[iv a, iv b] 3)
  have hO : (Y.alloc (.cells #[iv a, iv b] 3)).ownsRow Y.heap.size 3 1 (.slice (some ⟨Y.heap.size, 0, none⟩) 2 2) 2 [iv a, iv b] :=
    ⟨rfl, .inr ⟨Y.heap.size, 2, #[iv a, iv b], rfl, Nat.le_refl _, hY, Nat.le_refl _, by unfold maxLen; omega, rfl, rfl⟩⟩
  have hg : Gr Y (Y.alloc (.cells #[iv a, iv b] 3)) := (Gr.refl Y).alloc _
  by_cases h0 : l = []
  · subst h0
    refine ⟨.slice (some ⟨Y.heap.size, 0, none⟩) 2 2, Y.alloc (.cells #[iv a, iv b] 3), ?_, hO, hg⟩
    cases ao <;> simp [Builtin.append_, run_underlying Tryz.underlying34, sizeOf, typeInfo, hi, Builtin.lenOf, Builtin.firstCells, loadCells, loadCellsFrom, storeCells]
  · rcases hl with h | ⟨q, o, rfl, hq, hcs⟩
    · exact absurd h h0
    obtain ⟨v', w', h1, h2, h3, _⟩ := run_append_own (P := Tryz.prog) _ Y.heap.size 34 ty 3 i0 _ 1 8 Tryz.underlying34 hi hz0 hz1 hz2 (by rfl) (by decide) _ 2 [iv a, iv b] hO
      ⟨q, o, none⟩ l.length cp (l.map fun (n : Nat) => iv (n : Int)) (by simp)
      (fun j u hj => by
        rw [List.getElem?_map, Option.map_eq_some_iff] at hj
        obtain ⟨y, hy, rfl⟩ := hj
        obtain ⟨hj', rfl⟩ := List.getElem?_eq_some_iff.1 hy
        rw [Addr.add_lit]
        exact hcs j hj')
      (by intro u hu; obtain ⟨y, _, rfl⟩ := List.mem_map.1 hu; rfl) (by unfold maxLen; omega) (by omega) (by simp)
    refine ⟨v', w', h1, ?_, hg.grown h3 (fun k hk => by cases hk; exact Nat.le_refl _)⟩
    unfold OwnV
    have e : (a :: b :: l.map fun (n : Nat) => (n : Int)).map iv = [iv a, iv b] ++ l.map fun (n : Nat) => iv (n : Int) := by simp
    rw [e]
    have e2 : ([iv a, iv b] ++ l.map fun (n : Nat) => iv (n : Int)).length = 2 + l.length := by simp; omega
    rw [e2]
    exact h2
section
variable {W : World} {M : Nat → Prop} {B w w' : World} {t P : Nat} {S S' : Nat → Prop} {v v' : Value} {s s' : Dk} {n n' : Nat} {told told' : Tx}
set_option maxRecDepth 20000 in
set_option maxHeartbeats 8000000 in
/-- The program's letter. -/
theorem Td.letter (H : Td W M B w t P S v s n told) (hL : Lb W) (fr x : Int) (h1 : told.length ≤ 2900000) :
    Calls Tryz.prog 86 #[pv t, iv fr, iv x] w fun e w' => e = .returned (.tuple #[]) ∧ ∃ v', Td W M B w' t P S v' s n (told ++ toldA s (.letter fr x)) ∧ Chg w w' (ownK t v) (ownK t v') := by
  have HE : Hid (toldA s (.letter fr x) = trpT (goN (letH s.t s.rs x) (fun u v => (s.c u v : Int)) 7 fr [] 0)) := rfl
  rw [HE.out]
  clear HE
  obtain ⟨l, kk, ee, hl⟩ : ∃ l kk ee, goN (letH s.t s.rs x) (fun u v => (s.c u v : Int)) 7 fr [] 0 = (l, kk, ee) := ⟨_, _, _, rfl⟩
  obtain ⟨hl6, hlt, hkk, hee⟩ := trip_bd H.post.a H.post.ows x fr hl
  have HN := hide (walkNew_any H.post (hL.gr H.gW).t64 true)
  have HG : Hid (∀ V, Gr w V → ∀ X SW, Wq V X P SW (tabL s.t s.rs true) → Calls Tryz.prog 13 #[pv X, iv fr, iv x] V fun e w' => TripO V w' e l kk ee) := fun V g X SW hw => hw.go (H.post.gr g) H.post.a H.post.ows fr x hl
  rw [hl]
  have HT : Hid (trpT (l, kk, ee) = sayD ([116, 114, 105, 112] :: (ee :: kk :: l.map fun (n : Nat) => (n : Int)).map ito)) := by
    unfold Hid trpT
    simp [wTrip, Function.comp_def]
  rw [HT.out]
  have HI : Hid (∀ n ∈ (ee :: kk :: l.map fun (n : Nat) => (n : Int)), i64B n) := by
    intro n hn
    simp only [List.mem_cons, List.mem_map] at hn
    rcases hn with rfl | rfl | ⟨y, hy, rfl⟩
    · exact hee
    · exact hkk
    · have := hlt y hy
      exact i64_of ⟨by omega, by omega⟩
  obtain ⟨ct, ltt⟩ := H.cell0
  have HH := hide H
  have HL := hide hL
  clear H hL hl hlt hkk hee HT
  go_enter Tryz.func86, Tryz.ntmps86
  go_upto_region 1 with (first
    | (go_at_call 12; refine HN.out.mono ?_; rintro e w1 ⟨X, SW, rfl, hq, g1, hy⟩; have HQ := hide hq; have G1 := hide g1; clear hq g1 hy)
    | (go_at_call 13; (with_reducible refine (HG.out _ G1.out X SW HQ.out).mono ?_); rintro e w2 ⟨ao, cp, rfl, ⟨hn, _, hc⟩, g2⟩; have NA := hide hn; have G2 := hide (G1.out.trans g2); clear hn g2))
  have h0 := heap_alloc_new w2 (.cells #[.slice ao l.length cp, iv kk, iv ee] 36)
  refine wp_gen (fun Y => Hid (Gr w Y) ∧ Hid (NmAt Y ao l) ∧ Y.cell? ⟨w2.heap.size, 0, none⟩ = some (.slice ao l.length cp) ∧ Y.cell? ⟨w2.heap.size, 1, none⟩ = some (iv kk) ∧ Y.cell? ⟨w2.heap.size, 2, none⟩ = some (iv ee) ∧ w2.heap.size < Y.heap.size) ⟨G2.out.alloc _, NA.out.gr ((Gr.refl w2).alloc _), by unfold World.cell?; rw [h0]; rfl, by unfold World.cell?; rw [h0]; rfl, by unfold World.cell?; rw [h0]; rfl, by simp⟩ ?_
  rintro Y ⟨GY, NY, q0, q1, q2, lq⟩
  clear h0 HN HG HQ ct ltt
  generalize w2.heap.size = q at *
  obtain ⟨v', w3, hr, ho, g3⟩ := app_two Y ee kk 34 (NY.out.gr ((Gr.refl Y).alloc _)) (by omega) hc
  obtain ⟨ao', c', hv, hva, hcl⟩ := ho.shape
  have hlen : ((ee :: kk :: l.map fun (n : Nat) => (n : Int)).map iv).length = (ee :: kk :: l.map fun (n : Nat) => (n : Int)).length := List.length_map ..
  rw [hlen] at hv
  have hnb : ∀ b o, (ee :: kk :: l.map fun (n : Nat) => (n : Int)) ≠ [] → ao' = some ⟨b, o, none⟩ → ¬ ownK t v b := fun b o _ e hb => by
    have h1 := HH.out.tk.own_lt hb
    have h2 := Below.size GY.out
    rcases ho.2 with ⟨h3, _⟩ | ⟨y, cap, cur, h3, h4, _⟩
    · rw [hv, e] at h3
      simp only [Value.slice.injEq] at h3
      exact absurd h3.1 (by simp)
    · rw [hv, e] at h3
      simp only [Value.slice.injEq, Option.some.injEq, Addr.mk.injEq] at h3
      have := h3.1.1
      omega
  have HS := hide ((HH.out.gr (GY.out.trans g3)).say HL.out [116, 114, 105, 112] (cp := c') hva hnb HI.out (by omega) (by decide) (by simp; omega))
  have HR := hide hr
  have G3 := hide (GY.out.trans g3)
  rw [hv] at HR
  clear hr ho g3 hv hva hcl hlen hnb NA NY hc HI
  have HZ : Hid (sayN [116, 114, 105, 112] (ee :: kk :: l.map fun (n : Nat) => (n : Int)) = sayD ([116, 114, 105, 112] :: (ee :: kk :: l.map fun (n : Nat) => (n : Int)).map ito)) := sayN_is _ _
  rw [HZ.out] at HS
  clear HZ
  generalize (ee :: kk :: l.map fun (n : Nat) => (n : Int)).length = m at *
  go_wp2_with (first
    | (at_builtin; refine Lib.wpList_append_run _ rfl _ _ _ _ rfl _ _ rfl rfl _ _ HR.out ?_)
    | (go_at_call 89; refine HS.out.mono ?_; rintro e w4 ⟨rfl, v4, t4, k4⟩; have T4 := hide t4; have K4 := hide ((G3.out.chg _).trans k4); clear t4 k4))
  exact bodyPost_end (results_none rfl _ _ _) rfl ⟨rfl, v4, T4.out, K4.out⟩
end

end Go.Proofs.YtfcknkanbcndjagGreatDoor

/- A LINE READ WORD BY WORD, as the program does: it is what the line asks. No Go here. -/
namespace Go.Proofs.YtfcknkanbcndjagGreatDoor

/-- Without the blanks ahead. -/
def trimT (s : Tx) : Tx := Go.Lib.trimLeftB s 32
/-- Up to the first blank, and what stands behind it. -/
def cutR : Tx → Tx × Tx
  | [] => ([], [])
  | c :: s => if c = 32 then ([], s) else (c :: (cutR s).1, (cutR s).2)
def cutT (s : Tx) : Tx × Tx := cutR (trimT s)
theorem cut_is : ∀ s : Tx, (Go.Lib.cut s [32]).1 = (cutR s).1 ∧ (Go.Lib.cut s [32]).2.1 = (cutR s).2
  | [] => by simp [Go.Lib.cut, Go.Lib.index, cutR]
  | c :: s => by
    by_cases h : c = 32
    · subst h
      simp [Go.Lib.cut, Go.Lib.index, cutR]
    · have h' : ([32] : Tx).isPrefixOf (c :: s) = false := by
        simp [List.isPrefixOf]; exact fun e => h e.symm
      have ih := cut_is s
      have hg := Go.Lib.index_ge s [32]
      unfold Go.Lib.cut at ih ⊢
      unfold cutR
      rw [if_neg h]
      by_cases hi : 0 ≤ Go.Lib.index s [32]
      · rw [if_pos hi] at ih
        have e : Go.Lib.index (c :: s) [32] = Go.Lib.index s [32] + 1 := by
          rw [Go.Lib.index, h']
          have : (Go.Lib.index s [32] == -1) = false := by rw [beq_eq_false_iff_ne]; omega
          simp [this]
        rw [if_pos (by omega), e]
        have e2 : (Go.Lib.index s [32] + 1).toNat = (Go.Lib.index s [32]).toNat + 1 := by omega
        rw [e2]
        refine ⟨?_, ?_⟩
        · simp only [List.take_succ_cons]
          rw [← ih.1]
        · rw [← ih.2, Nat.add_right_comm]
          rfl
      · rw [if_neg hi] at ih
        have hi1 : Go.Lib.index s [32] = -1 := by omega
        have e : Go.Lib.index (c :: s) [32] = -1 := by
          rw [Go.Lib.index, h', hi1]; rfl
        rw [if_neg (by omega)]
        exact ⟨by rw [← ih.1], ih.2⟩
theorem wgo_cut : ∀ (s cur : Tx), cur ≠ [] → wgo s cur = (cur ++ (cutR s).1) :: wordsT (cutR s).2
  | [], cur, h => by simp [wgo, cutR, h, wordsT]
  | c :: s, cur, h => by
    unfold wgo cutR
    by_cases hc : c = 32
    · rw [if_pos hc, if_pos hc, if_neg h]
      simp [wordsT]
    · rw [if_neg hc, if_neg hc, wgo_cut s (cur ++ [c]) (by simp)]
      simp
theorem words_trim : ∀ s : Tx, wordsT (trimT s) = wordsT s
  | [] => rfl
  | c :: s => by
    by_cases hc : c = 32
    · subst hc
      have h1 : trimT (32 :: s) = trimT s := by simp [trimT, Go.Lib.trimLeftB]
      have h2 : wordsT (32 :: s) = wordsT s := by simp [wordsT, wgo]
      rw [h1, h2]
      exact words_trim s
    · have h1 : trimT (c :: s) = c :: s := by simp [trimT, Go.Lib.trimLeftB, hc]
      rw [h1]
theorem trim_head (s : Tx) : trimT s = [] ∨ ∃ c r, trimT s = c :: r ∧ c ≠ 32 := by
  unfold trimT Go.Lib.trimLeftB
  induction s with
  | nil => exact .inl rfl
  | cons c s ih =>
    by_cases hc : c = 32
    · subst hc
      simpa using ih
    · exact .inr ⟨c, s, by simp [hc], hc⟩
theorem words_ne {c : UInt8} {r : Tx} (h : c ≠ 32) : wordsT (c :: r) = (cutR (c :: r)).1 :: wordsT (cutR (c :: r)).2 := by
  have : wordsT (c :: r) = wgo r [c] := by simp [wordsT, wgo, h]
  rw [this, wgo_cut r [c] (by simp), cutR, if_neg h]
  rfl
theorem trim_nil {s : Tx} : trimT s = [] ↔ wordsT s = [] := by
  rw [← words_trim s]
  rcases trim_head s with h | ⟨c, r, h, hc⟩
  · rw [h]; exact ⟨fun _ => rfl, fun _ => rfl⟩
  · rw [h, words_ne hc]; simp
/-- What cut tells is the first word; behind it are the others. -/
theorem cut_words (s : Tx) : (cutT s).1 = (wordsT s).headD [] ∧ wordsT (cutT s).2 = (wordsT s).tail := by
  rw [← words_trim s]
  unfold cutT
  rcases trim_head s with h | ⟨c, r, h, hc⟩
  · rw [h]; exact ⟨rfl, rfl⟩
  · rw [h, words_ne hc]; exact ⟨rfl, rfl⟩
theorem cutR_len : ∀ s : Tx, (cutR s).1.length ≤ s.length ∧ (cutR s).2.length ≤ s.length
  | [] => ⟨Nat.le_refl _, Nat.le_refl _⟩
  | c :: s => by
    have := cutR_len s
    unfold cutR
    split
    · simp
    · simp; omega
theorem trim_len (s : Tx) : (trimT s).length ≤ s.length := by
  unfold trimT Go.Lib.trimLeftB
  exact (List.dropWhile_sublist _).length_le
theorem cut_len (s : Tx) : (cutT s).1.length ≤ s.length ∧ (cutT s).2.length ≤ s.length := by
  have h1 := cutR_len (trimT s)
  have h2 := trim_len s
  exact ⟨Nat.le_trans h1.1 h2, Nat.le_trans h1.2 h2⟩

/-- A step: what the words of a line are laid into. -/
structure Sy where
  k : Int
  a : Int
  b : Int
  n : Int
  l : Int
  p : Int
/-- A word laid into a step, by what stands in its place. -/
def layT (q w : Tx) (x : Sy) : Option Sy :=
  if q = [65] then (numT w).map fun v => { x with a := v }
  else if q = [66] then (numT w).map fun v => { x with b := v }
  else if q = [78] ∨ q = [88] then (numT w).map fun v => { x with n := v }
  else if q = [80] then (parseL w).map fun v => { x with l := (v.1 : Int), p := v.2 }
  else if w = q then some x else none
/-- A line read by an order's form. -/
def rdT : List Tx → Tx → Sy → Option Sy
  | [], s, x => if wordsT s = [] then some x else none
  | q :: qs, s, x => match layT q (cutT s).1 x with
    | none => none
    | some y => rdT qs (cutT s).2 y
def rdW : List Tx → List Tx → Sy → Option Sy
  | [], ws, x => if ws = [] then some x else none
  | q :: qs, ws, x => match layT q (ws.headD []) x with
    | none => none
    | some y => rdW qs ws.tail y
theorem rd_is : ∀ (qs : List Tx) (s : Tx) (x : Sy), rdT qs s x = rdW qs (wordsT s) x
  | [], _, _ => rfl
  | q :: qs, s, x => by
    unfold rdT rdW
    rw [(cut_words s).1]
    split
    · rfl
    · rw [rd_is qs, (cut_words s).2]
def pA : Tx := [65]
def pB : Tx := [66]
def pN : Tx := [78]
def pX : Tx := [88]
def pP : Tx := [80]
/-- The table: what a line's words are by their places, and the step that they are laid into. -/
def frmL : List (List Tx × Sy) := [([wLink, pA, pB, pN], ⟨1, 0, 0, 0, 0, 0⟩), ([wTick, pA], ⟨2, 0, 0, 0, 0, 0⟩), ([wTell, pA, pB], ⟨3, 0, 0, 0, 0, 0⟩), ([wHear, pN], ⟨4, 0, 0, 0, 0, 0⟩), ([wLose, pN], ⟨5, 0, 0, 0, 0, 0⟩), ([wDouble, pN], ⟨6, 0, 0, 0, 0, 0⟩), ([wOwn, pP, pA], ⟨7, 0, 0, 1, 0, 0⟩), ([wFree, pP, pA], ⟨7, 0, 0, 0, 0, 0⟩), ([wWays, pA], ⟨0, 0, 0, 0, 0, 0⟩), ([wNews], ⟨0, 0, 0, 0, 0, 0⟩), ([wFull, pA], ⟨0, 0, 0, 0, 0, 0⟩), ([wSmall, pA], ⟨0, 0, 0, 0, 0, 0⟩), ([wLetter, pA, pX], ⟨0, 0, 0, 0, 0, 0⟩)]
/-- What an order does with a step. -/
def askO (k : Nat) (x : Sy) : Ask :=
  if k < 8 then .step ⟨x.k, x.a, x.b, x.n⟩ x.l x.p
  else if k = 8 then .ways x.a
  else if k = 9 then .news
  else if k = 10 then .full x.a
  else if k = 11 then .small x.a
  else .letter x.a x.n
theorem numN : numT [] = none := by decide
theorem parN : parseL [] = none := by decide
theorem lay_A (w : Tx) (x : Sy) : layT pA w x = (numT w).map fun v => { x with a := v } := by unfold pA layT; rw [if_pos rfl]
theorem lay_B (w : Tx) (x : Sy) : layT pB w x = (numT w).map fun v => { x with b := v } := by unfold pB layT; rw [if_neg (by decide), if_pos rfl]
theorem lay_N (w : Tx) (x : Sy) : layT pN w x = (numT w).map fun v => { x with n := v } := by unfold pN layT; rw [if_neg (by decide), if_neg (by decide), if_pos (.inl rfl)]
theorem lay_X (w : Tx) (x : Sy) : layT pX w x = (numT w).map fun v => { x with n := v } := by unfold pX layT; rw [if_neg (by decide), if_neg (by decide), if_pos (.inr rfl)]
theorem lay_P (w : Tx) (x : Sy) : layT pP w x = (parseL w).map fun v => { x with l := (v.1 : Int), p := v.2 } := by unfold pP layT; rw [if_neg (by decide), if_neg (by decide), if_neg (by decide), if_pos rfl]
theorem lay_lit {q : Tx} (h : 1 < q.length) (w : Tx) (x : Sy) : layT q w x = if w = q then some x else none := by
  have e : ∀ c : UInt8, q ≠ [c] := fun c e => by rw [e] at h; simp at h
  unfold layT
  rw [if_neg (e _), if_neg (e _), if_neg (fun e' => e'.elim (e _) (e _)), if_neg (e _)]

/-- A word that stands first in a form. -/
theorem rd_lit {q : Tx} (h : 1 < q.length) (qs ws : List Tx) (x : Sy) : rdW (q :: qs) ws x = if ws.headD [] = q then rdW qs ws.tail x else none := by
  rw [rdW, lay_lit h]
  by_cases e : ws.headD [] = q
  · rw [if_pos e, if_pos e]
  · rw [if_neg e, if_neg e]
/-- One number behind it. -/
theorem rd_num {q : Tx} {f : Sy → Int → Sy} (hf : ∀ w x, layT q w x = (numT w).map fun v => f x v) (qs ws : List Tx) (x : Sy) :
    rdW (q :: qs) ws x = match ws with
      | [] => none
      | a :: r => match numT a with
        | none => none
        | some v => rdW qs r (f x v) := by
  rw [rdW, hf]
  cases ws with
  | nil => rw [List.headD_nil, numN]; rfl
  | cons a r =>
    simp only [List.headD_cons, List.tail_cons]
    cases numT a with
    | none => rfl
    | some v => rfl
theorem rd_pfx (qs ws : List Tx) (x : Sy) :
    rdW (pP :: qs) ws x = match ws with
      | [] => none
      | a :: r => match parseL a with
        | none => none
        | some v => rdW qs r { x with l := (v.1 : Int), p := v.2 } := by
  rw [rdW, lay_P]
  cases ws with
  | nil => rw [List.headD_nil, parN]; rfl
  | cons a r =>
    simp only [List.headD_cons, List.tail_cons]
    cases parseL a with
    | none => rfl
    | some v => rfl
theorem rd_end (ws : List Tx) (x : Sy) : rdW [] ws x = match ws with
    | [] => some x
    | _ :: _ => none := by
  cases ws <;> rfl
theorem askW_num {w : Tx} (h : w ≠ wOwn ∧ w ≠ wFree) (r : List Tx) : askW (w :: r) = match numsT r with
    | none => .what
    | some n => askI (atK w n.length 13) n 0 0 := by
  have : headT w r = some (0, 0, r) := by unfold headT; rw [if_neg (fun e => e.elim h.1 h.2)]
  simp only [askW, this]
  cases numsT r <;> rfl
theorem atK_none {w : Tx} {m i : Nat} (hi : i < 13) (hw : wdL[i]? = some w) (hm : mnL[i]? ≠ some m) (hu : ∀ j < 13, j ≠ i → wdL[j]? ≠ some w) : ∀ k ≤ 13, atK w m k = -1
  | 0, _ => rfl
  | k + 1, hk => by
    unfold atK
    rw [if_neg]
    · exact atK_none hi hw hm hu k (by omega)
    · rintro ⟨h1, h2⟩
      by_cases e : k = i
      · subst e; exact hm h2
      · exact hu k (by omega) e h1
theorem atK_far {w : Tx} {m : Nat} (hu : ∀ j < 13, wdL[j]? ≠ some w) : ∀ k ≤ 13, atK w m k = -1
  | 0, _ => rfl
  | k + 1, hk => by
    unfold atK
    rw [if_neg (fun e => hu k (by omega) e.1)]
    exact atK_far hu k (by omega)
theorem askI_none (n : List Int) (l b : Int) : askI (-1) n l b = .what := by
  unfold askI
  simp

/-- What an order makes of words: its ask, if it is one of its lines. -/
def ordW (k : Nat) (ws : List Tx) : Option Ask := match frmL[k]? with
  | none => none
  | some f => (rdW f.1 ws f.2).map (askO k)
/-- The first word of an order. -/
theorem frm_hd : ∀ k < 13, ∃ qs x, frmL[k]? = some (wdL.getD k [] :: qs, x) ∧ 1 < (wdL.getD k []).length := by
  intro k hk
  have : k = 0 ∨ k = 1 ∨ k = 2 ∨ k = 3 ∨ k = 4 ∨ k = 5 ∨ k = 6 ∨ k = 7 ∨ k = 8 ∨ k = 9 ∨ k = 10 ∨ k = 11 ∨ k = 12 := by omega
  rcases this with rfl | rfl | rfl | rfl | rfl | rfl | rfl | rfl | rfl | rfl | rfl | rfl | rfl <;> exact ⟨_, _, rfl, by decide⟩
theorem wd_uniq : ∀ i < 13, ∀ j < 13, wdL.getD i [] = wdL.getD j [] → i = j := by decide
/-- No order takes more words or fewer than it has places. -/
theorem rd_len : ∀ (qs : List Tx) (ws : List Tx) (x y : Sy), (∀ q ∈ qs, ∀ z, layT q [] z = none) → rdW qs ws x = some y → ws.length = qs.length
  | [], ws, x, y, _, h => by
    rw [rd_end] at h
    cases ws with
    | nil => rfl
    | cons a r => cases h
  | q :: qs, ws, x, y, hq, h => by
    rw [rdW] at h
    cases ws with
    | nil => rw [List.headD_nil, hq q (by simp)] at h; cases h
    | cons a r =>
      rw [List.headD_cons, List.tail_cons] at h
      cases e : layT q a x with
      | none => rw [e] at h; cases h
      | some z =>
        rw [e] at h
        have := rd_len qs r z y (fun q hq' => hq q (by simp [hq'])) h
        simp [this]
theorem frm_none : ∀ k < 13, ∀ f, frmL[k]? = some f → ∀ q ∈ f.1, ∀ z, layT q [] z = none := by
  intro k hk f hf q hq z
  have hm : f ∈ frmL := List.mem_of_getElem? hf
  have : ∀ f ∈ frmL, ∀ q ∈ f.1, q = [65] ∨ q = [66] ∨ q = [78] ∨ q = [88] ∨ q = [80] ∨ 1 < q.length := by decide
  rcases this f hm q hq with rfl | rfl | rfl | rfl | rfl | h
  · exact (lay_A [] z).trans (by rw [numN]; rfl)
  · exact (lay_B [] z).trans (by rw [numN]; rfl)
  · exact (lay_N [] z).trans (by rw [numN]; rfl)
  · exact (lay_X [] z).trans (by rw [numN]; rfl)
  · exact (lay_P [] z).trans (by rw [parN]; rfl)
  · rw [lay_lit h, if_neg]
    intro e; rw [← e] at h; simp at h
theorem ord_len {k : Nat} (hk : k < 13) {w : Tx} {r : List Tx} (f : List Tx × Sy) (hf : frmL[k]? = some f) (h : f.1.length ≠ r.length + 1) : ordW k (w :: r) = none := by
  unfold ordW
  rw [hf]
  cases e : rdW f.1 (w :: r) f.2 with
  | none => simp only [e]; rfl
  | some y =>
    have := rd_len f.1 (w :: r) f.2 y (frm_none k hk f hf) e
    exact absurd this.symm h
theorem rd_A (qs ws : List Tx) (x : Sy) : rdW (pA :: qs) ws x = match ws with
      | [] => none
      | a :: r => match numT a with
        | none => none
        | some v => rdW qs r { x with a := v } := rd_num lay_A qs ws x
theorem rd_B (qs ws : List Tx) (x : Sy) : rdW (pB :: qs) ws x = match ws with
      | [] => none
      | a :: r => match numT a with
        | none => none
        | some v => rdW qs r { x with b := v } := rd_num lay_B qs ws x
theorem rd_N (qs ws : List Tx) (x : Sy) : rdW (pN :: qs) ws x = match ws with
      | [] => none
      | a :: r => match numT a with
        | none => none
        | some v => rdW qs r { x with n := v } := rd_num lay_N qs ws x
theorem rd_X (qs ws : List Tx) (x : Sy) : rdW (pX :: qs) ws x = match ws with
      | [] => none
      | a :: r => match numT a with
        | none => none
        | some v => rdW qs r { x with n := v } := rd_num lay_X qs ws x
/-- Too many numbers behind a word, or too few: it is no line. -/
theorem ask_len {k : Nat} (hk : k < 13) (h67 : k ≠ 6 ∧ k ≠ 7) {r : List Tx} (h : mnL[k]? ≠ some r.length) : askW (wdL.getD k [] :: r) = .what := by
  have hu : ∀ j < 13, j ≠ k → wdL[j]? ≠ some (wdL.getD k []) := fun j hj hne e => hne (wd_uniq j hj k hk (by rw [List.getD_eq_getElem?_getD, e]; rfl))
  have hw : wdL.getD k [] ≠ wOwn ∧ wdL.getD k [] ≠ wFree := ⟨fun e => h67.1 (wd_uniq k hk 6 (by decide) e), fun e => h67.2 (wd_uniq k hk 7 (by decide) e)⟩
  rw [askW_num hw]
  cases e : numsT r with
  | none => rfl
  | some n =>
    have hl := nums_len e
    show askI (atK _ n.length 13) n 0 0 = _
    rw [atK_none hk (by
      have : k < wdL.length := hk
      rw [List.getD_eq_getElem?_getD, List.getElem?_eq_getElem this]; rfl) (by rw [hl]; exact h) hu 13 (Nat.le_refl _), askI_none]
theorem ask_own {k : Nat} (h67 : k = 6 ∨ k = 7) {r : List Tx} (h : r.length ≠ 2) : askW (wdL.getD k [] :: r) = .what := by
  have hh : headT (wdL.getD k []) r = none := by
    unfold headT
    rw [if_pos (by rcases h67 with rfl | rfl <;> decide)]
    match r, h with
    | [], _ => rfl
    | [_], _ => rfl
    | [_, _], h => exact absurd rfl h
    | _ :: _ :: _ :: _, _ => rfl
  simp only [askW, hh]
/-- The order k of a line whose first word is its: just what the line asks. -/
theorem ord_ask : ∀ k < 13, ∀ r : List Tx, askW (wdL.getD k [] :: r) = (ordW k (wdL.getD k [] :: r)).getD .what := by
  intro k hk r
  have one : ∀ r : List Tx, r.length = 1 → ∃ a, r = [a] := fun r h => List.length_eq_one_iff.1 h
  have two : ∀ r : List Tx, r.length = 2 → ∃ a b, r = [a, b] := fun r h => by
    match r, h with
    | [a, b], _ => exact ⟨a, b, rfl⟩
  have three : ∀ r : List Tx, r.length = 3 → ∃ a b c, r = [a, b, c] := fun r h => by
    match r, h with
    | [a, b, c], _ => exact ⟨a, b, c, rfl⟩
  have hh : k = 0 ∨ k = 1 ∨ k = 2 ∨ k = 3 ∨ k = 4 ∨ k = 5 ∨ k = 6 ∨ k = 7 ∨ k = 8 ∨ k = 9 ∨ k = 10 ∨ k = 11 ∨ k = 12 := by omega
  rcases hh with rfl | rfl | rfl | rfl | rfl | rfl | rfl | rfl | rfl | rfl | rfl | rfl | rfl
  · by_cases hl : r.length = 3
    · obtain ⟨a, b, c, rfl⟩ := three r hl
      have e0 : ordW 0 (wdL.getD 0 [] :: [a, b, c]) = (rdW [pA, pB, pN] [a, b, c] ⟨1, 0, 0, 0, 0, 0⟩).map (askO 0) := by
        show (rdW (wLink :: _) (wLink :: _) _).map (askO 0) = _
        rw [rd_lit (by decide), List.headD_cons, if_pos rfl, List.tail_cons]
      rw [e0, askW_num (by decide)]
      simp only [rd_A, rd_B, rd_N, rd_end, numsT]
      cases ea : numT a with
      | none => rfl
      | some va =>
        cases eb : numT b with
        | none => rfl
        | some vb =>
          cases ec : numT c with
          | none => rfl
          | some vc =>
            rfl
    · rw [ask_len hk (by decide) (by intro e; exact hl (by simpa [mnL] using e.symm)), ord_len hk _ rfl (by intro e; exact hl (by simpa using e.symm))]
      rfl
  · by_cases hl : r.length = 1
    · obtain ⟨a, rfl⟩ := one r hl
      have e0 : ordW 1 (wdL.getD 1 [] :: [a]) = (rdW [pA] [a] ⟨2, 0, 0, 0, 0, 0⟩).map (askO 1) := by
        show (rdW (wTick :: _) (wTick :: _) _).map (askO 1) = _
        rw [rd_lit (by decide), List.headD_cons, if_pos rfl, List.tail_cons]
      rw [e0, askW_num (by decide)]
      simp only [rd_A, rd_end, numsT]
      cases ea : numT a with
      | none => rfl
      | some va =>
        rfl
    · rw [ask_len hk (by decide) (by intro e; exact hl (by simpa [mnL] using e.symm)), ord_len hk _ rfl (by intro e; exact hl (by simpa using e.symm))]
      rfl
  · by_cases hl : r.length = 2
    · obtain ⟨a, b, rfl⟩ := two r hl
      have e0 : ordW 2 (wdL.getD 2 [] :: [a, b]) = (rdW [pA, pB] [a, b] ⟨3, 0, 0, 0, 0, 0⟩).map (askO 2) := by
        show (rdW (wTell :: _) (wTell :: _) _).map (askO 2) = _
        rw [rd_lit (by decide), List.headD_cons, if_pos rfl, List.tail_cons]
      rw [e0, askW_num (by decide)]
      simp only [rd_A, rd_B, rd_end, numsT]
      cases ea : numT a with
      | none => rfl
      | some va =>
        cases eb : numT b with
        | none => rfl
        | some vb =>
          rfl
    · rw [ask_len hk (by decide) (by intro e; exact hl (by simpa [mnL] using e.symm)), ord_len hk _ rfl (by intro e; exact hl (by simpa using e.symm))]
      rfl
  · by_cases hl : r.length = 1
    · obtain ⟨a, rfl⟩ := one r hl
      have e0 : ordW 3 (wdL.getD 3 [] :: [a]) = (rdW [pN] [a] ⟨4, 0, 0, 0, 0, 0⟩).map (askO 3) := by
        show (rdW (wHear :: _) (wHear :: _) _).map (askO 3) = _
        rw [rd_lit (by decide), List.headD_cons, if_pos rfl, List.tail_cons]
      rw [e0, askW_num (by decide)]
      simp only [rd_N, rd_end, numsT]
      cases ea : numT a with
      | none => rfl
      | some va =>
        rfl
    · rw [ask_len hk (by decide) (by intro e; exact hl (by simpa [mnL] using e.symm)), ord_len hk _ rfl (by intro e; exact hl (by simpa using e.symm))]
      rfl
  · by_cases hl : r.length = 1
    · obtain ⟨a, rfl⟩ := one r hl
      have e0 : ordW 4 (wdL.getD 4 [] :: [a]) = (rdW [pN] [a] ⟨5, 0, 0, 0, 0, 0⟩).map (askO 4) := by
        show (rdW (wLose :: _) (wLose :: _) _).map (askO 4) = _
        rw [rd_lit (by decide), List.headD_cons, if_pos rfl, List.tail_cons]
      rw [e0, askW_num (by decide)]
      simp only [rd_N, rd_end, numsT]
      cases ea : numT a with
      | none => rfl
      | some va =>
        rfl
    · rw [ask_len hk (by decide) (by intro e; exact hl (by simpa [mnL] using e.symm)), ord_len hk _ rfl (by intro e; exact hl (by simpa using e.symm))]
      rfl
  · by_cases hl : r.length = 1
    · obtain ⟨a, rfl⟩ := one r hl
      have e0 : ordW 5 (wdL.getD 5 [] :: [a]) = (rdW [pN] [a] ⟨6, 0, 0, 0, 0, 0⟩).map (askO 5) := by
        show (rdW (wDouble :: _) (wDouble :: _) _).map (askO 5) = _
        rw [rd_lit (by decide), List.headD_cons, if_pos rfl, List.tail_cons]
      rw [e0, askW_num (by decide)]
      simp only [rd_N, rd_end, numsT]
      cases ea : numT a with
      | none => rfl
      | some va =>
        rfl
    · rw [ask_len hk (by decide) (by intro e; exact hl (by simpa [mnL] using e.symm)), ord_len hk _ rfl (by intro e; exact hl (by simpa using e.symm))]
      rfl
  · by_cases hl : r.length = 2
    · obtain ⟨a, b, rfl⟩ := two r hl
      have e0 : ordW 6 (wdL.getD 6 [] :: [a, b]) = (rdW [pP, pA] [a, b] ⟨7, 0, 0, 1, 0, 0⟩).map (askO 6) := by
        show (rdW (wOwn :: _) (wOwn :: _) _).map (askO 6) = _
        rw [rd_lit (by decide), List.headD_cons, if_pos rfl, List.tail_cons]
      rw [e0, rd_pfx]
      have hh : headT (wdL.getD 6 []) [a, b] = (parseL a).map fun q => ((q.1 : Int), q.2, [b]) := by
        unfold headT
        rw [if_pos (by decide)]
      simp only [askW, hh]
      cases ea : parseL a with
      | none => rfl
      | some v =>
        simp only [Option.map_some, rd_A, numsT]
        cases eb : numT b with
        | none => rfl
        | some u => rfl
    · rw [ask_own (by decide) hl, ord_len hk _ rfl (by intro e; exact hl (by simpa using e.symm))]
      rfl
  · by_cases hl : r.length = 2
    · obtain ⟨a, b, rfl⟩ := two r hl
      have e0 : ordW 7 (wdL.getD 7 [] :: [a, b]) = (rdW [pP, pA] [a, b] ⟨7, 0, 0, 0, 0, 0⟩).map (askO 7) := by
        show (rdW (wFree :: _) (wFree :: _) _).map (askO 7) = _
        rw [rd_lit (by decide), List.headD_cons, if_pos rfl, List.tail_cons]
      rw [e0, rd_pfx]
      have hh : headT (wdL.getD 7 []) [a, b] = (parseL a).map fun q => ((q.1 : Int), q.2, [b]) := by
        unfold headT
        rw [if_pos (by decide)]
      simp only [askW, hh]
      cases ea : parseL a with
      | none => rfl
      | some v =>
        simp only [Option.map_some, rd_A, numsT]
        cases eb : numT b with
        | none => rfl
        | some u => rfl
    · rw [ask_own (by decide) hl, ord_len hk _ rfl (by intro e; exact hl (by simpa using e.symm))]
      rfl
  · by_cases hl : r.length = 1
    · obtain ⟨a, rfl⟩ := one r hl
      have e0 : ordW 8 (wdL.getD 8 [] :: [a]) = (rdW [pA] [a] ⟨0, 0, 0, 0, 0, 0⟩).map (askO 8) := by
        show (rdW (wWays :: _) (wWays :: _) _).map (askO 8) = _
        rw [rd_lit (by decide), List.headD_cons, if_pos rfl, List.tail_cons]
      rw [e0, askW_num (by decide)]
      simp only [rd_A, rd_end, numsT]
      cases ea : numT a with
      | none => rfl
      | some va =>
        rfl
    · rw [ask_len hk (by decide) (by intro e; exact hl (by simpa [mnL] using e.symm)), ord_len hk _ rfl (by intro e; exact hl (by simpa using e.symm))]
      rfl
  · by_cases hl : r.length = 0
    · have : r = [] := List.eq_nil_of_length_eq_zero hl
      subst this
      rfl
    · rw [ask_len hk (by decide) (by intro e; exact hl (by simpa [mnL] using e.symm)), ord_len hk _ rfl (by intro e; exact hl (by simpa using e.symm))]
      rfl
  · by_cases hl : r.length = 1
    · obtain ⟨a, rfl⟩ := one r hl
      have e0 : ordW 10 (wdL.getD 10 [] :: [a]) = (rdW [pA] [a] ⟨0, 0, 0, 0, 0, 0⟩).map (askO 10) := by
        show (rdW (wFull :: _) (wFull :: _) _).map (askO 10) = _
        rw [rd_lit (by decide), List.headD_cons, if_pos rfl, List.tail_cons]
      rw [e0, askW_num (by decide)]
      simp only [rd_A, rd_end, numsT]
      cases ea : numT a with
      | none => rfl
      | some va =>
        rfl
    · rw [ask_len hk (by decide) (by intro e; exact hl (by simpa [mnL] using e.symm)), ord_len hk _ rfl (by intro e; exact hl (by simpa using e.symm))]
      rfl
  · by_cases hl : r.length = 1
    · obtain ⟨a, rfl⟩ := one r hl
      have e0 : ordW 11 (wdL.getD 11 [] :: [a]) = (rdW [pA] [a] ⟨0, 0, 0, 0, 0, 0⟩).map (askO 11) := by
        show (rdW (wSmall :: _) (wSmall :: _) _).map (askO 11) = _
        rw [rd_lit (by decide), List.headD_cons, if_pos rfl, List.tail_cons]
      rw [e0, askW_num (by decide)]
      simp only [rd_A, rd_end, numsT]
      cases ea : numT a with
      | none => rfl
      | some va =>
        rfl
    · rw [ask_len hk (by decide) (by intro e; exact hl (by simpa [mnL] using e.symm)), ord_len hk _ rfl (by intro e; exact hl (by simpa using e.symm))]
      rfl
  · by_cases hl : r.length = 2
    · obtain ⟨a, b, rfl⟩ := two r hl
      have e0 : ordW 12 (wdL.getD 12 [] :: [a, b]) = (rdW [pA, pX] [a, b] ⟨0, 0, 0, 0, 0, 0⟩).map (askO 12) := by
        show (rdW (wLetter :: _) (wLetter :: _) _).map (askO 12) = _
        rw [rd_lit (by decide), List.headD_cons, if_pos rfl, List.tail_cons]
      rw [e0, askW_num (by decide)]
      simp only [rd_A, rd_X, rd_end, numsT]
      cases ea : numT a with
      | none => rfl
      | some va =>
        cases eb : numT b with
        | none => rfl
        | some vb =>
          rfl
    · rw [ask_len hk (by decide) (by intro e; exact hl (by simpa [mnL] using e.symm)), ord_len hk _ rfl (by intro e; exact hl (by simpa using e.symm))]
      rfl
/-- A line that an order reads asks what the order does. -/
theorem rd_hit {k : Nat} (hk : k < 13) {f : List Tx × Sy} (hf : frmL[k]? = some f) {s : Tx} {x : Sy} (h : rdT f.1 s f.2 = some x) : askT s = askO k x := by
  rw [rd_is] at h
  obtain ⟨qs, x0, e0, hl⟩ := frm_hd k hk
  rw [hf] at e0
  cases e0
  have hl' := rd_lit hl qs (wordsT s) x0
  rw [h] at hl'
  by_cases hw : (wordsT s).headD [] = wdL.getD k []
  · unfold askT
    cases e : wordsT s with
    | nil =>
      rw [e, List.headD_nil] at hw
      rw [← hw] at hl; simp at hl
    | cons a r =>
      rw [e, List.headD_cons] at hw
      subst hw
      rw [ord_ask k hk r]
      unfold ordW
      rw [hf]
      rw [e] at h
      simp only [h]
      rfl
  · rw [if_neg hw] at hl'; cases hl'
/-- A line with words that no order reads is none. -/
theorem rd_miss {s : Tx} (hs : wordsT s ≠ []) (h : ∀ (k : Nat) (f : List Tx × Sy), frmL[k]? = some f → rdT f.1 s f.2 = none) : askT s = .what := by
  unfold askT
  cases e : wordsT s with
  | nil => exact absurd e hs
  | cons a r =>
    by_cases ha : ∃ k < 13, wdL.getD k [] = a
    · obtain ⟨k, hk, rfl⟩ := ha
      rw [ord_ask k hk r]
      obtain ⟨qs, x0, e0, hl⟩ := frm_hd k hk
      have := h k _ e0
      rw [rd_is, e] at this
      unfold ordW
      rw [e0]
      simp only [this]
      rfl
    · have hu : ∀ j < 13, wdL[j]? ≠ some a := fun j hj e => ha ⟨j, hj, by rw [List.getD_eq_getElem?_getD, e]; rfl⟩
      have hw : a ≠ wOwn ∧ a ≠ wFree := ⟨fun e => ha ⟨6, by decide, e ▸ rfl⟩, fun e => ha ⟨7, by decide, e ▸ rfl⟩⟩
      rw [askW_num hw]
      cases e : numsT r with
      | none => rfl
      | some n =>
        show askI (atK _ n.length 13) n 0 0 = _
        rw [atK_far hu 13 (Nat.le_refl _), askI_none]

end Go.Proofs.YtfcknkanbcndjagGreatDoor

/- CONTRACTS OF the program's desk: what reads a word: cut, blank, number, lay. -/
namespace Go.Proofs.YtfcknkanbcndjagGreatDoor
open Go.RowKit
attribute [local go_sem] Ext.all Ext.cell Ext.frozen Ext.lt Ext.lt1 Ext.lt2 Ext.ne Ext.ne'
theorem tl_mk (s : Tx) : (⟨s.toArray⟩ : ByteArray).data.toList = s := rfl
theorem sz_mk (s : Tx) : (⟨s.toArray⟩ : ByteArray).size = s.length := by simp [ByteArray.size]
theorem trim_call (s : Tx) (w : World) : Calls Tryz.prog 127 #[sv s, .string ⟨#[32]⟩] w fun e w' => e = .returned (sv (trimT s)) ∧ w' = w :=
  Tryz.strings_TrimLeft_one ⟨s.toArray⟩ 32 (by decide) w
theorem blank_is {s : Tx} {b : Bool} (hb : decide (wordsT s = []) = b) (w : World) : Calls Tryz.prog 87 #[sv s] w fun e w' => e = .returned (.bool b) ∧ w' = w := by
  have HC := hide (trim_call s w)
  have hx : (trimT s == []) = b := by
    rw [← hb]
    by_cases h : trimT s = []
    · rw [decide_eq_true (trim_nil.1 h), h]; rfl
    · rw [decide_eq_false (fun e => h (trim_nil.2 e))]; simpa using h
  clear hb
  generalize trimT s = x at *
  go_enter Tryz.func87, Tryz.ntmps87
  cases b <;>
  · go_wp2_with (go_at_call 127; refine HC.out.mono ?_; rintro e w1 ⟨rfl, hw1⟩; subst hw1)
    go_ret
    exact ⟨rfl, rfl⟩
theorem cut_any {w : World} (hL : Lb w) (s : Tx) (hs : s.length ≤ 2000000) : Calls Tryz.prog 129 #[sv s] w fun e w' => e = .returned (.tuple #[sv (cutT s).1, sv (cutT s).2]) ∧ Gr w w' := by
  have HC := hide (trim_call s w)
  obtain ⟨m, hm⟩ := hL.ml
  have HD : Hid (Calls Tryz.prog 164 #[sv (trimT s), .string ⟨#[32]⟩] w fun e w' => (∃ b, e = .returned (.tuple #[sv (cutT s).1, sv (cutT s).2, .bool b])) ∧ Gr w w') := by
    refine (Tryz.strings_Cut ⟨(trimT s).toArray⟩ ⟨#[32]⟩ m w (by rw [sz_mk]; have := trim_len s; omega) hm).mono ?_
    rintro e w' ⟨rfl, n, rfl⟩
    have e1 := cut_is (trimT s)
    refine ⟨⟨(Lib.cut (trimT s) [32]).2.2, ?_⟩, (Gr.refl w).drewN n⟩
    show Ending.returned (.tuple #[sv (Lib.cut (trimT s) [32]).1, sv (Lib.cut (trimT s) [32]).2.1, _]) = _
    rw [e1.1, e1.2]
    rfl
  clear hL hm
  generalize trimT s = x at *
  generalize (cutT s).1 = a at *
  generalize (cutT s).2 = r at *
  go_enter Tryz.func129, Tryz.ntmps129
  go_wp2_with (first
    | (go_at_call 127; refine HC.out.mono ?_; rintro e w1 ⟨rfl, hw1⟩; subst hw1)
    | (go_at_call 164; refine HD.out.mono ?_; rintro e w2 ⟨⟨b, rfl⟩, g2⟩))
  go_ret2
  exact ⟨rfl, g2⟩
theorem num_ok {s : Tx} {v : Int} (h : numT s = some v) : Lib.atoiAll s = .ok v ∧ ito v = s := by
  unfold numT at h
  cases e : Lib.atoiAll s with
  | ok u =>
    rw [e] at h
    by_cases q : Lib.itoa u = s
    · simp only [q, if_true] at h
      cases h
      exact ⟨rfl, q⟩
    · simp only [q, if_false] at h
      cases h
  | «syntax» => rw [e] at h; cases h
  | range => rw [e] at h; cases h
set_option maxRecDepth 20000 in
theorem num_some {w : World} (hL : Lb w) {s : Tx} {v : Int} (h : numT s = some v) (hs : s.length ≤ 2000000) : Calls Tryz.prog 165 #[sv s] w fun e w' => e = .returned (.tuple #[iv v, .bool true]) ∧ Gr w w' := by
  obtain ⟨ha, hz⟩ := num_ok h
  have hb := Lib.atoiAll_bounds ha
  have HA := hide (atoi_any hL ⟨s.toArray⟩ (by rw [sz_mk]; exact hs))
  have HX : Hid (∀ k er, AtoE (⟨s.toArray⟩ : ByteArray).data.toList k er → k = v ∧ er = .nilIface) := fun k er q => by
    unfold AtoE at q; rw [tl_mk, ha] at q; exact q
  have HI : Hid (∀ V, Gr w V → Calls Tryz.prog 133 #[iv v] V fun e w' => e = .returned (sv s) ∧ Gr V w') := fun V g => by
    rw [← hz]
    have := itoa_any (hL.gr g) (n := v) hb
    rw [hz] at this ⊢
    exact this
  clear hL h ha hz hb
  go_enter Tryz.func165, Tryz.ntmps165
  go_wp2_with (first
    | (go_at_call 91; refine HA.out.mono ?_; rintro e w1 ⟨k, er, rfl, q, _, g1⟩; obtain ⟨rfl, rfl⟩ := HX.out k er q; have G1 := hide g1; clear g1 q)
    | (go_at_call 133; refine (HI.out _ G1.out).mono ?_; rintro e w2 ⟨rfl, g2⟩; have G2 := hide g2; clear g2))
  go_ret2
  exact ⟨by simp, G1.out.trans G2.out⟩
set_option maxRecDepth 20000 in
theorem num_none {w : World} (hL : Lb w) {s : Tx} (h : numT s = none) (hs : s.length ≤ 2000000) : Calls Tryz.prog 165 #[sv s] w fun e w' => (∃ k, e = .returned (.tuple #[iv k, .bool false])) ∧ Gr w w' := by
  have HA := hide (atoi_any hL ⟨s.toArray⟩ (by rw [sz_mk]; exact hs))
  by_cases ho : ∃ v, Lib.atoiAll s = .ok v
  · obtain ⟨v, ha⟩ := ho
    have hz : ito v ≠ s := fun e => by
      unfold numT at h
      simp only [ha] at h
      rw [if_pos e] at h
      cases h
    have hb := Lib.atoiAll_bounds ha
    have HX : Hid (∀ k er, AtoE (⟨s.toArray⟩ : ByteArray).data.toList k er → k = v ∧ er = .nilIface) := fun k er q => by
      unfold AtoE at q; rw [tl_mk, ha] at q; exact q
    have HI := hide (fun V (g : Gr w V) => itoa_any (hL.gr g) (n := v) hb)
    have e1 : (ito v == s) = false := by simpa using hz
    clear hL h ha hz hb
    generalize ito v = z at *
    go_enter Tryz.func165, Tryz.ntmps165
    go_wp2_with (first
      | (go_at_call 91; refine HA.out.mono ?_; rintro e w1 ⟨k, er, rfl, q, _, g1⟩; obtain ⟨rfl, rfl⟩ := HX.out k er q; have G1 := hide g1; clear g1 q)
      | (go_at_call 133; refine (HI.out _ G1.out).mono ?_; rintro e w2 ⟨rfl, g2⟩; have G2 := hide g2; clear g2))
    go_ret2
    exact ⟨⟨_, by simp [e1]; rfl⟩, G1.out.trans G2.out⟩
  · have HX : Hid (∀ k er, AtoE (⟨s.toArray⟩ : ByteArray).data.toList k er → ∃ T N, er = .iface T (pv N)) := fun k er q => by
      unfold AtoE at q; rw [tl_mk] at q
      cases e : Lib.atoiAll s with
      | ok v => exact absurd ⟨v, e⟩ ho
      | «syntax» => rw [e] at q; exact q
      | range => rw [e] at q; exact q
    clear hL h ho
    go_enter Tryz.func165, Tryz.ntmps165
    go_wp2_with (first
      | (go_at_call 91; refine HA.out.mono ?_; rintro e w1 ⟨k, er, rfl, q, _, g1⟩; obtain ⟨T, N, rfl⟩ := HX.out k er q; have G1 := hide g1; clear g1 q))
    go_ret2
    exact ⟨⟨_, rfl⟩, G1.out⟩

end Go.Proofs.YtfcknkanbcndjagGreatDoor

/- CONTRACTS OF the program's desk: lay: a word laid into a step. -/
namespace Go.Proofs.YtfcknkanbcndjagGreatDoor
open Go.RowKit
attribute [local go_sem] Ext.all Ext.cell Ext.frozen Ext.lt Ext.lt1 Ext.lt2 Ext.ne Ext.ne'
/-- A step, as cells. -/
abbrev sxC (x : Sy) : Array Value := #[iv x.k, iv x.a, iv x.b, iv x.n, iv x.l, iv x.p]
/-- A step in memory. -/
def SxAt (w : World) (X : Nat) (x : Sy) : Prop := w.heap[X]? = some (.cells (sxC x) 54 (0, 0))
section
variable {w w' : World} {X : Nat} {x y : Sy}
theorem SxAt.lt (h : SxAt w X x) : X < w.heap.size := lt_of_block h
theorem SxAt.gr (h : SxAt w X x) (g : Gr w w') : SxAt w' X x := (Below.block g X (lt_of_block h)).trans h
theorem SxAt.kp {M : Nat → Prop} (h : SxAt w X x) (g : Kp M w w') (hm : M X) : SxAt w' X x := (g.block X (lt_of_block h) hm).trans h
theorem SxAt.cells (h : SxAt w X x) : w.cell? ⟨X, 0, none⟩ = some (iv x.k) ∧ w.cell? ⟨X, 1, none⟩ = some (iv x.a) ∧ w.cell? ⟨X, 2, none⟩ = some (iv x.b) ∧ w.cell? ⟨X, 3, none⟩ = some (iv x.n) ∧ w.cell? ⟨X, 4, none⟩ = some (iv x.l) ∧ w.cell? ⟨X, 5, none⟩ = some (iv x.p) := by
  unfold SxAt at h
  simp [World.cell?, h]
theorem SxAt.free (h : SxAt w X x) (j : Nat) : w.frozen? ⟨X, j, none⟩ = false := frozen_of_row w X j _ _ h
theorem SxAt.set1 (h : SxAt w X x) (v : Int) : SxAt (w.setCell ⟨X, 1, none⟩ (iv v)) X { x with a := v } := heap_setCell_same w X 1 _ _ (iv v) h
theorem SxAt.set2 (h : SxAt w X x) (v : Int) : SxAt (w.setCell ⟨X, 2, none⟩ (iv v)) X { x with b := v } := heap_setCell_same w X 2 _ _ (iv v) h
theorem SxAt.set3 (h : SxAt w X x) (v : Int) : SxAt (w.setCell ⟨X, 3, none⟩ (iv v)) X { x with n := v } := heap_setCell_same w X 3 _ _ (iv v) h
theorem SxAt.set45 (h : SxAt w X x) (u v : Int) : SxAt ((w.setCell ⟨X, 4, none⟩ (iv u)).setCell ⟨X, 5, none⟩ (iv v)) X { x with l := u, p := v } :=
  heap_setCell_same (w.setCell ⟨X, 4, none⟩ (iv u)) X 5 _ _ (iv v) (heap_setCell_same w X 4 _ _ (iv u) h)
theorem map_some' {α β : Type} {o : Option α} {f : α → β} {b : β} (h : o.map f = some b) : ∃ a, o = some a ∧ b = f a := by
  cases o with
  | none => cases h
  | some a => cases h; exact ⟨a, rfl, rfl⟩
theorem map_none' {α β : Type} {o : Option α} {f : α → β} (h : o.map f = none) : o = none := by
  cases o with
  | none => rfl
  | some a => cases h
set_option maxRecDepth 20000 in
set_option maxHeartbeats 2000000 in
/-- A word that can stand there. -/
theorem lay_some (hL : Lb w) (hX : SxAt w X x) {q wd : Tx} (h : layT q wd x = some y) (hs : wd.length ≤ 2000000) :
    Calls Tryz.prog 130 #[pv X, sv q, sv wd] w fun e w' => e = .returned (.bool true) ∧ SxAt w' X y ∧ Kp (fun b => b ≠ X) w w' := by
  have HX := hide hX
  have lX := hX.lt
  clear hX
  by_cases h1 : q = [65]
  · subst h1
    obtain ⟨v, hv, rfl⟩ := map_some' ((lay_A wd x).symm.trans h)
    have HN := hide (num_some hL hv hs)
    clear hL h hv
    go_enter Tryz.func130, Tryz.ntmps130
    go_wp2_with (go_at_call 165; refine HN.out.mono ?_; rintro e w1 ⟨rfl, g1⟩; have X1 := hide (HX.out.gr g1); have G1 := hide g1; obtain ⟨c0, c1, c2, c3, c4, c5⟩ := X1.out.cells; have f1 := X1.out.free 1; have l1 := X1.out.lt; clear g1)
    go_ret
    exact ⟨rfl, X1.out.set1 v, (G1.out.kp _).set (fun e => e rfl) _ _⟩
  by_cases h2 : q = [66]
  · subst h2
    obtain ⟨v, hv, rfl⟩ := map_some' ((lay_B wd x).symm.trans h)
    have HN := hide (num_some hL hv hs)
    clear hL h hv h1
    go_enter Tryz.func130, Tryz.ntmps130
    go_wp2_with (go_at_call 165; refine HN.out.mono ?_; rintro e w1 ⟨rfl, g1⟩; have X1 := hide (HX.out.gr g1); have G1 := hide g1; obtain ⟨c0, c1, c2, c3, c4, c5⟩ := X1.out.cells; have f1 := X1.out.free 2; have l1 := X1.out.lt; clear g1)
    go_ret
    exact ⟨rfl, X1.out.set2 v, (G1.out.kp _).set (fun e => e rfl) _ _⟩
  by_cases h3 : q = [78]
  · subst h3
    obtain ⟨v, hv, rfl⟩ := map_some' ((lay_N wd x).symm.trans h)
    have HN := hide (num_some hL hv hs)
    clear hL h hv h1 h2
    go_enter Tryz.func130, Tryz.ntmps130
    go_wp2_with (go_at_call 165; refine HN.out.mono ?_; rintro e w1 ⟨rfl, g1⟩; have X1 := hide (HX.out.gr g1); have G1 := hide g1; obtain ⟨c0, c1, c2, c3, c4, c5⟩ := X1.out.cells; have f1 := X1.out.free 3; have l1 := X1.out.lt; clear g1)
    go_ret
    exact ⟨rfl, X1.out.set3 v, (G1.out.kp _).set (fun e => e rfl) _ _⟩
  by_cases h4 : q = [88]
  · subst h4
    obtain ⟨v, hv, rfl⟩ := map_some' ((lay_X wd x).symm.trans h)
    have HN := hide (num_some hL hv hs)
    clear hL h hv h1 h2 h3
    go_enter Tryz.func130, Tryz.ntmps130
    go_wp2_with (go_at_call 165; refine HN.out.mono ?_; rintro e w1 ⟨rfl, g1⟩; have X1 := hide (HX.out.gr g1); have G1 := hide g1; obtain ⟨c0, c1, c2, c3, c4, c5⟩ := X1.out.cells; have f1 := X1.out.free 3; have l1 := X1.out.lt; clear g1)
    go_ret
    exact ⟨rfl, X1.out.set3 v, (G1.out.kp _).set (fun e => e rfl) _ _⟩
  by_cases h5 : q = [80]
  · subst h5
    obtain ⟨⟨n, v⟩, hv, rfl⟩ := map_some' ((lay_P wd x).symm.trans h)
    have HN := hide (parse_some ⟨wd.toArray⟩ n v hv w)
    clear hL h hv h1 h2 h3 h4
    go_enter Tryz.func130, Tryz.ntmps130
    go_wp2_with (go_at_call 166; refine HN.out.mono ?_; rintro e _ ⟨rfl, d1, rfl⟩; have X1 := hide (HX.out.gr d1.gr); have G1 := hide d1.gr; obtain ⟨c0, c1, c2, c3, c4, c5⟩ := X1.out.cells; have f4 := X1.out.free 4; have f5 := X1.out.free 5; have l1 := X1.out.lt)
    go_ret
    exact ⟨rfl, X1.out.set45 n v, ((G1.out.kp _).set (fun e => e rfl) _ _).set (fun e => e rfl) _ _⟩
  have e1 : (q == [65]) = false := by simpa using h1
  have e2 : (q == [66]) = false := by simpa using h2
  have e3 : (q == [78]) = false := by simpa using h3
  have e4 : (q == [88]) = false := by simpa using h4
  have e5 : (q == [80]) = false := by simpa using h5
  unfold layT at h
  rw [if_neg h1, if_neg h2, if_neg (fun e => e.elim h3 h4), if_neg h5] at h
  by_cases h6 : wd = q
  · rw [if_pos h6] at h
    cases h
    have e6 : (wd == q) = true := by simpa using h6
    clear hL h1 h2 h3 h4 h5 h6
    go_enter Tryz.func130, Tryz.ntmps130
    go_wp2_with fail
    go_ret
    exact ⟨rfl, HX.out, Kp.refl _ _⟩
  · rw [if_neg h6] at h
    cases h
set_option maxRecDepth 20000 in
set_option maxHeartbeats 2000000 in
/-- A word that can't stand there. -/
theorem lay_none (hL : Lb w) (hX : SxAt w X x) {q wd : Tx} (h : layT q wd x = none) (hs : wd.length ≤ 2000000) :
    Calls Tryz.prog 130 #[pv X, sv q, sv wd] w fun e w' => e = .returned (.bool false) ∧ (∃ y, SxAt w' X y) ∧ Kp (fun b => b ≠ X) w w' := by
  have HX := hide hX
  have lX := hX.lt
  clear hX
  by_cases h1 : q = [65]
  · subst h1
    have HN := hide (num_none hL (map_none' ((lay_A wd x).symm.trans h)) hs)
    clear hL h
    go_enter Tryz.func130, Tryz.ntmps130
    go_wp2_with (go_at_call 165; refine HN.out.mono ?_; rintro e w1 ⟨⟨v, rfl⟩, g1⟩; have X1 := hide (HX.out.gr g1); have G1 := hide g1; obtain ⟨c0, c1, c2, c3, c4, c5⟩ := X1.out.cells; have f1 := X1.out.free 1; have l1 := X1.out.lt; clear g1)
    go_ret
    exact ⟨rfl, ⟨_, X1.out.set1 v⟩, (G1.out.kp _).set (fun e => e rfl) _ _⟩
  by_cases h2 : q = [66]
  · subst h2
    have HN := hide (num_none hL (map_none' ((lay_B wd x).symm.trans h)) hs)
    clear hL h h1
    go_enter Tryz.func130, Tryz.ntmps130
    go_wp2_with (go_at_call 165; refine HN.out.mono ?_; rintro e w1 ⟨⟨v, rfl⟩, g1⟩; have X1 := hide (HX.out.gr g1); have G1 := hide g1; obtain ⟨c0, c1, c2, c3, c4, c5⟩ := X1.out.cells; have f1 := X1.out.free 2; have l1 := X1.out.lt; clear g1)
    go_ret
    exact ⟨rfl, ⟨_, X1.out.set2 v⟩, (G1.out.kp _).set (fun e => e rfl) _ _⟩
  by_cases h3 : q = [78]
  · subst h3
    have HN := hide (num_none hL (map_none' ((lay_N wd x).symm.trans h)) hs)
    clear hL h h1 h2
    go_enter Tryz.func130, Tryz.ntmps130
    go_wp2_with (go_at_call 165; refine HN.out.mono ?_; rintro e w1 ⟨⟨v, rfl⟩, g1⟩; have X1 := hide (HX.out.gr g1); have G1 := hide g1; obtain ⟨c0, c1, c2, c3, c4, c5⟩ := X1.out.cells; have f1 := X1.out.free 3; have l1 := X1.out.lt; clear g1)
    go_ret
    exact ⟨rfl, ⟨_, X1.out.set3 v⟩, (G1.out.kp _).set (fun e => e rfl) _ _⟩
  by_cases h4 : q = [88]
  · subst h4
    have HN := hide (num_none hL (map_none' ((lay_X wd x).symm.trans h)) hs)
    clear hL h h1 h2 h3
    go_enter Tryz.func130, Tryz.ntmps130
    go_wp2_with (go_at_call 165; refine HN.out.mono ?_; rintro e w1 ⟨⟨v, rfl⟩, g1⟩; have X1 := hide (HX.out.gr g1); have G1 := hide g1; obtain ⟨c0, c1, c2, c3, c4, c5⟩ := X1.out.cells; have f1 := X1.out.free 3; have l1 := X1.out.lt; clear g1)
    go_ret
    exact ⟨rfl, ⟨_, X1.out.set3 v⟩, (G1.out.kp _).set (fun e => e rfl) _ _⟩
  by_cases h5 : q = [80]
  · subst h5
    have HN := hide (parse_nil ⟨wd.toArray⟩ (by rw [sz_mk]; unfold maxLen; omega) (map_none' ((lay_P wd x).symm.trans h)) w)
    clear hL h h1 h2 h3 h4
    go_enter Tryz.func130, Tryz.ntmps130
    go_wp2_with (go_at_call 166; refine HN.out.mono ?_; rintro e _ ⟨rfl, d1, rfl⟩; have X1 := hide (HX.out.gr d1.gr); have G1 := hide d1.gr; obtain ⟨c0, c1, c2, c3, c4, c5⟩ := X1.out.cells; have f4 := X1.out.free 4; have f5 := X1.out.free 5; have l1 := X1.out.lt)
    go_ret
    exact ⟨rfl, ⟨_, X1.out.set45 0 0⟩, ((G1.out.kp _).set (fun e => e rfl) _ _).set (fun e => e rfl) _ _⟩
  have e1 : (q == [65]) = false := by simpa using h1
  have e2 : (q == [66]) = false := by simpa using h2
  have e3 : (q == [78]) = false := by simpa using h3
  have e4 : (q == [88]) = false := by simpa using h4
  have e5 : (q == [80]) = false := by simpa using h5
  unfold layT at h
  rw [if_neg h1, if_neg h2, if_neg (fun e => e.elim h3 h4), if_neg h5] at h
  by_cases h6 : wd = q
  · rw [if_pos h6] at h
    cases h
  · have e6 : (wd == q) = false := by simpa using h6
    clear hL h h1 h2 h3 h4 h5 h6
    go_enter Tryz.func130, Tryz.ntmps130
    go_wp2_with fail
    go_ret
    exact ⟨rfl, ⟨_, HX.out⟩, Kp.refl _ _⟩
end

end Go.Proofs.YtfcknkanbcndjagGreatDoor
