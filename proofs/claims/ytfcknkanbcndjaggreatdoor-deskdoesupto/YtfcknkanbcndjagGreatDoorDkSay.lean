import Derived.Test.YtfcknkanbcndjagGreatDoorPo0
import Derived.Test.YtfcknkanbcndjagGreatDoorNtPlain6
import Derived.Test.YtfcknkanbcndjagGreatDoorDkText
import Derived.Test.YtfcknkanbcndjagGreatDoorNe9
import Derived.Test.YtfcknkanbcndjagGreatDoorLookAid
import Derived.Test.YtfcknkanbcndjagGreatDoorNe1
import Derived.Laws.OwnMore
import Derived.Test.YtfcknkanbcndjagGreatDoorPo1
import Derived.Test.YtfcknkanbcndjagGreatDoorShelf
import Derived.Lib.AppendIntMem
import Derived.Lib.ItoaLen
import Derived.Test.YtfcknkanbcndjagGreatDoorTw7
import Derived.Deep.RegionHeld3
/- LETTERS, as numbers: where a letter goes, what it costs, where it ends. No Go here. -/
namespace Go.Proofs.YtfcknkanbcndjagGreatDoor

/-- A letter that comes to p, behind these nodes, for so much: as the document says. -/
def goN (h : Nat → Int) (cs : Nat → Nat → Int) : Nat → Int → List Nat → Int → List Nat × Int × Int
  | 0, _, out, k => (out, k, -1)
  | f + 1, p, out, k => if isN p then (if p.toNat ∈ out then (out, k, -2) else if h p.toNat = p then (out ++ [p.toNat], k, p) else goN h cs f (h p.toNat) (out ++ [p.toNat]) (k + if isN (h p.toNat) then cs p.toNat (h p.toNat).toNat else 0)) else (out, k, -1)
/-- It is at x, the last of these. -/
def goS (h : Nat → Int) (cs : Nat → Nat → Int) (f x : Nat) (out : List Nat) (k : Int) : List Nat × Int × Int :=
  if h x = (x : Int) then (out, k, (x : Int)) else goN h cs f (h x) out (k + if isN (h x) then cs x (h x).toNat else 0)
theorem goN_new {h : Nat → Int} {cs : Nat → Nat → Int} {f x : Nat} {out : List Nat} {k : Int} (hx : x < 6) (hn : x ∉ out) : goN h cs (f + 1) (x : Int) out k = goS h cs f x (out ++ [x]) k := by
  rw [goN, if_pos ⟨by omega, by omega⟩, Int.toNat_natCast, if_neg hn]
  rfl
theorem go_chain {h : Nat → Int} {c : Nat → Nat → Nat} {R : Nat → Nat → Prop} {a : Nat} (hR : ∀ x y, R x y → h x = (y : Int)) {l : List Nat} {x : Nat} (hc : ChL R a l x) :
    l.Nodup → (∀ y ∈ l, y < 6) → ∀ f, goN h (fun u v => (c u v : Int)) (f + l.length) (a : Int) [] 0 = goS h (fun u v => (c u v : Int)) f x l (sumC c l (l.length - 1) : Nat) := by
  induction hc with
  | one =>
    intro _ h6 f
    show goN _ _ (f + 1) _ _ _ = _
    rw [goN_new (h6 a (by simp)) (by simp)]
    simp [sumC]
  | @snoc l x y h1 h2 ih =>
    intro hn h6 f
    rw [List.nodup_append] at hn
    have hy : y ∉ l := fun hm => hn.2.2 y hm y (by simp) rfl
    have hxy : (y : Int) ≠ (x : Int) := fun e => by
      have q : y = x := by omega
      exact hy (q ▸ h1.mem)
    have e0 : f + (l ++ [y]).length = f + 1 + l.length := by rw [List.length_append, List.length_singleton]; omega
    have hy6 : y < 6 := h6 y (by simp)
    rw [e0, ih hn.1 (fun u hu => h6 u (by simp [hu])) (f + 1)]
    unfold goS
    rw [hR x y h2, if_neg hxy, goN_new hy6 hy]
    unfold goS
    have hp := h1.pos
    obtain ⟨n, hnl⟩ : ∃ n, l.length = n + 1 := ⟨l.length - 1, by omega⟩
    have e1 : (l ++ [y]).length - 1 = n + 1 := by rw [List.length_append, List.length_singleton]; omega
    have e2 : (l ++ [y])[n]'(by rw [List.length_append]; omega) = x := by
      rw [List.getElem_append_left (by omega)]
      have := h1.last (by omega)
      rw [← this]; congr 1; omega
    have e3 : (l ++ [y])[n + 1]'(by rw [List.length_append, List.length_singleton]; omega) = y := by
      rw [List.getElem_append_right (by omega)]; simp [hnl]
    have e4 : sumC c (l ++ [y]) ((l ++ [y]).length - 1) = sumC c l (l.length - 1) + c x y := by
      rw [e1, sumC, sumC_app c l y n (by omega), dif_pos (by rw [List.length_append, List.length_singleton]; omega), e2, e3]
      rw [show l.length - 1 = n by omega]
    rw [e4, if_pos (show isN (y : Int) from ⟨by omega, by omega⟩), Int.toNat_natCast]
    rw [show ((sumC c l (l.length - 1) + c x y : Nat) : Int) = ((sumC c l (l.length - 1) : Nat) : Int) + (c x y : Int) by omega]
theorem goS_end {h : Nat → Int} {cs : Nat → Nat → Int} {f x : Nat} {l : List Nat} {k : Int} (hx : h x = (x : Int)) : goS h cs f x l k = (l, k, (x : Int)) := by unfold goS; rw [if_pos hx]
theorem goS_drop {h : Nat → Int} {cs : Nat → Nat → Int} {f x : Nat} {l : List Nat} {k : Int} (hx : h x = -1) : goS h cs (f + 1) x l k = (l, k, -1) := by
  unfold goS
  rw [hx, if_neg (by omega), if_neg (by omega), goN, if_neg (by omega)]
  simp
/-- The part of a chain from its k-th on. -/
theorem ChL.drop {R : Nat → Nat → Prop} {a : Nat} {l : List Nat} {x : Nat} (h : ChL R a l x) : ∀ k (hk : k < l.length), ChL R l[k] (l.drop k) x := by
  induction h with
  | one =>
    intro k hk
    have : k = 0 := by simpa using hk
    subst this
    exact .one
  | @snoc l x y h1 h2 ih =>
    intro k hk
    by_cases e : k < l.length
    · have e1 : (l ++ [y])[k] = l[k] := List.getElem_append_left e
      have e2 : (l ++ [y]).drop k = l.drop k ++ [y] := List.drop_append_of_le_length (by omega)
      rw [e1, e2]
      exact (ih k e).snoc h2
    · have ek : k = l.length := by rw [List.length_append, List.length_singleton] at hk; omega
      subst ek
      have e1 : (l ++ [y])[l.length] = y := by rw [List.getElem_append_right (by omega)]; simp
      have e2 : (l ++ [y]).drop l.length = [y] := by simp
      rw [e1, e2]
      exact .one
/-- What a letter's trip is: nodes, cost, end. -/
structure Trip (t : Tn) (c : Nat → Nat → Nat) (z a : Nat) (l : List Nat) (e : Nat) : Prop where
  ch : ChL (StepR t z) a l e
  lt : ∀ y ∈ l, y < 6
  nd : l.Nodup
  pos : 0 < l.length
  len : l.length ≤ 6
  fin : e = z ∨ hopT t z e = -1
section
variable {t : Tn} {c : Nat → Nat → Nat} {z a : Nat} {l : List Nat} {e : Nat}
theorem Trip.go (h : Trip t c z a l e) (H : TnA t c) (hz : z < 6) : goN (hopT t z) (fun u v => (c u v : Int)) 7 (a : Int) [] 0 = (l, ((sumC c l (l.length - 1) : Nat) : Int), if e = z then (z : Int) else -1) := by
  have hl := h.len
  obtain ⟨f, hf⟩ : ∃ f, 7 = f + 1 + l.length := ⟨6 - l.length, by omega⟩
  rw [hf, go_chain (c := c) (fun x y r => r.2.2) h.ch h.nd h.lt (f + 1)]
  by_cases q : e = z
  · subst q
    rw [if_pos rfl, goS_end (by unfold hopT; rw [(H.self hz).2.1])]
  · rw [if_neg q]
    rcases h.fin with r | r
    · exact absurd r q
    · exact goS_drop r
theorem Trip.part (h : Trip t c z a l e) {k : Nat} (hk : k < l.length) : Trip t c z l[k] (l.drop k) e :=
  ⟨h.ch.drop k hk, fun y hy => h.lt y (List.mem_of_mem_drop hy), List.Nodup.sublist (List.drop_sublist _ _) h.nd, by rw [List.length_drop]; omega, by rw [List.length_drop]; have := h.len; omega, h.fin⟩
theorem trip_of (H : TnA t c) (ha : a < 6) (hz : z < 6) : ∃ l e, Trip t c z a l e := by
  obtain ⟨l, e, _, h2, h3, h4, h5, h6⟩ := straight H ha hz
  exact ⟨l, e, h2, h3, h4, h2.pos, h5, h6⟩
end
theorem go_none (cs : Nat → Nat → Int) {h : Nat → Int} {a : Nat} (ha : a < 6) (hh : h a = -1) : goN h cs 7 (a : Int) [] 0 = ([a], 0, -1) := by
  rw [goN_new ha (by simp)]
  exact goS_drop hh
theorem go_out (h : Nat → Int) (cs : Nat → Nat → Int) {p : Int} (hp : ¬ isN p) : goN h cs 7 p [] 0 = ([], 0, -1) := by rw [goN, if_neg hp]
/-- Where a letter to an address goes, from node to node. -/
def letH (t : Tn) (rs : List Rt) (a : Int) (x : Nat) : Int := lookL (fullL t (x : Int) rs) a
theorem let_none {t : Tn} {rs : List Rt} (h : Ows rs) {a : Int} (hl : lookL rs a = -1) (x : Nat) : letH t rs a x = -1 := by
  unfold letH
  rw [full_look _ _ h.hop, if_pos hl]
theorem let_own {t : Tn} {rs : List Rt} (h : Ows rs) {a : Int} {z : Nat} (hz : z < 6) (hl : lookL rs a = (z : Int)) {x : Nat} (hx : x < 6) : letH t rs a x = hopT t z x := by
  unfold letH
  rw [full_look _ _ h.hop, hl, if_neg (by omega)]
  unfold hpT hopT
  rw [if_pos ⟨by omega, by omega⟩, if_pos ⟨by omega, by omega⟩, Int.toNat_natCast, Int.toNat_natCast]
/-- Where it goes hangs on the nodes alone. -/
theorem goN_congr {h g : Nat → Int} {cs : Nat → Nat → Int} (e : ∀ x, x < 6 → h x = g x) : ∀ f p out k, goN h cs f p out k = goN g cs f p out k
  | 0, _, _, _ => rfl
  | f + 1, p, out, k => by
    rw [goN, goN]
    by_cases hp : isN p
    · rw [if_pos hp, if_pos hp, e p.toNat (by have := hp.1; have := hp.2; omega), goN_congr e f]
    · rw [if_neg hp, if_neg hp]
/-- Nodes and end do not hang on what links cost. -/
theorem goN_free {h : Nat → Int} {cs ds : Nat → Nat → Int} : ∀ f p out k m, (goN h cs f p out k).1 = (goN h ds f p out m).1 ∧ (goN h cs f p out k).2.2 = (goN h ds f p out m).2.2
  | 0, _, _, _, _ => ⟨rfl, rfl⟩
  | f + 1, p, out, k, m => by
    rw [goN, goN]
    by_cases hp : isN p
    · rw [if_pos hp, if_pos hp]
      by_cases q : p.toNat ∈ out
      · rw [if_pos q, if_pos q]; exact ⟨rfl, rfl⟩
      · rw [if_neg q, if_neg q]
        by_cases r : h p.toNat = p
        · rw [if_pos r, if_pos r]; exact ⟨rfl, rfl⟩
        · rw [if_neg r, if_neg r]; exact goN_free f _ _ _ _
    · rw [if_neg hp, if_neg hp]; exact ⟨rfl, rfl⟩

end Go.Proofs.YtfcknkanbcndjagGreatDoor

/- THE DESK AS TEXTS: what is told, and done. No Go here. -/
namespace Go.Proofs.YtfcknkanbcndjagGreatDoor

/-- What a desk knows. -/
structure Dk where
  c : Nat → Nat → Nat
  t : Tn
  rs : List Rt
def codeT (code : Int) : Tx := if code = 0 then sayD [wOk] else sayD [wNo, ito code]
def wayL (w : Int × Int × Int) (k : Nat) : Tx := sayD [wWay, ito k, ito w.1, ito w.2.1, ito w.2.2]
def newL (x : Nws) : Tx := sayD [wNews, ito x.1, ito x.2.1, ito x.2.2.1, ito x.2.2.2.1, ito x.2.2.2.2]
def rouL (r : Rt) : Tx := sayD [wRoute, textL r.1 r.2.1, ito r.2.2]
def tabT (a : Int) (l : List Rt) : Tx := if isN a then l.flatMap rouL ++ sayD [wEnd] else sayD [wNo, ito 1]
def trpT (x : List Nat × Int × Int) : Tx := sayD (wTrip :: ito x.2.2 :: ito x.2.1 :: x.1.map fun (k : Nat) => ito k)
/-- What is told. -/
def toldA (s : Dk) : Ask → Tx
  | .nil => []
  | .what => sayD [wWhat]
  | .step x l b => codeT (fdoC s.t s.rs x l b).2
  | .ways a => (List.range 6).flatMap fun (k : Nat) => wayL (wayTn s.t a (k : Int)) k
  | .news => (newsL s.t.news).flatMap newL ++ sayD [wEnd]
  | .full a => tabT a (fullL s.t a s.rs)
  | .small a => tabT a (lstL (fullL s.t a s.rs))
  | .letter a x => trpT (goN (letH s.t s.rs x) (fun u v => (s.c u v : Int)) 7 a [] 0)
/-- What is done. -/
def doneA (s : Dk) : Ask → Dk
  | .step x l b => ⟨nextC s.c x, (fdoC s.t s.rs x l b).1.1, (fdoC s.t s.rs x l b).1.2⟩
  | _ => s
/-- Lines, one behind the other. -/
def linesD (s : Dk) : List Tx → Dk × Tx
  | [] => (s, [])
  | a :: r => ((linesD (doneA s (askT a)) r).1, toldA s (askT a) ++ (linesD (doneA s (askT a)) r).2)
theorem lines_append : ∀ (a b : List Tx) (s : Dk), linesD s (a ++ b) = ((linesD (linesD s a).1 b).1, (linesD s a).2 ++ (linesD (linesD s a).1 b).2)
  | [], b, s => by simp [linesD]
  | x :: a, b, s => by
    simp only [List.cons_append, linesD, lines_append a b, List.append_assoc]

end Go.Proofs.YtfcknkanbcndjagGreatDoor

/- WHAT deskBegun ASKS: what nine lines tell at a new desk. No Go here. -/
namespace Go.Proofs.YtfcknkanbcndjagGreatDoor

/-- A new desk. -/
def dk0 : Dk := ⟨fun _ _ => 0, newT, []⟩
/-- "own 1* 1", "link 0 1 4", "tell 1 0", "hear 1", "small 0", "letter 0 200", "free 1* 1", "tick 9", "x" -/
def begL : List Tx := [[111, 119, 110, 32, 49, 42, 32, 49], [108, 105, 110, 107, 32, 48, 32, 49, 32, 52], [116, 101, 108, 108, 32, 49, 32, 48], [104, 101, 97, 114, 32, 49], [115, 109, 97, 108, 108, 32, 48], [108, 101, 116, 116, 101, 114, 32, 48, 32, 50, 48, 48], [102, 114, 101, 101, 32, 49, 42, 32, 49], [116, 105, 99, 107, 32, 57], [120]]
/-- "ok\nok\nok\nok\nroute 1* 1\nend\ntrip 1 4 0 1\nok\nno 1\nwhat\n" -/
def begT : Tx := [111, 107, 10, 111, 107, 10, 111, 107, 10, 111, 107, 10, 114, 111, 117, 116, 101, 32, 49, 42, 32, 49, 10, 101, 110, 100, 10, 116, 114, 105, 112, 32, 49, 32, 52, 32, 48, 32, 49, 10, 111, 107, 10, 110, 111, 32, 49, 10, 119, 104, 97, 116, 10]
set_option maxRecDepth 100000 in
theorem beg_told : (linesD dk0 begL).2 = begT := by decide +kernel

end Go.Proofs.YtfcknkanbcndjagGreatDoor

/- LISTS OF TEXTS AND OF NUMBERS IN MEMORY. -/
namespace Go.Proofs.YtfcknkanbcndjagGreatDoor
open Go.RowKit

abbrev sv (s : Tx) : Value := .string ⟨s.toArray⟩
theorem Tryz.info9 : (Tryz.prog.info? 9).map (fun i => (i.zero, i.size, i.bytes)) = some (some (.string ⟨#[]⟩), 1, 16) := by kernel_rfl
/-- A slice of one-cell values, read. -/
def ValAt (w : World) (ao : Option Addr) (l : List Value) : Prop := l = [] ∨ ∃ b o, ao = some ⟨b, o, none⟩ ∧ b < w.heap.size ∧ ∀ i (h : i < l.length), w.cell? ⟨b, o + i, none⟩ = some l[i]
theorem ValAt.gr {w w' : World} {ao : Option Addr} {l : List Value} (h : ValAt w ao l) (k : Gr w w') : ValAt w' ao l := by
  rcases h with h | ⟨b, o, ha, hb, hc⟩
  · exact .inl h
  · exact .inr ⟨b, o, ha, Nat.lt_of_lt_of_le hb (Below.size k), fun i hi => (Below.cell k (p := ⟨b, o + i, none⟩) hb).trans (hc i hi)⟩
/-- Lists that are younger than B: of texts, of numbers. -/
def OwnV (e : TypeId) (B w : World) (v : Value) (l : List Value) : Prop := w.ownsRow B.heap.size e 1 v l.length l
theorem OwnV.gr {e : TypeId} {B w w' : World} {v : Value} {l : List Value} (h : OwnV e B w v l) (g : Gr w w') : OwnV e B w' v l := own_gr h g
theorem OwnV.nil (e : TypeId) (B w : World) : OwnV e B w (.slice none 0 0) [] := World.ownsRow_nil _ _ _ _
theorem OwnV.shape {e : TypeId} {B w : World} {v : Value} {l : List Value} (h : OwnV e B w v l) : ∃ ao c, v = .slice ao l.length c ∧ ValAt w ao l ∧ l.length ≤ c := by
  rcases h.2 with ⟨rfl, hn⟩ | ⟨g, cap, cur, rfl, hb, hg, hn, hc, hs, ht⟩
  · have : l = [] := List.eq_nil_of_length_eq_zero hn
    subst this
    exact ⟨none, 0, rfl, .inl rfl, Nat.le_refl _⟩
  · refine ⟨_, _, rfl, .inr ⟨g, 0, rfl, (Array.getElem?_eq_some_iff.1 hg).1, fun i hi => ?_⟩, hn⟩
    have e : w.cell? ⟨g, 0 + i, none⟩ = l[i]? := by
      rw [← ht, List.getElem?_take_of_lt (by omega)]
      simp [World.cell?, hg]
    rw [e]
    simp [hi]
abbrev OwnS (B w : World) (v : Value) (l : List Tx) : Prop := OwnV 9 B w v (l.map sv)
abbrev OwnZ (B w : World) (v : Value) (l : List Int) : Prop := OwnV 3 B w v (l.map iv)
/-- 'append(l, x)'. -/
theorem OwnV.appS {B X : World} {v : Value} {l : List Value} (ty : TypeId) (hO : OwnV 9 B X v l) (g : Gr B X) (x : Tx) (hm : l.length ≤ 4000000) :
    ∃ v' w', (Builtin.append_ #[58, 58] ty #[v, .slice (some ⟨X.heap.size, 0, none⟩) 1 1]).run Tryz.prog (X.alloc (.cells #[sv x] 9)) = .ok v' w' ∧ OwnV 9 B w' v' (l ++ [sv x]) ∧ Gr B w' := by
  obtain ⟨i0, hi, hz0, hz1, hz2⟩ := info_parts Tryz.info9
  have hY := hO.gr ((Gr.refl X).alloc (.cells #[sv x] 9))
  obtain ⟨v', w', h1, h2, h3, _⟩ := run_append_own (P := Tryz.prog) _ B.heap.size 58 ty 9 i0 _ 1 16 Tryz.underlying58 hi hz0 hz1 hz2 (by rfl) (by decide) v l.length l hY
      ⟨X.heap.size, 0, none⟩ 1 1 [sv x] rfl
      (fun j u hj => by
        have hl : j < 1 := (List.getElem?_eq_some_iff.1 hj).1
        have : j = 0 := by omega
        subst this; simp at hj; subst hj; simp [Addr.add, go_sem])
      (by simp [Value.oneCell']) (by unfold maxLen; omega) (by omega) (by have := Below.size g; simp; omega)
  refine ⟨v', w', h1, ?_, (g.alloc _).grown h3 (fun k hk => (hO.lt k hk).1)⟩
  unfold OwnV
  rw [List.length_append]
  exact h2
theorem OwnV.appZ {B X : World} {v : Value} {l : List Value} (ty : TypeId) (hO : OwnV 3 B X v l) (g : Gr B X) (x : Int) (hm : l.length ≤ 4000000) :
    ∃ v' w', (Builtin.append_ #[34, 34] ty #[v, .slice (some ⟨X.heap.size, 0, none⟩) 1 1]).run Tryz.prog (X.alloc (.cells #[iv x] 3)) = .ok v' w' ∧ OwnV 3 B w' v' (l ++ [iv x]) ∧ Gr B w' := by
  obtain ⟨i0, hi, hz0, hz1, hz2⟩ := info_parts Tryz.info3
  have hY := hO.gr ((Gr.refl X).alloc (.cells #[iv x] 3))
  obtain ⟨v', w', h1, h2, h3, _⟩ := run_append_own (P := Tryz.prog) _ B.heap.size 34 ty 3 i0 _ 1 8 Tryz.underlying34 hi hz0 hz1 hz2 (by rfl) (by decide) v l.length l hY
      ⟨X.heap.size, 0, none⟩ 1 1 [iv x] rfl
      (fun j u hj => by
        have hl : j < 1 := (List.getElem?_eq_some_iff.1 hj).1
        have : j = 0 := by omega
        subst this; simp at hj; subst hj; simp [Addr.add, go_sem])
      (by simp [Value.oneCell']) (by unfold maxLen; omega) (by omega) (by have := Below.size g; simp; omega)
  refine ⟨v', w', h1, ?_, (g.alloc _).grown h3 (fun k hk => (hO.lt k hk).1)⟩
  unfold OwnV
  rw [List.length_append]
  exact h2
theorem ownS_snoc {B w : World} {v : Value} {l : List Tx} {x : Tx} (h : OwnV 9 B w v (l.map sv ++ [sv x])) : OwnS B w v (l ++ [x]) := by
  show OwnV _ _ _ _ ((l ++ [x]).map sv)
  rw [List.map_append]; exact h
theorem ownZ_snoc {B w : World} {v : Value} {l : List Int} {x : Int} (h : OwnV 3 B w v (l.map iv ++ [iv x])) : OwnZ B w v (l ++ [x]) := by
  show OwnV _ _ _ _ ((l ++ [x]).map iv)
  rw [List.map_append]; exact h

end Go.Proofs.YtfcknkanbcndjagGreatDoor

/- CONTRACT OF handpostref.Words. -/
namespace Go.Proofs.YtfcknkanbcndjagGreatDoor
open Go.RowKit
attribute [local go_sem] Ext.all Ext.cell Ext.frozen Ext.lt Ext.lt1 Ext.lt2 Ext.ne Ext.ne'
/-- What is still to be parted, behind k bytes. -/
def wleft (L : Tx) (k : Nat) (done : List Tx) (cur : Tx) : Prop := if k ≤ L.length then wordsT L = done ++ wgo (L.drop k) cur else wordsT L = done
theorem wleft_zero (L : Tx) : wleft L 0 [] [] := by unfold wleft; rw [if_pos (by omega)]; rfl
theorem wleft_more {L : Tx} {k : Nat} {done : List Tx} {cur : Tx} (h : wleft L k done cur) (hk : k < L.length) (hb : L[k] ≠ 32) : wleft L (k + 1) done (cur ++ [L[k]]) := by
  unfold wleft at *
  rw [if_pos (by omega)] at h ⊢
  rw [h, List.drop_eq_getElem_cons hk, wgo, if_neg hb]
theorem wleft_cut {L : Tx} {k : Nat} {done : List Tx} {cur : Tx} (h : wleft L k done cur) (hk : k < L.length) (hb : L[k] = 32) : wleft L (k + 1) (if cur = [] then done else done ++ [cur]) [] := by
  unfold wleft at *
  rw [if_pos (by omega)] at h ⊢
  rw [h, List.drop_eq_getElem_cons hk, wgo, if_pos hb]
  by_cases hc : cur = []
  · rw [if_pos hc, if_pos hc]
  · rw [if_neg hc, if_neg hc]; simp
theorem wleft_end {L : Tx} {k : Nat} {done : List Tx} {cur : Tx} (h : wleft L k done cur) (hk : k = L.length) : wleft L (k + 1) (if cur = [] then done else done ++ [cur]) [] := by
  subst hk
  unfold wleft at *
  rw [if_pos (by omega)] at h
  rw [if_neg (by omega), h, List.drop_length, wgo]
  by_cases hc : cur = []
  · rw [if_pos hc, if_pos hc]; simp
  · rw [if_neg hc, if_neg hc]
theorem wleft_done {L : Tx} {k : Nat} {done : List Tx} {cur : Tx} (h : wleft L k done cur) (hk : L.length < k) : done = wordsT L := by
  unfold wleft at h
  rw [if_neg (by omega)] at h
  exact h.symm
theorem one_more (cur : Tx) (s : ByteArray) (k : Nat) (hk : k < s.size) : (⟨cur.toArray⟩ ++ s.extract k (k + 1) : ByteArray) = ⟨(cur ++ [s[k]]).toArray⟩ := by
  apply ByteArray.ext
  rw [ByteArray.data_append, ByteArray.data_extract]
  apply Array.ext'
  simp only [Array.toList_append, Array.toList_extract]
  rw [List.extract_eq_take_drop]
  have hl : k < s.data.toList.length := by simpa using hk
  rw [show k + 1 - k = 1 by omega, List.drop_eq_getElem_cons hl]
  rfl
set_option maxRecDepth 20000 in
set_option maxHeartbeats 4000000 in
theorem words_any (w : World) (s : ByteArray) (hs : s.size ≤ 2000000) :
    Calls Tryz.prog 39 #[.string s] w fun e w' => ∃ v, e = .returned v ∧ OwnS w w' v (wordsT s.data.toList) ∧ Gr w w' := by
  have hsz : s.data.toList.length = s.size := by simp
  have HSZ := hide hsz
  clear hsz
  go_enter Tryz.func39, Tryz.ntmps39
  go_wp2_with fail
  go_loopw [3, 4, 5] (fun v3 v4 v5 wr => ∃ (k : Nat) (done : List Tx) (cur : Tx), k ≤ s.size + 1 ∧ v5 = .int .i64 k ∧ v4 = .string ⟨cur.toArray⟩ ∧ Hid (OwnS w wr v3 done) ∧ Gr w wr ∧ cur.length ≤ k ∧ done.length ≤ k ∧ Hid (wleft s.data.toList k done cur)) (fun _ _ v5 _ => s.size + 1 - (intOf v5).toNat)
  case atStart => exact ⟨0, [], [], by omega, rfl, rfl, OwnV.nil _ _ _, Gr.refl _, by simp, by simp, wleft_zero _⟩
  case round =>
    obtain ⟨k, done, cur, hk, rfl, rfl, HO, gk, hcl, hdl, HL⟩ := hrel
    by_cases hlt : k < s.size
    · have hkI : (k : Int) < (s.size : Int) := by omega
      by_cases hb : s[k] = 32
      · have HN := hide (wleft_cut HL.out (by rw [HSZ.out]; exact hlt) hb)
        have eb : ((s[k].toNat : Int) != 32) = false := by rw [hb]; rfl
        clear hb
        by_cases hc : cur = []
        · subst hc
          rw [if_pos rfl] at HN
          go_wp2_with fail
          go_roundw
          case rel => exact ⟨k + 1, done, [], by omega, by go_num, rfl, HO, gk, by simp, by omega, HN⟩
          case measure => simp [intOf]; omega
        · have ec : (cur == []) = false := by simpa using hc
          obtain ⟨v', w', hrun, hown, hgr⟩ := OwnV.appS 58 HO.out gk cur (by simp; omega)
          have HR := hide hrun
          have HW := hide hown
          clear hrun hown
          rw [if_neg hc] at HN
          go_wp2_with (at_builtin; refine Lib.wpList_append_run _ rfl _ _ _ _ rfl _ _ rfl rfl _ _ HR.out ?_)
          go_roundw
          case rel => exact ⟨k + 1, done ++ [cur], [], by omega, by go_num, rfl, ownS_snoc HW.out, hgr, by simp, by simp; omega, HN⟩
          case measure => simp [intOf]; omega
      · have HN := hide (wleft_more HL.out (by rw [HSZ.out]; exact hlt) hb)
        have eb : ((s[k].toNat : Int) != 32) = true := by
          simp only [bne_iff_ne, ne_eq]; intro h; exact hb (UInt8.toNat_inj.1 (by simpa using (by omega : s[k].toNat = 32)))
        have HM := hide (one_more cur s k hlt)
        clear hb
        go_wp2_with fail
        go_roundw
        case rel => exact ⟨k + 1, done, cur ++ [s[k]], by omega, by go_num, by rw [← HM.out], HO, gk, by simp; omega, by omega, HN⟩
        case measure => simp [intOf]; omega
    · by_cases he : k = s.size
      · have HN := hide (wleft_end HL.out (by rw [HSZ.out]; exact he))
        have hk1 : k ≤ s.size := by omega
        have hk2 : decide ((k : Int) < (s.size : Int)) = false := decide_eq_false (by omega)
        have hk3 : decide ((k : Int) ≤ (s.size : Int)) = true := decide_eq_true (by omega)
        clear he
        by_cases hc : cur = []
        · subst hc
          rw [if_pos rfl] at HN
          go_wp2_with fail
          go_roundw
          case rel => exact ⟨k + 1, done, [], by omega, by go_num, rfl, HO, gk, by simp, by omega, HN⟩
          case measure => simp [intOf]; omega
        · have ec : (cur == []) = false := by simpa using hc
          obtain ⟨v', w', hrun, hown, hgr⟩ := OwnV.appS 58 HO.out gk cur (by simp; omega)
          have HR := hide hrun
          have HW := hide hown
          clear hrun hown
          rw [if_neg hc] at HN
          go_wp2_with (at_builtin; refine Lib.wpList_append_run _ rfl _ _ _ _ rfl _ _ rfl rfl _ _ HR.out ?_)
          go_roundw
          case rel => exact ⟨k + 1, done ++ [cur], [], by omega, by go_num, rfl, ownS_snoc HW.out, hgr, by simp, by simp; omega, HN⟩
          case measure => simp [intOf]; omega
      · have hk3 : decide ((k : Int) ≤ (s.size : Int)) = false := decide_eq_false (by omega)
        have HD := hide (wleft_done HL.out (by rw [HSZ.out]; omega))
        go_wp2_with fail
        go_ret
        exact ⟨_, rfl, by rw [← HD.out]; exact HO.out, gk⟩

end Go.Proofs.YtfcknkanbcndjagGreatDoor

/- CONTRACT OF handpostref.LinesFault. -/
namespace Go.Proofs.YtfcknkanbcndjagGreatDoor
open Go.RowKit
attribute [local go_sem] Ext.all Ext.cell Ext.frozen Ext.lt Ext.lt1 Ext.lt2 Ext.ne Ext.ne'
/-- The first line with a newline in it, from i on. -/
def fltGo : List Tx → Nat → Int × Int
  | [], _ => (0, 0)
  | l :: r, i => if (10 : UInt8) ∈ l then (10, (i : Int)) else fltGo r (i + 1)
/-- May there be such lines? A code and a place. -/
def fltD (ls : List Tx) : Int × Int := if 150 < ls.length then (3, -1) else fltGo ls 0
theorem flt_miss {ls : List Tx} {i : Nat} (hi : i < ls.length) (h : (10 : UInt8) ∉ ls[i]) : fltGo (ls.drop i) i = fltGo (ls.drop (i + 1)) (i + 1) := by
  rw [List.drop_eq_getElem_cons hi, fltGo, if_neg h]
theorem flt_hit {ls : List Tx} {i : Nat} (hi : i < ls.length) (h : (10 : UInt8) ∈ ls[i]) : fltGo (ls.drop i) i = (10, (i : Int)) := by
  rw [List.drop_eq_getElem_cons hi, fltGo, if_pos h]
theorem flt_end {ls : List Tx} {i : Nat} (hi : ls.length ≤ i) : fltGo (ls.drop i) i = (0, 0) := by
  rw [List.drop_of_length_le hi]; rfl
theorem rF_any (c a : Int) (w : World) : Calls Tryz.prog 44 #[iv c, iv a] w fun e w' => e = .returned (.agg #[iv c, iv a]) ∧ Gr w w' := by
  go_enter Tryz.func44, Tryz.ntmps44
  go_wp2
  refine bodyPost_ret (v := .agg #[iv c, iv a]) (by simp [results, Tryz.results44, go_sem]) rfl ⟨rfl, ?_⟩
  first
    | exact (Gr.refl w).alloc _
    | exact (((Gr.refl w).alloc _).setCell (by simp) _).setCell (by simp) _
/-- The place of a fault, in a world that has grown since. -/
abbrev FBx (w wr : World) (R : Nat) (c a : Int) : Prop := wr.heap[R]? = some (.cells #[iv c, iv a] 66 (0, 0)) ∧ w.heap.size ≤ R ∧ Gr w wr
theorem fbx_set {w wr : World} {R : Nat} {c a : Int} (h : FBx w wr R c a) (c' a' : Int) : FBx w ((wr.setCell ⟨R, 0, none⟩ (iv c')).setCell ⟨R, 1, none⟩ (iv a')) R c' a' :=
  ⟨heap_setCell_same _ R 1 _ _ (iv a') (heap_setCell_same wr R 0 _ _ (iv c') h.1), h.2.1, (h.2.2.setCell h.2.1 _).setCell h.2.1 _⟩
set_option maxRecDepth 20000 in
set_option maxHeartbeats 8000000 in
theorem linesFault_any {w : World} {ao : Option Addr} {cp : Nat} {ls : List Tx} (h : ValAt w ao (ls.map sv)) (hl : ls.length ≤ 2000000) (hy : ∀ y ∈ ls, y.length ≤ 2000000) :
    Calls Tryz.prog 24 #[.slice ao ls.length cp] w fun e w' => e = .returned (.agg #[iv (fltD ls).1, iv (fltD ls).2]) ∧ Gr w w' := by
  have hb0 := heap_alloc_new w (.cells #[iv 0, iv 0] 66)
  have B0 : Hid (FBx w (w.alloc (.cells #[iv 0, iv 0] 66)) w.heap.size 0 0) := ⟨hb0, Nat.le_refl _, (Gr.refl w).alloc _⟩
  clear hb0
  have HV := hide h
  have HY := hide hy
  clear h hy
  by_cases h150 : 150 < ls.length
  · have HF : Hid (fltD ls = (3, -1)) := by unfold Hid fltD; rw [if_pos h150]
    rw [HF.out]
    have hI : (150 : Int) < (ls.length : Int) := by omega
    have hI2 : decide ((150 : Int) < (ls.length : Int)) = true := decide_eq_true hI
    have HC := hide (rF_any 3 (-1) (w.alloc (.cells #[iv 0, iv 0] 66)))
    clear HF
    go_enter Tryz.func24, Tryz.ntmps24
    go_wp2_with (go_at_call 44; refine HC.out.mono ?_; rintro e w3 ⟨rfl, g3⟩; obtain ⟨d3, hd3⟩ := ext_mk g3; subst hd3; clear g3)
    have B3 : Hid (FBx w d3.out w.heap.size 0 0) := ⟨(Below.block d3.gr _ (by simp)).trans B0.out.1, Nat.le_refl _, B0.out.2.2.trans d3.gr⟩
    have B4 := hide (fbx_set B3.out 3 (-1))
    refine bp_gen' (fun Z => Hid (FBx w Z w.heap.size 3 (-1))) B4.out ?_
    rintro Z HZ
    obtain ⟨z0, z1⟩ := cells2 HZ.out.1
    exact bodyPost_ret (v := .agg #[iv 3, iv (-1)]) (by simp [results, Tryz.results24, go_sem, z0, z1]) rfl ⟨rfl, HZ.out.2.2⟩
  have hI2 : decide ((150 : Int) < (ls.length : Int)) = false := decide_eq_false (by omega)
  have HF : Hid (fltD ls = fltGo (ls.drop 0) 0) := by unfold Hid fltD; rw [if_neg h150]; rfl
  have HP := hide h150
  clear h150
  go_enter Tryz.func24, Tryz.ntmps24
  go_upto_region 3 with (fail)
  refine wp_gen (fun Z => Hid (FBx w Z w.heap.size 0 0)) B0.out ?_
  clear B0
  obtain ⟨R, hR⟩ : ∃ R, w.heap.size = R := ⟨_, rfl⟩
  rw [hR]
  clear hR
  rintro Z0 BZ
  have HVZ := hide (HV.out.gr BZ.out.2.2)
  obtain ⟨z0, z1⟩ := cells2 BZ.out.1
  have zf0 : Z0.frozen? ⟨R, 0, none⟩ = false := frozen_of_row Z0 R 0 _ _ BZ.out.1
  have zf1 : Z0.frozen? ⟨R, 1, none⟩ = false := frozen_of_row Z0 R 1 _ _ BZ.out.1
  have zl : R < Z0.heap.size := lt_of_block BZ.out.1
  go_wp2_with fail
  go_loopw [3] (fun v3 wr => ∃ i : Nat, i ≤ ls.length ∧ v3 = .int .i64 (i : Int) ∧ Hid (fltD ls = fltGo (ls.drop i) i) ∧ wr = Z0) (fun v3 _ => ls.length - (intOf v3).toNat)
  case atStart => exact ⟨0, by omega, rfl, HF, rfl⟩
  case round =>
    obtain ⟨i, hi, rfl, HI, hwr⟩ := hrel
    subst hwr
    by_cases hlt : i < ls.length
    · have hiI : (i : Int) < (ls.length : Int) := by omega
      have wri : IntKind.i64.wrap ((i : Int) + 1) = (i : Int) + 1 := by rw [IntKind.wrap_i64]; omega
      obtain ⟨b, o, hao⟩ : ∃ b o, ao = some ⟨b, o, none⟩ := by
        rcases HVZ.out with h | ⟨b', o', ha, _⟩
        · have : ls = [] := by simpa using h
          rw [this] at hlt; simp at hlt
        · exact ⟨b', o', ha⟩
      subst hao
      have hcell : wr.cell? ⟨b, o + i, none⟩ = some (sv ls[i]) ∧ b < wr.heap.size := by
        rcases HVZ.out with h | ⟨b', o', ha, hb, hc⟩
        · have : ls = [] := by simpa using h
          rw [this] at hlt; simp at hlt
        · cases ha
          have := hc i (by simpa using hlt)
          exact ⟨by simpa using this, hb⟩
      obtain ⟨cy, hb⟩ := hcell
      have hyl := HY.out ls[i] (List.getElem_mem hlt)
      have HM := hide (fun h => flt_miss hlt h)
      have HH := hide (fun h => flt_hit hlt h)
      generalize ls[i] = y at cy hyl HM HH
      obtain ⟨s, hs⟩ : ∃ s : ByteArray, s = ⟨y.toArray⟩ := ⟨_, rfl⟩
      have hsz : s.size = y.length := by rw [hs, size_of_list]
      have HS : Hid (∀ k (h : k < s.size), s[k] ∈ y) := fun k h => by subst hs; exact List.getElem_mem (by rw [← hsz]; exact h)
      have HS2 : Hid ((10 : UInt8) ∈ y → ∃ k, ∃ h : k < s.size, s[k] = 10) := fun hm => by
        subst hs
        obtain ⟨k, hk, e⟩ := List.mem_iff_getElem.1 hm
        exact ⟨k, by rw [hsz]; exact hk, e⟩
      rw [show sv y = Value.string s by rw [hs]] at cy
      have hss : s.size ≤ 2000000 := by omega
      clear hs hsz hyl
      go_wp2_with fail
      go_loopw [4] (fun v4 wq => ∃ k : Nat, k ≤ s.size ∧ v4 = .int .i64 (k : Int) ∧ Hid (∀ j (h : j < s.size), j < k → s[j] ≠ 10) ∧ wq = wr) (fun v4 _ => s.size - (intOf v4).toNat)
      case atStart => exact ⟨0, by omega, rfl, fun j _ h => by omega, rfl⟩
      case round =>
        obtain ⟨k, hk, rfl, HK, hwq⟩ := hrel
        subst hwq
        by_cases hkl : k < s.size
        · have hkI : (k : Int) < (s.size : Int) := by omega
          have wrk : IntKind.i64.wrap ((k : Int) + 1) = (k : Int) + 1 := by rw [IntKind.wrap_i64]; omega
          by_cases h10 : s[k] = 10
          · have eb : ((s[k].toNat : Int) == 10) = true := by rw [h10]; rfl
            have HE := hide (HI.out.trans (HH.out (by have := HS.out k hkl; rw [h10] at this; exact this)))
            have HC := hide (rF_any 10 (i : Int) wr)
            clear h10
            go_wp2_with (go_at_call 44; refine HC.out.mono ?_; rintro e w3 ⟨rfl, g3⟩; obtain ⟨d3, hd3⟩ := ext_mk g3; subst hd3; clear g3)
            have B3 : Hid (FBx w d3.out R 0 0) := ⟨(Below.block d3.gr R zl).trans BZ.out.1, BZ.out.2.1, BZ.out.2.2.trans d3.gr⟩
            have B4 := hide (fbx_set B3.out 10 (i : Int))
            refine bp_gen' (fun Z => Hid (FBx w Z R 10 (i : Int))) B4.out ?_
            rintro Z HZ
            obtain ⟨y0, y1⟩ := cells2 HZ.out.1
            exact bodyPost_ret (v := .agg #[iv 10, iv (i : Int)]) (by simp [results, Tryz.results24, go_sem, y0, y1]) rfl ⟨by rw [HE.out], HZ.out.2.2⟩
          · have eb : ((s[k].toNat : Int) == 10) = false := by
              simp only [beq_eq_false_iff_ne, ne_eq]; intro h; exact h10 (UInt8.toNat_inj.1 (by simpa using (by omega : s[k].toNat = 10)))
            have H10 := hide h10
            clear h10
            go_wp2_with fail
            go_roundw
            case rel => exact ⟨k + 1, by omega, by congr 1, fun j h hj => by
              by_cases e : j = k
              · subst e; exact H10.out
              · exact HK.out j h (by omega), trivial⟩
            case measure => simp [intOf]; omega
        · have hkI : decide ((k : Int) < (s.size : Int)) = false := decide_eq_false (by omega)
          have HE := hide (HI.out.trans (HM.out (fun hm => by
            obtain ⟨j, hj, e⟩ := HS2.out hm
            exact HK.out j hj (by omega) e)))
          go_wp2_with fail
          go_roundw
          case rel => exact ⟨i + 1, by omega, by congr 1, HE, trivial⟩
          case measure => simp [intOf]; omega
    · have hiI : decide ((i : Int) < (ls.length : Int)) = false := decide_eq_false (by omega)
      have HE := hide (HI.out.trans (flt_end (by omega)))
      have B4 := hide (fbx_set BZ.out 0 0)
      go_wp2_with fail
      refine bp_gen' (fun Z => Hid (FBx w Z R 0 0)) B4.out ?_
      rintro Z HZ
      obtain ⟨z0, z1⟩ := cells2 HZ.out.1
      exact bodyPost_ret (v := .agg #[iv 0, iv 0]) (by simp [results, Tryz.results24, go_sem, z0, z1]) rfl ⟨by rw [HE.out], HZ.out.2.2⟩

end Go.Proofs.YtfcknkanbcndjagGreatDoor

/- CONTRACTS OF strconv's Itoa and Atoi, and of handpostref.num, in worlds where the library's variables are as they start. -/
namespace Go.Proofs.YtfcknkanbcndjagGreatDoor
open Go.RowKit
attribute [local go_sem] Ext.all Ext.cell Ext.frozen Ext.lt Ext.lt1 Ext.lt2 Ext.ne Ext.ne'
/-- The library's variables are as they start. -/
structure Lb (w : World) : Prop where
  t64 : Tab64 w
  p10 : Lib.TabIs Tryz.prog w "internal/strconv.uint64pow10" .u64 Lib.pow10Tab
  syn : ∃ tp p, w.var? Tryz.prog "strconv.ErrSyntax" = some #[.iface tp p]
  rng : ∃ tp p, w.var? Tryz.prog "strconv.ErrRange" = some #[.iface tp p]
  ml : ∃ m, w.cell? ⟨0, 0, none⟩ = some (.int .i64 m)
theorem var_gr {w w' : World} {name : String} {x : Array Value} (h : w.var? Tryz.prog name = some x) (g : Gr w w') : w'.var? Tryz.prog name = some x := by
  unfold World.var? at *
  cases hg : Tryz.prog.globalNamed name with
  | none => simp [hg] at h
  | some k =>
    simp only [hg, Option.bind_some] at h ⊢
    have hlt : k < w.heap.size := by
      rcases Nat.lt_or_ge k w.heap.size with h' | h'
      · exact h'
      · rw [Array.getElem?_eq_none h'] at h; simp at h
    rw [Below.block g k hlt]
    exact h
theorem Lb.gr {w w' : World} (h : Lb w) (g : Gr w w') : Lb w' := by
  obtain ⟨a, b, ⟨t1, p1, c⟩, ⟨t2, p2, d⟩, ⟨m, hm⟩⟩ := h
  exact ⟨a.gr g, (Lib.tabBelow_of_tabIs b) w' g, ⟨t1, p1, var_gr c g⟩, ⟨t2, p2, var_gr d g⟩, ⟨m, (Below.cell g (p := ⟨0, 0, none⟩) (World.block_lt_of_cell? _ _ hm)).trans hm⟩⟩
/-- A number of 64 bits. -/
def i64B (n : Int) : Prop := -9223372036854775808 ≤ n ∧ n ≤ 9223372036854775807
theorem itoa_any {w : World} (hL : Lb w) {n : Int} (hn : i64B n) :
    Calls Tryz.prog 133 #[iv n] w fun e w' => e = .returned (sv (ito n)) ∧ Gr w w' :=
  (Tryz.strconv_Itoa n hn.1 hn.2 w hL.p10).mono fun _ _ ⟨he, k, os, hw⟩ => ⟨he, by rw [hw]; exact Lib.below_grow _ w (Nat.le_refl _) k os⟩
theorem ito_len {n : Int} (hn : i64B n) : (ito n).length ≤ 21 := Lib.itoa_length_le n hn.1 hn.2
/-- What Atoi tells. -/
def AtoE (s : Tx) (k : Int) (er : Value) : Prop := match Lib.atoiAll s with
  | .ok v => k = v ∧ er = .nilIface
  | _ => ∃ T N, er = .iface T (pv N)
theorem atoi_any {w : World} (hL : Lb w) (s : ByteArray) (hs : s.size ≤ 2000000) :
    Calls Tryz.prog 91 #[.string s] w fun e w' => ∃ k er, e = .returned (.tuple #[iv k, er]) ∧ AtoE s.data.toList k er ∧ i64B k ∧ Gr w w' := by
  obtain ⟨t1, p1, h1⟩ := hL.syn
  obtain ⟨t2, p2, h2⟩ := hL.rng
  cases h : Lib.atoiAll s.data.toList with
  | ok v =>
    obtain ⟨b0, b1⟩ := Lib.atoiAll_bounds h
    refine (Tryz.strconv_Atoi_ok s (by omega) v h w).mono ?_
    rintro e w' ⟨rfl, hw⟩
    refine ⟨v, .nilIface, rfl, by unfold AtoE; rw [h]; exact ⟨rfl, rfl⟩, ⟨b0, b1⟩, ?_⟩
    rcases hw with rfl | ⟨t, rfl⟩
    · exact Gr.refl _
    · exact Lib.bytesWorld_below w _ t
  | «syntax» =>
    refine (Tryz.strconv_Atoi_syntax_var s (by omega) h t1 p1 w h1).mono ?_
    rintro e w' ⟨N, rfl, _, _, hb⟩
    exact ⟨0, _, rfl, by unfold AtoE; rw [h]; exact ⟨_, N, rfl⟩, ⟨by decide, by decide⟩, hb⟩
  | range =>
    obtain ⟨b0, b1⟩ := Lib.atoiSat_bounds s.data.toList
    refine (Tryz.strconv_Atoi_range_var s (by omega) h t2 p2 w h2).mono ?_
    rintro e w' ⟨N, rfl, _, _, hb⟩
    exact ⟨_, _, rfl, by unfold AtoE; rw [h]; exact ⟨_, N, rfl⟩, ⟨b0, b1⟩, hb⟩
/-- The reference's num. -/
theorem num_any {w : World} (hL : Lb w) {n : Int} (hn : i64B n) :
    Calls Tryz.prog 92 #[iv n] w fun e w' => e = .returned (sv (ito n)) ∧ Gr w w' := by
  have HC := hide (itoa_any hL hn)
  clear hL hn
  generalize ito n = x at *
  go_enter Tryz.func92, Tryz.ntmps92
  go_wp2_with (go_at_call 133; refine HC.out.mono ?_; rintro e w1 ⟨rfl, g1⟩)
  go_ret
  exact ⟨rfl, g1⟩

end Go.Proofs.YtfcknkanbcndjagGreatDoor

/- THE PROGRAM'S DESK as an object with own blocks (LAYOUT OF THE SCRATCH CODE: Desk { *fib.Post }). -/
namespace Go.Proofs.YtfcknkanbcndjagGreatDoor
open Go.RowKit

/-- The program's desk at K whose own blocks are S. -/
def Kq (M : Nat → Prop) (B w : World) (K : Nat) (S : Nat → Prop) (s : Dk) (n : Nat) : Prop :=
  ∃ P S0, w.heap[K]? = some (.cells #[pv P] 87 (0, 0)) ∧ Pq M B w P S0 s.c s.t n s.rs ∧ ¬ S0 K ∧ ¬ M K ∧ S = fun b => b = K ∨ S0 b
section
variable {M N : Nat → Prop} {B w w' : World} {K : Nat} {S S' : Nat → Prop} {s : Dk} {n : Nat}
theorem Kq.gr (H : Kq M B w K S s n) (g : Gr w w') : Kq M B w' K S s n := by
  obtain ⟨P, S0, hb, hp, h1, h2, e⟩ := H
  exact ⟨P, S0, (Below.block g K (lt_of_block hb)).trans hb, hp.gr g, h1, h2, e⟩
theorem Kq.keep (H : Kq M B w K S s n) (hk : Kp N w w') (hMN : ∀ b, M b → N b) (hS : ∀ b, S b → N b) : Kq M B w' K S s n := by
  obtain ⟨P, S0, hb, hp, h1, h2, e⟩ := H
  subst e
  exact ⟨P, S0, (hk.block K (lt_of_block hb) (hS K (.inl rfl))).trans hb, hp.keep hk hMN (fun b h => hS b (.inr h)), h1, h2, rfl⟩
theorem Kq.lt (H : Kq M B w K S s n) {b : Nat} (hb : S b) : b < w.heap.size := by
  obtain ⟨P, S0, hk, hp, h1, h2, e⟩ := H
  subst e
  rcases hb with rfl | hb
  · exact lt_of_block hk
  · exact hp.lt hb
theorem Kq.out (H : Kq M B w K S s n) {b : Nat} (hm : M b) : b < w.heap.size ∧ ¬ S b := by
  obtain ⟨P, S0, hk, hp, h1, h2, e⟩ := H
  subst e
  refine ⟨(hp.out hm).1, ?_⟩
  rintro (rfl | h)
  · exact h2 hm
  · exact (hp.out hm).2 h
end

end Go.Proofs.YtfcknkanbcndjagGreatDoor

/- CONTRACTS OF package handpostref: BitsOf, Text. -/
namespace Go.Proofs.YtfcknkanbcndjagGreatDoor
open Go.RowKit
attribute [local go_sem] Ext.all Ext.cell Ext.frozen Ext.lt Ext.lt1 Ext.lt2 Ext.ne Ext.ne'
/-- One bit more, ahead. -/
theorem bitsL_cons : ∀ (k : Nat) (b : Int), bitsL (k + 1) b = (if b / 2 ^ k % 2 = 1 then (49 : UInt8) else 48) :: bitsL k b
  | 0, b => by simp [bitsL]
  | k + 1, b => by
    rw [bitsL, bitsL_cons k (b / 2)]
    have e : b / 2 / 2 ^ k = b / 2 ^ (k + 1) := by
      rw [Int.ediv_ediv_of_nonneg (by decide), Int.pow_succ, Int.mul_comm]
    rw [e, List.cons_append]
    rfl

/-- Two texts, one behind the other. -/
theorem cat (a t : List UInt8) : (⟨a.toArray⟩ ++ ⟨t.toArray⟩ : ByteArray) = ⟨(a ++ t).toArray⟩ := by
  apply ByteArray.ext
  simp

set_option maxRecDepth 20000 in
set_option maxHeartbeats 800000 in
theorem bitsOf_any (n : Nat) (b : Int) (hn : n ≤ 8) (hb : 0 ≤ b) (hb2 : b < 1024) (w : World) :
    Calls Tryz.prog 169 #[.int .i64 b, .int .i64 n] w fun e w' => e = .returned (.string ⟨(bitsL n b).toArray⟩) ∧ w' = w := by
  go_enter Tryz.func169, Tryz.ntmps169
  go_wp2
  go_loop [0, 5, 6] (fun x s i => ∃ (k : Nat) (A : Int) (t : List UInt8), k ≤ n ∧ Hid (A = b / 2 ^ k) ∧ 0 ≤ A ∧ A < 1024 ∧ Hid (t = bitsL k b) ∧ t.length ≤ 8 ∧ x = .int .i64 A ∧ s = .string ⟨t.toArray⟩ ∧ i = .int .i64 k) (fun _ _ i => n - (intOf i).toNat)
  case atStart => exact ⟨0, b, [], by omega, (by show b = b / 2 ^ 0; simp), hb, hb2, rfl, by simp, rfl, rfl, rfl⟩
  case round =>
    obtain ⟨k, A, t, hk, HA, A0, A1, HT, tl, rfl, rfl, rfl⟩ := hrel
    by_cases hlt : k < n
    · by_cases hbit : A % 2 = 1
      · have HB : Hid ((if A % 2 = 1 then (49 : UInt8) else 48) = 49) := if_pos hbit
        go_wp2
        go_round
        case rel => exact ⟨k + 1, A / 2, 49 :: t, by omega, (by show A / 2 = _; rw [HA.out, div_pow_succ]), by omega, by omega, (by show _ = bitsL (k + 1) b; rw [bitsL_cons, ← HA.out, HT.out, HB.out]), (by have := bitsL_length k b; rw [← HT.out] at this; simp; omega), rfl, congrArg Value.string (cat [49] t), by go_num⟩
        case measure => simp [intOf]; omega
      · have HB : Hid ((if A % 2 = 1 then (49 : UInt8) else 48) = 48) := if_neg hbit
        go_wp2
        go_round
        case rel => exact ⟨k + 1, A / 2, 48 :: t, by omega, (by show A / 2 = _; rw [HA.out, div_pow_succ]), by omega, by omega, (by show _ = bitsL (k + 1) b; rw [bitsL_cons, ← HA.out, HT.out, HB.out]), (by have := bitsL_length k b; rw [← HT.out] at this; simp; omega), rfl, congrArg Value.string (cat [48] t), by go_num⟩
        case measure => simp [intOf]; omega
    · have e : k = n := by omega
      have HE := hide e
      clear e
      go_wp2
      go_ret
      exact ⟨by rw [← HE.out, ← HT.out]; rfl, rfl⟩

theorem rtext_any (l b : Int) (w : World) :
    Calls Tryz.prog 134 #[pfx l b] w fun e w' => e = .returned (.string ⟨(textL l b).toArray⟩) ∧ ∃ d : Ext w, w' = d.out := by
  cases ho : okB l b
  · have ht : textL l b = [] := by simp [textL, ho]
    rw [ht]; clear ht
    go_enter Tryz.func134, Tryz.ntmps134
    go_wp2_with (go_at_call 104; refine (isp_is ho _).mono ?_; rintro e _ ⟨rfl, d1, rfl⟩)
    go_ret
    exact ⟨rfl, ext_mk (((Gr.refl _).alloc _).ext d1)⟩
  · obtain ⟨l0, l8, hb, hl, g1, g2⟩ := ok_pows ho
    obtain ⟨p1, p2⟩ := pw_bd l l8
    obtain ⟨n, rfl⟩ := Int.eq_ofNat_of_zero_le l0
    have hb2 : b < 1024 := by omega
    have hlen := bitsL_length n b
    have HL : Hid _ := hlen
    have hlen2 : (bitsL n b).length ≤ 8 := by omega
    clear hlen hl g1 g2 p1 p2
    by_cases h8 : (n : Int) < 8
    · have ht : textL n b = bitsL n b ++ [42] := by simp [textL, ho]; omega
      rw [ht]; clear ht
      go_enter Tryz.func134, Tryz.ntmps134
      go_wp2_with (first
        | (go_at_call 104; refine (isp_is ho _).mono ?_; rintro e _ ⟨rfl, d1, rfl⟩)
        | (go_at_call 169; refine (bitsOf_any n b (by omega) hb hb2 _).mono ?_; rintro e w' ⟨rfl, hw⟩; subst hw))
      go_ret
      exact ⟨by rw [← cat]; rfl, ext_mk (((Gr.refl _).alloc _).ext d1)⟩
    · have ht : textL n b = bitsL n b := by simp [textL, ho]; omega
      rw [ht]; clear ht
      go_enter Tryz.func134, Tryz.ntmps134
      go_wp2_with (first
        | (go_at_call 104; refine (isp_is ho _).mono ?_; rintro e _ ⟨rfl, d1, rfl⟩)
        | (go_at_call 169; refine (bitsOf_any n b (by omega) hb hb2 _).mono ?_; rintro e w' ⟨rfl, hw⟩; subst hw))
      go_ret
      exact ⟨rfl, ext_mk (((Gr.refl _).alloc _).ext d1)⟩

end Go.Proofs.YtfcknkanbcndjagGreatDoor

/- CONTRACTS OF the reference's Desk: say, table. -/
namespace Go.Proofs.YtfcknkanbcndjagGreatDoor
open Go.RowKit
attribute [local go_sem] Ext.all Ext.cell Ext.frozen Ext.lt Ext.lt1 Ext.lt2 Ext.ne Ext.ne'
/-- A desk of the reference at D: what was told, its town. -/
abbrev DkAt (w : World) (D T : Nat) (told : Tx) : Prop := w.heap[D]? = some (.cells #[sv told, pv T] 89 (0, 0))
/-- All but the desk's own block is as it was, or new; so much is told. -/
structure Tells (D T : Nat) (w w' : World) (told : Tx) : Prop where
  kp : Kp (fun b => b ≠ D) w w'
  at' : DkAt w' D T told
theorem DkAt.cells {w : World} {D T : Nat} {told : Tx} (h : DkAt w D T told) : w.cell? ⟨D, 0, none⟩ = some (sv told) ∧ w.cell? ⟨D, 1, none⟩ = some (pv T) ∧ w.frozen? ⟨D, 0, none⟩ = false ∧ D < w.heap.size := by
  refine ⟨?_, ?_, ?_, lt_of_block h⟩
  · simp [World.cell?, h]
  · simp [World.cell?, h]
  · exact frozen_of_row w D 0 _ _ h
theorem DkAt.gr {w w' : World} {D T : Nat} {told : Tx} (h : DkAt w D T told) (g : Gr w w') : DkAt w' D T told := (Below.block g D (lt_of_block h)).trans h
theorem Tells.of_gr {w w' : World} {D T : Nat} {told : Tx} (h : DkAt w D T told) (g : Gr w w') : Tells D T w w' told := ⟨g.kp _, h.gr g⟩
theorem Tells.trans {w w1 w2 : World} {D T : Nat} {a b : Tx} (h : Tells D T w w1 a) (k : Tells D T w1 w2 b) : Tells D T w w2 b := ⟨h.kp.trans k.kp, k.at'⟩
theorem say_any {w : World} {D T : Nat} {told : Tx} (h : DkAt w D T told) (s : Tx) (h1 : told.length ≤ 4000000) (h2 : s.length ≤ 1000000) :
    Calls Tryz.prog 93 #[pv D, sv s] w fun e w' => e = .returned (.tuple #[]) ∧ Tells D T w w' (told ++ (s ++ [10])) := by
  obtain ⟨c0, c1, f0, hD⟩ := h.cells
  have hst := heap_setCell_same w D 0 _ _ (sv (told ++ (s ++ [10]))) h
  have HS := hide hst
  have HE : Hid ((⟨told.toArray⟩ ++ (⟨s.toArray⟩ ++ ⟨#[10]⟩) : ByteArray) = ⟨(told ++ (s ++ [10])).toArray⟩) := by
    unfold Hid
    rw [show (⟨#[10]⟩ : ByteArray) = ⟨[10].toArray⟩ from rfl, cat, cat]
  clear hst h
  go_enter Tryz.func93, Tryz.ntmps93
  go_wp2_with fail
  rw [HE.out]
  exact bodyPost_end (results_none rfl _ _ _) rfl ⟨rfl, (Kp.refl _ w).set (fun h => h rfl) 0 _, HS.out⟩
/-- Two texts, one behind the other, as a step of the walk. -/
theorem add_run (a b : ByteArray) (h : a.size + b.size ≤ 16000000) : ∃ c, Hid (c = a ++ b) ∧ ∀ w : World, (Op.stringOp .add a b).run Tryz.prog w = .ok (.string c) w :=
  ⟨_, rfl, fun w => run_string_add_sum w _ _ (by omega)⟩
/-- A blank and a word more, as two steps of the walk. -/
theorem add_more {s : ByteArray} {t : Tx} (hs : Hid (s = ⟨t.toArray⟩)) (ht : t.length ≤ 1000000) (x : Tx) (hx : x.length ≤ 1000) : ∃ s1 s2, Hid (s2 = ⟨(t ++ 32 :: x).toArray⟩) ∧ (∀ w : World, (Op.stringOp .add s ⟨#[32]⟩).run Tryz.prog w = .ok (.string s1) w) ∧ ∀ w : World, (Op.stringOp .add s1 ⟨x.toArray⟩).run Tryz.prog w = .ok (.string s2) w := by
  have e := hs.out
  subst e
  obtain ⟨s1, h1, e1⟩ := add_run ⟨t.toArray⟩ ⟨#[32]⟩ (by rw [size_of_list]; simp [ByteArray.size]; omega)
  have h1' : s1 = ⟨(t ++ [32]).toArray⟩ := by rw [h1.out, show (⟨#[32]⟩ : ByteArray) = ⟨[32].toArray⟩ from rfl, cat]
  subst h1'
  obtain ⟨s2, h2, e2⟩ := add_run ⟨(t ++ [32]).toArray⟩ ⟨x.toArray⟩ (by rw [size_of_list, size_of_list]; simp; omega)
  refine ⟨_, s2, ?_, e1, e2⟩
  unfold Hid
  rw [h2.out, cat]
  simp
theorem add_first (a x : Tx) (ha : a.length ≤ 1000) (hx : x.length ≤ 1000) : ∃ s, Hid (s = ⟨(a ++ x).toArray⟩) ∧ ∀ w : World, (Op.stringOp .add ⟨a.toArray⟩ ⟨x.toArray⟩).run Tryz.prog w = .ok (.string s) w := by
  obtain ⟨s, h, e⟩ := add_run ⟨a.toArray⟩ ⟨x.toArray⟩ (by rw [size_of_list, size_of_list]; omega)
  exact ⟨s, by unfold Hid; rw [h.out, cat], e⟩
/-- What is as it was but for a young block has grown out of what is older. -/
theorem kp_gr {W w V : World} {D : Nat} (k : Kp (fun b => b ≠ D) w V) (g : Gr W w) (hD : W.heap.size ≤ D) : Gr W V :=
  Below.trans g (k.below (Below.size g) (fun b hb e => by omega))
theorem text_len (l b : Int) : (textL l b).length ≤ 9 := by
  unfold textL
  split
  · rename_i h
    have := ok_iff.1 h
    rw [List.length_append, bitsL_length]
    split <;> simp <;> omega
  · simp
theorem rou_is (r : Rt) : rouL r = ([114, 111, 117, 116, 101, 32] ++ textL r.1 r.2.1 ++ [32] ++ ito r.2.2) ++ [10] := by
  simp [rouL, sayD, joinT, wRoute]
theorem rou_len {r : Rt} (h : i64B r.2.2) : (rouL r).length ≤ 60 := by
  have h1 := text_len r.1 r.2.1
  have h2 := ito_len h
  rw [rou_is]
  simp only [List.length_append, List.length_cons, List.length_nil]
  omega
theorem rous_len : ∀ {l : List Rt}, (∀ r ∈ l, i64B r.2.2) → (l.flatMap rouL).length ≤ 60 * l.length
  | [], _ => by simp
  | r :: l, h => by
    have h1 := rou_len (h r (by simp))
    have h2 := rous_len (l := l) (fun x hx => h x (by simp [hx]))
    simp only [List.flatMap_cons, List.length_append, List.length_cons]
    omega
theorem rous_succ {l : List Rt} {k : Nat} (hk : k < l.length) : (l.take (k + 1)).flatMap rouL = (l.take k).flatMap rouL ++ rouL l[k] := by
  rw [List.take_succ_eq_append_getElem hk, List.flatMap_append]
  simp
set_option maxRecDepth 20000 in
set_option maxHeartbeats 8000000 in
/-- The reference's table. -/
theorem table_any {W w : World} {D T : Nat} {told : Tx} (h : DkAt w D T told) (hL : Lb W) (gW : Gr W w) (hD : W.heap.size ≤ D) (a : Int) {ao : Option Addr} {cp : Nat} {l : List Rt} (hr : RowAt w (fun b => b ≠ D) ao l) (hl : l.length ≤ 40)
    (hh : ∀ r ∈ l, i64B r.2.2) (h1 : told.length ≤ 3000000) :
    Calls Tryz.prog 96 #[pv D, iv a, .slice ao l.length cp] w fun e w' => e = .returned (.tuple #[]) ∧ Tells D T w w' (told ++ tabT a l) := by
  have HG : Hid (∀ V, Kp (fun b => b ≠ D) w V → Lb V) := fun V k => hL.gr (kp_gr k gW hD)
  have HH := hide hh
  have HA := hide h
  have HR := hide hr
  clear hL gW hD hh h hr
  by_cases ha : isN a
  · have B1 : Hid (decide (0 ≤ a ∧ a < 6) = true) := decide_eq_true ha
    have HT : Hid (tabT a l = l.flatMap rouL ++ sayD [wEnd]) := by unfold Hid tabT; rw [if_pos ha]
    clear ha
    go_enter Tryz.func96, Tryz.ntmps96
    go_wp2_with (go_at_call 9; with_reducible refine (isNode_is B1.out _).mono ?_; rintro e w1 ⟨rfl, hw1⟩; have hw2 := hw1.symm; clear hw1; subst hw2)
    go_loopw [6] (fun v6 wr => ∃ k : Nat, k ≤ l.length ∧ v6 = .int .i64 k ∧ Hid (Tells D T w wr (told ++ (l.take k).flatMap rouL))) (fun v6 _ => l.length - (intOf v6).toNat)
    case atStart => exact ⟨0, by omega, rfl, Kp.refl _ _, by simpa using HA.out⟩
    case round =>
      obtain ⟨k, hk, rfl, HK⟩ := hrel
      have hbd := rous_len (l := l.take k) (fun r hr => HH.out r (List.mem_of_mem_take hr))
      have hbt : (l.take k).length ≤ 40 := by rw [List.length_take]; omega
      by_cases hlt : k < l.length
      · have hkI : (k : Int) < (l.length : Int) := by omega
        have hr6 := HH.out l[k] (List.getElem_mem hlt)
        rcases HR.out.kept HK.out.kp with h0 | ⟨b, o, hao, hb, hbD, hcs⟩
        · exfalso; rw [h0] at hlt; simp at hlt
        subst hao
        obtain ⟨x0, x1, x2⟩ := hcs k hlt
        have HS := hide (rous_succ hlt)
        have htl := text_len l[k].1 l[k].2.1
        have hil := ito_len hr6
        have HRO := hide (rou_is l[k])
        have HB := hide (HG.out wr HK.out.kp)
        have hbl : (told ++ (l.take k).flatMap rouL).length ≤ 4000000 := by rw [List.length_append]; omega
        have HX := hide (fun (V : World) (g : Gr wr V) => rtext_any l[k].1 l[k].2.1 V)
        have HN := hide (fun (V : World) (g : Gr wr V) => num_any (HB.out.gr g) hr6)
        clear hcs hr6
        generalize l[k] = r at *
        obtain ⟨rl, rb, rh⟩ := r
        simp only at x0 x1 x2 htl hil HRO HX HN
        generalize textL rl rb = tx at *
        generalize ito rh = nx at *
        generalize hAt : told ++ (l.take k).flatMap rouL = A at *
        have HAt := hide hAt
        clear hAt
        obtain ⟨s1, HE1, e1⟩ := add_run ⟨#[114, 111, 117, 116, 101, 32]⟩ ⟨tx.toArray⟩ (by rw [size_of_list]; simp [ByteArray.size]; omega)
        have z1 : s1.size = 6 + tx.length := by rw [HE1.out, ByteArray.size_append, size_of_list]; rfl
        obtain ⟨s2, HE2, e2⟩ := add_run s1 ⟨#[32]⟩ (by rw [z1]; simp [ByteArray.size]; omega)
        have z2 : s2.size = 7 + tx.length := by rw [HE2.out, ByteArray.size_append, z1]; simp [ByteArray.size]; omega
        obtain ⟨s3, HE3, e3⟩ := add_run s2 ⟨nx.toArray⟩ (by rw [z2, size_of_list]; omega)
        have HY : Hid (∀ V, Gr wr V → Calls Tryz.prog 93 #[pv D, .string s3] V fun e w' => e = .returned (.tuple #[]) ∧ Tells D T V w' (A ++ rouL (rl, rb, rh))) := fun V g => by
          rw [HE3.out, HE2.out, HE1.out, HRO.out, show (⟨#[114, 111, 117, 116, 101, 32]⟩ : ByteArray) = ⟨[114, 111, 117, 116, 101, 32].toArray⟩ from rfl, show (⟨#[32]⟩ : ByteArray) = ⟨[32].toArray⟩ from rfl, cat, cat, cat]
          exact say_any (HK.out.at'.gr g) _ hbl (by simp; omega)
        clear z1 z2
        go_upto_region 5 with (fail)
        have gD := hide ((Gr.refl wr).drew)
        have HC : Hid (∀ X, Gr wr X → X.cell? ⟨b, o + k * 3, none⟩ = some (iv rl) ∧ X.cell? ⟨b, o + k * 3 + 1, none⟩ = some (iv rb) ∧ X.cell? ⟨b, o + k * 3 + 2, none⟩ = some (iv rh)) := fun X g =>
          ⟨(Below.cell g (p := ⟨b, _, none⟩) hb).trans x0, (Below.cell g (p := ⟨b, _, none⟩) hb).trans x1, (Below.cell g (p := ⟨b, _, none⟩) hb).trans x2⟩
        go_region_held3 (fun X => X.cell? ⟨b, o + k * 3, none⟩ = some (iv rl) ∧ X.cell? ⟨b, o + k * 3 + 1, none⟩ = some (iv rb) ∧ X.cell? ⟨b, o + k * 3 + 2, none⟩ = some (iv rh)) (first | exact HC.out _ gD.out | exact HC.out _ G6.out | exact HC.out _ G5.out | exact C7.out | go_keep)
          (first
          | (go_at_call 134; with_reducible refine (HX.out _ gD.out).mono ?_; rintro e _ ⟨rfl, d5, rfl⟩; have G5 := hide (gD.out.trans d5.gr))
          | (go_at_call 92; with_reducible refine (HN.out _ G5.out).mono ?_; rintro e w6 ⟨rfl, g6⟩; have G6 := hide (G5.out.trans g6); clear g6)
          | (go_at_call 93; refine (HY.out _ G6.out).mono ?_; rintro e w7 ⟨rfl, t7⟩; have T7 := hide t7; clear t7; have C7 : Hid (w7.cell? ⟨b, o + k * 3, none⟩ = some (iv rl) ∧ w7.cell? ⟨b, o + k * 3 + 1, none⟩ = some (iv rb) ∧ w7.cell? ⟨b, o + k * 3 + 2, none⟩ = some (iv rh)) := (by
              have e := T7.out.kp.block b (Nat.lt_of_lt_of_le hb (Below.size G6.out)) hbD
              obtain ⟨y0, y1, y2⟩ := HC.out _ G6.out
              exact ⟨(World.cell?_of_block (a := ⟨b, _, none⟩) e).trans y0, (World.cell?_of_block (a := ⟨b, _, none⟩) e).trans y1, (World.cell?_of_block (a := ⟨b, _, none⟩) e).trans y2⟩))
          | fail)
        all_goals
          go_wp2_with fail
          go_roundw
          case rel => exact ⟨k + 1, by omega, by go_num, by
            refine ⟨(HK.out.kp.trans (G6.out.kp _)).trans T7.out.kp, ?_⟩
            rw [HS.out, ← List.append_assoc, HAt.out]
            exact T7.out.at'⟩
          case measure => simp [intOf]; omega
      · have hkl : decide ((k : Int) < (l.length : Int)) = false := decide_eq_false (by omega)
        have HE : Hid (l.take k = l) := List.take_of_length_le (by omega)
        have HY := hide (say_any HK.out.at' [101, 110, 100] (by rw [List.length_append]; omega) (by simp))
        go_wp2_with (go_at_call 93; refine HY.out.mono ?_; rintro e w7 ⟨rfl, t7⟩; have T7 := hide t7; clear t7)
        refine bodyPost_end (results_none rfl _ _ _) rfl ⟨rfl, HK.out.kp.trans T7.out.kp, ?_⟩
        have := T7.out.at'
        rw [HE.out] at this
        rw [HT.out]
        simpa [sayD, joinT, wEnd] using this
  · have B1 : Hid (decide (0 ≤ a ∧ a < 6) = false) := decide_eq_false ha
    have HT : Hid (tabT a l = sayD [wNo, ito 1]) := by unfold Hid tabT; rw [if_neg ha]
    have i1 : i64B 1 := ⟨by decide, by decide⟩
    have hil := ito_len i1
    have HN := hide (num_any (HG.out w (Kp.refl _ _)) i1)
    have HY : Hid (∀ V, Gr w V → Calls Tryz.prog 93 #[pv D, .string (⟨#[110, 111, 32]⟩ ++ ⟨(ito 1).toArray⟩)] V fun e w' => e = .returned (.tuple #[]) ∧ Tells D T V w' (told ++ sayD [wNo, ito 1])) := fun V g => by
      rw [show (⟨#[110, 111, 32]⟩ : ByteArray) = ⟨[110, 111, 32].toArray⟩ from rfl, cat]
      have := say_any (HA.out.gr g) ([110, 111, 32] ++ ito 1) (by omega) (by simp; omega)
      simpa [sayD, joinT, wNo] using this
    clear ha i1
    rw [HT.out]
    generalize sayD [wNo, ito 1] = tx at *
    generalize ito 1 = nx at *
    go_enter Tryz.func96, Tryz.ntmps96
    go_wp2_with (first
      | (go_at_call 9; with_reducible refine (isNode_is B1.out _).mono ?_; rintro e w1 ⟨rfl, hw1⟩; have hw2 := hw1.symm; clear hw1; subst hw2)
      | (go_at_call 92; with_reducible refine HN.out.mono ?_; rintro e w6 ⟨rfl, g6⟩; have G6 := hide g6; clear g6)
      | (go_at_call 93; refine (HY.out _ G6.out).mono ?_; rintro e w7 ⟨rfl, t7⟩; have T7 := hide t7; clear t7))
    exact bodyPost_ret (results_none rfl _ _ _) rfl ⟨rfl, (G6.out.kp _).trans T7.out.kp, T7.out.at'⟩

end Go.Proofs.YtfcknkanbcndjagGreatDoor
