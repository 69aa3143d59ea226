import Derived.Test.YtfcknkanbcndjagGreatDoorDkMem
import Derived.Lib.CutLaws
import Derived.Lib.TrimByte
import Derived.Test.YtfcknkanbcndjagGreatDoorDkBd
import Derived.Deep.RegionHeld3
/- A LINE READ WORD BY WORD, as the program does: it is what the line asks. No Go here. -/
namespace Go.Proofs.YtfcknkanbcndjagGreatDoor

/-- Without the blanks ahead. -/
def trimT (s : Tx) : Tx := Go.Lib.trimLeftB s 32
/-- Up to the first blank, and what stands behind it. -/
def cutR : Tx → Tx × Tx
  | [] => ([], [])
  | c :: s => if c = 32 then ([], s) else (c :: (cutR s).1, (cutR s).2)
def cutT (s : Tx) : Tx × Tx := cutR (trimT s)
theorem cut_is : ∀ s : Tx, (Go.Lib.cut s [32]).1 = (cutR s).1 ∧ (Go.Lib.cut s [32]).2.1 = (cutR s).2
  | [] => by simp [Go.Lib.cut, Go.Lib.index, cutR]
  | c :: s => by
    by_cases h : c = 32
    · subst h
      simp [Go.Lib.cut, Go.Lib.index, cutR]
    · have h' : ([32] : Tx).isPrefixOf (c :: s) = false := by
        simp [List.isPrefixOf]; exact fun e => h e.symm
      have ih := cut_is s
      have hg := Go.Lib.index_ge s [32]
      unfold Go.Lib.cut at ih ⊢
      unfold cutR
      rw [if_neg h]
      by_cases hi : 0 ≤ Go.Lib.index s [32]
      · rw [if_pos hi] at ih
        have e : Go.Lib.index (c :: s) [32] = Go.Lib.index s [32] + 1 := by
          rw [Go.Lib.index, h']
          have : (Go.Lib.index s [32] == -1) = false := by rw [beq_eq_false_iff_ne]; omega
          simp [this]
        rw [if_pos (by omega), e]
        have e2 : (Go.Lib.index s [32] + 1).toNat = (Go.Lib.index s [32]).toNat + 1 := by omega
        rw [e2]
        refine ⟨?_, ?_⟩
        · simp only [List.take_succ_cons]
          rw [← ih.1]
        · rw [← ih.2, Nat.add_right_comm]
          rfl
      · rw [if_neg hi] at ih
        have hi1 : Go.Lib.index s [32] = -1 := by omega
        have e : Go.Lib.index (c :: s) [32] = -1 := by
          rw [Go.Lib.index, h', hi1]; rfl
        rw [if_neg (by omega)]
        exact ⟨by rw [← ih.1], ih.2⟩
theorem wgo_cut : ∀ (s cur : Tx), cur ≠ [] → wgo s cur = (cur ++ (cutR s).1) :: wordsT (cutR s).2
  | [], cur, h => by simp [wgo, cutR, h, wordsT]
  | c :: s, cur, h => by
    unfold wgo cutR
    by_cases hc : c = 32
    · rw [if_pos hc, if_pos hc, if_neg h]
      simp [wordsT]
    · rw [if_neg hc, if_neg hc, wgo_cut s (cur ++ [c]) (by simp)]
      simp
theorem words_trim : ∀ s : Tx, wordsT (trimT s) = wordsT s
  | [] => rfl
  | c :: s => by
    by_cases hc : c = 32
    · subst hc
      have h1 : trimT (32 :: s) = trimT s := by simp [trimT, Go.Lib.trimLeftB]
      have h2 : wordsT (32 :: s) = wordsT s := by simp [wordsT, wgo]
      rw [h1, h2]
      exact words_trim s
    · have h1 : trimT (c :: s) = c :: s := by simp [trimT, Go.Lib.trimLeftB, hc]
      rw [h1]
theorem trim_head (s : Tx) : trimT s = [] ∨ ∃ c r, trimT s = c :: r ∧ c ≠ 32 := by
  unfold trimT Go.Lib.trimLeftB
  induction s with
  | nil => exact .inl rfl
  | cons c s ih =>
    by_cases hc : c = 32
    · subst hc
      simpa using ih
    · exact .inr ⟨c, s, by simp [hc], hc⟩
theorem words_ne {c : UInt8} {r : Tx} (h : c ≠ 32) : wordsT (c :: r) = (cutR (c :: r)).1 :: wordsT (cutR (c :: r)).2 := by
  have : wordsT (c :: r) = wgo r [c] := by simp [wordsT, wgo, h]
  rw [this, wgo_cut r [c] (by simp), cutR, if_neg h]
  rfl
theorem trim_nil {s : Tx} : trimT s = [] ↔ wordsT s = [] := by
  rw [← words_trim s]
  rcases trim_head s with h | ⟨c, r, h, hc⟩
  · rw [h]; exact ⟨fun _ => rfl, fun _ => rfl⟩
  · rw [h, words_ne hc]; simp
/-- What cut tells is the first word; behind it are the others. -/
theorem cut_words (s : Tx) : (cutT s).1 = (wordsT s).headD [] ∧ wordsT (cutT s).2 = (wordsT s).tail := by
  rw [← words_trim s]
  unfold cutT
  rcases trim_head s with h | ⟨c, r, h, hc⟩
  · rw [h]; exact ⟨rfl, rfl⟩
  · rw [h, words_ne hc]; exact ⟨rfl, rfl⟩
theorem cutR_len : ∀ s : Tx, (cutR s).1.length ≤ s.length ∧ (cutR s).2.length ≤ s.length
  | [] => ⟨Nat.le_refl _, Nat.le_refl _⟩
  | c :: s => by
    have := cutR_len s
    unfold cutR
    split
    · simp
    · simp; omega
theorem trim_len (s : Tx) : (trimT s).length ≤ s.length := by
  unfold trimT Go.Lib.trimLeftB
  exact (List.dropWhile_sublist _).length_le
theorem cut_len (s : Tx) : (cutT s).1.length ≤ s.length ∧ (cutT s).2.length ≤ s.length := by
  have h1 := cutR_len (trimT s)
  have h2 := trim_len s
  exact ⟨Nat.le_trans h1.1 h2, Nat.le_trans h1.2 h2⟩

/-- A step: what the words of a line are laid into. -/
structure Sy where
  k : Int
  a : Int
  b : Int
  n : Int
  l : Int
  p : Int
/-- A word laid into a step, by what stands in its place. -/
def layT (q w : Tx) (x : Sy) : Option Sy :=
  if q = [65] then (numT w).map fun v => { x with a := v }
  else if q = [66] then (numT w).map fun v => { x with b := v }
  else if q = [78] ∨ q = [88] then (numT w).map fun v => { x with n := v }
  else if q = [80] then (parseL w).map fun v => { x with l := (v.1 : Int), p := v.2 }
  else if w = q then some x else none
/-- A line read by an order's form. -/
def rdT : List Tx → Tx → Sy → Option Sy
  | [], s, x => if wordsT s = [] then some x else none
  | q :: qs, s, x => match layT q (cutT s).1 x with
    | none => none
    | some y => rdT qs (cutT s).2 y
def rdW : List Tx → List Tx → Sy → Option Sy
  | [], ws, x => if ws = [] then some x else none
  | q :: qs, ws, x => match layT q (ws.headD []) x with
    | none => none
    | some y => rdW qs ws.tail y
theorem rd_is : ∀ (qs : List Tx) (s : Tx) (x : Sy), rdT qs s x = rdW qs (wordsT s) x
  | [], _, _ => rfl
  | q :: qs, s, x => by
    unfold rdT rdW
    rw [(cut_words s).1]
    split
    · rfl
    · rw [rd_is qs, (cut_words s).2]
def pA : Tx := [65]
def pB : Tx := [66]
def pN : Tx := [78]
def pX : Tx := [88]
def pP : Tx := [80]
/-- The table: what a line's words are by their places, and the step that they are laid into. -/
def frmL : List (List Tx × Sy) := [([wLink, pA, pB, pN], ⟨1, 0, 0, 0, 0, 0⟩), ([wTick, pA], ⟨2, 0, 0, 0, 0, 0⟩), ([wTell, pA, pB], ⟨3, 0, 0, 0, 0, 0⟩), ([wHear, pN], ⟨4, 0, 0, 0, 0, 0⟩), ([wLose, pN], ⟨5, 0, 0, 0, 0, 0⟩), ([wDouble, pN], ⟨6, 0, 0, 0, 0, 0⟩), ([wOwn, pP, pA], ⟨7, 0, 0, 1, 0, 0⟩), ([wFree, pP, pA], ⟨7, 0, 0, 0, 0, 0⟩), ([wWays, pA], ⟨0, 0, 0, 0, 0, 0⟩), ([wNews], ⟨0, 0, 0, 0, 0, 0⟩), ([wFull, pA], ⟨0, 0, 0, 0, 0, 0⟩), ([wSmall, pA], ⟨0, 0, 0, 0, 0, 0⟩), ([wLetter, pA, pX], ⟨0, 0, 0, 0, 0, 0⟩)]
/-- What an order does with a step. -/
def askO (k : Nat) (x : Sy) : Ask :=
  if k < 8 then .step ⟨x.k, x.a, x.b, x.n⟩ x.l x.p
  else if k = 8 then .ways x.a
  else if k = 9 then .news
  else if k = 10 then .full x.a
  else if k = 11 then .small x.a
  else .letter x.a x.n
theorem numN : numT [] = none := by decide
theorem parN : parseL [] = none := by decide
theorem lay_A (w : Tx) (x : Sy) : layT pA w x = (numT w).map fun v => { x with a := v } := by unfold pA layT; rw [if_pos rfl]
theorem lay_B (w : Tx) (x : Sy) : layT pB w x = (numT w).map fun v => { x with b := v } := by unfold pB layT; rw [if_neg (by decide), if_pos rfl]
theorem lay_N (w : Tx) (x : Sy) : layT pN w x = (numT w).map fun v => { x with n := v } := by unfold pN layT; rw [if_neg (by decide), if_neg (by decide), if_pos (.inl rfl)]
theorem lay_X (w : Tx) (x : Sy) : layT pX w x = (numT w).map fun v => { x with n := v } := by unfold pX layT; rw [if_neg (by decide), if_neg (by decide), if_pos (.inr rfl)]
theorem lay_P (w : Tx) (x : Sy) : layT pP w x = (parseL w).map fun v => { x with l := (v.1 : Int), p := v.2 } := by unfold pP layT; rw [if_neg (by decide), if_neg (by decide), if_neg (by decide), if_pos rfl]
theorem lay_lit {q : Tx} (h : 1 < q.length) (w : Tx) (x : Sy) : layT q w x = if w = q then some x else none := by
  have e : ∀ c : UInt8, q ≠ [c] := fun c e => by rw [e] at h; simp at h
  unfold layT
  rw [if_neg (e _), if_neg (e _), if_neg (fun e' => e'.elim (e _) (e _)), if_neg (e _)]

/-- A word that stands first in a form. -/
theorem rd_lit {q : Tx} (h : 1 < q.length) (qs ws : List Tx) (x : Sy) : rdW (q :: qs) ws x = if ws.headD [] = q then rdW qs ws.tail x else none := by
  rw [rdW, lay_lit h]
  by_cases e : ws.headD [] = q
  · rw [if_pos e, if_pos e]
  · rw [if_neg e, if_neg e]
/-- One number behind it. -/
theorem rd_num {q : Tx} {f : Sy → Int → Sy} (hf : ∀ w x, layT q w x = (numT w).map fun v => f x v) (qs ws : List Tx) (x : Sy) :
    rdW (q :: qs) ws x = match ws with
      | [] => none
      | a :: r => match numT a with
        | none => none
        | some v => rdW qs r (f x v) := by
  rw [rdW, hf]
  cases ws with
  | nil => rw [List.headD_nil, numN]; rfl
  | cons a r =>
    simp only [List.headD_cons, List.tail_cons]
    cases numT a with
    | none => rfl
    | some v => rfl
theorem rd_pfx (qs ws : List Tx) (x : Sy) :
    rdW (pP :: qs) ws x = match ws with
      | [] => none
      | a :: r => match parseL a with
        | none => none
        | some v => rdW qs r { x with l := (v.1 : Int), p := v.2 } := by
  rw [rdW, lay_P]
  cases ws with
  | nil => rw [List.headD_nil, parN]; rfl
  | cons a r =>
    simp only [List.headD_cons, List.tail_cons]
    cases parseL a with
    | none => rfl
    | some v => rfl
theorem rd_end (ws : List Tx) (x : Sy) : rdW [] ws x = match ws with
    | [] => some x
    | _ :: _ => none := by
  cases ws <;> rfl
theorem askW_num {w : Tx} (h : w ≠ wOwn ∧ w ≠ wFree) (r : List Tx) : askW (w :: r) = match numsT r with
    | none => .what
    | some n => askI (atK w n.length 13) n 0 0 := by
  have : headT w r = some (0, 0, r) := by unfold headT; rw [if_neg (fun e => e.elim h.1 h.2)]
  simp only [askW, this]
  cases numsT r <;> rfl
theorem atK_none {w : Tx} {m i : Nat} (hi : i < 13) (hw : wdL[i]? = some w) (hm : mnL[i]? ≠ some m) (hu : ∀ j < 13, j ≠ i → wdL[j]? ≠ some w) : ∀ k ≤ 13, atK w m k = -1
  | 0, _ => rfl
  | k + 1, hk => by
    unfold atK
    rw [if_neg]
    · exact atK_none hi hw hm hu k (by omega)
    · rintro ⟨h1, h2⟩
      by_cases e : k = i
      · subst e; exact hm h2
      · exact hu k (by omega) e h1
theorem atK_far {w : Tx} {m : Nat} (hu : ∀ j < 13, wdL[j]? ≠ some w) : ∀ k ≤ 13, atK w m k = -1
  | 0, _ => rfl
  | k + 1, hk => by
    unfold atK
    rw [if_neg (fun e => hu k (by omega) e.1)]
    exact atK_far hu k (by omega)
theorem askI_none (n : List Int) (l b : Int) : askI (-1) n l b = .what := by
  unfold askI
  simp

/-- What an order makes of words: its ask, if it is one of its lines. -/
def ordW (k : Nat) (ws : List Tx) : Option Ask := match frmL[k]? with
  | none => none
  | some f => (rdW f.1 ws f.2).map (askO k)
/-- The first word of an order. -/
theorem frm_hd : ∀ k < 13, ∃ qs x, frmL[k]? = some (wdL.getD k [] :: qs, x) ∧ 1 < (wdL.getD k []).length := by
  intro k hk
  have : k = 0 ∨ k = 1 ∨ k = 2 ∨ k = 3 ∨ k = 4 ∨ k = 5 ∨ k = 6 ∨ k = 7 ∨ k = 8 ∨ k = 9 ∨ k = 10 ∨ k = 11 ∨ k = 12 := by omega
  rcases this with rfl | rfl | rfl | rfl | rfl | rfl | rfl | rfl | rfl | rfl | rfl | rfl | rfl <;> exact ⟨_, _, rfl, by decide⟩
theorem wd_uniq : ∀ i < 13, ∀ j < 13, wdL.getD i [] = wdL.getD j [] → i = j := by decide
/-- No order takes more words or fewer than it has places. -/
theorem rd_len : ∀ (qs : List Tx) (ws : List Tx) (x y : Sy), (∀ q ∈ qs, ∀ z, layT q [] z = none) → rdW qs ws x = some y → ws.length = qs.length
  | [], ws, x, y, _, h => by
    rw [rd_end] at h
    cases ws with
    | nil => rfl
    | cons a r => cases h
  | q :: qs, ws, x, y, hq, h => by
    rw [rdW] at h
    cases ws with
    | nil => rw [List.headD_nil, hq q (by simp)] at h; cases h
    | cons a r =>
      rw [List.headD_cons, List.tail_cons] at h
      cases e : layT q a x with
      | none => rw [e] at h; cases h
      | some z =>
        rw [e] at h
        have := rd_len qs r z y (fun q hq' => hq q (by simp [hq'])) h
        simp [this]
theorem frm_none : ∀ k < 13, ∀ f, frmL[k]? = some f → ∀ q ∈ f.1, ∀ z, layT q [] z = none := by
  intro k hk f hf q hq z
  have hm : f ∈ frmL := List.mem_of_getElem? hf
  have : ∀ f ∈ frmL, ∀ q ∈ f.1, q = [65] ∨ q = [66] ∨ q = [78] ∨ q = [88] ∨ q = [80] ∨ 1 < q.length := by decide
  rcases this f hm q hq with rfl | rfl | rfl | rfl | rfl | h
  · exact (lay_A [] z).trans (by rw [numN]; rfl)
  · exact (lay_B [] z).trans (by rw [numN]; rfl)
  · exact (lay_N [] z).trans (by rw [numN]; rfl)
  · exact (lay_X [] z).trans (by rw [numN]; rfl)
  · exact (lay_P [] z).trans (by rw [parN]; rfl)
  · rw [lay_lit h, if_neg]
    intro e; rw [← e] at h; simp at h
theorem ord_len {k : Nat} (hk : k < 13) {w : Tx} {r : List Tx} (f : List Tx × Sy) (hf : frmL[k]? = some f) (h : f.1.length ≠ r.length + 1) : ordW k (w :: r) = none := by
  unfold ordW
  rw [hf]
  cases e : rdW f.1 (w :: r) f.2 with
  | none => simp only [e]; rfl
  | some y =>
    have := rd_len f.1 (w :: r) f.2 y (frm_none k hk f hf) e
    exact absurd this.symm h
theorem rd_A (qs ws : List Tx) (x : Sy) : rdW (pA :: qs) ws x = match ws with
      | [] => none
      | a :: r => match numT a with
        | none => none
        | some v => rdW qs r { x with a := v } := rd_num lay_A qs ws x
theorem rd_B (qs ws : List Tx) (x : Sy) : rdW (pB :: qs) ws x = match ws with
      | [] => none
      | a :: r => match numT a with
        | none => none
        | some v => rdW qs r { x with b := v } := rd_num lay_B qs ws x
theorem rd_N (qs ws : List Tx) (x : Sy) : rdW (pN :: qs) ws x = match ws with
      | [] => none
      | a :: r => match numT a with
        | none => none
        | some v => rdW qs r { x with n := v } := rd_num lay_N qs ws x
theorem rd_X (qs ws : List Tx) (x : Sy) : rdW (pX :: qs) ws x = match ws with
      | [] => none
      | a :: r => match numT a with
        | none => none
        | some v => rdW qs r { x with n := v } := rd_num lay_X qs ws x
/-- Too many numbers behind a word, or too few: it is no line. -/
theorem ask_len {k : Nat} (hk : k < 13) (h67 : k ≠ 6 ∧ k ≠ 7) {r : List Tx} (h : mnL[k]? ≠ some r.length) : askW (wdL.getD k [] :: r) = .what := by
  have hu : ∀ j < 13, j ≠ k → wdL[j]? ≠ some (wdL.getD k []) := fun j hj hne e => hne (wd_uniq j hj k hk (by rw [List.getD_eq_getElem?_getD, e]; rfl))
  have hw : wdL.getD k [] ≠ wOwn ∧ wdL.getD k [] ≠ wFree := ⟨fun e => h67.1 (wd_uniq k hk 6 (by decide) e), fun e => h67.2 (wd_uniq k hk 7 (by decide) e)⟩
  rw [askW_num hw]
  cases e : numsT r with
  | none => rfl
  | some n =>
    have hl := nums_len e
    show askI (atK _ n.length 13) n 0 0 = _
    rw [atK_none hk (by
      have : k < wdL.length := hk
      rw [List.getD_eq_getElem?_getD, List.getElem?_eq_getElem this]; rfl) (by rw [hl]; exact h) hu 13 (Nat.le_refl _), askI_none]
theorem ask_own {k : Nat} (h67 : k = 6 ∨ k = 7) {r : List Tx} (h : r.length ≠ 2) : askW (wdL.getD k [] :: r) = .what := by
  have hh : headT (wdL.getD k []) r = none := by
    unfold headT
    rw [if_pos (by rcases h67 with rfl | rfl <;> decide)]
    match r, h with
    | [], _ => rfl
    | [_], _ => rfl
    | [_, _], h => exact absurd rfl h
    | _ :: _ :: _ :: _, _ => rfl
  simp only [askW, hh]
/-- The order k of a line whose first word is its: just what the line asks. -/
theorem ord_ask : ∀ k < 13, ∀ r : List Tx, askW (wdL.getD k [] :: r) = (ordW k (wdL.getD k [] :: r)).getD .what := by
  intro k hk r
  have one : ∀ r : List Tx, r.length = 1 → ∃ a, r = [a] := fun r h => List.length_eq_one_iff.1 h
  have two : ∀ r : List Tx, r.length = 2 → ∃ a b, r = [a, b] := fun r h => by
    match r, h with
    | [a, b], _ => exact ⟨a, b, rfl⟩
  have three : ∀ r : List Tx, r.length = 3 → ∃ a b c, r = [a, b, c] := fun r h => by
    match r, h with
    | [a, b, c], _ => exact ⟨a, b, c, rfl⟩
  have hh : k = 0 ∨ k = 1 ∨ k = 2 ∨ k = 3 ∨ k = 4 ∨ k = 5 ∨ k = 6 ∨ k = 7 ∨ k = 8 ∨ k = 9 ∨ k = 10 ∨ k = 11 ∨ k = 12 := by omega
  rcases hh with rfl | rfl | rfl | rfl | rfl | rfl | rfl | rfl | rfl | rfl | rfl | rfl | rfl
  · by_cases hl : r.length = 3
    · obtain ⟨a, b, c, rfl⟩ := three r hl
      have e0 : ordW 0 (wdL.getD 0 [] :: [a, b, c]) = (rdW [pA, pB, pN] [a, b, c] ⟨1, 0, 0, 0, 0, 0⟩).map (askO 0) := by
        show (rdW (wLink :: _) (wLink :: _) _).map (askO 0) = _
        rw [rd_lit (by decide), List.headD_cons, if_pos rfl, List.tail_cons]
      rw [e0, askW_num (by decide)]
      simp only [rd_A, rd_B, rd_N, rd_end, numsT]
      cases ea : numT a with
      | none => rfl
      | some va =>
        cases eb : numT b with
        | none => rfl
        | some vb =>
          cases ec : numT c with
          | none => rfl
          | some vc =>
            rfl
    · rw [ask_len hk (by decide) (by intro e; exact hl (by simpa [mnL] using e.symm)), ord_len hk _ rfl (by intro e; exact hl (by simpa using e.symm))]
      rfl
  · by_cases hl : r.length = 1
    · obtain ⟨a, rfl⟩ := one r hl
      have e0 : ordW 1 (wdL.getD 1 [] :: [a]) = (rdW [pA] [a] ⟨2, 0, 0, 0, 0, 0⟩).map (askO 1) := by
        show (rdW (wTick :: _) (wTick :: _) _).map (askO 1) = _
        rw [rd_lit (by decide), List.headD_cons, if_pos rfl, List.tail_cons]
      rw [e0, askW_num (by decide)]
      simp only [rd_A, rd_end, numsT]
      cases ea : numT a with
      | none => rfl
      | some va =>
        rfl
    · rw [ask_len hk (by decide) (by intro e; exact hl (by simpa [mnL] using e.symm)), ord_len hk _ rfl (by intro e; exact hl (by simpa using e.symm))]
      rfl
  · by_cases hl : r.length = 2
    · obtain ⟨a, b, rfl⟩ := two r hl
      have e0 : ordW 2 (wdL.getD 2 [] :: [a, b]) = (rdW [pA, pB] [a, b] ⟨3, 0, 0, 0, 0, 0⟩).map (askO 2) := by
        show (rdW (wTell :: _) (wTell :: _) _).map (askO 2) = _
        rw [rd_lit (by decide), List.headD_cons, if_pos rfl, List.tail_cons]
      rw [e0, askW_num (by decide)]
      simp only [rd_A, rd_B, rd_end, numsT]
      cases ea : numT a with
      | none => rfl
      | some va =>
        cases eb : numT b with
        | none => rfl
        | some vb =>
          rfl
    · rw [ask_len hk (by decide) (by intro e; exact hl (by simpa [mnL] using e.symm)), ord_len hk _ rfl (by intro e; exact hl (by simpa using e.symm))]
      rfl
  · by_cases hl : r.length = 1
    · obtain ⟨a, rfl⟩ := one r hl
      have e0 : ordW 3 (wdL.getD 3 [] :: [a]) = (rdW [pN] [a] ⟨4, 0, 0, 0, 0, 0⟩).map (askO 3) := by
        show (rdW (wHear :: _) (wHear :: _) _).map (askO 3) = _
        rw [rd_lit (by decide), List.headD_cons, if_pos rfl, List.tail_cons]
      rw [e0, askW_num (by decide)]
      simp only [rd_N, rd_end, numsT]
      cases ea : numT a with
      | none => rfl
      | some va =>
        rfl
    · rw [ask_len hk (by decide) (by intro e; exact hl (by simpa [mnL] using e.symm)), ord_len hk _ rfl (by intro e; exact hl (by simpa using e.symm))]
      rfl
  · by_cases hl : r.length = 1
    · obtain ⟨a, rfl⟩ := one r hl
      have e0 : ordW 4 (wdL.getD 4 [] :: [a]) = (rdW [pN] [a] ⟨5, 0, 0, 0, 0, 0⟩).map (askO 4) := by
        show (rdW (wLose :: _) (wLose :: _) _).map (askO 4) = _
        rw [rd_lit (by decide), List.headD_cons, if_pos rfl, List.tail_cons]
      rw [e0, askW_num (by decide)]
      simp only [rd_N, rd_end, numsT]
      cases ea : numT a with
      | none => rfl
      | some va =>
        rfl
    · rw [ask_len hk (by decide) (by intro e; exact hl (by simpa [mnL] using e.symm)), ord_len hk _ rfl (by intro e; exact hl (by simpa using e.symm))]
      rfl
  · by_cases hl : r.length = 1
    · obtain ⟨a, rfl⟩ := one r hl
      have e0 : ordW 5 (wdL.getD 5 [] :: [a]) = (rdW [pN] [a] ⟨6, 0, 0, 0, 0, 0⟩).map (askO 5) := by
        show (rdW (wDouble :: _) (wDouble :: _) _).map (askO 5) = _
        rw [rd_lit (by decide), List.headD_cons, if_pos rfl, List.tail_cons]
      rw [e0, askW_num (by decide)]
      simp only [rd_N, rd_end, numsT]
      cases ea : numT a with
      | none => rfl
      | some va =>
        rfl
    · rw [ask_len hk (by decide) (by intro e; exact hl (by simpa [mnL] using e.symm)), ord_len hk _ rfl (by intro e; exact hl (by simpa using e.symm))]
      rfl
  · by_cases hl : r.length = 2
    · obtain ⟨a, b, rfl⟩ := two r hl
      have e0 : ordW 6 (wdL.getD 6 [] :: [a, b]) = (rdW [pP, pA] [a, b] ⟨7, 0, 0, 1, 0, 0⟩).map (askO 6) := by
        show (rdW (wOwn :: _) (wOwn :: _) _).map (askO 6) = _
        rw [rd_lit (by decide), List.headD_cons, if_pos rfl, List.tail_cons]
      rw [e0, rd_pfx]
      have hh : headT (wdL.getD 6 []) [a, b] = (parseL a).map fun q => ((q.1 : Int), q.2, [b]) := by
        unfold headT
        rw [if_pos (by decide)]
      simp only [askW, hh]
      cases ea : parseL a with
      | none => rfl
      | some v =>
        simp only [Option.map_some, rd_A, numsT]
        cases eb : numT b with
        | none => rfl
        | some u => rfl
    · rw [ask_own (by decide) hl, ord_len hk _ rfl (by intro e; exact hl (by simpa using e.symm))]
      rfl
  · by_cases hl : r.length = 2
    · obtain ⟨a, b, rfl⟩ := two r hl
      have e0 : ordW 7 (wdL.getD 7 [] :: [a, b]) = (rdW [pP, pA] [a, b] ⟨7, 0, 0, 0, 0, 0⟩).map (askO 7) := by
        show (rdW (wFree :: _) (wFree :: _) _).map (askO 7) = _
        rw [rd_lit (by decide), List.headD_cons, if_pos rfl, List.tail_cons]
      rw [e0, rd_pfx]
      have hh : headT (wdL.getD 7 []) [a, b] = (parseL a).map fun q => ((q.1 : Int), q.2, [b]) := by
        unfold headT
        rw [if_pos (by decide)]
      simp only [askW, hh]
      cases ea : parseL a with
      | none => rfl
      | some v =>
        simp only [Option.map_some, rd_A, numsT]
        cases eb : numT b with
        | none => rfl
        | some u => rfl
    · rw [ask_own (by decide) hl, ord_len hk _ rfl (by intro e; exact hl (by simpa using e.symm))]
      rfl
  · by_cases hl : r.length = 1
    · obtain ⟨a, rfl⟩ := one r hl
      have e0 : ordW 8 (wdL.getD 8 [] :: [a]) = (rdW [pA] [a] ⟨0, 0, 0, 0, 0, 0⟩).map (askO 8) := by
        show (rdW (wWays :: _) (wWays :: _) _).map (askO 8) = _
        rw [rd_lit (by decide), List.headD_cons, if_pos rfl, List.tail_cons]
      rw [e0, askW_num (by decide)]
      simp only [rd_A, rd_end, numsT]
      cases ea : numT a with
      | none => rfl
      | some va =>
        rfl
    · rw [ask_len hk (by decide) (by intro e; exact hl (by simpa [mnL] using e.symm)), ord_len hk _ rfl (by intro e; exact hl (by simpa using e.symm))]
      rfl
  · by_cases hl : r.length = 0
    · have : r = [] := List.eq_nil_of_length_eq_zero hl
      subst this
      rfl
    · rw [ask_len hk (by decide) (by intro e; exact hl (by simpa [mnL] using e.symm)), ord_len hk _ rfl (by intro e; exact hl (by simpa using e.symm))]
      rfl
  · by_cases hl : r.length = 1
    · obtain ⟨a, rfl⟩ := one r hl
      have e0 : ordW 10 (wdL.getD 10 [] :: [a]) = (rdW [pA] [a] ⟨0, 0, 0, 0, 0, 0⟩).map (askO 10) := by
        show (rdW (wFull :: _) (wFull :: _) _).map (askO 10) = _
        rw [rd_lit (by decide), List.headD_cons, if_pos rfl, List.tail_cons]
      rw [e0, askW_num (by decide)]
      simp only [rd_A, rd_end, numsT]
      cases ea : numT a with
      | none => rfl
      | some va =>
        rfl
    · rw [ask_len hk (by decide) (by intro e; exact hl (by simpa [mnL] using e.symm)), ord_len hk _ rfl (by intro e; exact hl (by simpa using e.symm))]
      rfl
  · by_cases hl : r.length = 1
    · obtain ⟨a, rfl⟩ := one r hl
      have e0 : ordW 11 (wdL.getD 11 [] :: [a]) = (rdW [pA] [a] ⟨0, 0, 0, 0, 0, 0⟩).map (askO 11) := by
        show (rdW (wSmall :: _) (wSmall :: _) _).map (askO 11) = _
        rw [rd_lit (by decide), List.headD_cons, if_pos rfl, List.tail_cons]
      rw [e0, askW_num (by decide)]
      simp only [rd_A, rd_end, numsT]
      cases ea : numT a with
      | none => rfl
      | some va =>
        rfl
    · rw [ask_len hk (by decide) (by intro e; exact hl (by simpa [mnL] using e.symm)), ord_len hk _ rfl (by intro e; exact hl (by simpa using e.symm))]
      rfl
  · by_cases hl : r.length = 2
    · obtain ⟨a, b, rfl⟩ := two r hl
      have e0 : ordW 12 (wdL.getD 12 [] :: [a, b]) = (rdW [pA, pX] [a, b] ⟨0, 0, 0, 0, 0, 0⟩).map (askO 12) := by
        show (rdW (wLetter :: _) (wLetter :: _) _).map (askO 12) = _
        rw [rd_lit (by decide), List.headD_cons, if_pos rfl, List.tail_cons]
      rw [e0, askW_num (by decide)]
      simp only [rd_A, rd_X, rd_end, numsT]
      cases ea : numT a with
      | none => rfl
      | some va =>
        cases eb : numT b with
        | none => rfl
        | some vb =>
          rfl
    · rw [ask_len hk (by decide) (by intro e; exact hl (by simpa [mnL] using e.symm)), ord_len hk _ rfl (by intro e; exact hl (by simpa using e.symm))]
      rfl
/-- A line that an order reads asks what the order does. -/
theorem rd_hit {k : Nat} (hk : k < 13) {f : List Tx × Sy} (hf : frmL[k]? = some f) {s : Tx} {x : Sy} (h : rdT f.1 s f.2 = some x) : askT s = askO k x := by
  rw [rd_is] at h
  obtain ⟨qs, x0, e0, hl⟩ := frm_hd k hk
  rw [hf] at e0
  cases e0
  have hl' := rd_lit hl qs (wordsT s) x0
  rw [h] at hl'
  by_cases hw : (wordsT s).headD [] = wdL.getD k []
  · unfold askT
    cases e : wordsT s with
    | nil =>
      rw [e, List.headD_nil] at hw
      rw [← hw] at hl; simp at hl
    | cons a r =>
      rw [e, List.headD_cons] at hw
      subst hw
      rw [ord_ask k hk r]
      unfold ordW
      rw [hf]
      rw [e] at h
      simp only [h]
      rfl
  · rw [if_neg hw] at hl'; cases hl'
/-- A line with words that no order reads is none. -/
theorem rd_miss {s : Tx} (hs : wordsT s ≠ []) (h : ∀ (k : Nat) (f : List Tx × Sy), frmL[k]? = some f → rdT f.1 s f.2 = none) : askT s = .what := by
  unfold askT
  cases e : wordsT s with
  | nil => exact absurd e hs
  | cons a r =>
    by_cases ha : ∃ k < 13, wdL.getD k [] = a
    · obtain ⟨k, hk, rfl⟩ := ha
      rw [ord_ask k hk r]
      obtain ⟨qs, x0, e0, hl⟩ := frm_hd k hk
      have := h k _ e0
      rw [rd_is, e] at this
      unfold ordW
      rw [e0]
      simp only [this]
      rfl
    · have hu : ∀ j < 13, wdL[j]? ≠ some a := fun j hj e => ha ⟨j, hj, by rw [List.getD_eq_getElem?_getD, e]; rfl⟩
      have hw : a ≠ wOwn ∧ a ≠ wFree := ⟨fun e => ha ⟨6, by decide, e ▸ rfl⟩, fun e => ha ⟨7, by decide, e ▸ rfl⟩⟩
      rw [askW_num hw]
      cases e : numsT r with
      | none => rfl
      | some n =>
        show askI (atK _ n.length 13) n 0 0 = _
        rw [atK_far hu 13 (Nat.le_refl _), askI_none]

end Go.Proofs.YtfcknkanbcndjagGreatDoor

/- CONTRACTS OF the program's desk: what reads a word: cut, blank, number, lay. -/
namespace Go.Proofs.YtfcknkanbcndjagGreatDoor
open Go.RowKit
attribute [local go_sem] Ext.all Ext.cell Ext.frozen Ext.lt Ext.lt1 Ext.lt2 Ext.ne Ext.ne'
theorem tl_mk (s : Tx) : (⟨s.toArray⟩ : ByteArray).data.toList = s := rfl
theorem sz_mk (s : Tx) : (⟨s.toArray⟩ : ByteArray).size = s.length := by simp [ByteArray.size]
theorem trim_call (s : Tx) (w : World) : Calls Tryz.prog 127 #[sv s, .string ⟨#[32]⟩] w fun e w' => e = .returned (sv (trimT s)) ∧ w' = w :=
  Tryz.strings_TrimLeft_one ⟨s.toArray⟩ 32 (by decide) w
theorem blank_is {s : Tx} {b : Bool} (hb : decide (wordsT s = []) = b) (w : World) : Calls Tryz.prog 87 #[sv s] w fun e w' => e = .returned (.bool b) ∧ w' = w := by
  have HC := hide (trim_call s w)
  have hx : (trimT s == []) = b := by
    rw [← hb]
    by_cases h : trimT s = []
    · rw [decide_eq_true (trim_nil.1 h), h]; rfl
    · rw [decide_eq_false (fun e => h (trim_nil.2 e))]; simpa using h
  clear hb
  generalize trimT s = x at *
  go_enter Tryz.func87, Tryz.ntmps87
  cases b <;>
  · go_wp2_with (go_at_call 127; refine HC.out.mono ?_; rintro e w1 ⟨rfl, hw1⟩; subst hw1)
    go_ret
    exact ⟨rfl, rfl⟩
theorem cut_any {w : World} (hL : Lb w) (s : Tx) (hs : s.length ≤ 2000000) : Calls Tryz.prog 129 #[sv s] w fun e w' => e = .returned (.tuple #[sv (cutT s).1, sv (cutT s).2]) ∧ Gr w w' := by
  have HC := hide (trim_call s w)
  obtain ⟨m, hm⟩ := hL.ml
  have HD : Hid (Calls Tryz.prog 164 #[sv (trimT s), .string ⟨#[32]⟩] w fun e w' => (∃ b, e = .returned (.tuple #[sv (cutT s).1, sv (cutT s).2, .bool b])) ∧ Gr w w') := by
    refine (Tryz.strings_Cut ⟨(trimT s).toArray⟩ ⟨#[32]⟩ m w (by rw [sz_mk]; have := trim_len s; omega) hm).mono ?_
    rintro e w' ⟨rfl, n, rfl⟩
    have e1 := cut_is (trimT s)
    refine ⟨⟨(Lib.cut (trimT s) [32]).2.2, ?_⟩, (Gr.refl w).drewN n⟩
    show Ending.returned (.tuple #[sv (Lib.cut (trimT s) [32]).1, sv (Lib.cut (trimT s) [32]).2.1, _]) = _
    rw [e1.1, e1.2]
    rfl
  clear hL hm
  generalize trimT s = x at *
  generalize (cutT s).1 = a at *
  generalize (cutT s).2 = r at *
  go_enter Tryz.func129, Tryz.ntmps129
  go_wp2_with (first
    | (go_at_call 127; refine HC.out.mono ?_; rintro e w1 ⟨rfl, hw1⟩; subst hw1)
    | (go_at_call 164; refine HD.out.mono ?_; rintro e w2 ⟨⟨b, rfl⟩, g2⟩))
  go_ret2
  exact ⟨rfl, g2⟩
theorem num_ok {s : Tx} {v : Int} (h : numT s = some v) : Lib.atoiAll s = .ok v ∧ ito v = s := by
  unfold numT at h
  cases e : Lib.atoiAll s with
  | ok u =>
    rw [e] at h
    by_cases q : Lib.itoa u = s
    · simp only [q, if_true] at h
      cases h
      exact ⟨rfl, q⟩
    · simp only [q, if_false] at h
      cases h
  | «syntax» => rw [e] at h; cases h
  | range => rw [e] at h; cases h
set_option maxRecDepth 20000 in
theorem num_some {w : World} (hL : Lb w) {s : Tx} {v : Int} (h : numT s = some v) (hs : s.length ≤ 2000000) : Calls Tryz.prog 165 #[sv s] w fun e w' => e = .returned (.tuple #[iv v, .bool true]) ∧ Gr w w' := by
  obtain ⟨ha, hz⟩ := num_ok h
  have hb := Lib.atoiAll_bounds ha
  have HA := hide (atoi_any hL ⟨s.toArray⟩ (by rw [sz_mk]; exact hs))
  have HX : Hid (∀ k er, AtoE (⟨s.toArray⟩ : ByteArray).data.toList k er → k = v ∧ er = .nilIface) := fun k er q => by
    unfold AtoE at q; rw [tl_mk, ha] at q; exact q
  have HI : Hid (∀ V, Gr w V → Calls Tryz.prog 133 #[iv v] V fun e w' => e = .returned (sv s) ∧ Gr V w') := fun V g => by
    rw [← hz]
    have := itoa_any (hL.gr g) (n := v) hb
    rw [hz] at this ⊢
    exact this
  clear hL h ha hz hb
  go_enter Tryz.func165, Tryz.ntmps165
  go_wp2_with (first
    | (go_at_call 91; refine HA.out.mono ?_; rintro e w1 ⟨k, er, rfl, q, _, g1⟩; obtain ⟨rfl, rfl⟩ := HX.out k er q; have G1 := hide g1; clear g1 q)
    | (go_at_call 133; refine (HI.out _ G1.out).mono ?_; rintro e w2 ⟨rfl, g2⟩; have G2 := hide g2; clear g2))
  go_ret2
  exact ⟨by simp, G1.out.trans G2.out⟩
set_option maxRecDepth 20000 in
theorem num_none {w : World} (hL : Lb w) {s : Tx} (h : numT s = none) (hs : s.length ≤ 2000000) : Calls Tryz.prog 165 #[sv s] w fun e w' => (∃ k, e = .returned (.tuple #[iv k, .bool false])) ∧ Gr w w' := by
  have HA := hide (atoi_any hL ⟨s.toArray⟩ (by rw [sz_mk]; exact hs))
  by_cases ho : ∃ v, Lib.atoiAll s = .ok v
  · obtain ⟨v, ha⟩ := ho
    have hz : ito v ≠ s := fun e => by
      unfold numT at h
      simp only [ha] at h
      rw [if_pos e] at h
      cases h
    have hb := Lib.atoiAll_bounds ha
    have HX : Hid (∀ k er, AtoE (⟨s.toArray⟩ : ByteArray).data.toList k er → k = v ∧ er = .nilIface) := fun k er q => by
      unfold AtoE at q; rw [tl_mk, ha] at q; exact q
    have HI := hide (fun V (g : Gr w V) => itoa_any (hL.gr g) (n := v) hb)
    have e1 : (ito v == s) = false := by simpa using hz
    clear hL h ha hz hb
    generalize ito v = z at *
    go_enter Tryz.func165, Tryz.ntmps165
    go_wp2_with (first
      | (go_at_call 91; refine HA.out.mono ?_; rintro e w1 ⟨k, er, rfl, q, _, g1⟩; obtain ⟨rfl, rfl⟩ := HX.out k er q; have G1 := hide g1; clear g1 q)
      | (go_at_call 133; refine (HI.out _ G1.out).mono ?_; rintro e w2 ⟨rfl, g2⟩; have G2 := hide g2; clear g2))
    go_ret2
    exact ⟨⟨_, by simp; rfl⟩, G1.out.trans G2.out⟩
  · have HX : Hid (∀ k er, AtoE (⟨s.toArray⟩ : ByteArray).data.toList k er → ∃ T N, er = .iface T (pv N)) := fun k er q => by
      unfold AtoE at q; rw [tl_mk] at q
      cases e : Lib.atoiAll s with
      | ok v => exact absurd ⟨v, e⟩ ho
      | «syntax» => rw [e] at q; exact q
      | range => rw [e] at q; exact q
    clear hL h ho
    go_enter Tryz.func165, Tryz.ntmps165
    go_wp2_with (first
      | (go_at_call 91; refine HA.out.mono ?_; rintro e w1 ⟨k, er, rfl, q, _, g1⟩; obtain ⟨T, N, rfl⟩ := HX.out k er q; have G1 := hide g1; clear g1 q))
    go_ret2
    exact ⟨⟨_, rfl⟩, G1.out⟩

end Go.Proofs.YtfcknkanbcndjagGreatDoor

/- CONTRACTS OF the program's desk: lay: a word laid into a step. -/
namespace Go.Proofs.YtfcknkanbcndjagGreatDoor
open Go.RowKit
attribute [local go_sem] Ext.all Ext.cell Ext.frozen Ext.lt Ext.lt1 Ext.lt2 Ext.ne Ext.ne'
/-- A step, as cells. -/
abbrev sxC (x : Sy) : Array Value := #[iv x.k, iv x.a, iv x.b, iv x.n, iv x.l, iv x.p]
/-- A step in memory. -/
def SxAt (w : World) (X : Nat) (x : Sy) : Prop := w.heap[X]? = some (.cells (sxC x) 54 (0, 0))
section
variable {w w' : World} {X : Nat} {x y : Sy}
theorem SxAt.lt (h : SxAt w X x) : X < w.heap.size := lt_of_block h
theorem SxAt.gr (h : SxAt w X x) (g : Gr w w') : SxAt w' X x := (Below.block g X (lt_of_block h)).trans h
theorem SxAt.kp {M : Nat → Prop} (h : SxAt w X x) (g : Kp M w w') (hm : M X) : SxAt w' X x := (g.block X (lt_of_block h) hm).trans h
theorem SxAt.cells (h : SxAt w X x) : w.cell? ⟨X, 0, none⟩ = some (iv x.k) ∧ w.cell? ⟨X, 1, none⟩ = some (iv x.a) ∧ w.cell? ⟨X, 2, none⟩ = some (iv x.b) ∧ w.cell? ⟨X, 3, none⟩ = some (iv x.n) ∧ w.cell? ⟨X, 4, none⟩ = some (iv x.l) ∧ w.cell? ⟨X, 5, none⟩ = some (iv x.p) := by
  unfold SxAt at h
  simp [World.cell?, h]
theorem SxAt.free (h : SxAt w X x) (j : Nat) : w.frozen? ⟨X, j, none⟩ = false := frozen_of_row w X j _ _ h
theorem SxAt.set1 (h : SxAt w X x) (v : Int) : SxAt (w.setCell ⟨X, 1, none⟩ (iv v)) X { x with a := v } := heap_setCell_same w X 1 _ _ (iv v) h
theorem SxAt.set2 (h : SxAt w X x) (v : Int) : SxAt (w.setCell ⟨X, 2, none⟩ (iv v)) X { x with b := v } := heap_setCell_same w X 2 _ _ (iv v) h
theorem SxAt.set3 (h : SxAt w X x) (v : Int) : SxAt (w.setCell ⟨X, 3, none⟩ (iv v)) X { x with n := v } := heap_setCell_same w X 3 _ _ (iv v) h
theorem SxAt.set45 (h : SxAt w X x) (u v : Int) : SxAt ((w.setCell ⟨X, 4, none⟩ (iv u)).setCell ⟨X, 5, none⟩ (iv v)) X { x with l := u, p := v } :=
  heap_setCell_same (w.setCell ⟨X, 4, none⟩ (iv u)) X 5 _ _ (iv v) (heap_setCell_same w X 4 _ _ (iv u) h)
theorem map_some' {α β : Type} {o : Option α} {f : α → β} {b : β} (h : o.map f = some b) : ∃ a, o = some a ∧ b = f a := by
  cases o with
  | none => cases h
  | some a => cases h; exact ⟨a, rfl, rfl⟩
theorem map_none' {α β : Type} {o : Option α} {f : α → β} (h : o.map f = none) : o = none := by
  cases o with
  | none => rfl
  | some a => cases h
set_option maxRecDepth 20000 in
set_option maxHeartbeats 2000000 in
/-- A word that can stand there. -/
theorem lay_some (hL : Lb w) (hX : SxAt w X x) {q wd : Tx} (h : layT q wd x = some y) (hs : wd.length ≤ 2000000) :
    Calls Tryz.prog 130 #[pv X, sv q, sv wd] w fun e w' => e = .returned (.bool true) ∧ SxAt w' X y ∧ Kp (fun b => b ≠ X) w w' := by
  have HX := hide hX
  have lX := hX.lt
  clear hX
  by_cases h1 : q = [65]
  · subst h1
    obtain ⟨v, hv, rfl⟩ := map_some' ((lay_A wd x).symm.trans h)
    have HN := hide (num_some hL hv hs)
    clear hL h hv
    go_enter Tryz.func130, Tryz.ntmps130
    go_wp2_with (go_at_call 165; refine HN.out.mono ?_; rintro e w1 ⟨rfl, g1⟩; have X1 := hide (HX.out.gr g1); have G1 := hide g1; obtain ⟨c0, c1, c2, c3, c4, c5⟩ := X1.out.cells; have f1 := X1.out.free 1; have l1 := X1.out.lt; clear g1)
    go_ret
    exact ⟨rfl, X1.out.set1 v, (G1.out.kp _).set (fun e => e rfl) _ _⟩
  by_cases h2 : q = [66]
  · subst h2
    obtain ⟨v, hv, rfl⟩ := map_some' ((lay_B wd x).symm.trans h)
    have HN := hide (num_some hL hv hs)
    clear hL h hv h1
    go_enter Tryz.func130, Tryz.ntmps130
    go_wp2_with (go_at_call 165; refine HN.out.mono ?_; rintro e w1 ⟨rfl, g1⟩; have X1 := hide (HX.out.gr g1); have G1 := hide g1; obtain ⟨c0, c1, c2, c3, c4, c5⟩ := X1.out.cells; have f1 := X1.out.free 2; have l1 := X1.out.lt; clear g1)
    go_ret
    exact ⟨rfl, X1.out.set2 v, (G1.out.kp _).set (fun e => e rfl) _ _⟩
  by_cases h3 : q = [78]
  · subst h3
    obtain ⟨v, hv, rfl⟩ := map_some' ((lay_N wd x).symm.trans h)
    have HN := hide (num_some hL hv hs)
    clear hL h hv h1 h2
    go_enter Tryz.func130, Tryz.ntmps130
    go_wp2_with (go_at_call 165; refine HN.out.mono ?_; rintro e w1 ⟨rfl, g1⟩; have X1 := hide (HX.out.gr g1); have G1 := hide g1; obtain ⟨c0, c1, c2, c3, c4, c5⟩ := X1.out.cells; have f1 := X1.out.free 3; have l1 := X1.out.lt; clear g1)
    go_ret
    exact ⟨rfl, X1.out.set3 v, (G1.out.kp _).set (fun e => e rfl) _ _⟩
  by_cases h4 : q = [88]
  · subst h4
    obtain ⟨v, hv, rfl⟩ := map_some' ((lay_X wd x).symm.trans h)
    have HN := hide (num_some hL hv hs)
    clear hL h hv h1 h2 h3
    go_enter Tryz.func130, Tryz.ntmps130
    go_wp2_with (go_at_call 165; refine HN.out.mono ?_; rintro e w1 ⟨rfl, g1⟩; have X1 := hide (HX.out.gr g1); have G1 := hide g1; obtain ⟨c0, c1, c2, c3, c4, c5⟩ := X1.out.cells; have f1 := X1.out.free 3; have l1 := X1.out.lt; clear g1)
    go_ret
    exact ⟨rfl, X1.out.set3 v, (G1.out.kp _).set (fun e => e rfl) _ _⟩
  by_cases h5 : q = [80]
  · subst h5
    obtain ⟨⟨n, v⟩, hv, rfl⟩ := map_some' ((lay_P wd x).symm.trans h)
    have HN := hide (parse_some ⟨wd.toArray⟩ n v hv w)
    clear hL h hv h1 h2 h3 h4
    go_enter Tryz.func130, Tryz.ntmps130
    go_wp2_with (go_at_call 166; refine HN.out.mono ?_; rintro e _ ⟨rfl, d1, rfl⟩; have X1 := hide (HX.out.gr d1.gr); have G1 := hide d1.gr; obtain ⟨c0, c1, c2, c3, c4, c5⟩ := X1.out.cells; have f4 := X1.out.free 4; have f5 := X1.out.free 5; have l1 := X1.out.lt)
    go_ret
    exact ⟨rfl, X1.out.set45 n v, ((G1.out.kp _).set (fun e => e rfl) _ _).set (fun e => e rfl) _ _⟩
  have e1 : (q == [65]) = false := by simpa using h1
  have e2 : (q == [66]) = false := by simpa using h2
  have e3 : (q == [78]) = false := by simpa using h3
  have e4 : (q == [88]) = false := by simpa using h4
  have e5 : (q == [80]) = false := by simpa using h5
  unfold layT at h
  rw [if_neg h1, if_neg h2, if_neg (fun e => e.elim h3 h4), if_neg h5] at h
  by_cases h6 : wd = q
  · rw [if_pos h6] at h
    cases h
    have e6 : (wd == q) = true := by simpa using h6
    clear hL h1 h2 h3 h4 h5 h6
    go_enter Tryz.func130, Tryz.ntmps130
    go_wp2_with fail
    go_ret
    exact ⟨rfl, HX.out, Kp.refl _ _⟩
  · rw [if_neg h6] at h
    cases h
set_option maxRecDepth 20000 in
set_option maxHeartbeats 2000000 in
/-- A word that can't stand there. -/
theorem lay_none (hL : Lb w) (hX : SxAt w X x) {q wd : Tx} (h : layT q wd x = none) (hs : wd.length ≤ 2000000) :
    Calls Tryz.prog 130 #[pv X, sv q, sv wd] w fun e w' => e = .returned (.bool false) ∧ (∃ y, SxAt w' X y) ∧ Kp (fun b => b ≠ X) w w' := by
  have HX := hide hX
  have lX := hX.lt
  clear hX
  by_cases h1 : q = [65]
  · subst h1
    have HN := hide (num_none hL (map_none' ((lay_A wd x).symm.trans h)) hs)
    clear hL h
    go_enter Tryz.func130, Tryz.ntmps130
    go_wp2_with (go_at_call 165; refine HN.out.mono ?_; rintro e w1 ⟨⟨v, rfl⟩, g1⟩; have X1 := hide (HX.out.gr g1); have G1 := hide g1; obtain ⟨c0, c1, c2, c3, c4, c5⟩ := X1.out.cells; have f1 := X1.out.free 1; have l1 := X1.out.lt; clear g1)
    go_ret
    exact ⟨rfl, ⟨_, X1.out.set1 v⟩, (G1.out.kp _).set (fun e => e rfl) _ _⟩
  by_cases h2 : q = [66]
  · subst h2
    have HN := hide (num_none hL (map_none' ((lay_B wd x).symm.trans h)) hs)
    clear hL h h1
    go_enter Tryz.func130, Tryz.ntmps130
    go_wp2_with (go_at_call 165; refine HN.out.mono ?_; rintro e w1 ⟨⟨v, rfl⟩, g1⟩; have X1 := hide (HX.out.gr g1); have G1 := hide g1; obtain ⟨c0, c1, c2, c3, c4, c5⟩ := X1.out.cells; have f1 := X1.out.free 2; have l1 := X1.out.lt; clear g1)
    go_ret
    exact ⟨rfl, ⟨_, X1.out.set2 v⟩, (G1.out.kp _).set (fun e => e rfl) _ _⟩
  by_cases h3 : q = [78]
  · subst h3
    have HN := hide (num_none hL (map_none' ((lay_N wd x).symm.trans h)) hs)
    clear hL h h1 h2
    go_enter Tryz.func130, Tryz.ntmps130
    go_wp2_with (go_at_call 165; refine HN.out.mono ?_; rintro e w1 ⟨⟨v, rfl⟩, g1⟩; have X1 := hide (HX.out.gr g1); have G1 := hide g1; obtain ⟨c0, c1, c2, c3, c4, c5⟩ := X1.out.cells; have f1 := X1.out.free 3; have l1 := X1.out.lt; clear g1)
    go_ret
    exact ⟨rfl, ⟨_, X1.out.set3 v⟩, (G1.out.kp _).set (fun e => e rfl) _ _⟩
  by_cases h4 : q = [88]
  · subst h4
    have HN := hide (num_none hL (map_none' ((lay_X wd x).symm.trans h)) hs)
    clear hL h h1 h2 h3
    go_enter Tryz.func130, Tryz.ntmps130
    go_wp2_with (go_at_call 165; refine HN.out.mono ?_; rintro e w1 ⟨⟨v, rfl⟩, g1⟩; have X1 := hide (HX.out.gr g1); have G1 := hide g1; obtain ⟨c0, c1, c2, c3, c4, c5⟩ := X1.out.cells; have f1 := X1.out.free 3; have l1 := X1.out.lt; clear g1)
    go_ret
    exact ⟨rfl, ⟨_, X1.out.set3 v⟩, (G1.out.kp _).set (fun e => e rfl) _ _⟩
  by_cases h5 : q = [80]
  · subst h5
    have HN := hide (parse_nil ⟨wd.toArray⟩ (by rw [sz_mk]; unfold maxLen; omega) (map_none' ((lay_P wd x).symm.trans h)) w)
    clear hL h h1 h2 h3 h4
    go_enter Tryz.func130, Tryz.ntmps130
    go_wp2_with (go_at_call 166; refine HN.out.mono ?_; rintro e _ ⟨rfl, d1, rfl⟩; have X1 := hide (HX.out.gr d1.gr); have G1 := hide d1.gr; obtain ⟨c0, c1, c2, c3, c4, c5⟩ := X1.out.cells; have f4 := X1.out.free 4; have f5 := X1.out.free 5; have l1 := X1.out.lt)
    go_ret
    exact ⟨rfl, ⟨_, X1.out.set45 0 0⟩, ((G1.out.kp _).set (fun e => e rfl) _ _).set (fun e => e rfl) _ _⟩
  have e1 : (q == [65]) = false := by simpa using h1
  have e2 : (q == [66]) = false := by simpa using h2
  have e3 : (q == [78]) = false := by simpa using h3
  have e4 : (q == [88]) = false := by simpa using h4
  have e5 : (q == [80]) = false := by simpa using h5
  unfold layT at h
  rw [if_neg h1, if_neg h2, if_neg (fun e => e.elim h3 h4), if_neg h5] at h
  by_cases h6 : wd = q
  · rw [if_pos h6] at h
    cases h
  · have e6 : (wd == q) = false := by simpa using h6
    clear hL h h1 h2 h3 h4 h5 h6
    go_enter Tryz.func130, Tryz.ntmps130
    go_wp2_with fail
    go_ret
    exact ⟨rfl, ⟨_, HX.out⟩, Kp.refl _ _⟩
end

end Go.Proofs.YtfcknkanbcndjagGreatDoor

/- CONTRACTS OF the program's desk: read: a line read by an order's form. -/
namespace Go.Proofs.YtfcknkanbcndjagGreatDoor
open Go.RowKit
attribute [local go_sem] Ext.all Ext.cell Ext.frozen Ext.lt Ext.lt1 Ext.lt2 Ext.ne Ext.ne'
/-- What Split at blanks makes of a form. -/
def SplT (f : Tx) (qs : List Tx) : Prop := Lib.splitB ⟨#[32]⟩ 0 (Lib.countB ⟨f.toArray⟩ ⟨#[32]⟩) ⟨f.toArray⟩ = qs.map (fun q => (⟨q.toArray⟩ : ByteArray)) ∧ Lib.countB ⟨f.toArray⟩ ⟨#[32]⟩ + 1 = qs.length ∧ f.length ≤ 100 ∧ qs.length ≤ 100
theorem split_is {w : World} (hL : Lb w) {f : Tx} {qs : List Tx} (hq : SplT f qs) : Calls Tryz.prog 128 #[sv f, .string ⟨#[32]⟩] w fun e w' => e = .returned (.slice (some ⟨w.heap.size, 0, none⟩) qs.length qs.length) ∧ w' = w.alloc (.cells (qs.map sv).toArray 9) := by
  obtain ⟨m, hm⟩ := hL.ml
  obtain ⟨h1, h2, h3, _⟩ := hq
  refine (Tryz.strings_Split ⟨f.toArray⟩ ⟨#[32]⟩ m w (by rw [sz_mk]; omega) hm (by decide)).mono ?_
  rintro e w' ⟨rfl, rfl⟩
  rw [h2, h1]
  refine ⟨rfl, ?_⟩
  rw [List.map_map]
  rfl
/-- What read tells. -/
def RdO (qs : List Tx) (s : Tx) (x : Sy) (e : Ending) : Prop := ∃ y b, e = .returned (.tuple #[.agg (sxC y), .bool b]) ∧ ((b = true ∧ rdT qs s x = some y) ∨ (b = false ∧ rdT qs s x = none))
/-- In the loop over the places. -/
structure RdI (w wr : World) (R X L : Nat) (qs : List Tx) (s : Tx) (x : Sy) (k : Nat) (y : Sy) (s' : Tx) : Prop where
  gr : Gr w wr
  sx : SxAt wr X y
  rs : ∃ z, SxAt wr R z
  ls : wr.heap[L]? = some (.cells (qs.map sv).toArray 9 (0, 0))
  ne : X ≠ R
  hX : w.heap.size ≤ X
  hR : w.heap.size ≤ R
  eq : rdT qs s x = rdT (qs.drop k) s' y
  len : s'.length ≤ 90000
theorem three_new (w : World) (a : Array Value) (T : TypeId) (y x : Sy) (hT : 0 < a.size) : Gr w (((w.alloc (.cells a T)).alloc (.cells (sxC y) 54)).alloc (.cells (sxC x) 54)) ∧ SxAt (((w.alloc (.cells a T)).alloc (.cells (sxC y) 54)).alloc (.cells (sxC x) 54)) (w.heap.size + 1 + 1) x ∧ SxAt (((w.alloc (.cells a T)).alloc (.cells (sxC y) 54)).alloc (.cells (sxC x) 54)) (w.heap.size + 1) y ∧ (((w.alloc (.cells a T)).alloc (.cells (sxC y) 54)).alloc (.cells (sxC x) 54)).cell? ⟨w.heap.size, 0, none⟩ = some a[0] := by
  have s1 : (w.alloc (.cells a T)).heap.size = w.heap.size + 1 := by simp
  have s2 : ((w.alloc (.cells a T)).alloc (.cells (sxC y) 54)).heap.size = w.heap.size + 1 + 1 := by simp
  have g1 : Gr (w.alloc (.cells a T)) (((w.alloc (.cells a T)).alloc (.cells (sxC y) 54)).alloc (.cells (sxC x) 54)) := ((Gr.refl _).alloc _).alloc _
  have g2 : Gr ((w.alloc (.cells a T)).alloc (.cells (sxC y) 54)) (((w.alloc (.cells a T)).alloc (.cells (sxC y) 54)).alloc (.cells (sxC x) 54)) := (Gr.refl _).alloc _
  refine ⟨((Gr.refl w).alloc _).trans g1, ?_, ?_, ?_⟩
  · have := heap_alloc_new ((w.alloc (.cells a T)).alloc (.cells (sxC y) 54)) (.cells (sxC x) 54)
    rw [s2] at this
    exact this
  · have h : SxAt ((w.alloc (.cells a T)).alloc (.cells (sxC y) 54)) (w.heap.size + 1) y := by
      have := heap_alloc_new (w.alloc (.cells a T)) (.cells (sxC y) 54)
      rw [s1] at this
      exact this
    exact h.gr g2
  · rw [Below.cell g1 (p := ⟨w.heap.size, 0, none⟩) (by simp)]
    have := heap_alloc_new w (.cells a T)
    unfold World.cell?
    rw [this]
    simp [hT]
theorem RdI.far {w wr w2 : World} {R X L : Nat} {qs : List Tx} {s : Tx} {x : Sy} {k : Nat} {y : Sy} {s' : Tx} (h : RdI w wr R X L qs s x k y s') (g : Kp (fun b => b ≠ X) wr w2) : Gr w w2 :=
  Below.trans h.gr (g.below (Below.size h.gr) (fun b hb e => by have := h.hX; omega))
theorem RdI.next {w wr w2 : World} {R X L : Nat} {qs : List Tx} {s : Tx} {x : Sy} {k : Nat} {y z : Sy} {s' r : Tx} (h : RdI w wr R X L qs s x k y s') (g : Kp (fun b => b ≠ X) wr w2) (hz : SxAt w2 X z) (he : rdT (qs.drop k) s' y = rdT (qs.drop (k + 1)) r z) (hr : r.length ≤ 90000) : RdI w w2 R X L qs s x (k + 1) z r := by
  obtain ⟨u, hu⟩ := h.rs
  have hL : L ≠ X := fun e => by
    subst e
    exact blk_ne h.ls h.sx (by decide) rfl
  exact ⟨h.far g, hz, ⟨u, hu.kp g (fun e => h.ne e.symm)⟩, (g.block L (lt_of_block h.ls) hL).trans h.ls, h.ne, h.hX, h.hR, h.eq.trans he, hr⟩
/-- The result's place is written. -/
theorem six_gr {w v : World} {R : Nat} (g : Gr w v) (hR : w.heap.size ≤ R) (y : Sy) : Gr w ((((((v.setCell ⟨R, 0, none⟩ (iv y.k)).setCell ⟨R, 1, none⟩ (iv y.a)).setCell ⟨R, 2, none⟩ (iv y.b)).setCell ⟨R, 3, none⟩ (iv y.n)).setCell ⟨R, 4, none⟩ (iv y.l)).setCell ⟨R, 5, none⟩ (iv y.p)) :=
  (((((g.setCell hR _).setCell hR _).setCell hR _).setCell hR _).setCell hR _).setCell hR _
theorem six_at {v : World} {R : Nat} {z : Sy} (h : SxAt v R z) (y : Sy) : SxAt ((((((v.setCell ⟨R, 0, none⟩ (iv y.k)).setCell ⟨R, 1, none⟩ (iv y.a)).setCell ⟨R, 2, none⟩ (iv y.b)).setCell ⟨R, 3, none⟩ (iv y.n)).setCell ⟨R, 4, none⟩ (iv y.l)).setCell ⟨R, 5, none⟩ (iv y.p)) R y := by
  have h0 := heap_setCell_same v R 0 _ _ (iv y.k) h
  have h1 := heap_setCell_same _ R 1 _ _ (iv y.a) h0
  have h2 := heap_setCell_same _ R 2 _ _ (iv y.b) h1
  have h3 := heap_setCell_same _ R 3 _ _ (iv y.n) h2
  have h4 := heap_setCell_same _ R 4 _ _ (iv y.l) h3
  exact heap_setCell_same _ R 5 _ _ (iv y.p) h4
theorem SxAt.drew {v : World} {R : Nat} {y : Sy} (h : SxAt v R y) : SxAt v.drew R y := h
set_option maxRecDepth 20000 in
set_option maxHeartbeats 4000000 in
theorem read_any {w : World} (hL : Lb w) {f : Tx} {qs : List Tx} (hq : SplT f qs) (x : Sy) (F : Value) (s : Tx) (hs : s.length ≤ 90000) :
    Calls Tryz.prog 88 #[.agg #[sv f, iv x.k, iv x.a, iv x.b, iv x.n, iv x.l, iv x.p, F], sv s] w fun e w' => RdO qs s x e ∧ Gr w w' := by
  have HS := hide (fun V (g : Gr w V) => split_is (hL.gr g) hq)
  have HL := hide (fun V (g : Gr w V) => hL.gr g)
  have hsz := hide hs
  have hql := hq.2.2.2
  clear hL hq hs
  obtain ⟨xk, xa, xb, xn, xl, xp⟩ := x
  go_enter Tryz.func88, Tryz.ntmps88
  go_upto_region 2 with (fail)
  refine wp_gen (fun V => Hid (Gr w V) ∧ Hid (SxAt V (w.heap.size + 1 + 1) ⟨xk, xa, xb, xn, xl, xp⟩) ∧ Hid (SxAt V (w.heap.size + 1) ⟨0, 0, 0, 0, 0, 0⟩) ∧ V.cell? ⟨w.heap.size, 0, none⟩ = some (sv f)) (three_new w #[sv f, iv xk, iv xa, iv xb, iv xn, iv xl, iv xp, F] 150 ⟨0, 0, 0, 0, 0, 0⟩ ⟨xk, xa, xb, xn, xl, xp⟩ (by simp)) ?_
  rintro V ⟨G0, X0, R0, c0⟩
  have hne : Hid (w.heap.size + 1 + 1 ≠ w.heap.size + 1) := by unfold Hid; omega
  have hX : Hid (w.heap.size ≤ w.heap.size + 1 + 1) := by unfold Hid; omega
  have hR : Hid (w.heap.size ≤ w.heap.size + 1) := by unfold Hid; omega
  generalize w.heap.size + 1 + 1 = X at *
  generalize w.heap.size + 1 = R at *
  go_wp2_with (go_at_call 128; refine (HS.out _ G0.out).mono ?_; rintro e _ ⟨rfl, rfl⟩)
  have hnil : Hid (∀ z : Tx, z ∈ qs → True) := fun _ _ => trivial
  have HI : Hid (RdI w (V.alloc (.cells (qs.map sv).toArray 9)) R X V.heap.size qs s ⟨xk, xa, xb, xn, xl, xp⟩ 0 ⟨xk, xa, xb, xn, xl, xp⟩ s) := ⟨G0.out.alloc _, X0.out.gr ((Gr.refl V).alloc _), ⟨_, R0.out.gr ((Gr.refl V).alloc _)⟩, heap_alloc_new V _, hne.out, hX.out, hR.out, by simp, hsz.out⟩
  clear HS hnil G0 X0 R0 c0 hne hX hR hsz
  generalize V.heap.size = L at *
  go_loopw [1, 17] (fun v1 v17 wr => ∃ (k : Nat) (y : Sy) (s' : Tx), k ≤ qs.length ∧ v17 = .int .i64 k ∧ v1 = sv s' ∧ Hid (RdI w wr R X L qs s ⟨xk, xa, xb, xn, xl, xp⟩ k y s')) (fun _ v17 _ => qs.length - (intOf v17).toNat)
  case atStart => exact ⟨0, _, s, by omega, rfl, rfl, HI⟩
  case round =>
    clear HI
    obtain ⟨k, y, s', hk, rfl, rfl, HI⟩ := hrel
    by_cases hlt : k < qs.length
    · have hkI : (k : Int) < (qs.length : Int) := by omega
      have hLb := HL.out wr HI.out.gr
      have HC := hide (cut_any hLb s' (by have := HI.out.len; omega))
      have hcl := cut_len s'
      have hle := HI.out.len
      have hq : wr.cell? ⟨L, k, none⟩ = some (sv qs[k]) := by
        have := HI.out.ls
        simp [World.cell?, this, hlt]
      have hLt := lt_of_block HI.out.ls
      have hdr : rdT (qs.drop k) s' y = match layT qs[k] (cutT s').1 y with
          | none => none
          | some z => rdT (qs.drop (k + 1)) (cutT s').2 z := by
        first
          | (rw [List.drop_eq_getElem_cons hlt, rdT]; done)
          | (rw [List.drop_eq_getElem_cons hlt, rdT]; cases layT qs[k] (cutT s').1 y <;> rfl)
      cases hy : layT qs[k] (cutT s').1 y with
      | none =>
        have HLN := hide (fun V (g : Gr wr V) => lay_none (hLb.gr g) (HI.out.sx.gr g) hy (by omega))
        have HF : Hid (rdT qs s ⟨xk, xa, xb, xn, xl, xp⟩ = none) := by unfold Hid; rw [HI.out.eq, hdr, hy]
        clear hy hdr hLb hcl hle
        generalize qs[k] = q at *
        generalize (cutT s').1 = a at *
        generalize (cutT s').2 = r at *
        obtain ⟨z, hz⟩ := HI.out.rs
        go_wp2_with (first
          | (go_at_call 129; refine HC.out.mono ?_; rintro e w1 ⟨rfl, g1⟩; have G1 := hide g1; clear g1)
          | (go_at_call 130; refine (HLN.out _ G1.out).mono ?_; rintro e w2 ⟨rfl, hx2, k2⟩; have K2 := hide ((G1.out.kp _).trans k2); have hR2 := (hz.gr G1.out).kp k2 (fun e => HI.out.ne e.symm); obtain ⟨c0, c1, c2, c3, c4, c5⟩ := hR2.cells; have f0 := hR2.free 0; have f1 := hR2.free 1; have f2 := hR2.free 2; have f3 := hR2.free 3; have f4 := hR2.free 4; have f5 := hR2.free 5; have lR := hR2.lt; clear hx2 k2))
        refine bp_gen' (fun U => Hid (Gr w U) ∧ Hid (SxAt U R ⟨0, 0, 0, 0, 0, 0⟩)) ⟨six_gr (HI.out.far K2.out) HI.out.hR ⟨0, 0, 0, 0, 0, 0⟩, six_at hR2 ⟨0, 0, 0, 0, 0, 0⟩⟩ ?_
        rintro U ⟨GU, RU⟩
        obtain ⟨z0, z1, z2, z3, z4, z5⟩ := RU.out.cells
        refine bodyPost_ret (v := .tuple #[.agg (sxC ⟨0, 0, 0, 0, 0, 0⟩), .bool false]) (by simp [results, Tryz.results88, go_sem, z0, z1, z2, z3, z4, z5]) rfl ⟨⟨_, _, rfl, .inr ⟨rfl, HF.out⟩⟩, GU.out⟩
      | some z =>
        have HLN := hide (fun V (g : Gr wr V) => lay_some (hLb.gr g) (HI.out.sx.gr g) hy (by omega))
        have HF : Hid (rdT (qs.drop k) s' y = rdT (qs.drop (k + 1)) (cutT s').2 z) := by unfold Hid; rw [hdr, hy]
        have hrl : Hid ((cutT s').2.length ≤ 90000) := by unfold Hid; omega
        clear hy hdr hLb hcl hle
        generalize qs[k] = q at *
        generalize (cutT s').1 = a at *
        generalize (cutT s').2 = r at *
        go_wp2_with (first
          | (go_at_call 129; refine HC.out.mono ?_; rintro e w1 ⟨rfl, g1⟩; have G1 := hide g1; clear g1)
          | (go_at_call 130; refine (HLN.out _ G1.out).mono ?_; rintro e w2 ⟨rfl, hx2, k2⟩; have K2 := hide ((G1.out.kp _).trans k2); have X2 := hide hx2; clear hx2 k2))
        go_roundw
        case rel => exact ⟨k + 1, z, r, by omega, by go_num, rfl, HI.out.next K2.out X2.out HF.out hrl.out⟩
        case measure => simp [intOf]; omega
    · have hkl : decide ((k : Int) < (qs.length : Int)) = false := decide_eq_false (by omega)
      have HD : Hid (qs.drop k = []) := List.drop_eq_nil_of_le (by omega)
      obtain ⟨z, hz⟩ := HI.out.rs
      obtain ⟨y0, y1, y2, y3, y4, y5⟩ := HI.out.sx.cells
      obtain ⟨c0, c1, c2, c3, c4, c5⟩ := hz.cells
      have f0 := hz.free 0
      have f1 := hz.free 1
      have f2 := hz.free 2
      have f3 := hz.free 3
      have f4 := hz.free 4
      have f5 := hz.free 5
      have lR := hz.lt
      have lX := HI.out.sx.lt
      obtain ⟨b, hb⟩ : ∃ b, decide (wordsT s' = []) = b := ⟨_, rfl⟩
      have HBl := hide (fun V => blank_is hb V)
      have HF : Hid ((b = true ∧ rdT qs s ⟨xk, xa, xb, xn, xl, xp⟩ = some y) ∨ (b = false ∧ rdT qs s ⟨xk, xa, xb, xn, xl, xp⟩ = none)) := by
        unfold Hid
        rw [HI.out.eq, HD.out, rdT, ← hb]
        by_cases h : wordsT s' = []
        · rw [if_pos h, decide_eq_true h]; exact .inl ⟨rfl, rfl⟩
        · rw [if_neg h, decide_eq_false h]; exact .inr ⟨rfl, rfl⟩
      have HZ := hide hz
      clear hb HD hz
      go_wp2_with fail
      go_region_with (go_at_call 87; refine (HBl.out _).mono ?_; rintro e w1 ⟨rfl, hw1⟩; subst hw1)
      all_goals
        go_wp2_with fail
        refine bp_gen' (fun U => Hid (Gr w U) ∧ Hid (SxAt U R y)) (by with_reducible exact ⟨hide (six_gr HI.out.gr HI.out.hR y).drew, hide (six_at HZ.out y).drew⟩) ?_
        rintro U ⟨GU, RU⟩
        obtain ⟨z0, z1, z2, z3, z4, z5⟩ := RU.out.cells
        refine bodyPost_ret (v := .tuple #[.agg (sxC y), .bool b]) (by simp [results, Tryz.results88, go_sem, z0, z1, z2, z3, z4, z5]) rfl ⟨⟨_, _, rfl, HF.out⟩, GU.out⟩

end Go.Proofs.YtfcknkanbcndjagGreatDoor
