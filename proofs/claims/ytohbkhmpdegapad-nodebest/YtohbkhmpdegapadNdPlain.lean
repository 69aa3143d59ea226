/- THE PROGRAM'S NODE, AS NUMBERS: its search upwards finds what the reference's finds; looked at twice it is looked at once; the best of itself is not kept. No Go here. -/
import Derived.Test.YtohbkhmpdegapadMdPlain4
namespace Go.Proofs.Ytohbkhmpdegapad

/-- The program's search, up from the least number: the first s of them. -/
def pkU (m : Md) (z : Nat) : Nat → Int × Int × Int
  | 0 => ((m.bests z).1, 200, -1)
  | s + 1 => if mayB m z s = true ∧ bet (wayBy m z s).1 (wayBy m z s).2.1 (pkU m z s).1 (pkU m z s).2.1 = true then wayBy m z s else pkU m z s
theorem pkU_part (m : Md) (z : Nat) : ∀ s,
    (∃ k, k < s ∧ mayB m z k = true ∧ pkU m z s = wayBy m z k ∧ ∀ j, j < s → mayB m z j = true → bet (wayBy m z j).1 (wayBy m z j).2.1 (wayBy m z k).1 (wayBy m z k).2.1 = false ∧ (bet (wayBy m z k).1 (wayBy m z k).2.1 (wayBy m z j).1 (wayBy m z j).2.1 = false → k ≤ j)) ∨
    ((∀ j, j < s → mayB m z j = false) ∧ pkU m z s = ((m.bests z).1, 200, -1))
  | 0 => .inr ⟨fun j h => by omega, rfl⟩
  | s + 1 => by
    rcases pkU_part m z s with ⟨k, k1, mk, hp, hall⟩ | ⟨hn, hp⟩
    · rw [pkU, hp]
      by_cases hm : mayB m z s = true ∧ bet (wayBy m z s).1 (wayBy m z s).2.1 (wayBy m z k).1 (wayBy m z k).2.1 = true
      · rw [if_pos hm]
        obtain ⟨hm1, hb⟩ := hm
        refine .inl ⟨s, by omega, hm1, rfl, fun j j1 mj => ?_⟩
        by_cases ej : j = s
        · subst ej
          exact ⟨by rw [bet_not]; omega, fun _ => Nat.le_refl _⟩
        · obtain ⟨a1, _⟩ := hall j (by omega) mj
          rw [bet_not] at a1
          rw [bet_iff] at hb
          refine ⟨by rw [bet_not]; omega, fun q => ?_⟩
          rw [bet_not] at q
          omega
      · rw [if_neg hm]
        refine .inl ⟨k, by omega, mk, rfl, fun j j1 mj => ?_⟩
        by_cases ej : j = s
        · subst ej
          refine ⟨?_, fun _ => by omega⟩
          cases q : bet (wayBy m z j).1 (wayBy m z j).2.1 (wayBy m z k).1 (wayBy m z k).2.1
          · rfl
          · exact absurd ⟨mj, q⟩ hm
        · exact hall j (by omega) mj
    · rw [pkU, hp]
      by_cases hm : mayB m z s = true
      · obtain ⟨_, c1, c2⟩ := may_iff.1 hm
        have hb : bet (wayBy m z s).1 (wayBy m z s).2.1 (m.bests z).1 200 = true := by
          rw [bet_iff] at c2 ⊢
          unfold wayBy
          simp only
          omega
        rw [if_pos ⟨hm, hb⟩]
        refine .inl ⟨s, by omega, hm, rfl, fun j j1 mj => ?_⟩
        by_cases ej : j = s
        · subst ej
          exact ⟨by rw [bet_not]; omega, fun _ => Nat.le_refl _⟩
        · rw [hn j (by omega)] at mj; cases mj
      · rw [if_neg (fun q => hm q.1)]
        refine .inr ⟨fun j j1 => ?_, rfl⟩
        by_cases ej : j = s
        · subst ej
          cases h : mayB m z j
          · rfl
          · exact absurd h hm
        · exact hn j (by omega)
theorem pkU_is (m : Md) (z : Nat) : pkU m z 6 = pkD m z 6 := by
  refine IsPick.unique (m := m) (to := z) ?_ (pkD_is m z)
  rcases pkU_part m z 6 with ⟨k, k2, mk, hp, hall⟩ | ⟨hn, hp⟩
  · rw [hp]
    exact .inl ⟨k, k2, mk, rfl, hall⟩
  · rw [hp]
    exact .inr ⟨hn, rfl⟩
theorem pkU_bet (m : Md) (z : Nat) (hb : (m.bests z).2 ≤ 200) : bet (pkU m z 6).1 (pkU m z 6).2.1 (m.bests z).1 (m.bests z).2 = true ↔ (pkD m z 6).2.2 ≠ -1 ∧ bet (pkD m z 6).1 (pkD m z 6).2.1 (m.bests z).1 (m.bests z).2 = true := by
  rw [pkU_is]
  constructor
  · intro h
    refine ⟨fun e => ?_, h⟩
    rcases pkD_is m z with ⟨k, _, _, hw, _⟩ | ⟨_, hw⟩
    · rw [hw] at e
      have : (k : Int) = -1 := e
      omega
    · rw [hw, bet_iff] at h
      simp only at h
      omega
  · exact fun h => h.2
/-- The program's choose. -/
theorem look_u (m : Md) {z : Nat} (hz : z ≠ m.me) (hb : (m.bests z).2 ≤ 200) :
    lookM m z = { m with ways := updW m.ways z (pkU m z 6), bests := if bet (pkU m z 6).1 (pkU m z 6).2.1 (m.bests z).1 (m.bests z).2 = true then updW m.bests z ((pkU m z 6).1, (pkU m z 6).2.1) else m.bests } := by
  have h := pkU_bet m z hb
  unfold lookM
  rw [if_neg hz]
  by_cases c : bet (pkU m z 6).1 (pkU m z 6).2.1 (m.bests z).1 (m.bests z).2 = true
  · rw [if_pos c, if_pos (h.1 c), pkU_is]
  · rw [if_neg c, if_neg (fun q => c (h.2 q)), pkU_is]

theorem mayB_congr {m m' : Md} {z : Nat} (e1 : m'.cost = m.cost) (e2 : ∀ j, m'.heard j z = m.heard j z) (e3 : m'.bests z = m.bests z) (j : Nat) : mayB m' z j = mayB m z j ∧ wayBy m' z j = wayBy m z j := by
  unfold mayB wayBy
  rw [e1, e2, e3]
  exact ⟨rfl, rfl⟩
theorem pkD_congr {m m' : Md} {z : Nat} (e1 : m'.cost = m.cost) (e2 : ∀ j, m'.heard j z = m.heard j z) (e3 : m'.bests z = m.bests z) : ∀ s, pkD m' z s = pkD m z s
  | 0 => by rw [pkD, pkD, e3]
  | s + 1 => by
    obtain ⟨a, b⟩ := mayB_congr e1 e2 e3 (5 - s)
    rw [pkD, pkD, pkD_congr e1 e2 e3 s, a, b]

/-- The way to z has been looked at. -/
def LkZ (m : Md) (z : Nat) : Prop := m.ways z = pkD m z 6 ∧ ((pkD m z 6).2.2 ≠ -1 → bet (pkD m z 6).1 (pkD m z 6).2.1 (m.bests z).1 (m.bests z).2 = false)
theorem LkZ.keep {m m' : Md} {z : Nat} (h : LkZ m z) (e1 : m'.cost = m.cost) (e2 : ∀ j, m'.heard j z = m.heard j z) (e3 : m'.bests z = m.bests z) (e4 : m'.ways z = m.ways z) : LkZ m' z := by
  unfold LkZ
  rw [pkD_congr e1 e2 e3, e3, e4]
  exact h
theorem updW_id {α : Type} (f : Nat → α) (i : Nat) (v : α) (h : f i = v) : updW f i v = f := by
  funext j
  unfold updW
  split
  · next e => rw [e, h]
  · rfl
theorem LkZ.look {m : Md} {z : Nat} (h : LkZ m z) : lookM m z = m := by
  unfold lookM
  split
  · rfl
  · rw [updW_id _ _ _ h.1, if_neg (fun q => by rw [h.2 q.1] at q; exact absurd q.2 (by simp))]
theorem look_lkz (m : Md) {z : Nat} (hz : z ≠ m.me) (hc : ∀ j, j < 6 → 0 ≤ m.cost j) : LkZ (lookM m z) z := by
  obtain ⟨hok, hbb⟩ := look_ok m hz hc
  have ew : (lookM m z).ways z = pkD m z 6 := by unfold lookM; rw [if_neg hz]; exact updW_same _ _ _
  have hp : pkD (lookM m z) z 6 = pkD m z 6 := by
    refine (pkD_is (lookM m z) z).unique ?_
    have hwb : ∀ j, wayBy (lookM m z) z j = wayBy m z j := fun j => by unfold wayBy; rw [look_heard, look_cost]
    have hmay : ∀ j, mayB (lookM m z) z j = true → mayB m z j = true := fun j hj => by
      obtain ⟨a, b, c⟩ := may_iff.1 hj
      rw [look_cost] at a b
      rw [look_heard] at b c
      refine may_iff.2 ⟨a, b, ?_⟩
      rw [bet_not] at hbb
      rw [bet_iff] at c ⊢
      omega
    rcases pkD_is m z with ⟨k, hk, mk, hw, hall⟩ | ⟨hn, hw⟩
    · refine .inl ⟨k, hk, ?_, by rw [hwb]; exact hw, fun j hj mj => by rw [hwb]; exact hall j hj (hmay j mj)⟩
      have hne : ((lookM m z).ways z).2.2 ≠ -1 := by rw [ew, hw]; show (k : Int) ≠ -1; omega
      obtain ⟨j, _, hj2, hj3, hj4, hj5⟩ := hok.by_ hne (by rw [look_me]; exact hz)
      have ejk : j = k := by
        rw [ew, hw] at hj2
        have : (k : Int) = (j : Int) := congrArg (fun x => x.2.2) hj2
        omega
      subst ejk
      exact may_iff.2 ⟨hj3, hj4, hj5⟩
    · refine .inr ⟨fun j hj => ?_, ?_⟩
      · cases q : mayB (lookM m z) z j
        · rfl
        · have := hn j hj
          rw [hmay j q] at this; cases this
      · have eb : (lookM m z).bests z = m.bests z := by
          unfold lookM
          rw [if_neg hz]
          dsimp only
          rw [if_neg (fun q => q.1 (by rw [hw]))]
        rw [eb]; exact hw
  unfold LkZ
  rw [hp, ew]
  refine ⟨rfl, fun q => ?_⟩
  have := hok.notBetter (by rw [ew]; exact q)
  rw [ew] at this
  exact this
theorem look_keep (m : Md) {z k : Nat} (h : k ≠ z) (hk : LkZ m k) : LkZ (lookM m z) k :=
  hk.keep (look_cost _ _) (fun j => by rw [look_heard]) (look_other m h).2 (look_other m h).1
theorem lookTo_lkz (m : Md) (hc : ∀ j, j < 6 → 0 ≤ m.cost j) : ∀ n k, k < n → k ≠ m.me → LkZ (lookTo m n) k
  | 0, k, h, _ => by omega
  | n + 1, k, h, hk => by
    obtain ⟨e1, e2, _⟩ := lookTo_all m n
    by_cases e : k = n
    · subst e
      exact look_lkz _ (by rw [e1]; exact hk) (fun j hj => by rw [e2]; exact hc j hj)
    · exact look_keep _ e (lookTo_lkz m hc n k (by omega) hk)
/-- All ways have been looked at. -/
def Lkd (m : Md) : Prop := ∀ k, k < 6 → k ≠ m.me → LkZ m k
theorem new_lkd (me : Nat) : Lkd (newM me) := fun k _ hk => by
  have hk' : k ≠ me := hk
  have hn : ∀ j, j < 6 → mayB (newM me) k j = false := fun j _ => by unfold mayB newM; simp
  have hp := pick_none hn
  have ew : (newM me).ways k = (0, 200, -1) := by unfold newM; dsimp only; exact updW_ne _ _ hk'
  have eb : (newM me).bests k = (0, 200) := by unfold newM; dsimp only; exact updW_ne _ _ hk'
  unfold LkZ
  rw [hp, ew, eb]
  exact ⟨rfl, fun q => absurd rfl q⟩
theorem link_lkd {m : Md} (h : MdOk m) {who : Nat} {c : Int} (hc0 : 0 ≤ c) : Lkd (linkM m who c) := fun k hk hne => by
  unfold linkM at hne ⊢
  refine lookTo_lkz _ (fun j _ => ?_) 6 k hk (by rw [(lookTo_all _ 6).1] at hne; exact hne)
  show 0 ≤ updW m.cost who c j
  unfold updW
  split
  · exact hc0
  · exact (h.cost j).1
theorem heard_other (m : Md) {f z k : Nat} (h : k ≠ z) (v : Int × Int) (j : Nat) : updW m.heard f (updW (m.heard f) z v) j k = m.heard j k := by
  by_cases e : j = f
  · rw [e, updW_same, updW_ne _ _ h]
  · rw [updW_ne _ _ e]
theorem hear_lkd {m : Md} (h : MdOk m) (hl : Lkd m) {f z : Nat} {s d : Int} : Lkd (hearM m f z s d) := fun k hk hne => by
  have hme : (hearM m f z s d).me = m.me := look_me _ _
  rw [hme] at hne
  unfold hearM
  by_cases e : k = z
  · subst e
    exact look_lkz _ hne (fun j _ => (h.cost j).1)
  · exact look_keep _ e ((hl k hk hne).keep rfl (heard_other m e (s, d)) rfl rfl)
theorem tick_lkd {m : Md} (hl : Lkd m) : Lkd (tickM m) := fun k hk hne =>
  (hl k hk hne).keep rfl (fun _ => rfl) (updW_ne _ _ hne) (updW_ne _ _ hne)
/-- The program's Hear looks at all ways. -/
def hearD (m : Md) (f z : Nat) (s d : Int) : Md := lookTo { m with heard := updW m.heard f (updW (m.heard f) z (s, d)) } 6
def tickD (m : Md) : Md := { m with ways := updW m.ways m.me ((m.ways m.me).1 + 1, (m.ways m.me).2.1, (m.ways m.me).2.2) }
theorem lookTo_one (m : Md) {z : Nat} (hl : ∀ k, k < 6 → k ≠ z → k ≠ m.me → LkZ m k) : ∀ n, n ≤ 6 → lookTo m n = if z < n then lookM m z else m
  | 0, _ => by rw [if_neg (by omega)]; rfl
  | n + 1, hn => by
    rw [lookTo, lookTo_one m hl n (by omega)]
    by_cases e : z = n
    · subst e
      rw [if_neg (by omega), if_pos (by omega)]
    · have hk : ∀ m' : Md, m'.me = m.me → (n ≠ m.me → LkZ m' n) → lookM m' n = m' := fun m' e' h' => by
        by_cases q : n = m.me
        · unfold lookM; rw [if_pos (by rw [e']; exact q)]
        · exact (h' q).look
      by_cases hz : z < n
      · rw [if_pos hz, if_pos (by omega)]
        exact hk _ (look_me _ _) (fun q => look_keep m (fun x => e x.symm) (hl n (by omega) (fun x => e x.symm) q))
      · rw [if_neg hz, if_neg (by omega)]
        exact hk _ rfl (fun q => hl n (by omega) (fun x => e x.symm) q)
theorem hearD_is {m : Md} (hl : Lkd m) {f z : Nat} (hz : z < 6) (s d : Int) : hearD m f z s d = hearM m f z s d := by
  unfold hearD hearM
  have := lookTo_one { m with heard := updW m.heard f (updW (m.heard f) z (s, d)) } (z := z) (fun k hk hkz hne => (hl k hk hne).keep (m' := { m with heard := updW m.heard f (updW (m.heard f) z (s, d)) }) rfl (heard_other m hkz (s, d)) rfl rfl) 6 (Nat.le_refl _)
  rw [this, if_pos hz]

/-- The program does not keep the best of the node itself. -/
def sel (m : Md) : Md := { m with bests := updW m.bests m.me (0, 200) }
theorem sel_look (m : Md) (z : Nat) : lookM (sel m) z = sel (lookM m z) := by
  by_cases e : z = m.me
  · unfold lookM
    rw [if_pos e, if_pos (show z = (sel m).me from e)]
  · have hb : (sel m).bests z = m.bests z := updW_ne _ _ e
    have hp : pkD (sel m) z 6 = pkD m z 6 := pkD_congr (m := m) (m' := sel m) rfl (fun _ => rfl) hb 6
    have e' : ¬ z = (sel m).me := e
    unfold lookM
    rw [if_neg e, if_neg e', hp, hb]
    unfold sel
    dsimp only
    congr 1
    split
    · funext j
      unfold updW
      by_cases j1 : j = z
      · rw [if_pos j1, if_neg (fun q => e (by rw [← j1]; exact q)), if_pos j1]
      · rw [if_neg j1]
        by_cases j2 : j = m.me
        · rw [if_pos j2, if_pos j2]
        · rw [if_neg j2, if_neg j2, if_neg j1]
    · rfl
theorem sel_lookTo (m : Md) : ∀ n, lookTo (sel m) n = sel (lookTo m n)
  | 0 => rfl
  | n + 1 => by rw [lookTo, sel_lookTo m n, sel_look, lookTo]
theorem sel_link (m : Md) (f : Nat) (c : Int) : linkM (sel m) f c = sel (linkM m f c) := by
  unfold linkM
  rw [← sel_lookTo]
  rfl
theorem sel_hear {m : Md} (hl : Lkd m) {f z : Nat} (hz : z < 6) (s d : Int) : hearD (sel m) f z s d = sel (hearM m f z s d) := by
  rw [← hearD_is hl hz]
  unfold hearD
  rw [← sel_lookTo]
  rfl
theorem sel_tick (m : Md) : tickD (sel m) = sel (tickM m) := by
  unfold tickD sel tickM
  dsimp only
  congr 1
  funext j
  unfold updW
  split <;> rfl
theorem sel_best (m : Md) {k : Nat} (h : k ≠ m.me) : (sel m).bests k = m.bests k := updW_ne _ _ h

/-- All that is known of a node behind steps. -/
structure MdZ (m : Md) : Prop where
  x : MdX m
  l : Lkd m
theorem MdZ.ok {m : Md} (h : MdZ m) : MdOk m := h.x.ok
theorem new_z {me : Nat} (h : me < 6) : MdZ (newM me) := ⟨new_x h, new_lkd me⟩
theorem link_z {m : Md} (h : MdZ m) {who : Nat} {c : Int} (hc0 : 0 ≤ c) (hc : c ≤ 15) : MdZ (linkM m who c) := ⟨link_x h.x hc0 hc, link_lkd h.ok hc0⟩
theorem hear_z {m : Md} (h : MdZ m) {f z : Nat} {s d : Int} (hs : 0 ≤ s) (hd0 : 0 ≤ d) (hd : d ≤ 200) : MdZ (hearM m f z s d) := ⟨hear_x h.x hs hd0 hd, hear_lkd h.ok h.l⟩
theorem tick_z {m : Md} (h : MdZ m) : MdZ (tickM m) := ⟨tick_x h.x, tick_lkd h.l⟩

end Go.Proofs.Ytohbkhmpdegapad
