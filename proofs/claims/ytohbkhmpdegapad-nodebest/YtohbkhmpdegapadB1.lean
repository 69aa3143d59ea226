/- BOTH NODES, THE PROGRAM'S AND THE REFERENCE'S: Link, Hear and Tick of whatever is handed in. -/
import Derived.Test.YtohbkhmpdegapadD6
import Derived.Test.YtohbkhmpdegapadN5
namespace Go.Proofs.Ytohbkhmpdegapad
open Go.RowKit

abbrev lkOk (m : Md) (f c : Int) : Prop := ((0 ≤ f ∧ f < 6) ∧ f ≠ (m.me : Int)) ∧ 0 ≤ c ∧ c ≤ 15
def lcode (m : Md) (f c : Int) : Int := if lkOk m f c then 0 else 1
def lnkM (m : Md) (f c : Int) : Md := if lkOk m f c then linkM m f.toNat c else m
abbrev hrOk (m : Md) (f z s d : Int) : Prop := ((0 ≤ f ∧ f < 6) ∧ f ≠ (m.me : Int)) ∧ (0 ≤ z ∧ z < 6) ∧ 0 ≤ s ∧ 0 ≤ d ∧ d ≤ 200
def hcode (m : Md) (f z s d : Int) : Int := if hrOk m f z s d then (if m.cost f.toNat = 0 then 6 else 0) else 1
def hrM (m : Md) (f z s d : Int) : Md := if hrOk m f z s d ∧ m.cost f.toNat ≠ 0 then hearM m f.toNat z.toNat s d else m
theorem lnk_z {m : Md} (h : MdZ m) (f c : Int) : MdZ (lnkM m f c) := by
  unfold lnkM
  split
  · next q => exact link_z h q.2.1 q.2.2
  · exact h
theorem hr_z {m : Md} (h : MdZ m) (f z s d : Int) : MdZ (hrM m f z s d) := by
  unfold hrM
  split
  · next q => exact hear_z h q.1.2.2.1 q.1.2.2.2.1 q.1.2.2.2.2
  · exact h
theorem lnk_me (m : Md) (f c : Int) : (lnkM m f c).me = m.me := by
  unfold lnkM
  split
  · unfold linkM; rw [(lookTo_all _ 6).1]
  · rfl
theorem hr_me (m : Md) (f z s d : Int) : (hrM m f z s d).me = m.me := by
  unfold hrM
  split
  · exact look_me _ _
  · rfl
theorem MdZ.bd {m : Md} (h : MdZ m) : Bd (sel m) := by
  refine ⟨h.ok.cost, fun r k => (h.ok.said r k).2, fun k => ?_⟩
  show (updW m.bests m.me (0, 200) k).2 ≤ 200
  unfold updW
  split
  · exact Int.le_refl _
  · exact (h.x.b200 k).2
theorem DAt.gr' {w w' : World} {p : Nat} {m : Md} (h : DAt w p m) (g : Gr w w') : DAt w' p m := NdAt.gr h g

theorem nlinkN {w : World} {p : Nat} {m : Md} (H : DAt w p (sel m)) (hz : MdZ m) (f c : Int) :
    Calls Try.prog 28 #[pv p, iv f, iv c] w fun e w' => e = .returned (iv (lcode m f c)) ∧ DAt w' p (sel (lnkM m f c)) ∧ Wr p w w' := by
  unfold lcode lnkM
  by_cases q : lkOk m f c
  · rw [if_pos q, if_pos q]
    obtain ⟨k, rfl⟩ : ∃ k : Nat, f = (k : Int) := ⟨f.toNat, by omega⟩
    have := nlink_ok H hz.bd (f := k) (c := c) (by omega) (show k ≠ m.me by omega) q.2.1 q.2.2
    rw [sel_link] at this
    rw [Int.toNat_natCast]
    exact this
  · rw [if_neg q, if_neg q]
    refine (nlink_bad H (f := f) (c := c) ?_).mono fun e w' ⟨h1, h2⟩ => ⟨h1, by rw [h2]; exact H, by rw [h2]; exact Wr.refl _ _⟩
    show ¬ (0 ≤ f ∧ f < 6) ∨ f = (m.me : Int) ∨ c < 0 ∨ 15 < c
    omega
theorem mlinkN {w : World} {p : Nat} {m : Md} (H : MAt w p m) (hz : MdZ m) (f c : Int) :
    Calls Try.prog 39 #[pv p, iv f, iv c] w fun e w' => e = .returned (iv (lcode m f c)) ∧ MAt w' p (lnkM m f c) ∧ Wr p w w' := by
  unfold lcode lnkM
  by_cases q : lkOk m f c
  · rw [if_pos q, if_pos q]
    obtain ⟨k, rfl⟩ : ∃ k : Nat, f = (k : Int) := ⟨f.toNat, by omega⟩
    rw [Int.toNat_natCast]
    exact mlink_ok H hz.ok (f := k) (c := c) (by omega) (show k ≠ m.me by omega) q.2.1 q.2.2
  · rw [if_neg q, if_neg q]
    refine (mlink_bad H (f := f) (c := c) ?_).mono fun e w' ⟨h1, h2⟩ => ⟨h1, by rw [h2]; exact H, by rw [h2]; exact Wr.refl _ _⟩
    omega
theorem nhearN {w : World} {p : Nat} {m : Md} (H : DAt w p (sel m)) (hz : MdZ m) (f o z s d : Int) :
    Calls Try.prog 29 #[pv p, .agg #[iv f, iv o, iv z, iv s, iv d]] w fun e w' => e = .returned (iv (hcode m f z s d)) ∧ DAt w' p (sel (hrM m f z s d)) ∧ Wr p w w' := by
  unfold hcode hrM
  by_cases q : hrOk m f z s d
  · rw [if_pos q]
    obtain ⟨k, rfl⟩ : ∃ k : Nat, f = (k : Int) := ⟨f.toNat, by omega⟩
    obtain ⟨i, rfl⟩ : ∃ i : Nat, z = (i : Int) := ⟨z.toNat, by omega⟩
    rw [Int.toNat_natCast, Int.toNat_natCast]
    by_cases hc : m.cost k = 0
    · rw [if_pos hc, if_neg (fun x => x.2 hc)]
      exact (nhear_none H (f := k) (z := i) (o := o) (s := s) (d := d) (by omega) (by omega) (show k ≠ m.me by omega) hc q.2.2.1 q.2.2.2.1 q.2.2.2.2).mono fun e w' ⟨h1, h2⟩ => ⟨h1, H.gr h2, h2.wr p⟩
    · rw [if_neg hc, if_pos ⟨q, hc⟩]
      have := nhear_ok H hz.bd (f := k) (z := i) (o := o) (s := s) (d := d) (by omega) (by omega) (show k ≠ m.me by omega) hc q.2.2.1 q.2.2.2.1 q.2.2.2.2
      rw [sel_hear hz.l (show i < 6 by omega)] at this
      exact this
  · rw [if_neg q, if_neg (fun x => q x.1)]
    refine (nhear_bad H (f := f) (o := o) (z := z) (s := s) (d := d) ?_).mono fun e w' ⟨h1, h2⟩ => ⟨h1, H.gr h2, h2.wr p⟩
    show ¬ (0 ≤ f ∧ f < 6) ∨ ¬ (0 ≤ z ∧ z < 6) ∨ f = (m.me : Int) ∨ s < 0 ∨ d < 0 ∨ 200 < d
    omega
theorem mhearN {w : World} {p : Nat} {m : Md} (H : MAt w p m) (hz : MdZ m) (f o z s d : Int) :
    Calls Try.prog 40 #[pv p, .agg #[iv f, iv o, iv z, iv s, iv d]] w fun e w' => e = .returned (iv (hcode m f z s d)) ∧ MAt w' p (hrM m f z s d) ∧ Wr p w w' := by
  unfold hcode hrM
  by_cases q : hrOk m f z s d
  · rw [if_pos q]
    obtain ⟨k, rfl⟩ : ∃ k : Nat, f = (k : Int) := ⟨f.toNat, by omega⟩
    obtain ⟨i, rfl⟩ : ∃ i : Nat, z = (i : Int) := ⟨z.toNat, by omega⟩
    rw [Int.toNat_natCast, Int.toNat_natCast]
    by_cases hc : m.cost k = 0
    · rw [if_pos hc, if_neg (fun x => x.2 hc)]
      exact (mhear_none H (f := k) (z := i) (o := o) (s := s) (d := d) (by omega) (by omega) (show k ≠ m.me by omega) hc q.2.2.1 q.2.2.2.1 q.2.2.2.2).mono fun e w' ⟨h1, h2⟩ => ⟨h1, H.gr h2, h2.wr p⟩
    · rw [if_neg hc, if_pos ⟨q, hc⟩]
      exact mhear_ok H hz.ok (f := k) (z := i) (o := o) (s := s) (d := d) (by omega) (by omega) (show k ≠ m.me by omega) hc q.2.2.1 q.2.2.2.1 q.2.2.2.2
  · rw [if_neg q, if_neg (fun x => q x.1)]
    refine (mhear_bad H (f := f) (o := o) (z := z) (s := s) (d := d) ?_).mono fun e w' ⟨h1, h2⟩ => ⟨h1, H.gr h2, h2.wr p⟩
    omega
/-- How often the age of a node's way to itself rose. -/
def age (m : Md) : Int := (m.ways m.me).1
theorem ntickN {w : World} {p : Nat} {m : Md} (H : DAt w p (sel m)) (hz : MdZ m) (ha : age m < 4611686018427387904) :
    Calls Try.prog 30 #[pv p] w fun e w' => e = .returned (.tuple #[]) ∧ DAt w' p (sel (tickM m)) ∧ Wr p w w' := by
  obtain ⟨s, h0, hw, _⟩ := hz.ok.self
  have := ntick_any H hz.ok.me (show 0 ≤ (m.ways m.me).1 by rw [hw]; exact h0) ha
  rw [sel_tick] at this
  exact this
theorem mtickN {w : World} {p : Nat} {m : Md} (H : MAt w p m) (hz : MdZ m) (ha : age m < 4611686018427387904) :
    Calls Try.prog 41 #[pv p] w fun e w' => e = .returned (.tuple #[]) ∧ MAt w' p (tickM m) ∧ Wr p w w' := by
  obtain ⟨s, h0, hw, _⟩ := hz.ok.self
  exact mtick_any H hz.ok.me (by rw [hw]; exact h0) ha

/-- A step of a law: Do, Cost, From, For, To, Seq, Dist. -/
structure Stp where
  k : Int
  c : Int
  f : Int
  o : Int
  z : Int
  s : Int
  d : Int
def Stp.val (x : Stp) : Value := .agg #[iv x.k, iv x.c, iv x.f, iv x.o, iv x.z, iv x.s, iv x.d]
def stepM (m : Md) (x : Stp) : Md := if x.k = 0 then lnkM m x.f x.c else if x.k = 1 then hrM m x.f x.z x.s x.d else if x.k = 2 then tickM m else m
theorem step_z {m : Md} (h : MdZ m) (x : Stp) : MdZ (stepM m x) := by
  unfold stepM
  split
  · exact lnk_z h _ _
  · split
    · exact hr_z h _ _ _ _
    · split
      · exact tick_z h
      · exact h
theorem step_me (m : Md) (x : Stp) : (stepM m x).me = m.me := by
  unfold stepM
  split
  · exact lnk_me _ _ _
  · split
    · exact hr_me _ _ _ _ _
    · split <;> rfl
theorem link_self (m : Md) (f : Nat) (c : Int) : (linkM m f c).ways m.me = m.ways m.me := by
  unfold linkM
  exact (lookTo_all _ 6).2.2.2.1
theorem hear_self (m : Md) (f z : Nat) (s d : Int) : (hearM m f z s d).ways m.me = m.ways m.me := by
  unfold hearM
  exact (look_self _ z).1
theorem step_age (m : Md) (x : Stp) : age (stepM m x) ≤ age m + 1 := by
  have h := step_me m x
  unfold age
  rw [h]
  unfold stepM lnkM hrM
  split
  · split
    · rw [link_self]; omega
    · omega
  · split
    · split
      · rw [hear_self]; omega
      · omega
    · split
      · show (updW m.ways m.me _ m.me).1 ≤ _
        rw [updW_same]; exact Int.le_refl _
      · omega
/-- Behind the first n steps of a list. -/
def runM (m : Md) (l : List Stp) : Nat → Md
  | 0 => m
  | n + 1 => match l[n]? with
    | some x => stepM (runM m l n) x
    | none => runM m l n
theorem run_succ (m : Md) (l : List Stp) {n : Nat} (h : n < l.length) : runM m l (n + 1) = stepM (runM m l n) l[n] := by
  rw [runM, List.getElem?_eq_getElem h]
theorem run_z {m : Md} (h : MdZ m) (l : List Stp) : ∀ n, MdZ (runM m l n)
  | 0 => h
  | n + 1 => by
    rw [runM]
    split
    · exact step_z (run_z h l n) _
    · exact run_z h l n
theorem run_me (m : Md) (l : List Stp) : ∀ n, (runM m l n).me = m.me
  | 0 => rfl
  | n + 1 => by
    rw [runM]
    split
    · rw [step_me, run_me m l n]
    · exact run_me m l n
theorem run_age (m : Md) (l : List Stp) : ∀ n, age (runM m l n) ≤ age m + n
  | 0 => by show age m ≤ _; omega
  | n + 1 => by
    have := run_age m l n
    rw [runM]
    split
    · have := step_age (runM m l n) ‹Stp›; omega
    · omega

end Go.Proofs.Ytohbkhmpdegapad
