/- handpostlaw.WalkDoes ANSWERS true. -/
import Derived.Test.YtcgflhjgllpohafGreatDoorLw2
namespace Go.Proofs.YtcgflhjgllpohafGreatDoor
open Go.RowKit
attribute [local go_sem] Ext.all Ext.cell Ext.frozen Ext.lt Ext.lt1 Ext.lt2 Ext.ne Ext.ne'
theorem goN_len (h : Nat → Int) (cs : Nat → Nat → Int) : ∀ f p out k, (goN h cs f p out k).1.length ≤ out.length + f
  | 0, _, _, _ => by rw [goN]; simp
  | f + 1, p, out, k => by
    rw [goN]
    by_cases hp : isN p
    · rw [if_pos hp]
      by_cases q : p.toNat ∈ out
      · rw [if_pos q]; simp
      · rw [if_neg q]
        by_cases r : h p.toNat = p
        · rw [if_pos r, List.length_append, List.length_singleton]; omega
        · rw [if_neg r]
          have := goN_len h cs f (h p.toNat) (out ++ [p.toNat]) (k + if isN (h p.toNat) then cs p.toNat (h p.toNat).toNat else 0)
          rw [List.length_append, List.length_singleton] at this
          omega
    · rw [if_neg hp]; simp
set_option maxRecDepth 20000 in
set_option maxHeartbeats 16000000 in
theorem walkDoes_any (w : World) (h64 : Tab64 w) (ao : Option Addr) (n cp : Nat) (l : List Sx) (fr a : Int) (sm : Bool) (H : SpAt w ao l) (hn : l.length = n) :
    Calls Tryz.prog 6 #[.slice ao n cp, iv fr, iv a, .bool sm] w fun e w' => e = .returned (.bool true) ∧ Gr w w' := by
  have HS := hide (fun (X : World) (g : Gr w X) => H.gr g)
  have HNL := hide hn
  have HB := hide (walkBegun_ok w h64)
  have H64 := hide h64
  clear H hn h64
  go_enter Tryz.func6, Tryz.ntmps6
  go_upto_region 3 with (go_at_call 26; with_reducible refine HB.out.mono ?_; rintro e V0 ⟨rfl, g0'⟩; have G0 := hide g0'; clear g0')
  by_cases h150 : 150 < n
  · have gd : decide ((150 : Int) < (n : Int)) = true := decide_eq_true (by omega)
    go_wp2_with fail
    go_ret
    exact ⟨rfl, G0.out⟩
  · have gd : decide ((150 : Int) < (n : Int)) = false := decide_eq_false (by omega)
    have HPO := hide (posts_any V0 ao n cp l (HS.out _ G0.out) HNL.out (by omega))
    go_upto_region 6 with (go_at_call 9; with_reducible refine HPO.out.mono ?_; rintro e V1 ⟨P, T, c, t, rs, rfl, h1'⟩; have H1 := hide h1'; clear h1')
    clear HPO HS
    obtain ⟨SP, ST, hpq, htq, _⟩ := H1.out
    have AA := hide H1.out.a
    have OW := hide H1.out.ows
    have GW := hide (G0.out.trans H1.out.grw)
    obtain ⟨tl, tk, te, hgo⟩ : ∃ tl tk te, goN (letH t rs a) (fun u v => (c u v : Int)) 7 fr [] 0 = (tl, tk, te) := ⟨_, _, _, rfl⟩
    have hlen : tl.length ≤ 7 := by
      have := goN_len (letH t rs a) (fun u v => (c u v : Int)) 7 fr [] 0
      rw [hgo] at this
      simpa using this
    have HN := hide (walkNew_any hpq (H64.out.gr GW.out) sm)
    have HG : Hid (∀ (V : World) (X : Nat) (SW : Nat → Prop), Gr V1 V → Wq V X P SW (tabL t rs sm) → Calls Tryz.prog 29 #[pv X, iv fr, iv a] V fun e w' => TripO V w' e tl tk te) := fun V X SW g hw => hw.go (hpq.gr g) AA.out OW.out fr a hgo
    have HT : Hid (∀ V, Gr V1 V → Calls Tryz.prog 30 #[pv T, iv fr, iv a, .bool sm] V fun e w' => TripO V w' e tl tk te) := fun V g => (htq.gr g).go OW.out fr a sm hgo
    clear hpq htq H1 AA OW hgo
    go_wp2_with (first
      | (go_at_call 28; with_reducible refine HN.out.mono ?_; rintro e V2 ⟨X, SW, rfl, w2', g2', _⟩; have W2 := hide w2'; have G2 := hide g2'; clear w2' g2')
      | (go_at_call 29; refine (HG.out _ _ _ G2.out W2.out).mono ?_; rintro e V3 ⟨ao3, cp3, rfl, n3', g3'⟩; have N3 := hide n3'.1; have G3 := hide (G2.out.trans g3'); clear n3' g3')
      | (go_at_call 30; refine (HT.out _ G3.out).mono ?_; rintro e V4 ⟨ao4, cp4, rfl, n4', g4'⟩; have N4 := hide n4'.1; have M4 := hide (N3.out.gr g4'); have G4 := hide (G3.out.trans g4'); clear n4' g4')
      | (go_at_call 27; with_reducible refine (sameTrip_eq _ _ _ _ _ _ _ _ M4.out N4.out (by omega)).mono ?_; rintro e V5 ⟨rfl, g5'⟩; have G5 := hide (G4.out.trans g5'); clear g5')
      | fail)
    go_ret
    exact ⟨rfl, GW.out.trans G5.out⟩

end Go.Proofs.YtcgflhjgllpohafGreatDoor
