/- CONTRACT OF handpostref.Parse. -/
import Derived.Test.YtceclaboeajcaaaG
import Derived.Test.YtceclaboeajcaaaBackPlain
namespace Go.Proofs.Ytceclaboeajcaaa
open Go.RowKit
attribute [local go_sem] Ext.all Ext.cell Ext.frozen Ext.lt Ext.lt1 Ext.lt2 Ext.ne Ext.ne'

theorem rtext_is {l b : Int} {v : List UInt8} (h : textL l b = v) (w : World) :
    Calls Try.prog 23 #[pfx l b] w fun e w' => e = .returned (.string ⟨v.toArray⟩) ∧ ∃ d : Ext w, w' = d.out := by subst h; exact rtext_any l b w

/-- A struct of two cells that was laid, in a world that has grown since. -/
theorem Gr.pair {A B : World} {u v : Value} (g : Gr (A.alloc (.cells #[u, v] 23)) B) : B.cell? ⟨A.heap.size, 0, none⟩ = some u ∧ B.cell? ⟨A.heap.size, 1, none⟩ = some v ∧ A.heap.size < B.heap.size ∧ B.frozen? ⟨A.heap.size, 0, none⟩ = false ∧ B.frozen? ⟨A.heap.size, 1, none⟩ = false := by
  have hs : (A.alloc (.cells #[u, v] 23)).heap.size = A.heap.size + 1 := World.size_alloc _ _
  refine ⟨?_, ?_, ?_, ?_, ?_⟩
  · rw [Below.cell g (p := ⟨A.heap.size, 0, none⟩) (by rw [hs]; exact Nat.lt_succ_self _)]; simp [go_sem]
  · rw [Below.cell g (p := ⟨A.heap.size, 1, none⟩) (by rw [hs]; exact Nat.lt_succ_self _)]; simp [go_sem]
  · have := Below.size g; omega
  · rw [Below.frozen g (p := ⟨A.heap.size, 0, none⟩) (by rw [hs]; exact Nat.lt_succ_self _)]; simp [go_sem]
  · rw [Below.frozen g (p := ⟨A.heap.size, 1, none⟩) (by rw [hs]; exact Nat.lt_succ_self _)]; simp [go_sem]

theorem val_bd9 (s : ByteArray) (k : Nat) (hk : k ≤ 9) : 0 ≤ valL (s.data.toList.take k) ∧ valL (s.data.toList.take k) < 1024 := by
  obtain ⟨h0, h1⟩ := valL_bd (s.data.toList.take k)
  refine ⟨h0, Int.lt_of_lt_of_le h1 ?_⟩
  have hl : (s.data.toList.take k).length ≤ 9 := by simp; omega
  by_cases e : (s.data.toList.take k).length = 9
  · rw [e]; decide
  · have := (pw_bd ((s.data.toList.take k).length : Nat) (by omega)).2
    have e2 : (2 : Int) ^ (s.data.toList.take k).length ≤ 256 := by simpa using this
    omega

set_option maxHeartbeats 1000000 in
/-- The text tells a prefix: n bits, and there the bits end. -/
theorem rparse_yes (s : ByteArray) (n : Nat) (V : Int) (_hs : s.size ≤ 1000) (hn : n ≤ s.size) (h8 : n ≤ 8) (hall : ∀ k (h : k < n), bitB s[k] = true) (hend : ∀ h : n < s.size, bitB s[n] = false)
    (hV : valL (s.data.toList.take n) = V) (ht : textL n V = s.data.toList) (w : World) :
    Calls Try.prog 10 #[.string s] w fun e w' => e = .returned (.tuple #[pfx n V, .bool true]) ∧ ∃ d : Ext w, w' = d.out := by
  have HA := hide hall; have HE := hide hend; have HW := hide hV; have HT := hide ht
  clear hall hend hV ht
  go_enter Try.func10, Try.ntmps10
  go_wp2
  go_loop [4, 5] (fun x i => ∃ (k : Nat) (v : Int), k ≤ n ∧ Hid (v = valL (s.data.toList.take k)) ∧ x = .int .i64 v ∧ i = .int .i64 k) (fun _ i => n - (intOf i).toNat)
  case atStart => exact ⟨0, 0, by omega, (by simp [valL, Hid]), rfl, rfl⟩
  case round =>
    obtain ⟨k, v, hk, HV, rfl, rfl⟩ := hrel
    obtain ⟨v0, v1⟩ : 0 ≤ v ∧ v < 1024 := by rw [HV.out]; exact val_bd9 s k (by omega)
    by_cases hlt : k < n
    · have hks : k < s.size := by omega
      have htk := take_snoc s k hks
      rcases bit_cases (HA.out k hlt) with ⟨hc, hb⟩ | ⟨hc, hb⟩
      · have hv' : valL (s.data.toList.take (k + 1)) = v * 2 := by rw [htk, valL_snoc, ← HV.out, hc]; simp
        have HV' : Hid _ := hv'
        clear hv' htk hc
        go_wp2
        go_round
        case rel => exact ⟨k + 1, v * 2, by omega, HV'.out.symm, by go_num, by go_num⟩
        case measure => simp [intOf]; omega
      · have hv' : valL (s.data.toList.take (k + 1)) = v * 2 + 1 := by rw [htk, valL_snoc, ← HV.out, hc]; simp
        have HV' : Hid _ := hv'
        clear hv' htk hc
        go_wp2
        go_round
        case rel => exact ⟨k + 1, v * 2 + 1, by omega, HV'.out.symm, by go_num, by go_num⟩
        case measure => simp [intOf]; omega
    · have hkn : k = n := by omega
      subst hkn
      have hvV : v = V := by rw [HV.out]; exact HW.out
      subst hvV
      by_cases hsz : k < s.size
      · have hb := HE.out hsz
        have hb' : s[k] ≠ 48 ∧ s[k] ≠ 49 := by simpa [bitB] using hb
        have e1 : ((s[k].toNat : Int) == 48) = false := by
          simp only [beq_eq_false_iff_ne, ne_eq]; intro h; exact hb'.1 (UInt8.toNat_inj.1 (by simpa using (by omega : s[k].toNat = 48)))
        have e2 : ((s[k].toNat : Int) == 49) = false := by
          simp only [beq_eq_false_iff_ne, ne_eq]; intro h; exact hb'.2 (UInt8.toNat_inj.1 (by simpa using (by omega : s[k].toNat = 49)))
        have hd : decide ((k : Int) < (s.size : Int)) = true := by simp; omega
        clear hb hb'
        go_wp2_with (go_at_call 23; with_reducible refine (rtext_is HT.out _).mono ?_; rintro e _ ⟨rfl, d1, rfl⟩)
        obtain ⟨c0, c1, _, _, _⟩ := Gr.pair (((Gr.refl (w.alloc (.cells #[.int .i64 0, .int .i64 0] 23))).alloc _).ext d1)
        refine bodyPost_ret (v := .tuple #[pfx k v, .bool true]) (by simp [results, Try.results10, go_sem, c0, c1]) rfl ⟨rfl, ext_mk ?_⟩
        exact (((((Gr.refl _).alloc _).alloc _).ext d1).setCell (by simp) _).setCell (by simp) _
      · have hd : decide ((k : Int) < (s.size : Int)) = false := by simp; omega
        go_wp2_with (go_at_call 23; with_reducible refine (rtext_is HT.out _).mono ?_; rintro e _ ⟨rfl, d1, rfl⟩)
        obtain ⟨c0, c1, _, _, _⟩ := Gr.pair (((Gr.refl (w.alloc (.cells #[.int .i64 0, .int .i64 0] 23))).alloc _).ext d1)
        refine bodyPost_ret (v := .tuple #[pfx k v, .bool true]) (by simp [results, Try.results10, go_sem, c0, c1]) rfl ⟨rfl, ext_mk ?_⟩
        exact (((((Gr.refl _).alloc _).alloc _).ext d1).setCell (by simp) _).setCell (by simp) _

set_option maxHeartbeats 1000000 in
/-- The text tells none: too many bits, or another text. -/
theorem rparse_no (s : ByteArray) (n : Nat) (_hs : s.size ≤ 1000) (hn : n ≤ s.size) (h9 : n ≤ 9) (hall : ∀ k (h : k < n), bitB s[k] = true) (hend : ∀ h : n < s.size, n = 9 ∨ bitB s[n] = false)
    (ht : n ≤ 8 → textL n (valL (s.data.toList.take n)) ≠ s.data.toList) (w : World) :
    Calls Try.prog 10 #[.string s] w fun e w' => e = .returned (.tuple #[pfx 0 0, .bool false]) ∧ ∃ d : Ext w, w' = d.out := by
  have HA := hide hall; have HE := hide hend; have HT := hide ht
  clear hall hend ht
  go_enter Try.func10, Try.ntmps10
  go_wp2
  go_loop [4, 5] (fun x i => ∃ (k : Nat) (v : Int), k ≤ n ∧ Hid (v = valL (s.data.toList.take k)) ∧ x = .int .i64 v ∧ i = .int .i64 k) (fun _ i => n - (intOf i).toNat)
  case atStart => exact ⟨0, 0, by omega, (by simp [valL, Hid]), rfl, rfl⟩
  case round =>
    obtain ⟨k, v, hk, HV, rfl, rfl⟩ := hrel
    obtain ⟨v0, v1⟩ : 0 ≤ v ∧ v < 1024 := by rw [HV.out]; exact val_bd9 s k (by omega)
    by_cases hlt : k < n
    · have hks : k < s.size := by omega
      have htk := take_snoc s k hks
      rcases bit_cases (HA.out k hlt) with ⟨hc, hb⟩ | ⟨hc, hb⟩
      · have hv' : valL (s.data.toList.take (k + 1)) = v * 2 := by rw [htk, valL_snoc, ← HV.out, hc]; simp
        have HV' : Hid _ := hv'
        clear hv' htk hc
        go_wp2
        go_round
        case rel => exact ⟨k + 1, v * 2, by omega, HV'.out.symm, by go_num, by go_num⟩
        case measure => simp [intOf]; omega
      · have hv' : valL (s.data.toList.take (k + 1)) = v * 2 + 1 := by rw [htk, valL_snoc, ← HV.out, hc]; simp
        have HV' : Hid _ := hv'
        clear hv' htk hc
        go_wp2
        go_round
        case rel => exact ⟨k + 1, v * 2 + 1, by omega, HV'.out.symm, by go_num, by go_num⟩
        case measure => simp [intOf]; omega
    · have hkn : k = n := by omega
      subst hkn
      by_cases hsz : k < s.size
      · have hd : decide ((k : Int) < (s.size : Int)) = true := by simp; omega
        rcases HE.out hsz with h | hb
        · have k9 : 8 < k := by omega
          rcases Bool.eq_false_or_eq_true (bitB s[k]) with hb | hb
          · rcases bit_cases hb with ⟨hc, hb⟩ | ⟨hc, hb⟩
            · clear h hc
              go_wp2
              refine bodyPost_ret (v := .tuple #[pfx 0 0, .bool false]) (by simp [results, Try.results10, go_sem]) rfl ⟨rfl, ext_mk ?_⟩
              exact ((Gr.refl _).alloc _).alloc _
            · clear h hc
              go_wp2
              refine bodyPost_ret (v := .tuple #[pfx 0 0, .bool false]) (by simp [results, Try.results10, go_sem]) rfl ⟨rfl, ext_mk ?_⟩
              exact ((Gr.refl _).alloc _).alloc _
          · have hb' : s[k] ≠ 48 ∧ s[k] ≠ 49 := by simpa [bitB] using hb
            have e1 : ((s[k].toNat : Int) == 48) = false := by
              simp only [beq_eq_false_iff_ne, ne_eq]; intro h; exact hb'.1 (UInt8.toNat_inj.1 (by simpa using (by omega : s[k].toNat = 48)))
            have e2 : ((s[k].toNat : Int) == 49) = false := by
              simp only [beq_eq_false_iff_ne, ne_eq]; intro h; exact hb'.2 (UInt8.toNat_inj.1 (by simpa using (by omega : s[k].toNat = 49)))
            clear h hb hb'
            go_wp2
            refine bodyPost_ret (v := .tuple #[pfx 0 0, .bool false]) (by simp [results, Try.results10, go_sem]) rfl ⟨rfl, ext_mk ?_⟩
            exact ((Gr.refl _).alloc _).alloc _
        · have hb' : s[k] ≠ 48 ∧ s[k] ≠ 49 := by simpa [bitB] using hb
          have e1 : ((s[k].toNat : Int) == 48) = false := by
            simp only [beq_eq_false_iff_ne, ne_eq]; intro h; exact hb'.1 (UInt8.toNat_inj.1 (by simpa using (by omega : s[k].toNat = 48)))
          have e2 : ((s[k].toNat : Int) == 49) = false := by
            simp only [beq_eq_false_iff_ne, ne_eq]; intro h; exact hb'.2 (UInt8.toNat_inj.1 (by simpa using (by omega : s[k].toNat = 49)))
          clear hb hb'
          by_cases k9 : 8 < k
          · go_wp2
            refine bodyPost_ret (v := .tuple #[pfx 0 0, .bool false]) (by simp [results, Try.results10, go_sem]) rfl ⟨rfl, ext_mk ?_⟩
            exact ((Gr.refl _).alloc _).alloc _
          · have hne := HT.out (by omega)
            rw [← HV.out] at hne
            generalize htx : textL k v = T at hne
            have TX := hide htx
            have hne' : (T == s.toList) = false := by rw [ByteArray.toList_eq]; simpa using hne
            have hd8 : decide (8 < (k : Int)) = false := by simp; omega
            clear htx hne
            go_wp2_with (go_at_call 23; with_reducible refine (rtext_is TX.out _).mono ?_; rintro e _ ⟨rfl, d1, rfl⟩)
            obtain ⟨c0, c1, _, _, _⟩ := Gr.pair (((Gr.refl (w.alloc (.cells #[.int .i64 0, .int .i64 0] 23))).alloc _).ext d1)
            refine bodyPost_ret (v := .tuple #[pfx 0 0, .bool false]) (by simp [results, Try.results10, go_sem, c0, c1]) rfl ⟨rfl, ext_mk ?_⟩
            exact (((((Gr.refl _).alloc _).alloc _).ext d1).setCell (by simp) _).setCell (by simp) _
      · have hd : decide ((k : Int) < (s.size : Int)) = false := by simp; omega
        by_cases k9 : 8 < k
        · go_wp2
          refine bodyPost_ret (v := .tuple #[pfx 0 0, .bool false]) (by simp [results, Try.results10, go_sem]) rfl ⟨rfl, ext_mk ?_⟩
          exact ((Gr.refl _).alloc _).alloc _
        · have hne := HT.out (by omega)
          rw [← HV.out] at hne
          generalize htx : textL k v = T at hne
          have TX := hide htx
          have hne' : (T == s.toList) = false := by rw [ByteArray.toList_eq]; simpa using hne
          have hd8 : decide (8 < (k : Int)) = false := by simp; omega
          clear htx hne
          go_wp2_with (go_at_call 23; with_reducible refine (rtext_is TX.out _).mono ?_; rintro e _ ⟨rfl, d1, rfl⟩)
          obtain ⟨c0, c1, _, _, _⟩ := Gr.pair (((Gr.refl (w.alloc (.cells #[.int .i64 0, .int .i64 0] 23))).alloc _).ext d1)
          refine bodyPost_ret (v := .tuple #[pfx 0 0, .bool false]) (by simp [results, Try.results10, go_sem, c0, c1]) rfl ⟨rfl, ext_mk ?_⟩
          exact (((((Gr.refl _).alloc _).alloc _).ext d1).setCell (by simp) _).setCell (by simp) _

end Go.Proofs.Ytceclaboeajcaaa
