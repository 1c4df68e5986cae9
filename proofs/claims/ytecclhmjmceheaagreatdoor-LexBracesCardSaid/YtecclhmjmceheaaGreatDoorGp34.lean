/- The landed lex: flags. -/
import Derived.Test.YtecclhmjmceheaaGreatDoorGp33
namespace Go.Proofs.YtecclhmjmceheaaGreatDoor
open Go.RowKit
set_option linter.unusedVariables false
set_option maxRecDepth 100000 in
set_option maxHeartbeats 4000000 in
theorem flagsOf_any (W : World) (s : ByteArray) (hs : s.size ≤ 400) : Calls Tryz.prog 167 #[.string s] W fun e w' =>
    e = .returned (.tuple #[.int .i64 ((Lx.flagsOfX (Utf.nums s) 0).getD 0), .bool (Lx.flagsOfX (Utf.nums s) 0).isSome]) ∧ W = w' := by
  obtain ⟨R, hR⟩ : ∃ R, Lx.flagsOfX (Utf.nums s) 0 = R := ⟨_, rfl⟩
  rw [hR]
  have HR := Lib.hid hR
  clear hR
  go_enter Tryz.func167, Tryz.ntmps167
  go_wp2
  go_loop [2, 7] (fun A I => ∃ (a : Int) (i : Nat), A = .int .i64 a ∧ i ≤ s.size ∧ I = .int .i64 (i : Int) ∧ Hid (Lx.flagsOfX ((Utf.nums s).drop i) a = R)) (fun _ I => s.size - (intOf I).toNat)
  case atStart => exact ⟨0, 0, rfl, Nat.zero_le _, rfl, HR⟩
  case round =>
    obtain ⟨a, i, rfl, hi, rfl, HA⟩ := hrel
    by_cases hlt : i < s.size
    · have hlti : (i : Int) < (s.size : Int) := by omega
      have hs2 := flagsOf_step (Utf.nums s) i ((s[i]'hlt).toNat : Int) a (by
        have := Utf.nums_at s i hlt
        rw [List.getElem?_eq_getElem (by rw [Utf.nums_length]; exact hlt)] at this ⊢
        simpa using this)
      rw [HA.out] at hs2
      have hw : IntKind.i64.wrap ((i : Int) + 1) = ((i + 1 : Nat) : Int) := by rw [IntKind.wrap_i64]; omega
      by_cases e105 : ((s[i]'hlt).toNat : Int) = 105
      · have b105 : (((s[i]'hlt).toNat : Int) == 105) = true := by simp [e105]
        have HN : Hid (Lx.flagsOfX ((Utf.nums s).drop (i + 1)) (bits .or .i64 a 1) = R) := Lib.hid (by rw [hs2, e105]; rfl)
        clear hs2 e105
        go_wp2
        go_round
        case rel => exact ⟨_, i + 1, rfl, by omega, by go_num, HN⟩
        case measure => simp [intOf]; omega
      have b105 : (((s[i]'hlt).toNat : Int) == 105) = false := by simpa using e105
      by_cases e109 : ((s[i]'hlt).toNat : Int) = 109
      · have b109 : (((s[i]'hlt).toNat : Int) == 109) = true := by simp [e109]
        have HN : Hid (Lx.flagsOfX ((Utf.nums s).drop (i + 1)) (bits .or .i64 a 2) = R) := Lib.hid (by rw [hs2, e109]; rfl)
        clear hs2 e105 e109
        go_wp2
        go_round
        case rel => exact ⟨_, i + 1, rfl, by omega, by go_num, HN⟩
        case measure => simp [intOf]; omega
      have b109 : (((s[i]'hlt).toNat : Int) == 109) = false := by simpa using e109
      by_cases e115 : ((s[i]'hlt).toNat : Int) = 115
      · have b115 : (((s[i]'hlt).toNat : Int) == 115) = true := by simp [e115]
        have HN : Hid (Lx.flagsOfX ((Utf.nums s).drop (i + 1)) (bits .or .i64 a 4) = R) := Lib.hid (by rw [hs2, e115]; rfl)
        clear hs2 e105 e109 e115
        go_wp2
        go_round
        case rel => exact ⟨_, i + 1, rfl, by omega, by go_num, HN⟩
        case measure => simp [intOf]; omega
      have b115 : (((s[i]'hlt).toNat : Int) == 115) = false := by simpa using e115
      by_cases e85 : ((s[i]'hlt).toNat : Int) = 85
      · have b85 : (((s[i]'hlt).toNat : Int) == 85) = true := by simp [e85]
        have HN : Hid (Lx.flagsOfX ((Utf.nums s).drop (i + 1)) (bits .or .i64 a 8) = R) := Lib.hid (by rw [hs2, e85]; rfl)
        clear hs2 e105 e109 e115 e85
        go_wp2
        go_round
        case rel => exact ⟨_, i + 1, rfl, by omega, by go_num, HN⟩
        case measure => simp [intOf]; omega
      have b85 : (((s[i]'hlt).toNat : Int) == 85) = false := by simpa using e85
      have HN : Hid (R = none) := Lib.hid (by rw [hs2]; unfold Lx.flagB; simp [e105, e109, e115, e85])
      clear hs2 e105 e109 e115 e85
      go_wp2
      go_ret2
      exact ⟨by rw [HN.out]; rfl, rfl⟩
    · have hlti : ¬ (i : Int) < (s.size : Int) := by omega
      have HN : Hid (R = some a) := Lib.hid (by have := HA.out; rw [List.drop_of_length_le (by rw [Utf.nums_length]; omega)] at this; exact this.symm)
      clear hlt
      go_wp2
      go_ret2
      exact ⟨by rw [HN.out]; rfl, rfl⟩
/-- What flags hands back. -/
def FlagPost (X : Option (Int × Int)) (W : World) (e : Ending) (w' : World) : Prop := Below W.heap.size W w' ∧ ((X = none ∧ e = .returned (.tuple #[.int .i64 0, .int .i64 0, .bool false])) ∨ ∃ a c, X = some (a, c) ∧ e = .returned (.tuple #[.int .i64 a, .int .i64 c, .bool true]))
set_option maxRecDepth 100000 in
set_option maxHeartbeats 8000000 in
theorem flags_any (W : World) (s : ByteArray) (hs : s.size ≤ 400) (hE : Ev W) : Calls Tryz.prog 128 #[.string s] W (FlagPost (Lx.flagsX (Utf.nums s)) W) := by
  have HE := Lib.hid hE
  clear hE
  obtain ⟨X, hX⟩ : ∃ X, Lx.flagsX (Utf.nums s) = X := ⟨_, rfl⟩
  rw [hX]
  unfold Lx.flagsX at hX
  have HC := Lib.hid (fun w (hw : Ev w) => cut_1r w s (by omega) 45 hw)
  rw [show (((45 : UInt8).toNat : Nat) : Int) = 45 from rfl] at HC
  have hkl := Br.upTo_le 45 (Utf.nums s)
  have hln := Utf.nums_length s
  rw [hln] at hkl
  obtain ⟨k, hk⟩ : ∃ k, Br.upTo 45 (Utf.nums s) = k := ⟨_, rfl⟩
  rw [hk] at hX HC hkl
  rw [hln] at hX
  obtain ⟨f, hf⟩ : ∃ f, s.extract 0 k = f := ⟨_, rfl⟩
  obtain ⟨g, hg⟩ : ∃ g, s.extract (k + 1) s.size = g := ⟨_, rfl⟩
  rw [hf, hg] at HC
  have hnf : Utf.nums f = (Utf.nums s).take k := by rw [← hf, Utf.nums_extract]; simp
  have hng : Utf.nums g = (Utf.nums s).drop (k + 1) := by rw [← hg]; exact tail_drop s (k + 1)
  have hzf : f.size ≤ 400 := by rw [← hf, ByteArray.size_extract]; omega
  have hzg : g.size = s.size - (k + 1) := by rw [← hg, ByteArray.size_extract]; omega
  rw [← hnf, ← hng] at hX
  have HF := Lib.hid (fun w => flagsOf_any w f hzf)
  have HG := Lib.hid (fun w => flagsOf_any w g (by omega))
  have hnil : (Utf.nums s = []) ↔ s.size = 0 := by rw [← hln]; exact List.length_eq_zero_iff.symm
  obtain ⟨x1, hx1⟩ : ∃ x, Lx.flagsOfX (Utf.nums f) 0 = x := ⟨_, rfl⟩
  obtain ⟨x2, hx2⟩ : ∃ x, Lx.flagsOfX (Utf.nums g) 0 = x := ⟨_, rfl⟩
  rw [hx1] at hX HF
  rw [hx2] at hX HG
  clear hk hf hg hnf hng hx1 hx2
  by_cases e0 : s.size = 0
  · obtain rfl : s = ⟨#[]⟩ := by
      exact Br.nums_inj' (by rw [List.length_eq_zero_iff.1 (hln.trans e0)]; rfl)
    obtain rfl : k = 0 := by omega
    rw [decide_eq_false (fun h => h rfl)] at HC
    have hg0 : g = ⟨#[]⟩ := by
      apply Br.nums_inj'
      rw [List.length_eq_zero_iff.1 ((Utf.nums_length g).trans (by omega))]; rfl
    subst hg0
    cases x1 with
    | none =>
      cases x2 with
      | none =>
        have HX : Hid (X = none) := Lib.hid hX.symm
        clear hX hnil hln e0
        go_enter Tryz.func128, Tryz.ntmps128
        go_wp2_with fail
        refine (HC.out _ HE.out).mono ?_
        rintro e w1 ⟨rfl, n1, rfl⟩
        go_wp2_with fail
        refine (HF.out _).mono ?_
        rintro e w1 ⟨rfl, rfl⟩
        go_wp2_with fail
        refine (HG.out _).mono ?_
        rintro e w1 ⟨rfl, rfl⟩
        go_wp2
        go_ret3
        exact ⟨below_drewN (Below.refl _ _) n1, .inl ⟨HX.out, rfl⟩⟩
      | some c =>
        have HX : Hid (X = none) := Lib.hid hX.symm
        clear hX hnil hln e0
        go_enter Tryz.func128, Tryz.ntmps128
        go_wp2_with fail
        refine (HC.out _ HE.out).mono ?_
        rintro e w1 ⟨rfl, n1, rfl⟩
        go_wp2_with fail
        refine (HF.out _).mono ?_
        rintro e w1 ⟨rfl, rfl⟩
        go_wp2_with fail
        refine (HG.out _).mono ?_
        rintro e w1 ⟨rfl, rfl⟩
        go_wp2
        go_ret3
        exact ⟨below_drewN (Below.refl _ _) n1, .inl ⟨HX.out, rfl⟩⟩
    | some a =>
      cases x2 with
      | none =>
        have HX : Hid (X = none) := Lib.hid hX.symm
        clear hX hnil hln e0
        go_enter Tryz.func128, Tryz.ntmps128
        go_wp2_with fail
        refine (HC.out _ HE.out).mono ?_
        rintro e w1 ⟨rfl, n1, rfl⟩
        go_wp2_with fail
        refine (HF.out _).mono ?_
        rintro e w1 ⟨rfl, rfl⟩
        go_wp2_with fail
        refine (HG.out _).mono ?_
        rintro e w1 ⟨rfl, rfl⟩
        go_wp2
        go_ret3
        exact ⟨below_drewN (Below.refl _ _) n1, .inl ⟨HX.out, rfl⟩⟩
      | some c =>
        have HX : Hid (X = none) := Lib.hid (hX.symm.trans (by simp [e0, hnil]))
        clear hX hnil hln e0
        go_enter Tryz.func128, Tryz.ntmps128
        go_wp2_with fail
        refine (HC.out _ HE.out).mono ?_
        rintro e w1 ⟨rfl, n1, rfl⟩
        go_wp2_with fail
        refine (HF.out _).mono ?_
        rintro e w1 ⟨rfl, rfl⟩
        go_wp2_with fail
        refine (HG.out _).mono ?_
        rintro e w1 ⟨rfl, rfl⟩
        go_wp2
        go_ret3
        exact ⟨below_drewN (Below.refl _ _) n1, .inl ⟨HX.out, rfl⟩⟩
  obtain ⟨hne, hne2⟩ := toList_ne (s := s) (by omega)
  by_cases e2 : k + 1 = s.size
  · have e1 : k ≠ s.size := by omega
    rw [decide_eq_true e1] at HC
    have hg0 : g = ⟨#[]⟩ := by
      apply Br.nums_inj'
      rw [List.length_eq_zero_iff.1 ((Utf.nums_length g).trans (by omega))]; rfl
    subst hg0
    cases x1 with
    | none =>
      cases x2 with
      | none =>
        have HX : Hid (X = none) := Lib.hid hX.symm
        clear hX hnil hln e0 e1 e2
        go_enter Tryz.func128, Tryz.ntmps128
        go_wp2_with fail
        refine (HC.out _ HE.out).mono ?_
        rintro e w1 ⟨rfl, n1, rfl⟩
        go_wp2_with fail
        refine (HF.out _).mono ?_
        rintro e w1 ⟨rfl, rfl⟩
        go_wp2_with fail
        refine (HG.out _).mono ?_
        rintro e w1 ⟨rfl, rfl⟩
        go_wp2
        go_ret3
        exact ⟨below_drewN (Below.refl _ _) n1, .inl ⟨HX.out, rfl⟩⟩
      | some c =>
        have HX : Hid (X = none) := Lib.hid hX.symm
        clear hX hnil hln e0 e1 e2
        go_enter Tryz.func128, Tryz.ntmps128
        go_wp2_with fail
        refine (HC.out _ HE.out).mono ?_
        rintro e w1 ⟨rfl, n1, rfl⟩
        go_wp2_with fail
        refine (HF.out _).mono ?_
        rintro e w1 ⟨rfl, rfl⟩
        go_wp2_with fail
        refine (HG.out _).mono ?_
        rintro e w1 ⟨rfl, rfl⟩
        go_wp2
        go_ret3
        exact ⟨below_drewN (Below.refl _ _) n1, .inl ⟨HX.out, rfl⟩⟩
    | some a =>
      cases x2 with
      | none =>
        have HX : Hid (X = none) := Lib.hid hX.symm
        clear hX hnil hln e0 e1 e2
        go_enter Tryz.func128, Tryz.ntmps128
        go_wp2_with fail
        refine (HC.out _ HE.out).mono ?_
        rintro e w1 ⟨rfl, n1, rfl⟩
        go_wp2_with fail
        refine (HF.out _).mono ?_
        rintro e w1 ⟨rfl, rfl⟩
        go_wp2_with fail
        refine (HG.out _).mono ?_
        rintro e w1 ⟨rfl, rfl⟩
        go_wp2
        go_ret3
        exact ⟨below_drewN (Below.refl _ _) n1, .inl ⟨HX.out, rfl⟩⟩
      | some c =>
        have HX : Hid (X = none) := Lib.hid (hX.symm.trans (by simp [e0, hnil, e2]))
        clear hX hnil hln e0 e1 e2
        go_enter Tryz.func128, Tryz.ntmps128
        go_wp2_with fail
        refine (HC.out _ HE.out).mono ?_
        rintro e w1 ⟨rfl, n1, rfl⟩
        go_wp2_with fail
        refine (HF.out _).mono ?_
        rintro e w1 ⟨rfl, rfl⟩
        go_wp2_with fail
        refine (HG.out _).mono ?_
        rintro e w1 ⟨rfl, rfl⟩
        go_wp2
        go_ret3
        exact ⟨below_drewN (Below.refl _ _) n1, .inl ⟨HX.out, rfl⟩⟩
  by_cases e1 : k = s.size
  · rw [decide_eq_false (by simp [e1])] at HC
    have hg0 : g = ⟨#[]⟩ := by
      apply Br.nums_inj'
      rw [List.length_eq_zero_iff.1 ((Utf.nums_length g).trans (by omega))]; rfl
    subst hg0
    cases x1 with
    | none =>
      cases x2 with
      | none =>
        have HX : Hid (X = none) := Lib.hid hX.symm
        clear hX hnil hln e0 e1 e2
        go_enter Tryz.func128, Tryz.ntmps128
        go_wp2_with fail
        refine (HC.out _ HE.out).mono ?_
        rintro e w1 ⟨rfl, n1, rfl⟩
        go_wp2_with fail
        refine (HF.out _).mono ?_
        rintro e w1 ⟨rfl, rfl⟩
        go_wp2_with fail
        refine (HG.out _).mono ?_
        rintro e w1 ⟨rfl, rfl⟩
        go_wp2
        go_ret3
        exact ⟨below_drewN (Below.refl _ _) n1, .inl ⟨HX.out, rfl⟩⟩
      | some c =>
        have HX : Hid (X = none) := Lib.hid hX.symm
        clear hX hnil hln e0 e1 e2
        go_enter Tryz.func128, Tryz.ntmps128
        go_wp2_with fail
        refine (HC.out _ HE.out).mono ?_
        rintro e w1 ⟨rfl, n1, rfl⟩
        go_wp2_with fail
        refine (HF.out _).mono ?_
        rintro e w1 ⟨rfl, rfl⟩
        go_wp2_with fail
        refine (HG.out _).mono ?_
        rintro e w1 ⟨rfl, rfl⟩
        go_wp2
        go_ret3
        exact ⟨below_drewN (Below.refl _ _) n1, .inl ⟨HX.out, rfl⟩⟩
    | some a =>
      cases x2 with
      | none =>
        have HX : Hid (X = none) := Lib.hid hX.symm
        clear hX hnil hln e0 e1 e2
        go_enter Tryz.func128, Tryz.ntmps128
        go_wp2_with fail
        refine (HC.out _ HE.out).mono ?_
        rintro e w1 ⟨rfl, n1, rfl⟩
        go_wp2_with fail
        refine (HF.out _).mono ?_
        rintro e w1 ⟨rfl, rfl⟩
        go_wp2_with fail
        refine (HG.out _).mono ?_
        rintro e w1 ⟨rfl, rfl⟩
        go_wp2
        go_ret3
        exact ⟨below_drewN (Below.refl _ _) n1, .inl ⟨HX.out, rfl⟩⟩
      | some c =>
        have HX : Hid (X = some (bits .andNot .i64 a c, c)) := Lib.hid (hX.symm.trans (by simp [e0, hnil, e2]))
        clear hX hnil hln e0 e1 e2
        go_enter Tryz.func128, Tryz.ntmps128
        go_wp2_with fail
        refine (HC.out _ HE.out).mono ?_
        rintro e w1 ⟨rfl, n1, rfl⟩
        go_wp2_with fail
        refine (HF.out _).mono ?_
        rintro e w1 ⟨rfl, rfl⟩
        go_wp2_with fail
        refine (HG.out _).mono ?_
        rintro e w1 ⟨rfl, rfl⟩
        go_wp2
        go_ret3
        exact ⟨below_drewN (Below.refl _ _) n1, .inr ⟨_, _, HX.out, rfl⟩⟩
  rw [decide_eq_true e1] at HC
  obtain ⟨hne3, hne4⟩ := toList_ne (s := g) (by omega)
  cases x1 with
  | none =>
    cases x2 with
    | none =>
      have HX : Hid (X = none) := Lib.hid hX.symm
      clear hX hnil hln e0 e1 e2
      go_enter Tryz.func128, Tryz.ntmps128
      go_wp2_with fail
      refine (HC.out _ HE.out).mono ?_
      rintro e w1 ⟨rfl, n1, rfl⟩
      go_wp2_with fail
      refine (HF.out _).mono ?_
      rintro e w1 ⟨rfl, rfl⟩
      go_wp2_with fail
      refine (HG.out _).mono ?_
      rintro e w1 ⟨rfl, rfl⟩
      go_wp2
      go_ret3
      exact ⟨below_drewN (Below.refl _ _) n1, .inl ⟨HX.out, rfl⟩⟩
    | some c =>
      have HX : Hid (X = none) := Lib.hid hX.symm
      clear hX hnil hln e0 e1 e2
      go_enter Tryz.func128, Tryz.ntmps128
      go_wp2_with fail
      refine (HC.out _ HE.out).mono ?_
      rintro e w1 ⟨rfl, n1, rfl⟩
      go_wp2_with fail
      refine (HF.out _).mono ?_
      rintro e w1 ⟨rfl, rfl⟩
      go_wp2_with fail
      refine (HG.out _).mono ?_
      rintro e w1 ⟨rfl, rfl⟩
      go_wp2
      go_ret3
      exact ⟨below_drewN (Below.refl _ _) n1, .inl ⟨HX.out, rfl⟩⟩
  | some a =>
    cases x2 with
    | none =>
      have HX : Hid (X = none) := Lib.hid hX.symm
      clear hX hnil hln e0 e1 e2
      go_enter Tryz.func128, Tryz.ntmps128
      go_wp2_with fail
      refine (HC.out _ HE.out).mono ?_
      rintro e w1 ⟨rfl, n1, rfl⟩
      go_wp2_with fail
      refine (HF.out _).mono ?_
      rintro e w1 ⟨rfl, rfl⟩
      go_wp2_with fail
      refine (HG.out _).mono ?_
      rintro e w1 ⟨rfl, rfl⟩
      go_wp2
      go_ret3
      exact ⟨below_drewN (Below.refl _ _) n1, .inl ⟨HX.out, rfl⟩⟩
    | some c =>
      have HX : Hid (X = some (bits .andNot .i64 a c, c)) := Lib.hid (hX.symm.trans (by simp [e0, hnil, e2]))
      clear hX hnil hln e0 e1 e2
      go_enter Tryz.func128, Tryz.ntmps128
      go_wp2_with fail
      refine (HC.out _ HE.out).mono ?_
      rintro e w1 ⟨rfl, n1, rfl⟩
      go_wp2_with fail
      refine (HF.out _).mono ?_
      rintro e w1 ⟨rfl, rfl⟩
      go_wp2_with fail
      refine (HG.out _).mono ?_
      rintro e w1 ⟨rfl, rfl⟩
      go_wp2
      go_ret3
      exact ⟨below_drewN (Below.refl _ _) n1, .inr ⟨_, _, HX.out, rfl⟩⟩
end Go.Proofs.YtecclhmjmceheaaGreatDoor
