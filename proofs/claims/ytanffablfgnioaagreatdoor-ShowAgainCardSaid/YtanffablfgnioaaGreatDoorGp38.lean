/- The landed lex: flags. · The landed lex: what begins with a parenthesis. · The landed lex: what begins with a parenthesis; the token at the front. -/
import Derived.Test.YtanffablfgnioaaGreatDoorGp37
import Derived.Test.YtanffablfgnioaaGreatDoorGp36
namespace Go.Proofs.YtanffablfgnioaaGreatDoor
open Go.RowKit
set_option linter.unusedVariables false
set_option maxRecDepth 100000 in
set_option maxHeartbeats 4000000 in
theorem flagsOf_any (W : World) (s : ByteArray) (hs : s.size ≤ 4096) : Calls Tryz.prog 122 #[.string s] W fun e w' =>
    e = .returned (.tuple #[.int .i64 ((Lx.flagsOfX (Utf.nums s) 0).getD 0), .bool (Lx.flagsOfX (Utf.nums s) 0).isSome]) ∧ W = w' := by
  obtain ⟨R, hR⟩ : ∃ R, Lx.flagsOfX (Utf.nums s) 0 = R := ⟨_, rfl⟩
  rw [hR]
  have HR := Lib.hid hR
  clear hR
  go_enter Tryz.func122, Tryz.ntmps122
  go_wp2
  go_loop [2, 7] (fun A I => ∃ (a : Int) (i : Nat), A = .int .i64 a ∧ i ≤ s.size ∧ I = .int .i64 (i : Int) ∧ Hid (Lx.flagsOfX ((Utf.nums s).drop i) a = R)) (fun _ I => s.size - (intOf I).toNat)
  case atStart => exact ⟨0, 0, rfl, Nat.zero_le _, rfl, HR⟩
  case round =>
    obtain ⟨a, i, rfl, hi, rfl, HA⟩ := hrel
    by_cases hlt : i < s.size
    · have hlti : (i : Int) < (s.size : Int) := by omega
      have hs2 := flagsOf_step (Utf.nums s) i ((s[i]'hlt).toNat : Int) a (by
        have := Utf.nums_at s i hlt
        rw [List.getElem?_eq_getElem (by rw [Utf.nums_length]; exact hlt)] at this ⊢
        simpa using this)
      rw [HA.out] at hs2
      have hw : IntKind.i64.wrap ((i : Int) + 1) = ((i + 1 : Nat) : Int) := by rw [IntKind.wrap_i64]; omega
      by_cases e105 : ((s[i]'hlt).toNat : Int) = 105
      · have b105 : (((s[i]'hlt).toNat : Int) == 105) = true := by simp [e105]
        have HN : Hid (Lx.flagsOfX ((Utf.nums s).drop (i + 1)) (bits .or .i64 a 1) = R) := Lib.hid (by rw [hs2, e105]; rfl)
        clear hs2 e105
        go_wp2
        go_round
        case rel => exact ⟨_, i + 1, rfl, by omega, by go_num, HN⟩
        case measure => simp [intOf]; omega
      have b105 : (((s[i]'hlt).toNat : Int) == 105) = false := by simpa using e105
      by_cases e109 : ((s[i]'hlt).toNat : Int) = 109
      · have b109 : (((s[i]'hlt).toNat : Int) == 109) = true := by simp [e109]
        have HN : Hid (Lx.flagsOfX ((Utf.nums s).drop (i + 1)) (bits .or .i64 a 2) = R) := Lib.hid (by rw [hs2, e109]; rfl)
        clear hs2 e105 e109
        go_wp2
        go_round
        case rel => exact ⟨_, i + 1, rfl, by omega, by go_num, HN⟩
        case measure => simp [intOf]; omega
      have b109 : (((s[i]'hlt).toNat : Int) == 109) = false := by simpa using e109
      by_cases e115 : ((s[i]'hlt).toNat : Int) = 115
      · have b115 : (((s[i]'hlt).toNat : Int) == 115) = true := by simp [e115]
        have HN : Hid (Lx.flagsOfX ((Utf.nums s).drop (i + 1)) (bits .or .i64 a 4) = R) := Lib.hid (by rw [hs2, e115]; rfl)
        clear hs2 e105 e109 e115
        go_wp2
        go_round
        case rel => exact ⟨_, i + 1, rfl, by omega, by go_num, HN⟩
        case measure => simp [intOf]; omega
      have b115 : (((s[i]'hlt).toNat : Int) == 115) = false := by simpa using e115
      by_cases e85 : ((s[i]'hlt).toNat : Int) = 85
      · have b85 : (((s[i]'hlt).toNat : Int) == 85) = true := by simp [e85]
        have HN : Hid (Lx.flagsOfX ((Utf.nums s).drop (i + 1)) (bits .or .i64 a 8) = R) := Lib.hid (by rw [hs2, e85]; rfl)
        clear hs2 e105 e109 e115 e85
        go_wp2
        go_round
        case rel => exact ⟨_, i + 1, rfl, by omega, by go_num, HN⟩
        case measure => simp [intOf]; omega
      have b85 : (((s[i]'hlt).toNat : Int) == 85) = false := by simpa using e85
      have HN : Hid (R = none) := Lib.hid (by rw [hs2]; unfold Lx.flagB; simp [e105, e109, e115, e85])
      clear hs2 e105 e109 e115 e85
      go_wp2
      go_ret2
      exact ⟨by rw [HN.out]; rfl, rfl⟩
    · have hlti : ¬ (i : Int) < (s.size : Int) := by omega
      have HN : Hid (R = some a) := Lib.hid (by have := HA.out; rw [List.drop_of_length_le (by rw [Utf.nums_length]; omega)] at this; exact this.symm)
      clear hlt
      go_wp2
      go_ret2
      exact ⟨by rw [HN.out]; rfl, rfl⟩
/-- What flags hands back. -/
def FlagPost (X : Option (Int × Int)) (W : World) (e : Ending) (w' : World) : Prop := Below W.heap.size W w' ∧ ((X = none ∧ e = .returned (.tuple #[.int .i64 0, .int .i64 0, .bool false])) ∨ ∃ a c, X = some (a, c) ∧ e = .returned (.tuple #[.int .i64 a, .int .i64 c, .bool true]))
set_option maxRecDepth 100000 in
set_option maxHeartbeats 8000000 in
theorem flags_any (W : World) (s : ByteArray) (hs : s.size ≤ 4096) (hE : Ev W) : Calls Tryz.prog 89 #[.string s] W (FlagPost (Lx.flagsX (Utf.nums s)) W) := by
  have HE := Lib.hid hE
  clear hE
  obtain ⟨X, hX⟩ : ∃ X, Lx.flagsX (Utf.nums s) = X := ⟨_, rfl⟩
  rw [hX]
  unfold Lx.flagsX at hX
  have HC := Lib.hid (fun w (hw : Ev w) => cut_1r w s (by omega) 45 hw)
  rw [show (((45 : UInt8).toNat : Nat) : Int) = 45 from rfl] at HC
  have hkl := Br.upTo_le 45 (Utf.nums s)
  have hln := Utf.nums_length s
  rw [hln] at hkl
  obtain ⟨k, hk⟩ : ∃ k, Br.upTo 45 (Utf.nums s) = k := ⟨_, rfl⟩
  rw [hk] at hX HC hkl
  rw [hln] at hX
  obtain ⟨f, hf⟩ : ∃ f, s.extract 0 k = f := ⟨_, rfl⟩
  obtain ⟨g, hg⟩ : ∃ g, s.extract (k + 1) s.size = g := ⟨_, rfl⟩
  rw [hf, hg] at HC
  have hnf : Utf.nums f = (Utf.nums s).take k := by rw [← hf, Utf.nums_extract]; simp
  have hng : Utf.nums g = (Utf.nums s).drop (k + 1) := by rw [← hg]; exact tail_drop s (k + 1)
  have hzf : f.size ≤ 4096 := by rw [← hf, ByteArray.size_extract]; omega
  have hzg : g.size = s.size - (k + 1) := by rw [← hg, ByteArray.size_extract]; omega
  rw [← hnf, ← hng] at hX
  have HF := Lib.hid (fun w => flagsOf_any w f hzf)
  have HG := Lib.hid (fun w => flagsOf_any w g (by omega))
  have hnil : (Utf.nums s = []) ↔ s.size = 0 := by rw [← hln]; exact List.length_eq_zero_iff.symm
  obtain ⟨x1, hx1⟩ : ∃ x, Lx.flagsOfX (Utf.nums f) 0 = x := ⟨_, rfl⟩
  obtain ⟨x2, hx2⟩ : ∃ x, Lx.flagsOfX (Utf.nums g) 0 = x := ⟨_, rfl⟩
  rw [hx1] at hX HF
  rw [hx2] at hX HG
  clear hk hf hg hnf hng hx1 hx2
  by_cases e0 : s.size = 0
  · obtain rfl : s = ⟨#[]⟩ := by
      exact Br.nums_inj' (by rw [List.length_eq_zero_iff.1 (hln.trans e0)]; rfl)
    obtain rfl : k = 0 := by omega
    rw [decide_eq_false (fun h => h rfl)] at HC
    have hg0 : g = ⟨#[]⟩ := by
      apply Br.nums_inj'
      rw [List.length_eq_zero_iff.1 ((Utf.nums_length g).trans (by omega))]; rfl
    subst hg0
    cases x1 with
    | none =>
      cases x2 with
      | none =>
        have HX : Hid (X = none) := Lib.hid hX.symm
        clear hX hnil hln e0
        go_enter Tryz.func89, Tryz.ntmps89
        go_wp2_with fail
        refine (HC.out _ HE.out).mono ?_
        rintro e w1 ⟨rfl, n1, rfl⟩
        go_wp2_with fail
        refine (HF.out _).mono ?_
        rintro e w1 ⟨rfl, rfl⟩
        go_wp2_with fail
        refine (HG.out _).mono ?_
        rintro e w1 ⟨rfl, rfl⟩
        go_wp2
        go_ret3
        exact ⟨below_drewNr (Below.refl _ _) n1, .inl ⟨HX.out, rfl⟩⟩
      | some c =>
        have HX : Hid (X = none) := Lib.hid hX.symm
        clear hX hnil hln e0
        go_enter Tryz.func89, Tryz.ntmps89
        go_wp2_with fail
        refine (HC.out _ HE.out).mono ?_
        rintro e w1 ⟨rfl, n1, rfl⟩
        go_wp2_with fail
        refine (HF.out _).mono ?_
        rintro e w1 ⟨rfl, rfl⟩
        go_wp2_with fail
        refine (HG.out _).mono ?_
        rintro e w1 ⟨rfl, rfl⟩
        go_wp2
        go_ret3
        exact ⟨below_drewNr (Below.refl _ _) n1, .inl ⟨HX.out, rfl⟩⟩
    | some a =>
      cases x2 with
      | none =>
        have HX : Hid (X = none) := Lib.hid hX.symm
        clear hX hnil hln e0
        go_enter Tryz.func89, Tryz.ntmps89
        go_wp2_with fail
        refine (HC.out _ HE.out).mono ?_
        rintro e w1 ⟨rfl, n1, rfl⟩
        go_wp2_with fail
        refine (HF.out _).mono ?_
        rintro e w1 ⟨rfl, rfl⟩
        go_wp2_with fail
        refine (HG.out _).mono ?_
        rintro e w1 ⟨rfl, rfl⟩
        go_wp2
        go_ret3
        exact ⟨below_drewNr (Below.refl _ _) n1, .inl ⟨HX.out, rfl⟩⟩
      | some c =>
        have HX : Hid (X = none) := Lib.hid (hX.symm.trans (by simp [e0, hnil]))
        clear hX hnil hln e0
        go_enter Tryz.func89, Tryz.ntmps89
        go_wp2_with fail
        refine (HC.out _ HE.out).mono ?_
        rintro e w1 ⟨rfl, n1, rfl⟩
        go_wp2_with fail
        refine (HF.out _).mono ?_
        rintro e w1 ⟨rfl, rfl⟩
        go_wp2_with fail
        refine (HG.out _).mono ?_
        rintro e w1 ⟨rfl, rfl⟩
        go_wp2
        go_ret3
        exact ⟨below_drewNr (Below.refl _ _) n1, .inl ⟨HX.out, rfl⟩⟩
  obtain ⟨hne, hne2⟩ := toList_ne (s := s) (by omega)
  by_cases e2 : k + 1 = s.size
  · have e1 : k ≠ s.size := by omega
    rw [decide_eq_true e1] at HC
    have hg0 : g = ⟨#[]⟩ := by
      apply Br.nums_inj'
      rw [List.length_eq_zero_iff.1 ((Utf.nums_length g).trans (by omega))]; rfl
    subst hg0
    cases x1 with
    | none =>
      cases x2 with
      | none =>
        have HX : Hid (X = none) := Lib.hid hX.symm
        clear hX hnil hln e0 e1 e2
        go_enter Tryz.func89, Tryz.ntmps89
        go_wp2_with fail
        refine (HC.out _ HE.out).mono ?_
        rintro e w1 ⟨rfl, n1, rfl⟩
        go_wp2_with fail
        refine (HF.out _).mono ?_
        rintro e w1 ⟨rfl, rfl⟩
        go_wp2_with fail
        refine (HG.out _).mono ?_
        rintro e w1 ⟨rfl, rfl⟩
        go_wp2
        go_ret3
        exact ⟨below_drewNr (Below.refl _ _) n1, .inl ⟨HX.out, rfl⟩⟩
      | some c =>
        have HX : Hid (X = none) := Lib.hid hX.symm
        clear hX hnil hln e0 e1 e2
        go_enter Tryz.func89, Tryz.ntmps89
        go_wp2_with fail
        refine (HC.out _ HE.out).mono ?_
        rintro e w1 ⟨rfl, n1, rfl⟩
        go_wp2_with fail
        refine (HF.out _).mono ?_
        rintro e w1 ⟨rfl, rfl⟩
        go_wp2_with fail
        refine (HG.out _).mono ?_
        rintro e w1 ⟨rfl, rfl⟩
        go_wp2
        go_ret3
        exact ⟨below_drewNr (Below.refl _ _) n1, .inl ⟨HX.out, rfl⟩⟩
    | some a =>
      cases x2 with
      | none =>
        have HX : Hid (X = none) := Lib.hid hX.symm
        clear hX hnil hln e0 e1 e2
        go_enter Tryz.func89, Tryz.ntmps89
        go_wp2_with fail
        refine (HC.out _ HE.out).mono ?_
        rintro e w1 ⟨rfl, n1, rfl⟩
        go_wp2_with fail
        refine (HF.out _).mono ?_
        rintro e w1 ⟨rfl, rfl⟩
        go_wp2_with fail
        refine (HG.out _).mono ?_
        rintro e w1 ⟨rfl, rfl⟩
        go_wp2
        go_ret3
        exact ⟨below_drewNr (Below.refl _ _) n1, .inl ⟨HX.out, rfl⟩⟩
      | some c =>
        have HX : Hid (X = none) := Lib.hid (hX.symm.trans (by simp [e0, hnil, e2]))
        clear hX hnil hln e0 e1 e2
        go_enter Tryz.func89, Tryz.ntmps89
        go_wp2_with fail
        refine (HC.out _ HE.out).mono ?_
        rintro e w1 ⟨rfl, n1, rfl⟩
        go_wp2_with fail
        refine (HF.out _).mono ?_
        rintro e w1 ⟨rfl, rfl⟩
        go_wp2_with fail
        refine (HG.out _).mono ?_
        rintro e w1 ⟨rfl, rfl⟩
        go_wp2
        go_ret3
        exact ⟨below_drewNr (Below.refl _ _) n1, .inl ⟨HX.out, rfl⟩⟩
  by_cases e1 : k = s.size
  · rw [decide_eq_false (by simp [e1])] at HC
    have hg0 : g = ⟨#[]⟩ := by
      apply Br.nums_inj'
      rw [List.length_eq_zero_iff.1 ((Utf.nums_length g).trans (by omega))]; rfl
    subst hg0
    cases x1 with
    | none =>
      cases x2 with
      | none =>
        have HX : Hid (X = none) := Lib.hid hX.symm
        clear hX hnil hln e0 e1 e2
        go_enter Tryz.func89, Tryz.ntmps89
        go_wp2_with fail
        refine (HC.out _ HE.out).mono ?_
        rintro e w1 ⟨rfl, n1, rfl⟩
        go_wp2_with fail
        refine (HF.out _).mono ?_
        rintro e w1 ⟨rfl, rfl⟩
        go_wp2_with fail
        refine (HG.out _).mono ?_
        rintro e w1 ⟨rfl, rfl⟩
        go_wp2
        go_ret3
        exact ⟨below_drewNr (Below.refl _ _) n1, .inl ⟨HX.out, rfl⟩⟩
      | some c =>
        have HX : Hid (X = none) := Lib.hid hX.symm
        clear hX hnil hln e0 e1 e2
        go_enter Tryz.func89, Tryz.ntmps89
        go_wp2_with fail
        refine (HC.out _ HE.out).mono ?_
        rintro e w1 ⟨rfl, n1, rfl⟩
        go_wp2_with fail
        refine (HF.out _).mono ?_
        rintro e w1 ⟨rfl, rfl⟩
        go_wp2_with fail
        refine (HG.out _).mono ?_
        rintro e w1 ⟨rfl, rfl⟩
        go_wp2
        go_ret3
        exact ⟨below_drewNr (Below.refl _ _) n1, .inl ⟨HX.out, rfl⟩⟩
    | some a =>
      cases x2 with
      | none =>
        have HX : Hid (X = none) := Lib.hid hX.symm
        clear hX hnil hln e0 e1 e2
        go_enter Tryz.func89, Tryz.ntmps89
        go_wp2_with fail
        refine (HC.out _ HE.out).mono ?_
        rintro e w1 ⟨rfl, n1, rfl⟩
        go_wp2_with fail
        refine (HF.out _).mono ?_
        rintro e w1 ⟨rfl, rfl⟩
        go_wp2_with fail
        refine (HG.out _).mono ?_
        rintro e w1 ⟨rfl, rfl⟩
        go_wp2
        go_ret3
        exact ⟨below_drewNr (Below.refl _ _) n1, .inl ⟨HX.out, rfl⟩⟩
      | some c =>
        have HX : Hid (X = some (bits .andNot .i64 a c, c)) := Lib.hid (hX.symm.trans (by simp [e0, hnil, e2]))
        clear hX hnil hln e0 e1 e2
        go_enter Tryz.func89, Tryz.ntmps89
        go_wp2_with fail
        refine (HC.out _ HE.out).mono ?_
        rintro e w1 ⟨rfl, n1, rfl⟩
        go_wp2_with fail
        refine (HF.out _).mono ?_
        rintro e w1 ⟨rfl, rfl⟩
        go_wp2_with fail
        refine (HG.out _).mono ?_
        rintro e w1 ⟨rfl, rfl⟩
        go_wp2
        go_ret3
        exact ⟨below_drewNr (Below.refl _ _) n1, .inr ⟨_, _, HX.out, rfl⟩⟩
  rw [decide_eq_true e1] at HC
  obtain ⟨hne3, hne4⟩ := toList_ne (s := g) (by omega)
  cases x1 with
  | none =>
    cases x2 with
    | none =>
      have HX : Hid (X = none) := Lib.hid hX.symm
      clear hX hnil hln e0 e1 e2
      go_enter Tryz.func89, Tryz.ntmps89
      go_wp2_with fail
      refine (HC.out _ HE.out).mono ?_
      rintro e w1 ⟨rfl, n1, rfl⟩
      go_wp2_with fail
      refine (HF.out _).mono ?_
      rintro e w1 ⟨rfl, rfl⟩
      go_wp2_with fail
      refine (HG.out _).mono ?_
      rintro e w1 ⟨rfl, rfl⟩
      go_wp2
      go_ret3
      exact ⟨below_drewNr (Below.refl _ _) n1, .inl ⟨HX.out, rfl⟩⟩
    | some c =>
      have HX : Hid (X = none) := Lib.hid hX.symm
      clear hX hnil hln e0 e1 e2
      go_enter Tryz.func89, Tryz.ntmps89
      go_wp2_with fail
      refine (HC.out _ HE.out).mono ?_
      rintro e w1 ⟨rfl, n1, rfl⟩
      go_wp2_with fail
      refine (HF.out _).mono ?_
      rintro e w1 ⟨rfl, rfl⟩
      go_wp2_with fail
      refine (HG.out _).mono ?_
      rintro e w1 ⟨rfl, rfl⟩
      go_wp2
      go_ret3
      exact ⟨below_drewNr (Below.refl _ _) n1, .inl ⟨HX.out, rfl⟩⟩
  | some a =>
    cases x2 with
    | none =>
      have HX : Hid (X = none) := Lib.hid hX.symm
      clear hX hnil hln e0 e1 e2
      go_enter Tryz.func89, Tryz.ntmps89
      go_wp2_with fail
      refine (HC.out _ HE.out).mono ?_
      rintro e w1 ⟨rfl, n1, rfl⟩
      go_wp2_with fail
      refine (HF.out _).mono ?_
      rintro e w1 ⟨rfl, rfl⟩
      go_wp2_with fail
      refine (HG.out _).mono ?_
      rintro e w1 ⟨rfl, rfl⟩
      go_wp2
      go_ret3
      exact ⟨below_drewNr (Below.refl _ _) n1, .inl ⟨HX.out, rfl⟩⟩
    | some c =>
      have HX : Hid (X = some (bits .andNot .i64 a c, c)) := Lib.hid (hX.symm.trans (by simp [e0, hnil, e2]))
      clear hX hnil hln e0 e1 e2
      go_enter Tryz.func89, Tryz.ntmps89
      go_wp2_with fail
      refine (HC.out _ HE.out).mono ?_
      rintro e w1 ⟨rfl, n1, rfl⟩
      go_wp2_with fail
      refine (HF.out _).mono ?_
      rintro e w1 ⟨rfl, rfl⟩
      go_wp2_with fail
      refine (HG.out _).mono ?_
      rintro e w1 ⟨rfl, rfl⟩
      go_wp2
      go_ret3
      exact ⟨below_drewNr (Below.refl _ _) n1, .inr ⟨_, _, HX.out, rfl⟩⟩
end Go.Proofs.YtanffablfgnioaaGreatDoor
namespace Go.Proofs.YtanffablfgnioaaGreatDoor
open Go.RowKit
open Lx (Tk TR)
set_option linter.unusedVariables false
theorem toList_pre3 (s : ByteArray) (n : Nat) : (s.extract 0 n).toList = s.data.toList.take n := by
  rw [ByteArray.toList_eq, ← Br.take_extract]
theorem pre3 (s : ByteArray) (n : Nat) (hn : n ≤ s.size) (h0 : (Utf.nums s)[0]?.getD 0 = 40) (h1 : (Utf.nums s)[1]?.getD 0 = 63) : ((s.extract 0 n).toList == [40, 63, 58]) = decide (n = 3 ∧ (Utf.nums s)[2]?.getD 0 = 58) := by
  rw [toList_pre3]
  have hl : s.data.toList.length = s.size := Array.length_toList
  have hm : ∀ k, (Utf.nums s)[k]? = (s.data.toList[k]?).map (fun b : UInt8 => (b.toNat : Int)) := fun k => by unfold Utf.nums; rw [List.getElem?_map]
  rw [hm] at h0 h1
  rw [hm]
  obtain ⟨L, hL⟩ : ∃ L, s.data.toList = L := ⟨_, rfl⟩
  rw [hL] at hl h0 h1 ⊢
  rw [← hl] at hn
  clear hL hl hm
  rw [Bool.eq_iff_iff, beq_iff_eq, decide_eq_true_iff]
  constructor
  · intro e
    have e3 := congrArg List.length e
    rw [List.length_take] at e3
    have e4 : min n L.length = 3 := e3
    have e5 : n = 3 := by omega
    subst e5
    refine ⟨rfl, ?_⟩
    have e6 := congrArg (fun l => l[2]?) e
    simp only [List.getElem?_take] at e6
    rw [if_pos (by omega)] at e6
    rw [e6]; rfl
  · rintro ⟨rfl, e⟩
    match L, hn, h0, h1, e with
    | a :: b :: c :: r, _, h0, h1, e =>
      simp at h0 h1 e
      rw [show a = 40 from UInt8.toNat_inj.1 (by have h9 : (40 : UInt8).toNat = 40 := rfl; omega), show b = 63 from UInt8.toNat_inj.1 (by have h9 : (63 : UInt8).toNat = 63 := rfl; omega), show c = 58 from UInt8.toNat_inj.1 (by have h9 : (58 : UInt8).toNat = 58 := rfl; omega)]
      rfl
theorem box0 {w : World} {B : Nat} {u0 u1 u2 u3 u4 u5 u6 u7 a : Value} {t : TypeId} (h : w.heap[B]? = some (.cells #[u0, u1, u2, u3, u4, u5, u6, u7] t (0, 0))) :
    (w.setCell ⟨B, 0, none⟩ a).heap[B]? = some (.cells #[a, u1, u2, u3, u4, u5, u6, u7] t (0, 0)) := by
  have h4 := heap_setCell_same w B 0 _ t a h
  simpa using h4
set_option maxRecDepth 100000 in
set_option maxHeartbeats 8000000 in
theorem withFlags_any (W : World) (s : ByteArray) (hs : s.size ≤ 4096) (h0 : (Utf.nums s)[0]?.getD 0 = 40) (h1 : (Utf.nums s)[1]?.getD 0 = 63) (hE : Ev W) : Calls Tryz.prog 59 #[.string s] W (TokPost (Lx.flagX (Utf.nums s)) W) := by
  have HE := Lib.hid hE
  clear hE
  obtain ⟨X, hX⟩ : ∃ X, Lx.flagX (Utf.nums s) = X := ⟨_, rfl⟩
  rw [hX]
  unfold Lx.flagX at hX
  have HI := Lib.hid (fun w => idxAny_any w s hs)
  unfold idxV at HI
  have hln := Utf.nums_length s
  have hul := upToC_le (Utf.nums s)
  have hz2 : 2 ≤ s.size := by
    have := Br.getD_lt h1 (by decide); omega
  have hn0 := upToC_no (Utf.nums s)
  have hge : 2 ≤ Lx.upToC (Utf.nums s) := by
    have ha := upToC_at (Utf.nums s)
    rcases (show Lx.upToC (Utf.nums s) = 0 ∨ Lx.upToC (Utf.nums s) = 1 ∨ 2 ≤ Lx.upToC (Utf.nums s) by omega) with e | e | e
    · rw [e, h0] at ha; have := ha (by omega); omega
    · rw [e, h1] at ha; have := ha (by omega); omega
    · exact e
  have hat := upToC_at (Utf.nums s)
  have hp3 := fun n hn => pre3 s n hn h0 h1
  obtain ⟨e, he⟩ : ∃ e, Lx.upToC (Utf.nums s) = e := ⟨_, rfl⟩
  rw [he, hln] at hX HI hul hat
  rw [he] at hge
  clear hn0 he
  by_cases cA : e = s.size
  · rw [if_pos cA] at HI hX
    have HX := Lib.hid hX.symm
    clear hX hat hp3 hul hge cA h0 h1
    go_enter Tryz.func59, Tryz.ntmps59
    go_wp2_with fail
    refine (HI.out _).mono ?_
    rintro e w1 ⟨rfl, hb1⟩
    have HBX := Lib.hid (box_kept hb1)
    have HB1 := Lib.hid (below_of_alloc hb1)
    obtain ⟨d0, d1, d2, d3, d4, d5, d6, d7, g0, g1, g2, g3, g4, g5, g6, g7⟩ := box_facts HBX.out
    clear hb1
    go_wp2
    (try simp only [Exit.inBlock, Exit.then])
    refine ret_tk rfl W.heap.size _ rfl (set8_blk _ _ _ _ _ _ _ _ _ _ HBX.out) rfl rfl ?_
    exact ⟨set8_below HB1.out _ (Nat.le_refl _) _ _ _ _ _ _ _ _, .inl ⟨0, _, _, HX.out, rfl⟩⟩
  rw [if_neg cA] at HI hX
  have hes : e < s.size := by omega
  have hesi : (e : Int) < (s.size : Int) := by omega
  have hei : ¬ (e : Int) < 0 := by omega
  have he2 : (2 : Int) ≤ (e : Int) := by omega
  have heb : (e : Int) ≤ (s.size : Int) := by omega
  obtain ⟨n, hn⟩ : ∃ n, e + 1 = n := ⟨_, rfl⟩
  have hw : IntKind.i64.wrap ((e : Int) + 1) = (n : Int) := by rw [IntKind.wrap_i64]; omega
  have hnb : (n : Int) ≤ (s.size : Int) := by omega
  have hq3 := hp3 n (by omega)
  have hse : (Utf.nums s)[e]?.getD 0 = ((s[e]'hes).toNat : Int) := Utf.nums_at s e hes
  obtain ⟨d, hd⟩ : ∃ d, s.extract 2 e = d := ⟨_, rfl⟩
  have hnd : Utf.nums d = ((Utf.nums s).drop 2).take (e - 2) := by rw [← hd, Utf.nums_extract]
  have hzd : d.size ≤ 4096 := by rw [← hd, ByteArray.size_extract]; omega
  have HF := Lib.hid (fun w (hw : Ev w) => flags_any w d hzd hw)
  rw [← hnd] at hX
  have HN := Lib.hid hn
  by_cases c3 : e = 2 ∧ (Utf.nums s)[2]?.getD 0 = 58
  · have hb3 : ((s.extract 0 n).toList == [40, 63, 58]) = true := by rw [hq3, decide_eq_true_iff]; exact ⟨by omega, c3.2⟩
    rw [if_pos c3] at hX
    have hfx : Lx.flagsX (Utf.nums d) = none := by
      rw [hnd, c3.1]; rfl
    rw [hfx] at HF
    have HX : Hid (X = .ok { kind := 9 } n) := Lib.hid (by rw [← hX, show n = 3 by omega])
    clear hX hq3 hfx hat hp3 hul hge cA h0 h1 hnd hse hn c3 hzd
    go_enter Tryz.func59, Tryz.ntmps59
    go_wp2_with fail
    refine (HI.out _).mono ?_
    rintro e9 w1 ⟨rfl, hb1⟩
    have HBX := Lib.hid (box_kept hb1)
    have HSZ := size_of_alloc hb1
    have HB1 := Lib.hid (below_of_alloc hb1)
    clear hb1
    go_wp2_with fail
    refine (HF.out _ (HE.out.below (Nat.le_refl _) HB1.out)).mono ?_
    rintro e9 w2 ⟨hb2, hp2⟩
    have HBX2 := Lib.hid (box_on HBX.out HSZ hb2)
    have HB2 := Lib.hid (HB1.out.trans (hb2.mono HB1.out.size))
    obtain ⟨d0, d1, d2, d3, d4, d5, d6, d7, g0, g1, g2, g3, g4, g5, g6, g7⟩ := box_facts HBX2.out
    rcases hp2 with ⟨_, rfl⟩ | ⟨a, c, h9, _⟩
    · clear hb2
      go_wp2
      (try simp only [Exit.inBlock, Exit.then])
      refine ret_tk rfl W.heap.size _ rfl (set8_blk _ _ _ _ _ _ _ _ _ _ (box45 (box0 HBX2.out))) rfl rfl ?_
      exact tokPost_plain (set8_below (((HB2.out.setCell (p := ⟨W.heap.size, 0, none⟩) (Nat.le_refl _) _).setCell (p := ⟨W.heap.size, 4, none⟩) (Nat.le_refl _) _).setCell (p := ⟨W.heap.size, 5, none⟩) (Nat.le_refl _) _) _ (Nat.le_refl _) _ _ _ _ _ _ _ _) HX.out rfl rfl
    · cases h9
  rw [if_neg c3] at hX
  have hb3 : ((s.extract 0 n).toList == [40, 63, 58]) = false := by rw [hq3, decide_eq_false_iff_not]; intro h; exact c3 ⟨by omega, h.2⟩
  obtain ⟨fx, hfx⟩ : ∃ fx, Lx.flagsX (Utf.nums d) = fx := ⟨_, rfl⟩
  rw [hfx] at HF hX
  rw [hse] at hX
  clear hq3 hfx hat hp3 hul hge cA h0 h1 hnd hse c3 hzd
  cases fx with
  | none =>
    have HX : Hid (X = .bad 0 90) := Lib.hid hX.symm
    clear hX hn
    go_enter Tryz.func59, Tryz.ntmps59
    go_wp2_with fail
    refine (HI.out _).mono ?_
    rintro e9 w1 ⟨rfl, hb1⟩
    have HBX := Lib.hid (box_kept hb1)
    have HSZ := size_of_alloc hb1
    have HB1 := Lib.hid (below_of_alloc hb1)
    clear hb1
    go_wp2_with fail
    refine (HF.out _ (HE.out.below (Nat.le_refl _) HB1.out)).mono ?_
    rintro e9 w2 ⟨hb2, hp2⟩
    have HBX2 := Lib.hid (box_on HBX.out HSZ hb2)
    have HB2 := Lib.hid (HB1.out.trans (hb2.mono HB1.out.size))
    obtain ⟨d0, d1, d2, d3, d4, d5, d6, d7, g0, g1, g2, g3, g4, g5, g6, g7⟩ := box_facts HBX2.out
    rcases hp2 with ⟨_, rfl⟩ | ⟨a, c, h9, _⟩
    · clear hb2
      go_wp2
      (try simp only [Exit.inBlock, Exit.then])
      refine ret_tk rfl W.heap.size _ rfl (set8_blk _ _ _ _ _ _ _ _ _ _ HBX2.out) rfl rfl ?_
      exact ⟨set8_below HB2.out _ (Nat.le_refl _) _ _ _ _ _ _ _ _, .inl ⟨0, _, _, HX.out, rfl⟩⟩
    · cases h9
  | some p =>
    obtain ⟨a, c⟩ := p
    dsimp only at hX
    by_cases c58 : ((s[e]'hes).toNat : Int) = 58
    · have b58 : (((s[e]'hes).toNat : Int) == 58) = true := by simp [c58]
      rw [if_pos c58] at hX
      have HX : Hid (X = .ok { kind := 9, mn := a, mx := c } n) := Lib.hid (by rw [← hX, HN.out])
      clear hX hn c58
      go_enter Tryz.func59, Tryz.ntmps59
      go_wp2_with fail
      refine (HI.out _).mono ?_
      rintro e9 w1 ⟨rfl, hb1⟩
      have HBX := Lib.hid (box_kept hb1)
      have HSZ := size_of_alloc hb1
      have HB1 := Lib.hid (below_of_alloc hb1)
      clear hb1
      go_wp2_with fail
      refine (HF.out _ (HE.out.below (Nat.le_refl _) HB1.out)).mono ?_
      rintro e9 w2 ⟨hb2, hp2⟩
      have HBX2 := Lib.hid (box_on HBX.out HSZ hb2)
      have HB2 := Lib.hid (HB1.out.trans (hb2.mono HB1.out.size))
      obtain ⟨d0, d1, d2, d3, d4, d5, d6, d7, g0, g1, g2, g3, g4, g5, g6, g7⟩ := box_facts HBX2.out
      rcases hp2 with ⟨h9, _⟩ | ⟨a9, c9, h9, rfl⟩
      · cases h9
      · obtain ⟨rfl, rfl⟩ : a9 = a ∧ c9 = c := by injection h9 with h9; injection h9 with h8 h7; exact ⟨h8.symm, h7.symm⟩
        clear hb2 h9
        go_wp2
        (try simp only [Exit.inBlock, Exit.then])
        refine ret_tk rfl W.heap.size _ rfl (set8_blk _ _ _ _ _ _ _ _ _ _ (box45 (box0 HBX2.out))) rfl rfl ?_
        exact tokPost_plain (set8_below (((HB2.out.setCell (p := ⟨W.heap.size, 0, none⟩) (Nat.le_refl _) _).setCell (p := ⟨W.heap.size, 4, none⟩) (Nat.le_refl _) _).setCell (p := ⟨W.heap.size, 5, none⟩) (Nat.le_refl _) _) _ (Nat.le_refl _) _ _ _ _ _ _ _ _) HX.out rfl rfl
    · have b58 : (((s[e]'hes).toNat : Int) == 58) = false := by simpa using c58
      rw [if_neg c58] at hX
      have HX : Hid (X = .ok { kind := 10, mn := a, mx := c } n) := Lib.hid (by rw [← hX, HN.out])
      clear hX hn c58
      go_enter Tryz.func59, Tryz.ntmps59
      go_wp2_with fail
      refine (HI.out _).mono ?_
      rintro e9 w1 ⟨rfl, hb1⟩
      have HBX := Lib.hid (box_kept hb1)
      have HSZ := size_of_alloc hb1
      have HB1 := Lib.hid (below_of_alloc hb1)
      clear hb1
      go_wp2_with fail
      refine (HF.out _ (HE.out.below (Nat.le_refl _) HB1.out)).mono ?_
      rintro e9 w2 ⟨hb2, hp2⟩
      have HBX2 := Lib.hid (box_on HBX.out HSZ hb2)
      have HB2 := Lib.hid (HB1.out.trans (hb2.mono HB1.out.size))
      obtain ⟨d0, d1, d2, d3, d4, d5, d6, d7, g0, g1, g2, g3, g4, g5, g6, g7⟩ := box_facts HBX2.out
      rcases hp2 with ⟨h9, _⟩ | ⟨a9, c9, h9, rfl⟩
      · cases h9
      · obtain ⟨rfl, rfl⟩ : a9 = a ∧ c9 = c := by injection h9 with h9; injection h9 with h8 h7; exact ⟨h8.symm, h7.symm⟩
        clear hb2 h9
        go_wp2
        (try simp only [Exit.inBlock, Exit.then])
        refine ret_tk rfl W.heap.size _ rfl (set8_blk _ _ _ _ _ _ _ _ _ _ (box45 (box0 HBX2.out))) rfl rfl ?_
        exact tokPost_plain (set8_below (((HB2.out.setCell (p := ⟨W.heap.size, 0, none⟩) (Nat.le_refl _) _).setCell (p := ⟨W.heap.size, 4, none⟩) (Nat.le_refl _) _).setCell (p := ⟨W.heap.size, 5, none⟩) (Nat.le_refl _) _) _ (Nat.le_refl _) _ _ _ _ _ _ _ _) HX.out rfl rfl
end Go.Proofs.YtanffablfgnioaaGreatDoor
namespace Go.Proofs.YtanffablfgnioaaGreatDoor
open Go.RowKit
open Lx (Tk TR)
set_option linter.unusedVariables false
theorem some_getD {l : List Int} {k : Nat} {c : Int} (hc : c ≠ 0) : l[k]? = some c ↔ l[k]?.getD 0 = c := by
  constructor
  · intro h; rw [h]; rfl
  · intro h
    cases e : l[k]? with
    | none => rw [e] at h; exact absurd h (fun h9 => hc h9.symm)
    | some x => rw [e] at h; rw [show x = c from h]
theorem hasPre2g (W : World) (s : ByteArray) (c d : UInt8) (hc : (c.toNat : Int) ≠ 0) (hd : (d.toNat : Int) ≠ 0) : Calls Tryz.prog 16 #[.string s, .string ⟨#[c, d]⟩] W fun e w' =>
    e = .returned (.bool (decide ((Utf.nums s)[0]?.getD 0 = (c.toNat : Int) ∧ (Utf.nums s)[1]?.getD 0 = (d.toNat : Int)))) ∧ W = w' := by
  refine (hasPre2 W s c d).mono ?_
  rintro e w' ⟨rfl, hw⟩
  refine ⟨?_, hw⟩
  congr 2
  exact decide_eq_decide.2 (and_congr (some_getD hc) (some_getD hd))
set_option maxRecDepth 100000 in
set_option maxHeartbeats 8000000 in
theorem open_any (W : World) (s : ByteArray) (hs : s.size ≤ 4096) (h0 : (Utf.nums s)[0]?.getD 0 = 40) (hE : Ev W) : Calls Tryz.prog 32 #[.string s] W (TokPost (Lx.openX s) W) := by
  have HE := Lib.hid hE
  clear hE
  obtain ⟨X, hX⟩ : ∃ X, Lx.openX s = X := ⟨_, rfl⟩
  rw [hX]
  unfold Lx.openX at hX
  have HP := Lib.hid (fun w => hasPre2g w s 40 63 (by decide) (by decide))
  have hd : decide ((Utf.nums s)[0]?.getD 0 = (((40 : UInt8).toNat : Nat) : Int) ∧ (Utf.nums s)[1]?.getD 0 = (((63 : UInt8).toNat : Nat) : Int)) = decide ((Utf.nums s)[1]?.getD 0 = 63) :=
    decide_eq_decide.2 ⟨fun h => h.2, fun h => ⟨h0, h⟩⟩
  rw [hd] at HP
  clear hd
  by_cases c1 : (Utf.nums s)[1]?.getD 0 = 63
  · rw [decide_eq_true c1] at HP
    rw [if_neg (fun h => h c1)] at hX
    have HG := Lib.hid (fun w (hw : Ev w) => groupName_any w s hs hw)
    obtain ⟨nx, hnx⟩ : ∃ nx, Lx.nameX s = nx := ⟨_, rfl⟩
    rw [hnx] at HG hX
    have HF := Lib.hid (fun w (hw : Ev w) => withFlags_any w s hs h0 c1 hw)
    have hfl : ∀ nm n, nx = some (nm, n) → 1 ≤ n := by
      intro nm n h
      rw [← hnx] at h
      unfold Lx.nameX at h
      dsimp only at h
      split at h
      · cases h
      · split at h
        · cases h
        · split at h
          · injection h with h; injection h with h1 h2; omega
          · cases h
    clear hnx c1 h0
    cases nx with
    | none =>
      have hX2 : Lx.flagX (Utf.nums s) = X := hX
      rw [hX2] at HF
      clear hX hX2 hfl
      go_enter Tryz.func32, Tryz.ntmps32
      go_wp2_with fail
      refine (HP.out _).mono ?_
      rintro e9 w1 ⟨rfl, rfl⟩
      go_wp2_with fail
      refine (HG.out _ (HE.out.below (Nat.le_refl _) ((Below.refl _ W).alloc (Nat.le_refl _) _))).mono ?_
      rintro e9 w2 ⟨hb2, hp2⟩
      rcases hp2 with ⟨_, rfl⟩ | ⟨nm, n, h9, _⟩
      · have HBX := Lib.hid (box_kept hb2)
        have HSZ := size_of_alloc hb2
        have HB1 := Lib.hid (below_of_alloc hb2)
        clear hb2
        go_wp2_with fail
        refine (HF.out _ (HE.out.below (Nat.le_refl _) HB1.out)).mono ?_
        intro e9 w3 hp3
        have HP3 := Lib.hid hp3
        obtain ⟨hb3, hp4⟩ := hp3
        have HBX3 := Lib.hid (box_on HBX.out HSZ hb3)
        have HB3 := Lib.hid (HB1.out.trans (hb3.mono HB1.out.size))
        obtain ⟨d0, d1, d2, d3, d4, d5, d6, d7, g0, g1, g2, g3, g4, g5, g6, g7⟩ := box_facts HBX3.out
        rcases hp4 with ⟨k, o, c, hx, rfl⟩ | ⟨t, m, vs, out, hx, rfl, hi, ho⟩
        · have HX := Lib.hid hx
          clear hb3 hx HP3
          unfold tkV
          go_wp2
          (try simp only [Exit.inBlock, Exit.then])
          refine ret_tk rfl W.heap.size _ rfl (set8_blk _ _ _ _ _ _ _ _ _ _ HBX3.out) rfl rfl ?_
          exact ⟨set8_below HB3.out _ (Nat.le_refl _) _ _ _ _ _ _ _ _, .inl ⟨k, _, _, HX.out, rfl⟩⟩
        · obtain ⟨va, vc, rfl⟩ := own_slice ho
          have HX := Lib.hid hx
          have HI := Lib.hid hi
          have HO := Lib.hid (ho.lower (base' := W.heap.size + 1) (by omega))
          clear hb3 hx HP3 hi ho
          unfold tkV
          go_wp2
          (try simp only [Exit.inBlock, Exit.then])
          refine ret_tk rfl W.heap.size _ rfl (set8_blk _ _ _ _ _ _ _ _ _ _ HBX3.out) rfl rfl ?_
          exact ⟨set8_below HB3.out _ (Nat.le_refl _) _ _ _ _ _ _ _ _, .inr ⟨t, m, _, out, HX.out, rfl, HI.out, (own_set8 HO.out (by omega) _ _ _ _ _ _ _ _).lower (by omega)⟩⟩
      · cases h9
    | some p =>
      obtain ⟨nm, n⟩ := p
      have HX : Hid (X = .ok { kind := 9, num := 1, name := nm } n) := Lib.hid hX.symm
      have hn1 : (0 : Int) < (n : Int) := by have := hfl nm n rfl; omega
      clear hX hfl HF
      go_enter Tryz.func32, Tryz.ntmps32
      go_wp2_with fail
      refine (HP.out _).mono ?_
      rintro e9 w1 ⟨rfl, rfl⟩
      go_wp2_with fail
      refine (HG.out _ (HE.out.below (Nat.le_refl _) ((Below.refl _ W).alloc (Nat.le_refl _) _))).mono ?_
      rintro e9 w2 ⟨hb2, hp2⟩
      rcases hp2 with ⟨h9, _⟩ | ⟨nm9, n9, h9, rfl⟩
      · cases h9
      · obtain ⟨rfl, rfl⟩ : nm9 = nm ∧ n9 = n := by injection h9 with h9; injection h9 with h8 h7; exact ⟨h8.symm, h7.symm⟩
        have HBX := Lib.hid (box_kept hb2)
        have HB1 := Lib.hid (below_of_alloc hb2)
        obtain ⟨d0, d1, d2, d3, d4, d5, d6, d7, g0, g1, g2, g3, g4, g5, g6, g7⟩ := box_facts HBX.out
        clear hb2 h9
        go_wp2
        (try simp only [Exit.inBlock, Exit.then])
        refine ret_tk rfl W.heap.size _ rfl (set8_blk _ _ _ _ _ _ _ _ _ _ HBX.out) rfl rfl ?_
        exact tokPost_plain (set8_below HB1.out _ (Nat.le_refl _) _ _ _ _ _ _ _ _) HX.out rfl rfl
  · rw [decide_eq_false c1] at HP
    rw [if_pos c1] at hX
    have HX := Lib.hid hX.symm
    clear hX c1 h0
    go_enter Tryz.func32, Tryz.ntmps32
    go_wp2_with fail
    refine (HP.out _).mono ?_
    rintro e9 w1 ⟨rfl, rfl⟩
    go_wp2
    (try simp only [Exit.inBlock, Exit.then])
    refine ret_tk rfl W.heap.size _ rfl (heap_alloc_new W _) rfl rfl ?_
    exact tokPost_plain ((Below.refl _ _).alloc (Nat.le_refl _) _) HX.out rfl rfl
end Go.Proofs.YtanffablfgnioaaGreatDoor
