/- Edge: the reference. · Edge: the reference's At and Between. · burinlaw12.EdgeTells. -/
import Derived.Test.YtanffablfgnioaaDoorGp3
import Derived.ProofKit
namespace Go.Proofs.YtanffablfgnioaaDoor
open Go.RowKit
set_option linter.unusedVariables false
namespace Eg
/-- What the reference says of a kind at a place of a text. -/
def refT (k : Int) (first last nb na wb wa : Bool) : Bool :=
  if (k == 1) = true then first else if (k == 2) = true then last else if (k == 3) = true then first || nb else if (k == 4) = true then last || na else if (k == 5) = true then wb != wa else if (k == 6) = true then wb == wa else false
theorem side_four (a : Int) (h : -1 ≤ a ∧ a ≤ 255) : (sideN a = 0 ∧ a = -1 ∧ (a == 10) = false ∧ wordB a = false) ∨ (sideN a = 1 ∧ ¬ a = -1 ∧ (a == 10) = true ∧ wordB a = false) ∨ (sideN a = 2 ∧ ¬ a = -1 ∧ (a == 10) = false ∧ wordB a = true) ∨ (sideN a = 3 ∧ ¬ a = -1 ∧ (a == 10) = false ∧ wordB a = false) := by
  by_cases h1 : a = -1
  · subst h1; decide
  by_cases h2 : a = 10
  · subst h2; decide
  have e2 : (a == 10) = false := beq_eq_false_iff_ne.2 h2
  have e : sideN a = if wordB a = true then 2 else 3 := by unfold sideN; rw [if_neg (by omega), if_neg h2]
  by_cases h3 : wordB a = true
  · rw [if_pos h3] at e; exact .inr (.inr (.inl ⟨e, h1, e2, h3⟩))
  · rw [if_neg h3] at e; exact .inr (.inr (.inr ⟨e, h1, e2, by simpa using h3⟩))
theorem refT_is (k : Int) (h1 : 1 ≤ k) (h6 : k ≤ 6) (a b : Int) (ha : -1 ≤ a ∧ a ≤ 255) (hb : -1 ≤ b ∧ b ≤ 255) :
    refT k (decide (a = -1)) (decide (b = -1)) (a == 10) (b == 10) (wordB a) (wordB b) = bitB (betN a b) k := by
  unfold betN
  rcases side_four a ha with ⟨e1, e2, e3, e4⟩ | ⟨e1, e2, e3, e4⟩ | ⟨e1, e2, e3, e4⟩ | ⟨e1, e2, e3, e4⟩ <;> rcases side_four b hb with ⟨f1, f2, f3, f4⟩ | ⟨f1, f2, f3, f4⟩ | ⟨f1, f2, f3, f4⟩ | ⟨f1, f2, f3, f4⟩ <;>
    (rw [e1, e3, e4, f1, f3, f4]
     first | rw [decide_eq_true e2] | rw [decide_eq_false e2]
     first | rw [decide_eq_true f2] | rw [decide_eq_false f2]
     rcases (show k = 1 ∨ k = 2 ∨ k = 3 ∨ k = 4 ∨ k = 5 ∨ k = 6 by omega) with rfl | rfl | rfl | rfl | rfl | rfl <;> decide)
theorem byteL_bd {z : List Int} (hz : Utf.Bytes z) (i : Int) : -1 ≤ byteL z i ∧ byteL z i ≤ 255 := by
  unfold byteL
  split
  · omega
  · rename_i h
    have hi : i.toNat < z.length := by omega
    have := hz (z[i.toNat]) (List.getElem_mem hi)
    rw [List.getElem?_eq_getElem hi]
    show -1 ≤ z[i.toNat] ∧ _
    simp only [Option.getD_some]
    omega
theorem byteL_none {z : List Int} (hz : Utf.Bytes z) (i : Int) : byteL z i = -1 ↔ (i < 0 ∨ (z.length : Int) ≤ i) := by
  constructor
  · intro h
    refine Classical.byContradiction fun hn => ?_
    unfold byteL at h
    rw [if_neg hn] at h
    have hi : i.toNat < z.length := by omega
    have := hz (z[i.toNat]) (List.getElem_mem hi)
    rw [List.getElem?_eq_getElem hi] at h
    simp only [Option.getD_some] at h
    omega
  · intro h; unfold byteL; rw [if_pos h]
/-- The reference's answer is the table's. -/
theorem ref_is {z : List Int} (hz : Utf.Bytes z) (k i : Int) (h0 : 0 ≤ i) (h1 : i ≤ z.length) :
    refT k (decide (i = 0)) (decide (i = z.length)) (byteL z (i - 1) == 10) (byteL z i == 10) (wordB (byteL z (i - 1))) (wordB (byteL z i)) = holdL k z i := by
  unfold holdL
  by_cases hk : 1 ≤ k ∧ k ≤ 6
  · have e1 : decide (i = 0) = decide (byteL z (i - 1) = -1) := by rw [decide_eq_decide, byteL_none hz]; omega
    have e2 : decide (i = z.length) = decide (byteL z i = -1) := by rw [decide_eq_decide, byteL_none hz]; omega
    rw [e1, e2, refT_is k hk.1 hk.2 _ _ (byteL_bd hz _) (byteL_bd hz _), decide_eq_true hk, Bool.true_and]
    unfold atL
    rw [if_neg (by omega)]
  · rw [decide_eq_false hk, Bool.false_and]
    unfold refT
    have hn : ∀ c : Int, 1 ≤ c → c ≤ 6 → ¬ (k == c) = true := fun c c1 c2 => by rw [beq_iff_eq]; omega
    rw [if_neg (hn 1 (by omega) (by omega)), if_neg (hn 2 (by omega) (by omega)), if_neg (hn 3 (by omega) (by omega)), if_neg (hn 4 (by omega) (by omega)), if_neg (hn 5 (by omega) (by omega)), if_neg (hn 6 (by omega) (by omega))]
/-- The bits below a place, together. -/
def ps (x : Int) : Nat → Int
  | 0 => 0
  | 1 => 0
  | k + 2 => ps x (k + 1) + if bitB x (k + 1 : Nat) = true then 2 ^ (k + 1) else 0
theorem ps_all : ∀ x ∈ vals, ps x 7 = x := by decide +kernel
theorem ps_bd : ∀ x ∈ vals, ∀ k : Nat, k < 8 → 0 ≤ ps x k ∧ ps x k ≤ 127 := by decide +kernel
theorem ps_succ (x : Int) (k : Nat) (h : 1 ≤ k) : ps x (k + 1) = ps x k + if bitB x k = true then 2 ^ k else 0 := by
  obtain ⟨j, rfl⟩ : ∃ j, k = j + 1 := ⟨k - 1, by omega⟩
  rfl
end Eg
set_option maxHeartbeats 1000000 in
theorem wordR_any (c : Int) (w : World) : Calls Tryd.prog 10 #[.int .i64 c] w fun e w' => e = .returned (.bool (Eg.wordB c)) ∧ w = w' := by
  go_enter Tryd.func10, Tryd.ntmps10
  go_wp2
  all_goals
    go_ret
    refine ⟨ret_bool ?_, rfl⟩
    unfold Eg.wordB
    first
      | (symm; rw [decide_eq_true_eq]; omega)
      | (symm; rw [decide_eq_false_iff_not]; omega)
      | (rw [decide_eq_decide]; omega)
      | (rw [Bool.eq_iff_iff, decide_eq_true_eq]; simp; omega)
set_option maxRecDepth 100000 in
set_option maxHeartbeats 4000000 in
theorem holdsR_any (k : Int) (s : ByteArray) (hs : s.size ≤ 140737488351232) (i : Int) (w : World) : Calls Tryd.prog 14 #[.int .i64 k, .string s, .int .i64 i] w fun e w' => e = .returned (.bool (Eg.holdL k (Utf.nums s) i)) ∧ w = w' := by
  have HW := Lib.hid wordR_any
  have hl := Utf.nums_length s
  by_cases h0 : i < 0
  · have e : Eg.holdL k (Utf.nums s) i = false := by unfold Eg.holdL Eg.atL; rw [if_pos (.inl h0)]; simp [Eg.bitB]
    rw [e]
    clear e
    go_enter Tryd.func14, Tryd.ntmps14
    go_wp2
    go_ret
    exact ⟨rfl, rfl⟩
  by_cases h1 : (s.size : Int) < i
  · have e : Eg.holdL k (Utf.nums s) i = false := by unfold Eg.holdL Eg.atL; rw [if_pos (.inr (by omega))]; simp [Eg.bitB]
    rw [e]
    clear e
    go_enter Tryd.func14, Tryd.ntmps14
    go_wp2
    go_ret
    exact ⟨rfl, rfl⟩
  have HR := Lib.hid (Eg.ref_is (Utf.nums_bytes s) k i (by omega) (by omega))
  obtain ⟨n, rfl⟩ : ∃ n : Nat, i = (n : Int) := ⟨i.toNat, by omega⟩
  obtain ⟨R, hR⟩ : ∃ R, Eg.holdL k (Utf.nums s) n = R := ⟨_, rfl⟩
  rw [hR] at HR ⊢
  clear hR
  rw [hl] at HR
  have hat : ∀ j (h : j < s.size), Eg.byteL (Utf.nums s) (j : Int) = (s[j].toNat : Int) := fun j h => by
    unfold Eg.byteL
    rw [if_neg (by omega), ← Utf.nums_at s j h]; rfl
  have hno : ∀ i : Int, (i < 0 ∨ (s.size : Int) ≤ i) → Eg.byteL (Utf.nums s) i = -1 := fun i h => by
    unfold Eg.byteL; rw [if_pos (by rw [hl]; exact h)]
  have hw0 : Eg.wordB (-1) = false := by decide
  have hw1 : ((-1 : Int) == 10) = false := by decide
  by_cases hf : n = 0
  · subst hf
    by_cases hn : s.size = 0
    · rw [hno _ (.inl (by omega)), hno _ (.inr (by omega)), hw0, hw1, decide_eq_true (by omega), decide_eq_true (by omega)] at HR
      clear hat hno hw0 hw1 hl
      go_enter Tryd.func14, Tryd.ntmps14
      go_wp2
      all_goals
        go_ret
        refine ⟨ret_bool ?_, rfl⟩
        rw [← HR.out]
        unfold Eg.refT
        simp only [*, if_true, Bool.false_eq_true, if_false]
        try rfl
    · have h2 : 0 < s.size := by omega
      have hb : s[0].toNat < 256 := UInt8.toNat_lt _
      rw [hno _ (.inl (by omega)), hw0, hw1, decide_eq_true (by omega), decide_eq_false (by omega)] at HR
      have e9 := hat 0 h2
      have g0 : ((0 : Int) == (s.size : Int)) = false := by rw [beq_eq_false_iff_ne]; omega
      obtain ⟨c, hc⟩ : ∃ c : Int, (s[0].toNat : Int) = c := ⟨_, rfl⟩
      rw [e9, hc] at HR
      clear hat hno hw0 hw1 hl e9
      go_enter Tryd.func14, Tryd.ntmps14
      go_wp2_with fail
      refine (HW.out c _).mono ?_
      rintro e wa ⟨rfl, rfl⟩
      obtain ⟨B, hB⟩ : ∃ B, Eg.wordB c = B := ⟨_, rfl⟩
      rw [hB] at HR ⊢
      clear hB
      go_wp2
      all_goals
        go_ret
        refine ⟨ret_bool ?_, rfl⟩
        rw [← HR.out]
        unfold Eg.refT
        simp only [*, if_true, Bool.false_eq_true, if_false]
        try first | rfl | (cases B <;> rfl)
  · obtain ⟨m, hmn⟩ : ∃ m, n = m + 1 := ⟨n - 1, by omega⟩
    have hm : m < s.size := by omega
    have hw : IntKind.i64.wrap ((n : Int) - 1) = (m : Int) := by rw [IntKind.wrap_i64]; omega
    have e8 := hat m hm
    rw [show ((n : Int) - 1) = (m : Int) by omega] at HR
    have hb : s[m].toNat < 256 := UInt8.toNat_lt _
    have g2 : ((n : Int) == 0) = false := by rw [beq_eq_false_iff_ne]; omega
    obtain ⟨c, hc⟩ : ∃ c : Int, (s[m].toNat : Int) = c := ⟨_, rfl⟩
    rw [e8, hc] at HR
    by_cases hn : n = s.size
    · rw [hno (n : Int) (.inr (by omega)), hw0, hw1, decide_eq_false (by omega), decide_eq_true (by omega)] at HR
      have g1 : ((n : Int) == (s.size : Int)) = true := by rw [beq_iff_eq]; omega
      have n0 : (0 : Int) ≤ (n : Int) := by omega
      have n1 : (n : Int) ≤ (s.size : Int) := by omega
      have n2 : ¬ (n : Int) = 0 := by omega
      clear hat hno hw0 hw1 hl e8 hn hmn hf
      go_enter Tryd.func14, Tryd.ntmps14
      go_wp2_with fail
      refine (HW.out c _).mono ?_
      rintro e wa ⟨rfl, rfl⟩
      obtain ⟨B, hB⟩ : ∃ B, Eg.wordB c = B := ⟨_, rfl⟩
      rw [hB] at HR ⊢
      clear hB
      go_wp2
      all_goals
        go_ret
        refine ⟨ret_bool ?_, rfl⟩
        rw [← HR.out]
        unfold Eg.refT
        simp only [*, if_true, Bool.false_eq_true, if_false]
        try first | rfl | (cases B <;> rfl) | (cases B <;> cases D <;> rfl)
    · have hm1 : n < s.size := by omega
      have e7 := hat n hm1
      have hb1 : s[n].toNat < 256 := UInt8.toNat_lt _
      obtain ⟨d, hd⟩ : ∃ d : Int, (s[n].toNat : Int) = d := ⟨_, rfl⟩
      rw [e7, hd, decide_eq_false (by omega), decide_eq_false (by omega)] at HR
      have g1 : ((n : Int) == (s.size : Int)) = false := by rw [beq_eq_false_iff_ne]; omega
      have n0 : (0 : Int) ≤ (n : Int) := by omega
      have n2 : ¬ (n : Int) = 0 := by omega
      clear hat hno hw0 hw1 hl e8 e7 hn hmn hf
      go_enter Tryd.func14, Tryd.ntmps14
      go_wp2_with fail
      refine (HW.out c _).mono ?_
      rintro e wa ⟨rfl, rfl⟩
      obtain ⟨B, hB⟩ : ∃ B, Eg.wordB c = B := ⟨_, rfl⟩
      rw [hB] at HR ⊢
      clear hB
      go_wp2_with fail
      refine (HW.out d _).mono ?_
      rintro e wa ⟨rfl, rfl⟩
      obtain ⟨D, hD⟩ : ∃ D, Eg.wordB d = D := ⟨_, rfl⟩
      rw [hD] at HR ⊢
      clear hD
      go_wp2
      all_goals
        go_ret
        refine ⟨ret_bool ?_, rfl⟩
        rw [← HR.out]
        unfold Eg.refT
        simp only [*, if_true, Bool.false_eq_true, if_false]
        try first | rfl | (cases B <;> rfl) | (cases B <;> cases D <;> rfl)
end Go.Proofs.YtanffablfgnioaaDoor
namespace Go.Proofs.YtanffablfgnioaaDoor
open Go.RowKit
set_option linter.unusedVariables false
namespace Eg
theorem holdL_in {k : Nat} (h1 : 1 ≤ k) (h6 : k ≤ 6) (z : List Int) (i : Int) : holdL k z i = bitB (atL z i) k := by unfold holdL; rw [decide_eq_true (by omega), Bool.true_and]
theorem pow_bd : ∀ k : Nat, k < 8 → (2 : Int) ^ k ≤ 128 ∧ 0 < (2 : Int) ^ k := by decide +kernel
end Eg
set_option maxRecDepth 100000 in
set_option maxHeartbeats 2000000 in
theorem atR_any (s : ByteArray) (hs : s.size ≤ 140737488351232) (i : Int) (W : World) : Calls Tryd.prog 12 #[.string s, .int .i64 i] W fun e w' => e = .returned (.int .i64 (Eg.atL (Utf.nums s) i)) ∧ W = w' := by
  have HH := Lib.hid (fun k w => holdsR_any k s hs i w)
  have HM := Lib.hid (Eg.atL_mem (Utf.nums s) i)
  have HL := Lib.hid (fun (k : Nat) (h1 : 1 ≤ k) (h6 : k ≤ 6) => Eg.holdL_in h1 h6 (Utf.nums s) i)
  obtain ⟨X, hX⟩ : ∃ X, Eg.atL (Utf.nums s) i = X := ⟨_, rfl⟩
  rw [hX] at HM HL ⊢
  clear hX
  go_enter Tryd.func12, Tryd.ntmps12
  go_wp2
  go_loopw [5, 6, 7] (fun o b kv wr => ∃ k : Nat, 1 ≤ k ∧ k ≤ 7 ∧ kv = .int .i64 (k : Int) ∧ o = .int .i64 (Eg.ps X k) ∧ b = .int .i64 (2 ^ k) ∧ W = wr) (fun _ _ kv _ => 7 - (intOf kv).toNat)
  case atStart => exact ⟨1, by omega, by omega, rfl, rfl, rfl, rfl⟩
  case round =>
    obtain ⟨k, h1, h7, rfl, rfl, rfl, rfl⟩ := hrel
    by_cases hk : k ≤ 6
    · have hk6 : (k : Int) ≤ 6 := by omega
      obtain ⟨p0, p1⟩ := Eg.ps_bd X HM.out k (by omega)
      obtain ⟨q1, q0⟩ := Eg.pow_bd k (by omega)
      obtain ⟨H, hH⟩ : ∃ H, Eg.holdL (k : Int) (Utf.nums s) i = H := ⟨_, rfl⟩
      have HC := Lib.hid (HH.out (k : Int) W)
      rw [hH] at HC
      have HS : Hid (Eg.ps X (k + 1) = Eg.ps X k + if H = true then 2 ^ k else 0) := Lib.hid (by rw [Eg.ps_succ X k h1, ← hH, HL.out k h1 hk])
      have HP : Hid ((2 : Int) ^ (k + 1) = 2 ^ k * 2) := Lib.hid (Int.pow_succ 2 k)
      obtain ⟨P, hP⟩ : ∃ P : Int, 2 ^ k = P := ⟨_, rfl⟩
      obtain ⟨O, hO⟩ : ∃ O : Int, Eg.ps X k = O := ⟨_, rfl⟩
      rw [hP] at HP HS q0 q1 ⊢
      rw [hO] at HS p0 p1 ⊢
      have w1 : IntKind.i64.wrap (O + P) = O + P := by rw [IntKind.wrap_i64]; omega
      have w2 : IntKind.i64.wrap (P * 2) = P * 2 := by rw [IntKind.wrap_i64]; omega
      have w3 : IntKind.i64.wrap ((k : Int) + 1) = ((k + 1 : Nat) : Int) := by rw [IntKind.wrap_i64]; omega
      clear hP hO hH
      go_wp2_with fail
      refine HC.out.mono ?_
      rintro e wa ⟨rfl, rfl⟩
      cases H
      · have HS2 : Hid (Eg.ps X (k + 1) = O) := Lib.hid (by rw [HS.out]; simp)
        go_wp2
        go_roundw
        case rel => exact ⟨k + 1, by omega, by omega, rfl, by rw [HS2.out], by rw [HP.out], by first | exact trivial | rfl⟩
        case measure => simp [intOf]; omega
      · have HS2 : Hid (Eg.ps X (k + 1) = O + P) := Lib.hid (by rw [HS.out]; simp)
        go_wp2
        go_roundw
        case rel => exact ⟨k + 1, by omega, by omega, rfl, by rw [HS2.out], by rw [HP.out], by first | exact trivial | rfl⟩
        case measure => simp [intOf]; omega
    · obtain rfl : k = 7 := by omega
      have HS : Hid (Eg.ps X 7 = X) := Lib.hid (Eg.ps_all X HM.out)
      go_wp2
      go_ret
      exact ⟨ret_int HS.out, rfl⟩
theorem oneE_text (w : World) (g cap : Nat) (c : Int) (h : 0 ≤ c ∧ c < 256) (hc : w.cell? ⟨g, 0, none⟩ = some (.int .u8 c)) : (convert 35 9 (.slice (some ⟨g, 0, none⟩) 1 cap)).run Tryd.prog w = .ok (.string ⟨#[UInt8.ofNat c.toNat]⟩) w := by
  have h9 := run_convert_bytes_back (P := Tryd.prog) w 35 9 5 ⟨g, 0, none⟩ cap [UInt8.ofNat c.toNat] (by kernel_rfl) (by kernel_rfl) (by kernel_rfl) (fun j hj => by
    have e : j = 0 := by simpa using hj
    subst e
    have h3 : ((([UInt8.ofNat c.toNat] : List UInt8)[0]).toNat : Int) = c := by
      show ((UInt8.ofNat c.toNat).toNat : Int) = c
      rw [UInt8.toNat_ofNat']
      omega
    rw [h3, Addr.add_lit]
    exact hc)
  exact h9
theorem oneE_nums {c : Int} (h : 0 ≤ c ∧ c < 256) : Utf.nums ⟨#[UInt8.ofNat c.toNat]⟩ = [c] := by
  show [((UInt8.ofNat c.toNat).toNat : Int)] = [c]
  rw [UInt8.toNat_ofNat', show ((c.toNat % 2 ^ 8 : Nat) : Int) = c by omega]
theorem side_out {c : Int} (h : ¬ (0 ≤ c ∧ c ≤ 255)) : Eg.sideN c = 0 := by unfold Eg.sideN; rw [if_pos (by omega)]
theorem bet_bb (a b : Int) : Eg.atL [a, b] 1 = Eg.betN a b := rfl
theorem bet_bo (a : Int) {b : Int} (h : ¬ (0 ≤ b ∧ b ≤ 255)) : Eg.atL [a] 1 = Eg.betN a b := by
  show Eg.betN a (-1) = _
  unfold Eg.betN; rw [side_out h]; rfl
theorem bet_ob {a : Int} (b : Int) (h : ¬ (0 ≤ a ∧ a ≤ 255)) : Eg.atL [b] 0 = Eg.betN a b := by
  show Eg.betN (-1) b = _
  unfold Eg.betN; rw [side_out h]; rfl
theorem bet_oo {a b : Int} (h : ¬ (0 ≤ a ∧ a ≤ 255)) (h2 : ¬ (0 ≤ b ∧ b ≤ 255)) : Eg.atL [] 0 = Eg.betN a b := by
  show Eg.betN (-1) (-1) = _
  unfold Eg.betN; rw [side_out h, side_out h2]; rfl
set_option maxRecDepth 100000 in
set_option maxHeartbeats 2000000 in
theorem betR_any (a b : Int) (W : World) : Calls Tryd.prog 8 #[.int .i64 a, .int .i64 b] W fun e w' => e = .returned (.int .i64 (Eg.betN a b)) ∧ Below W.heap.size W w' := by
  have HAT := Lib.hid atR_any
  have cv : ∀ c : Int, 0 ≤ c ∧ c < 256 → ∃ T : ByteArray, Utf.nums T = [c] ∧ T.size = 1 ∧ ∀ w : World, (convert 35 9 (.slice (some ⟨w.heap.size, 0, none⟩) 1 1)).run Tryd.prog (w.alloc (.cells #[.int .u8 c] 5)) = .ok (.string T) (w.alloc (.cells #[.int .u8 c] 5)) := fun c hc =>
    ⟨⟨#[UInt8.ofNat c.toNat]⟩, oneE_nums hc, rfl, fun w => oneE_text _ w.heap.size 1 _ hc (by simp)⟩
  by_cases ha : 0 ≤ a ∧ a ≤ 255
  · obtain ⟨a0, a1⟩ := ha
    obtain ⟨S, hS, hS1, cvS⟩ := cv a ⟨a0, by omega⟩
    have u1 : IntKind.u8.wrap a = a := by rw [IntKind.wrap_u8]; omega
    by_cases hb : 0 ≤ b ∧ b ≤ 255
    · obtain ⟨b0, b1⟩ := hb
      obtain ⟨T, hT, hT1, cvT⟩ := cv b ⟨b0, by omega⟩
      have u2 : IntKind.u8.wrap b = b := by rw [IntKind.wrap_u8]; omega
      have HN : Hid (Eg.atL (Utf.nums (S ++ T)) 1 = Eg.betN a b) := Lib.hid (by rw [nums_append, hS, hT]; exact bet_bb a b)
      have hsz : (S ++ T).size ≤ 140737488351232 := by rw [ByteArray.size_append]; omega
      have cvT2 := cvT (W.alloc (.cells #[.int .u8 a] 5))
      rw [show (W.alloc (.cells #[.int .u8 a] 5)).heap.size = W.heap.size + 1 by simp] at cvT2
      clear cv hS hT cvT
      go_enter Tryd.func8, Tryd.ntmps8
      go_wp2_with fail
      refine (HAT.out (S ++ T) hsz 1 _).mono ?_
      rintro e wa ⟨rfl, rfl⟩
      go_wp2
      go_ret
      exact ⟨ret_int HN.out, ((Below.refl _ _).alloc (Nat.le_refl _) _).alloc (by simp) _⟩
    · have HN : Hid (Eg.atL (Utf.nums S) 1 = Eg.betN a b) := Lib.hid (by rw [hS]; exact bet_bo a hb)
      have hsz : S.size ≤ 140737488351232 := by omega
      clear cv hS
      by_cases hb0 : b < 0
      · clear hb
        go_enter Tryd.func8, Tryd.ntmps8
        go_wp2_with fail
        refine (HAT.out S hsz 1 _).mono ?_
        rintro e wa ⟨rfl, rfl⟩
        go_wp2
        go_ret
        exact ⟨ret_int HN.out, (Below.refl _ _).alloc (Nat.le_refl _) _⟩
      · have b0 : 0 ≤ b := by omega
        have b1 : ¬ b ≤ 255 := by omega
        clear hb
        go_enter Tryd.func8, Tryd.ntmps8
        go_wp2_with fail
        refine (HAT.out S hsz 1 _).mono ?_
        rintro e wa ⟨rfl, rfl⟩
        go_wp2
        go_ret
        exact ⟨ret_int HN.out, (Below.refl _ _).alloc (Nat.le_refl _) _⟩
  · by_cases hb : 0 ≤ b ∧ b ≤ 255
    · obtain ⟨b0, b1⟩ := id hb
      obtain ⟨T, hT, hT1, cvT⟩ := cv b ⟨b0, by omega⟩
      have u2 : IntKind.u8.wrap b = b := by rw [IntKind.wrap_u8]; omega
      have HN : Hid (Eg.atL (Utf.nums (ByteArray.empty ++ T)) 0 = Eg.betN a b) := Lib.hid (by rw [nums_append, hT]; exact bet_ob b ha)
      have hsz : (ByteArray.empty ++ T).size ≤ 140737488351232 := by rw [ByteArray.size_append, hT1]; decide
      clear cv hT hb
      by_cases ha0 : a < 0
      · clear ha
        go_enter Tryd.func8, Tryd.ntmps8
        go_wp2_with fail
        refine (HAT.out (ByteArray.empty ++ T) hsz 0 _).mono ?_
        rintro e wa ⟨rfl, rfl⟩
        go_wp2
        go_ret
        exact ⟨ret_int HN.out, (Below.refl _ _).alloc (Nat.le_refl _) _⟩
      · have a0 : 0 ≤ a := by omega
        have a1 : ¬ a ≤ 255 := by omega
        clear ha
        go_enter Tryd.func8, Tryd.ntmps8
        go_wp2_with fail
        refine (HAT.out (ByteArray.empty ++ T) hsz 0 _).mono ?_
        rintro e wa ⟨rfl, rfl⟩
        go_wp2
        go_ret
        exact ⟨ret_int HN.out, (Below.refl _ _).alloc (Nat.le_refl _) _⟩
    · have HN : Hid (Eg.atL (Utf.nums ⟨#[]⟩) 0 = Eg.betN a b) := Lib.hid (bet_oo ha hb)
      have hsz : (⟨#[]⟩ : ByteArray).size ≤ 140737488351232 := by decide
      clear cv
      have ha' : a < 0 ∨ (0 ≤ a ∧ ¬ a ≤ 255) := by omega
      have hb' : b < 0 ∨ (0 ≤ b ∧ ¬ b ≤ 255) := by omega
      clear ha hb
      rcases ha' with a0 | ⟨a0, a1⟩ <;> rcases hb' with b0 | ⟨b0, b1⟩
      all_goals
        go_enter Tryd.func8, Tryd.ntmps8
        go_wp2_with fail
        refine (HAT.out ⟨#[]⟩ hsz 0 _).mono ?_
        rintro e wa ⟨rfl, rfl⟩
        go_wp2
        go_ret
        exact ⟨ret_int HN.out, Below.refl _ _⟩
end Go.Proofs.YtanffablfgnioaaDoor
namespace Go.Proofs.YtanffablfgnioaaDoor
open Go.RowKit
set_option linter.unusedVariables false
set_option maxRecDepth 100000 in
set_option maxHeartbeats 2000000 in
theorem walkEdgeTells (W : World) (a b : Int) (s : ByteArray) (ha : (Lit.int .i64 a).wf = true) (hb : (Lit.int .i64 b).wf = true) (hs : s.size ≤ 140737488351232) (h : EvE W) :
    Calls Tryd.prog 3 #[.int .i64 a, .int .i64 b, .string s] W fun e w' => e = .returned (.bool true) ∧ Below W.heap.size W w' := by
  have HE := Lib.hid h
  clear ha hb h
  go_enter Tryd.func3, Tryd.ntmps3
  go_wp2_with fail
  refine (between_edge a b W HE.out).mono ?_
  rintro e w1 ⟨rfl, n1, rfl⟩
  obtain ⟨w1, hw1⟩ : ∃ w1, W.drewN n1 = w1 := ⟨_, rfl⟩
  have B1 : Hid (Below W.heap.size W w1) := Lib.hid (by rw [← hw1]; exact below_drewE (Below.refl _ _) n1)
  rw [hw1]
  clear hw1
  go_wp2_with fail
  refine (betR_any a b w1).mono ?_
  rintro e w2 ⟨rfl, hb2⟩
  have B2 := Lib.hid (B1.out.trans (hb2.mono B1.out.size))
  clear hb2
  obtain ⟨X, hX⟩ : ∃ X, Eg.betN a b = X := ⟨_, rfl⟩
  rw [hX]
  clear hX
  go_wp2_with fail
  refine (word_any a w2).mono ?_
  rintro e w3 ⟨rfl, rfl⟩
  go_wp2_with fail
  refine (wordR_any a w2).mono ?_
  rintro e w3 ⟨rfl, rfl⟩
  obtain ⟨X2, hX⟩ : ∃ X, Eg.wordB a = X := ⟨_, rfl⟩
  rw [hX]
  clear hX
  have E2 := Lib.hid (HE.out.below B2.out)
  go_wp2_with fail
  refine (atE_any s hs b w2 E2.out).mono ?_
  rintro e w4 ⟨rfl, n4, rfl⟩
  obtain ⟨w4, hw4⟩ : ∃ w4, w2.drewN n4 = w4 := ⟨_, rfl⟩
  have B4 : Hid (Below W.heap.size W w4) := Lib.hid (by rw [← hw4]; exact below_drewE B2.out n4)
  rw [hw4]
  clear hw4
  go_wp2_with fail
  refine (atR_any s hs b w4).mono ?_
  rintro e w5 ⟨rfl, rfl⟩
  obtain ⟨X3, hX⟩ : ∃ X, Eg.atL (Utf.nums s) b = X := ⟨_, rfl⟩
  rw [hX]
  clear hX
  have E4 := Lib.hid (HE.out.below B4.out)
  go_wp2_with fail
  refine (holdsE_any a s hs b w4 E4.out).mono ?_
  rintro e w6 ⟨rfl, n6, rfl⟩
  obtain ⟨w6, hw6⟩ : ∃ w6, w4.drewN n6 = w6 := ⟨_, rfl⟩
  have B6 : Hid (Below W.heap.size W w6) := Lib.hid (by rw [← hw6]; exact below_drewE B4.out n6)
  rw [hw6]
  clear hw6
  go_wp2_with fail
  refine (holdsR_any a s hs b w6).mono ?_
  rintro e w7 ⟨rfl, rfl⟩
  obtain ⟨X4, hX⟩ : ∃ X, Eg.holdL a (Utf.nums s) b = X := ⟨_, rfl⟩
  rw [hX]
  clear hX
  have E6 := Lib.hid (HE.out.below B6.out)
  go_wp2_with fail
  refine (works12_any w6 E6.out).mono ?_
  rintro e w8 ⟨rfl, n8, rfl⟩
  have B8 := Lib.hid (below_drewE B6.out n8)
  go_wp2
  go_ret
  exact ⟨rfl, B8.out⟩
end Go.Proofs.YtanffablfgnioaaDoor
