/- The reference's show (burinref10): numbers, assertions. · The reference's show (burinref10): hex, one. · The landed show: write. -/
import Derived.Test.YtecmeeobabadeaaDoorGp7
import Derived.Laws.BytesArg
import Derived.Deep.RegionWith
import Derived.Test.YtecmeeobabadeaaDoorGp4
import Derived.Test.YtecmeeobabadeaaDoorGp5
namespace Go.Proofs.YtecmeeobabadeaaDoor
open Go.RowKit
set_option linter.unusedVariables false
/-- A number's digits. -/
def numL (b n : Nat) : List Int := if h : n < b ∨ b < 2 then [Br.hd (n % b)] else numL b (n / b) ++ [Br.hd (n % b)]
termination_by n
decreasing_by
  have h1 : 2 ≤ b := by omega
  exact Nat.div_lt_self (by omega) h1
theorem numL_small {b n : Nat} (h : n < b) : numL b n = [Br.hd n] := by rw [numL, dif_pos (.inl h), Nat.mod_eq_of_lt h]
theorem numL_big {b n : Nat} (h : ¬ n < b) (hb : 2 ≤ b) : numL b n = numL b (n / b) ++ [Br.hd (n % b)] := by rw [numL, dif_neg (by omega)]
theorem numL_hex (n : Nat) : numL 16 n = Br.hexL n := by
  induction n using Nat.strongRecOn with
  | _ n ih =>
    by_cases h : n < 16
    · rw [numL_small h, Br.hexL_small h]
    · rw [numL_big h (by omega), Br.hexL_big h, ih _ (by omega)]
theorem numL_dec (n : Nat) (hn : n < 1000000) : numL 10 n = Lx.decL n := by
  induction n using Nat.strongRecOn with
  | _ n ih =>
    have e := Lx.decL_step n hn
    by_cases h : n < 10
    · rw [numL_small h, e]
      unfold Lx.decP Br.hd
      rw [if_pos (by omega), if_pos (by omega), Nat.mod_eq_of_lt h]
      rfl
    · have e1 : Br.hd (n % 10) = 48 + ((n % 10 : Nat) : Int) := by unfold Br.hd; rw [if_pos (by omega)]
      have e2 : Lx.decP (n / 10) = Lx.decL (n / 10) := by unfold Lx.decP; rw [if_neg (by omega)]
      rw [numL_big h (by omega), e, ih _ (by omega) (by omega), e1, e2]
theorem numL_len (b n : Nat) (hb : 2 ≤ b) : 1 ≤ (numL b n).length ∧ (numL b n).length ≤ n + 1 := by
  induction n using Nat.strongRecOn with
  | _ n ih =>
    by_cases h : n < b
    · rw [numL_small h]; simp
    · rw [numL_big h hb, List.length_append]
      have h2 : n / b < n := Nat.div_lt_self (by omega) hb
      have := ih _ h2
      simp
      omega
/-- One byte as a text. -/
theorem one_text (w : World) (g cap : Nat) (c : Int) (h : 0 ≤ c ∧ c < 256) (hc : w.cell? ⟨g, 0, none⟩ = some (.int .u8 c)) : (convert 35 9 (.slice (some ⟨g, 0, none⟩) 1 cap)).run Tryd.prog w = .ok (.string ⟨#[UInt8.ofNat c.toNat]⟩) w := by
  have h9 := run_convert_bytes_back (P := Tryd.prog) w 35 9 5 ⟨g, 0, none⟩ cap [UInt8.ofNat c.toNat] (by kernel_rfl) (by kernel_rfl) (by kernel_rfl) (fun j hj => by
    have e : j = 0 := by simpa using hj
    subst e
    have h3 : ((([UInt8.ofNat c.toNat] : List UInt8)[0]).toNat : Int) = c := by
      show ((UInt8.ofNat c.toNat).toNat : Int) = c
      rw [UInt8.toNat_ofNat']
      omega
    rw [h3, Addr.add_lit]
    exact hc)
  exact h9
theorem one_nums {c : Int} (h : 0 ≤ c ∧ c < 256) : Utf.nums ⟨#[UInt8.ofNat c.toNat]⟩ = [c] := by
  show [((UInt8.ofNat c.toNat).toNat : Int)] = [c]
  rw [UInt8.toNat_ofNat', show ((c.toNat % 2 ^ 8 : Nat) : Int) = c by omega]
set_option maxRecDepth 100000 in
set_option maxHeartbeats 4000000 in
theorem aboutR_any (W : World) (n : Int) (h : 1 ≤ n ∧ n ≤ 6) : Calls Tryd.prog 22 #[.int .i64 n] W fun e w' => ∃ T : ByteArray, e = .returned (.string T) ∧ Utf.nums T = Sh.aboutL n ∧ W = w' := by
  rcases (show n = 1 ∨ n = 2 ∨ n = 3 ∨ n = 4 ∨ n = 5 ∨ n = 6 by omega) with rfl | rfl | rfl | rfl | rfl | rfl
  all_goals
    go_enter Tryd.func22, Tryd.ntmps22
    go_wp2
    go_ret
    exact ⟨_, rfl, by decide +kernel, rfl⟩
set_option maxRecDepth 100000 in
set_option maxHeartbeats 4000000 in
theorem numR_any (b : Nat) (hb : 2 ≤ b ∧ b ≤ 16) (n : Nat) : n ≤ 2000000 → ∀ W : World, Calls Tryd.prog 43 #[.int .i64 (n : Int), .int .i64 (b : Int)] W fun e w' => ∃ T : ByteArray, e = .returned (.string T) ∧ Utf.nums T = numL b n ∧ Below W.heap.size W w' := by
  induction n using Nat.strongRecOn with
  | _ n ih =>
    intro hn W
    obtain ⟨d, hd⟩ : ∃ d : Nat, n % b = d := ⟨_, rfl⟩
    have hdb : d < b := by rw [← hd]; exact Nat.mod_lt _ (by omega)
    have hrem : (n : Int).tmod (b : Int) = (d : Int) := by rw [← hd, Int.tmod_eq_emod_of_nonneg (by omega)]; rfl
    obtain ⟨m, hm⟩ : ∃ m, n / b = m := ⟨_, rfl⟩
    have hmn : m ≤ n := by rw [← hm]; exact Nat.div_le_self n b
    have hquo : (n : Int).tdiv (b : Int) = (m : Int) := by rw [← hm, Int.tdiv_eq_ediv_of_nonneg (by omega)]; rfl
    have hq2 : IntKind.i64.wrap ((n : Int).tdiv (b : Int)) = (m : Int) := by rw [hquo, IntKind.wrap_i64]; omega
    have hbz : ¬ (b : Int) = 0 := by omega
    have hbz2 : ((b : Int) == 0) = false := by rw [beq_eq_false_iff_ne]; omega
    have hc : 0 ≤ Br.hd d ∧ Br.hd d < 256 := by have := Br.hd_bd (d := d) (by omega); omega
    by_cases h9 : 9 < d
    · have h9' : (9 : Int) < (d : Int) := by omega
      have e1 : IntKind.u8.wrap ((97 : Int) + (d : Int) - 10) = 87 + (d : Int) := by rw [IntKind.wrap_u8]; omega
      have hCC : (87 : Int) + (d : Int) = Br.hd d := by unfold Br.hd; rw [if_neg (by omega)]
      have hcC : 0 ≤ (87 : Int) + (d : Int) ∧ (87 : Int) + (d : Int) < 256 := by rw [hCC]; exact hc
      obtain ⟨Tc, hTc⟩ : ∃ Tc : ByteArray, (⟨#[UInt8.ofNat ((87 : Int) + (d : Int)).toNat]⟩ : ByteArray) = Tc := ⟨_, rfl⟩
      have hcv : ∀ w : World, (convert 35 9 (.slice (some ⟨w.heap.size, 0, none⟩) 1 1)).run Tryd.prog (w.alloc (.cells #[.int .u8 ((87 : Int) + (d : Int))] 5)) = .ok (.string Tc) (w.alloc (.cells #[.int .u8 ((87 : Int) + (d : Int))] 5)) := fun w => by rw [← hTc]; exact one_text _ w.heap.size 1 _ hcC (by simp)
      have hcv2 : ∀ w : World, (convert 35 9 (.slice (some ⟨w.heap.size, 0, none⟩) 1 1)).run Tryd.prog (w.alloc (.cells #[.int .u8 ((87 : Int) + (d : Int))] 5)).drew = .ok (.string Tc) (w.alloc (.cells #[.int .u8 ((87 : Int) + (d : Int))] 5)).drew := fun w => by rw [← hTc]; exact one_text _ w.heap.size 1 _ hcC (by show (w.alloc (.cells #[.int .u8 ((87 : Int) + (d : Int))] 5)).cell? ⟨w.heap.size, 0, none⟩ = _; simp)
      have HOA : Hid (∀ w' : World, Below (W.alloc (.cells #[.int .u8 ((87 : Int) + (d : Int))] 5)).drew.heap.size (W.alloc (.cells #[.int .u8 ((87 : Int) + (d : Int))] 5)).drew w' → (convert 35 9 (.slice (some ⟨W.heap.size, 0, none⟩) 1 1)).run Tryd.prog w' = .ok (.string Tc) w') := Lib.hid (fun w' hb => by
        rw [← hTc]
        refine one_text w' W.heap.size 1 _ hcC ((hb.cell (p := ⟨W.heap.size, 0, none⟩) (by simp [World.drew])).trans (by show (W.alloc (.cells #[.int .u8 ((87 : Int) + (d : Int))] 5)).cell? ⟨W.heap.size, 0, none⟩ = _; simp)))
      have HTN : Hid (Utf.nums Tc = [Br.hd d]) := Lib.hid (by rw [← hTc, one_nums hcC, hCC])
      have hsz1 : Tc.size = 1 := by rw [← hTc]; rfl
      clear hTc
      by_cases hlt : n < b
      · have hlt' : (n : Int) < (b : Int) := by omega
        have HNM : Hid (Utf.nums Tc = numL b n) := Lib.hid (by rw [HTN.out, numL_small hlt, ← hd, Nat.mod_eq_of_lt hlt])
        clear ih hd hquo hq2 hCC
        go_enter Tryd.func43, Tryd.ntmps43
        go_wp2
        go_ret
        exact ⟨_, rfl, HNM.out, (Below.refl _ _).alloc (Nat.le_refl _) _⟩
      · have hlt' : ¬ (n : Int) < (b : Int) := by omega
        have hqn : m < n := by rw [← hm]; exact Nat.div_lt_self (by omega) hb.1
        have HIH := Lib.hid (ih m hqn (by omega))
        have HNM : Hid (∀ T : ByteArray, Utf.nums T = numL b m → Utf.nums (T ++ Tc) = numL b n) := Lib.hid (fun T hT => by rw [Br.nums_append', hT, HTN.out, numL_big hlt hb.1, hd, hm])
        have HLN := Lib.hid (fun (T : ByteArray) (hT : Utf.nums T = numL b m) => show T.size ≤ 3000000 by rw [← Utf.nums_length, hT]; have := (numL_len b m hb.1).2; omega)
        clear ih hd hCC hm
        go_enter Tryd.func43, Tryd.ntmps43
        go_wp2
        go_region_with (go_at_call 43; refine (HIH.out _).mono ?_; rintro e w' ⟨T, rfl, hT, hb9⟩; have n1 : ¬ 9223372036854775807 < T.size + 1 := (by have := HLN.out T hT; omega); have n2 : ¬ 9223372036854775807 < T.size + Tc.size := (by have := HLN.out T hT; omega); try (have hcv9 := HOA.out _ hb9))
        all_goals
          go_wp2
          go_ret
          refine ⟨_, rfl, HNM.out _ hT, ?_⟩
          first
            | exact (((Below.refl W.heap.size W).drew).trans hb9).alloc (by have := hb9.size; simp at this; omega) _
            | exact (((Below.refl W.heap.size W).drew).alloc (by simp) _).trans (hb9.mono (by simp))
    · have h9' : ¬ (9 : Int) < (d : Int) := by omega
      have hCC : (48 : Int) + (d : Int) = Br.hd d := by unfold Br.hd; rw [if_pos (by omega)]
      have hcC : 0 ≤ (48 : Int) + (d : Int) ∧ (48 : Int) + (d : Int) < 256 := by rw [hCC]; exact hc
      obtain ⟨Tc, hTc⟩ : ∃ Tc : ByteArray, (⟨#[UInt8.ofNat ((48 : Int) + (d : Int)).toNat]⟩ : ByteArray) = Tc := ⟨_, rfl⟩
      have hcv : ∀ w : World, (convert 35 9 (.slice (some ⟨w.heap.size, 0, none⟩) 1 1)).run Tryd.prog (w.alloc (.cells #[.int .u8 ((48 : Int) + (d : Int))] 5)) = .ok (.string Tc) (w.alloc (.cells #[.int .u8 ((48 : Int) + (d : Int))] 5)) := fun w => by rw [← hTc]; exact one_text _ w.heap.size 1 _ hcC (by simp)
      have hcv2 : ∀ w : World, (convert 35 9 (.slice (some ⟨w.heap.size, 0, none⟩) 1 1)).run Tryd.prog (w.alloc (.cells #[.int .u8 ((48 : Int) + (d : Int))] 5)).drew = .ok (.string Tc) (w.alloc (.cells #[.int .u8 ((48 : Int) + (d : Int))] 5)).drew := fun w => by rw [← hTc]; exact one_text _ w.heap.size 1 _ hcC (by show (w.alloc (.cells #[.int .u8 ((48 : Int) + (d : Int))] 5)).cell? ⟨w.heap.size, 0, none⟩ = _; simp)
      have HOA : Hid (∀ w' : World, Below (W.alloc (.cells #[.int .u8 ((48 : Int) + (d : Int))] 5)).drew.heap.size (W.alloc (.cells #[.int .u8 ((48 : Int) + (d : Int))] 5)).drew w' → (convert 35 9 (.slice (some ⟨W.heap.size, 0, none⟩) 1 1)).run Tryd.prog w' = .ok (.string Tc) w') := Lib.hid (fun w' hb => by
        rw [← hTc]
        refine one_text w' W.heap.size 1 _ hcC ((hb.cell (p := ⟨W.heap.size, 0, none⟩) (by simp [World.drew])).trans (by show (W.alloc (.cells #[.int .u8 ((48 : Int) + (d : Int))] 5)).cell? ⟨W.heap.size, 0, none⟩ = _; simp)))
      have HTN : Hid (Utf.nums Tc = [Br.hd d]) := Lib.hid (by rw [← hTc, one_nums hcC, hCC])
      have hsz1 : Tc.size = 1 := by rw [← hTc]; rfl
      clear hTc
      by_cases hlt : n < b
      · have hlt' : (n : Int) < (b : Int) := by omega
        have HNM : Hid (Utf.nums Tc = numL b n) := Lib.hid (by rw [HTN.out, numL_small hlt, ← hd, Nat.mod_eq_of_lt hlt])
        clear ih hd hquo hq2 hCC
        go_enter Tryd.func43, Tryd.ntmps43
        go_wp2
        go_ret
        exact ⟨_, rfl, HNM.out, (Below.refl _ _).alloc (Nat.le_refl _) _⟩
      · have hlt' : ¬ (n : Int) < (b : Int) := by omega
        have hqn : m < n := by rw [← hm]; exact Nat.div_lt_self (by omega) hb.1
        have HIH := Lib.hid (ih m hqn (by omega))
        have HNM : Hid (∀ T : ByteArray, Utf.nums T = numL b m → Utf.nums (T ++ Tc) = numL b n) := Lib.hid (fun T hT => by rw [Br.nums_append', hT, HTN.out, numL_big hlt hb.1, hd, hm])
        have HLN := Lib.hid (fun (T : ByteArray) (hT : Utf.nums T = numL b m) => show T.size ≤ 3000000 by rw [← Utf.nums_length, hT]; have := (numL_len b m hb.1).2; omega)
        clear ih hd hCC hm
        go_enter Tryd.func43, Tryd.ntmps43
        go_wp2
        go_region_with (go_at_call 43; refine (HIH.out _).mono ?_; rintro e w' ⟨T, rfl, hT, hb9⟩; have n1 : ¬ 9223372036854775807 < T.size + 1 := (by have := HLN.out T hT; omega); have n2 : ¬ 9223372036854775807 < T.size + Tc.size := (by have := HLN.out T hT; omega); try (have hcv9 := HOA.out _ hb9))
        all_goals
          go_wp2
          go_ret
          refine ⟨_, rfl, HNM.out _ hT, ?_⟩
          first
            | exact (((Below.refl W.heap.size W).drew).trans hb9).alloc (by have := hb9.size; simp at this; omega) _
            | exact (((Below.refl W.heap.size W).drew).alloc (by simp) _).trans (hb9.mono (by simp))
end Go.Proofs.YtecmeeobabadeaaDoor
namespace Go.Proofs.YtecmeeobabadeaaDoor
open Go.RowKit
set_option linter.unusedVariables false
set_option maxRecDepth 100000 in
set_option maxHeartbeats 4000000 in
theorem hexR_any (W : World) (n : Nat) (hn : n ≤ 1114111) : Calls Tryd.prog 24 #[.int .i64 (n : Int)] W fun e w' => ∃ T : ByteArray, e = .returned (.string T) ∧ Utf.nums T = Br.esc n ∧ Below W.heap.size W w' := by
  have HN := Lib.hid (numR_any 16 (by omega) n (by omega) W)
  go_enter Tryd.func24, Tryd.ntmps24
  go_wp2_with fail
  refine HN.out.mono ?_
  rintro e w' ⟨T, rfl, hT, hb⟩
  rw [numL_hex] at hT
  have hz : T.size ≤ 6 := by rw [← Utf.nums_length, hT]; exact (Br.hexL6 hn).2
  have HB := Lib.hid hb
  have n1 : ¬ 9223372036854775807 < 3 + T.size := by omega
  have n2 : ¬ 9223372036854775807 < 3 + T.size + 1 := by omega
  have hP : ((⟨#[92, 120, 123]⟩ : ByteArray) ++ T).size = 3 + T.size := ByteArray.size_append ..
  have n3 : ¬ 9223372036854775807 < ((⟨#[92, 120, 123]⟩ : ByteArray) ++ T).size + 1 := by omega
  have HNM : Hid (Utf.nums (((⟨#[92, 120, 123]⟩ : ByteArray) ++ T) ++ (⟨#[125]⟩ : ByteArray)) = Br.esc n) := Lib.hid (by
    rw [Br.nums_append', Br.nums_append', hT]
    unfold Br.esc
    show (92 :: 120 :: 123 :: Br.hexL n) ++ [125] = _
    rfl)
  clear hT hb hP
  go_wp2
  go_ret
  exact ⟨_, rfl, HNM.out, HB.out⟩
set_option maxRecDepth 100000 in
set_option maxHeartbeats 4000000 in
theorem oneR_any (W : World) (n : Nat) (hn : n ≤ 1114111) : Calls Tryd.prog 23 #[.int .i64 (n : Int)] W fun e w' => ∃ T : ByteArray, e = .returned (.string T) ∧ Utf.nums T = Sh.charL n ∧ Below W.heap.size W w' := by
  have HC := Lib.hid (hexR_any W n hn)
  by_cases h : (48 ≤ (n : Int) ∧ (n : Int) ≤ 57) ∨ (65 ≤ (n : Int) ∧ (n : Int) ≤ 90) ∨ (97 ≤ (n : Int) ∧ (n : Int) ≤ 122)
  · have hc : 0 ≤ (n : Int) ∧ (n : Int) < 256 := by omega
    obtain ⟨Tc, hTc⟩ : ∃ Tc : ByteArray, (⟨#[UInt8.ofNat ((n : Int)).toNat]⟩ : ByteArray) = Tc := ⟨_, rfl⟩
    have hcv : ∀ w : World, (convert 35 9 (.slice (some ⟨w.heap.size, 0, none⟩) 1 1)).run Tryd.prog (w.alloc (.cells #[.int .u8 (n : Int)] 5)) = .ok (.string Tc) (w.alloc (.cells #[.int .u8 (n : Int)] 5)) := fun w => by rw [← hTc]; exact one_text _ w.heap.size 1 _ hc (by simp)
    have HL : Hid (Utf.nums Tc = Sh.charL n) := Lib.hid (by rw [← hTc, one_nums hc]; unfold Sh.charL; rw [if_pos h])
    clear hTc
    rcases h with ⟨g1, g2⟩ | ⟨g1, g2⟩ | ⟨g1, g2⟩
    ·
      go_enter Tryd.func23, Tryd.ntmps23
      go_wp2
      go_ret
      exact ⟨_, rfl, HL.out, (Below.refl _ _).alloc (Nat.le_refl _) _⟩
    · have g3 : 48 ≤ (n : Int) := by omega
      have g4 : ¬ (n : Int) ≤ 57 := by omega
      go_enter Tryd.func23, Tryd.ntmps23
      go_wp2
      go_ret
      exact ⟨_, rfl, HL.out, (Below.refl _ _).alloc (Nat.le_refl _) _⟩
    · have g3 : 48 ≤ (n : Int) := by omega
      have g4 : ¬ (n : Int) ≤ 57 := by omega
      have g5 : 65 ≤ (n : Int) := by omega
      have g6 : ¬ (n : Int) ≤ 90 := by omega
      go_enter Tryd.func23, Tryd.ntmps23
      go_wp2
      go_ret
      exact ⟨_, rfl, HL.out, (Below.refl _ _).alloc (Nat.le_refl _) _⟩
  · have HL : Hid (Sh.charL n = Br.esc n) := Lib.hid (by unfold Sh.charL; rw [if_neg h, Int.toNat_natCast])
    have hd : (¬ 48 ≤ (n : Int) ∧ ¬ 65 ≤ (n : Int) ∧ ¬ 97 ≤ (n : Int)) ∨ (48 ≤ (n : Int) ∧ ¬ (n : Int) ≤ 57 ∧ ¬ 65 ≤ (n : Int) ∧ ¬ 97 ≤ (n : Int)) ∨ (48 ≤ (n : Int) ∧ ¬ (n : Int) ≤ 57 ∧ 65 ≤ (n : Int) ∧ ¬ (n : Int) ≤ 90 ∧ ¬ 97 ≤ (n : Int)) ∨ (48 ≤ (n : Int) ∧ ¬ (n : Int) ≤ 57 ∧ 65 ≤ (n : Int) ∧ ¬ (n : Int) ≤ 90 ∧ 97 ≤ (n : Int) ∧ ¬ (n : Int) ≤ 122) := by omega
    clear h
    rcases hd with ⟨g1, g2, g3⟩ | ⟨g1, g2, g3, g4⟩ | ⟨g1, g2, g3, g4, g5⟩ | ⟨g1, g2, g3, g4, g5, g6⟩
    ·
      go_enter Tryd.func23, Tryd.ntmps23
      go_wp2_with fail
      refine HC.out.mono ?_
      rintro e w' ⟨T, rfl, hT, hb⟩
      have HT := Lib.hid hT
      have HB := Lib.hid hb
      clear hT hb
      go_wp2
      go_ret
      exact ⟨_, rfl, by rw [HL.out]; exact HT.out, HB.out⟩
    ·
      go_enter Tryd.func23, Tryd.ntmps23
      go_wp2_with fail
      refine HC.out.mono ?_
      rintro e w' ⟨T, rfl, hT, hb⟩
      have HT := Lib.hid hT
      have HB := Lib.hid hb
      clear hT hb
      go_wp2
      go_ret
      exact ⟨_, rfl, by rw [HL.out]; exact HT.out, HB.out⟩
    ·
      go_enter Tryd.func23, Tryd.ntmps23
      go_wp2_with fail
      refine HC.out.mono ?_
      rintro e w' ⟨T, rfl, hT, hb⟩
      have HT := Lib.hid hT
      have HB := Lib.hid hb
      clear hT hb
      go_wp2
      go_ret
      exact ⟨_, rfl, by rw [HL.out]; exact HT.out, HB.out⟩
    ·
      go_enter Tryd.func23, Tryd.ntmps23
      go_wp2_with fail
      refine HC.out.mono ?_
      rintro e w' ⟨T, rfl, hT, hb⟩
      have HT := Lib.hid hT
      have HB := Lib.hid hb
      clear hT hb
      go_wp2
      go_ret
      exact ⟨_, rfl, by rw [HL.out]; exact HT.out, HB.out⟩
end Go.Proofs.YtecmeeobabadeaaDoor
namespace Go.Proofs.YtecmeeobabadeaaDoor
open Go.RowKit
set_option linter.unusedVariables false
set_option maxRecDepth 100000 in
set_option maxHeartbeats 4000000 in
theorem write_any (W : World) (B : Nat) (O : List Int) (s : ByteArray) (h : PrOk W B O) (hl : O.length ≤ 4096) (hs : s.size ≤ 1000000) : Calls Tryd.prog 32 #[.pointer (some ⟨B, 0, none⟩), .string s] W (PrQ W B O (Utf.nums s)) := by
  have HT := Lib.hid (fun w O' (h' : PrOk w B O') (hl' : O'.length ≤ 10000000) => tooLong_any w B O' h' hl')
  have HP := Lib.hid h
  obtain ⟨v, hbx, hown⟩ := h
  have q0 := cell_box hbx
  have q1 := frozen_box hbx
  have hc1 := HT.out W O HP.out (by omega)
  rw [decide_eq_false (by omega)] at hc1
  obtain ⟨i0, hi, hz0, hz1, hz2⟩ := info_parts Tryd.infoByte
  have HBX := Lib.hid hbx
  have HOWN := Lib.hid hown
  have HC1 := Lib.hid hc1
  clear hbx hown hc1
  go_enter Tryd.func32, Tryd.ntmps32
  go_wp2_with fail
  refine HC1.out.mono ?_
  rintro e w' ⟨rfl, rfl⟩
  go_wp2_with (at_builtin; (refine Lib.wpList_append_own_string _ rfl _ _ 35 9 (by rfl) (B + 1) 5 i0 Tryd.underBytes Tryd.underTextS hi hz0 hz1 hz2 v O.length (O.map (Value.int .u8)) (by rfl) HOWN.out s (by rfl) (by unfold maxLen; omega) (by omega) (by have := HP.out.lt; omega) ?_))
  intro v' w' hown' hgr _
  have hown2 : w'.ownsRow (B + 1) 5 1 v' (O ++ Utf.nums s).length ((O ++ Utf.nums s).map (Value.int .u8)) := by
    rw [List.length_append, Utf.nums_length, List.map_append, ← strCells_nums]; exact hown'
  obtain ⟨a1, c1, hv1⟩ : ∃ a c, v' = .slice a (O.length + s.size) c := by
    rcases hown'.2 with ⟨e, e0⟩ | ⟨g, cap, cur, e, _⟩
    · exact ⟨none, 0, by rw [e, e0]⟩
    · exact ⟨_, _, e⟩
  subst hv1
  obtain ⟨hB1, hpr, hkp⟩ := printer_put HBX.out HOWN.out hown2 hgr
  have p0 := cell_box hB1
  have p1 := frozen_box hB1
  obtain ⟨w2, hw2⟩ : ∃ w2, w'.setCell ⟨B, 0, none⟩ (.slice a1 (O.length + s.size) c1) = w2 := ⟨_, rfl⟩
  rw [hw2] at hpr hkp
  have HW2 := Lib.hid hw2
  have HPR := Lib.hid hpr
  have HKP := Lib.hid hkp
  have hlen : (O ++ Utf.nums s).length = O.length + s.size := by rw [List.length_append, Utf.nums_length]
  have hlb : (O ++ Utf.nums s).length ≤ 10000000 := by omega
  have HLN := Lib.hid hlen
  have HC2 := Lib.hid (HT.out w2 _ hpr hlb)
  clear hown' hgr hown2 hB1 hpr hkp hw2 hlen
  by_cases hlong : 4096 < (O ++ Utf.nums s).length
  · rw [decide_eq_true hlong] at HC2
    have HLO := Lib.hid hlong
    clear hlong
    go_wp2_with fail
    rw [HW2.out]
    refine HC2.out.mono ?_
    rintro e w3 ⟨rfl, rfl⟩
    go_wp2
    refine ⟨rfl, ?_⟩
    exact ⟨HKP.out, .inr ⟨by rw [Utf.nums_length]; have := HLO.out; have := HLN.out; omega, _, HLO.out, hlb, rfl, HPR.out⟩⟩
  · rw [decide_eq_false hlong] at HC2
    have HLO := Lib.hid hlong
    clear hlong
    go_wp2_with fail
    rw [HW2.out]
    refine HC2.out.mono ?_
    rintro e w3 ⟨rfl, rfl⟩
    go_wp2
    refine ⟨rfl, .tuple #[], by simp [results, Tryd.f32, go_sem], ?_⟩
    exact ⟨HKP.out, .inl ⟨by rw [Utf.nums_length]; have := HLO.out; have := HLN.out; omega, rfl, HPR.out⟩⟩
set_option maxRecDepth 100000 in
set_option maxHeartbeats 4000000 in
theorem writeD_any (u : FrameMode) (W : World) (B : Nat) (O : List Int) (s : ByteArray) (h : PrOk W B O) (hl : O.length ≤ 4096) (hs : s.size ≤ 1000000) : CallsD Tryd.prog 32 #[.pointer (some ⟨B, 0, none⟩), .string s] u W fun e u' w' => u' = u ∧ PrQ W B O (Utf.nums s) e w' := by
  have HT := Lib.hid (fun w O' (h' : PrOk w B O') (hl' : O'.length ≤ 10000000) => tooLong_any w B O' h' hl')
  have HP := Lib.hid h
  obtain ⟨v, hbx, hown⟩ := h
  have q0 := cell_box hbx
  have q1 := frozen_box hbx
  have hc1 := HT.out W O HP.out (by omega)
  rw [decide_eq_false (by omega)] at hc1
  obtain ⟨i0, hi, hz0, hz1, hz2⟩ := info_parts Tryd.infoByte
  have HBX := Lib.hid hbx
  have HOWN := Lib.hid hown
  have HC1 := Lib.hid hc1
  clear hbx hown hc1
  refine callsD_of_wp Tryd.func32 rfl ?_
  simp only [Tryd.ntmps32, List.size_toArray, List.length_cons, List.length_nil, Nat.reduceAdd, Nat.reduceSub, Array.replicate_succ, Array.replicate_zero, List.push_toArray, List.append_toArray, List.nil_append, List.cons_append]
  go_wp2_with fail
  refine HC1.out.mono ?_
  rintro e w' ⟨rfl, rfl⟩
  go_wp2_with (at_builtin; (refine Lib.wpList_append_own_string _ rfl _ _ 35 9 (by rfl) (B + 1) 5 i0 Tryd.underBytes Tryd.underTextS hi hz0 hz1 hz2 v O.length (O.map (Value.int .u8)) (by rfl) HOWN.out s (by rfl) (by unfold maxLen; omega) (by omega) (by have := HP.out.lt; omega) ?_))
  intro v' w' hown' hgr _
  have hown2 : w'.ownsRow (B + 1) 5 1 v' (O ++ Utf.nums s).length ((O ++ Utf.nums s).map (Value.int .u8)) := by
    rw [List.length_append, Utf.nums_length, List.map_append, ← strCells_nums]; exact hown'
  obtain ⟨a1, c1, hv1⟩ : ∃ a c, v' = .slice a (O.length + s.size) c := by
    rcases hown'.2 with ⟨e, e0⟩ | ⟨g, cap, cur, e, _⟩
    · exact ⟨none, 0, by rw [e, e0]⟩
    · exact ⟨_, _, e⟩
  subst hv1
  obtain ⟨hB1, hpr, hkp⟩ := printer_put HBX.out HOWN.out hown2 hgr
  have p0 := cell_box hB1
  have p1 := frozen_box hB1
  obtain ⟨w2, hw2⟩ : ∃ w2, w'.setCell ⟨B, 0, none⟩ (.slice a1 (O.length + s.size) c1) = w2 := ⟨_, rfl⟩
  rw [hw2] at hpr hkp
  have HW2 := Lib.hid hw2
  have HPR := Lib.hid hpr
  have HKP := Lib.hid hkp
  have hlen : (O ++ Utf.nums s).length = O.length + s.size := by rw [List.length_append, Utf.nums_length]
  have hlb : (O ++ Utf.nums s).length ≤ 10000000 := by omega
  have HLN := Lib.hid hlen
  have HC2 := Lib.hid (HT.out w2 _ hpr hlb)
  clear hown' hgr hown2 hB1 hpr hkp hw2 hlen
  by_cases hlong : 4096 < (O ++ Utf.nums s).length
  · rw [decide_eq_true hlong] at HC2
    have HLO := Lib.hid hlong
    clear hlong
    go_wp2_with fail
    rw [HW2.out]
    refine HC2.out.mono ?_
    rintro e w3 ⟨rfl, rfl⟩
    go_wp2
    refine ⟨rfl, ?_⟩
    exact ⟨HKP.out, .inr ⟨by rw [Utf.nums_length]; have := HLO.out; have := HLN.out; omega, _, HLO.out, hlb, rfl, HPR.out⟩⟩
  · rw [decide_eq_false hlong] at HC2
    have HLO := Lib.hid hlong
    clear hlong
    go_wp2_with fail
    rw [HW2.out]
    refine HC2.out.mono ?_
    rintro e w3 ⟨rfl, rfl⟩
    go_wp2
    refine ⟨rfl, .tuple #[], by simp [results, Tryd.f32, go_sem], ?_⟩
    exact ⟨HKP.out, .inl ⟨by rw [Utf.nums_length]; have := HLO.out; have := HLN.out; omega, rfl, HPR.out⟩⟩
set_option maxRecDepth 100000 in
set_option maxHeartbeats 4000000 in
/-- On the way out of a pattern that is too long nothing more is printed. -/
theorem writeL_any (u : FrameMode) (W : World) (B : Nat) (O : List Int) (s : ByteArray) (h : PrOk W B O) (hl : 4096 < O.length) (hl2 : O.length ≤ 10000000) : CallsD Tryd.prog 32 #[.pointer (some ⟨B, 0, none⟩), .string s] u W fun e u' w' => u' = u ∧ e = .returned (.tuple #[]) ∧ w' = W := by
  have hc1 := tooLong_any W B O h hl2
  rw [decide_eq_true hl] at hc1
  have HC1 := Lib.hid hc1
  clear hc1
  refine callsD_of_wp Tryd.func32 rfl ?_
  simp only [Tryd.ntmps32, List.size_toArray, List.length_cons, List.length_nil, Nat.reduceAdd, Nat.reduceSub, Array.replicate_succ, Array.replicate_zero, List.push_toArray, List.append_toArray, List.nil_append, List.cons_append]
  go_wp2_with fail
  refine HC1.out.mono ?_
  rintro e w' ⟨rfl, rfl⟩
  go_wp2
  refine ⟨rfl, .tuple #[], by simp [results, Tryd.f32, go_sem], ?_⟩
  exact ⟨rfl, rfl⟩
end Go.Proofs.YtecmeeobabadeaaDoor
