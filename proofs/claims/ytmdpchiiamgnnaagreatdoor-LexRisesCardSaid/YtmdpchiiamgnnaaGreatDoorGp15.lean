/- The landed bracket: digit, isLetter, isSign, plain; strings.HasPrefix at one byte and at two. · The landed bracket: digits. -/
import Derived.Test.YtmdpchiiamgnnaaGreatDoorGp1
import Derived.Test.YtmdpchiiamgnnaaGreatDoorGp14
import Derived.Lib.Hide
import Derived.Deep.QuietTactic
import Derived.BigQuiet
import Derived.IntWalk
namespace Go.Proofs.YtmdpchiiamgnnaaGreatDoor
open Go.RowKit
set_option linter.unusedVariables false
set_option maxRecDepth 100000 in
set_option maxHeartbeats 1000000 in
theorem bDigit_any (W : World) (c : Int) (h0 : 0 ≤ c) (h1 : c ≤ 255) : Calls Tryz.prog 158 #[.int .u8 c] W fun e w' => e = .returned (.int .i64 (Br.dig c)) ∧ W = w' := by
  have HD : Hid (Br.dig c = Br.dig c) := Lib.hid rfl
  by_cases a : 48 ≤ c
  · by_cases b : c ≤ 57
    · have hw : IntKind.u8.wrap (c - 48) = c - 48 := by rw [IntKind.wrap_u8]; omega
      have e : Br.dig c = c - 48 := by unfold Br.dig; rw [if_pos ⟨a, b⟩]
      rw [e]
      go_enter Tryz.func158, Tryz.ntmps158
      go_wp2
      go_ret
      exact ⟨rfl, rfl⟩
    · by_cases a2 : 97 ≤ c
      · by_cases b2 : c ≤ 102
        · have hw : IntKind.u8.wrap (c - 97) = c - 97 := by rw [IntKind.wrap_u8]; omega
          have hw2 : IntKind.i64.wrap (c - 97 + 10) = c - 87 := by rw [IntKind.wrap_i64]; omega
          have e : Br.dig c = c - 87 := by unfold Br.dig; rw [if_neg (by omega), if_pos ⟨a2, b2⟩]
          rw [e]
          go_enter Tryz.func158, Tryz.ntmps158
          go_wp2
          go_ret
          exact ⟨rfl, rfl⟩
        · have e : Br.dig c = -1 := by unfold Br.dig; rw [if_neg (by omega), if_neg (by omega), if_neg (by omega)]
          rw [e]
          have h9 : ¬ c ≤ 70 := by omega
          go_enter Tryz.func158, Tryz.ntmps158
          go_wp2
          go_ret
          exact ⟨rfl, rfl⟩
      · by_cases a3 : 65 ≤ c
        · by_cases b3 : c ≤ 70
          · have hw : IntKind.u8.wrap (c - 65) = c - 65 := by rw [IntKind.wrap_u8]; omega
            have hw2 : IntKind.i64.wrap (c - 65 + 10) = c - 55 := by rw [IntKind.wrap_i64]; omega
            have e : Br.dig c = c - 55 := by unfold Br.dig; rw [if_neg (by omega), if_neg (by omega), if_pos ⟨a3, b3⟩]
            rw [e]
            go_enter Tryz.func158, Tryz.ntmps158
            go_wp2
            go_ret
            exact ⟨rfl, rfl⟩
          · have e : Br.dig c = -1 := by unfold Br.dig; rw [if_neg (by omega), if_neg (by omega), if_neg (by omega)]
            rw [e]
            go_enter Tryz.func158, Tryz.ntmps158
            go_wp2
            go_ret
            exact ⟨rfl, rfl⟩
        · have e : Br.dig c = -1 := by unfold Br.dig; rw [if_neg (by omega), if_neg (by omega), if_neg (by omega)]
          rw [e]
          go_enter Tryz.func158, Tryz.ntmps158
          go_wp2
          go_ret
          exact ⟨rfl, rfl⟩
  · have e : Br.dig c = -1 := by unfold Br.dig; rw [if_neg (by omega), if_neg (by omega), if_neg (by omega)]
    rw [e]
    have h7 : ¬ 97 ≤ c := by omega
    have h8 : ¬ 65 ≤ c := by omega
    go_enter Tryz.func158, Tryz.ntmps158
    go_wp2
    go_ret
    exact ⟨rfl, rfl⟩
theorem bLet_yes {c : Int} (h : 65 ≤ c ∧ c ≤ 90 ∨ 97 ≤ c ∧ c ≤ 122) : Br.letB c = true := by unfold Br.letB; rcases h with h | h <;> simp [h]
theorem bLet_no {c : Int} (h : ¬ (65 ≤ c ∧ c ≤ 90 ∨ 97 ≤ c ∧ c ≤ 122)) : Br.letB c = false := by
  cases hb : Br.letB c with
  | false => rfl
  | true => unfold Br.letB at hb; simp at hb; omega
set_option maxRecDepth 100000 in
set_option maxHeartbeats 1000000 in
theorem bLetter_any (W : World) (c : Int) (h0 : 0 ≤ c) (h1 : c ≤ 255) : Calls Tryz.prog 128 #[.int .u8 c] W fun e w' => e = .returned (.bool (Br.letB c)) ∧ W = w' := by
  by_cases a : 65 ≤ c
  · by_cases b : c ≤ 90
    · rw [bLet_yes (.inl ⟨a, b⟩)]
      go_enter Tryz.func128, Tryz.ntmps128
      go_wp2
      go_ret
      exact ⟨rfl, rfl⟩
    · by_cases d : 97 ≤ c
      · by_cases f : c ≤ 122
        · rw [bLet_yes (.inr ⟨d, f⟩)]
          go_enter Tryz.func128, Tryz.ntmps128
          go_wp2
          go_ret
          exact ⟨rfl, rfl⟩
        · rw [bLet_no (by omega)]
          go_enter Tryz.func128, Tryz.ntmps128
          go_wp2
          go_ret
          exact ⟨rfl, rfl⟩
      · rw [bLet_no (by omega)]
        go_enter Tryz.func128, Tryz.ntmps128
        go_wp2
        go_ret
        exact ⟨rfl, rfl⟩
  · have d : ¬ 97 ≤ c := by omega
    rw [bLet_no (by omega)]
    go_enter Tryz.func128, Tryz.ntmps128
    go_wp2
    go_ret
    exact ⟨rfl, rfl⟩
theorem bSign_yes {c : Int} (h1 : 33 ≤ c) (h2 : c ≤ 126) (h3 : Br.letB c = false) (h4 : ¬ (48 ≤ c ∧ c ≤ 57)) : Br.signB c = true := by
  unfold Br.signB
  rw [h3]
  simp [h1, h2]
  omega
theorem bSign_no {c : Int} (h : ¬ (33 ≤ c ∧ c ≤ 126) ∨ Br.letB c = true ∨ (48 ≤ c ∧ c ≤ 57)) : Br.signB c = false := by
  cases hb : Br.signB c with
  | false => rfl
  | true =>
    unfold Br.signB at hb
    simp at hb
    rcases h with h | h | h
    · omega
    · rw [hb.1.2] at h; cases h
    · omega
set_option maxRecDepth 100000 in
set_option maxHeartbeats 1000000 in
theorem bSign_any (W : World) (c : Int) (h0 : 0 ≤ c) (h1 : c ≤ 255) : Calls Tryz.prog 157 #[.int .u8 c] W fun e w' => e = .returned (.bool (Br.signB c)) ∧ W = w' := by
  by_cases a : 33 ≤ c
  · by_cases b : c ≤ 126
    · have HL := Lib.hid (bLetter_any W c h0 h1)
      cases hl : Br.letB c with
      | true =>
        have HS := Lib.hid (bSign_no (.inr (.inl hl)))
        rw [hl] at HL
        clear hl
        go_enter Tryz.func157, Tryz.ntmps157
        go_wp2_with (go_at_call 128; refine HL.out.mono ?_; rintro e w' ⟨rfl, rfl⟩)
        go_ret
        exact ⟨by rw [HS.out]; rfl, rfl⟩
      | false =>
        rw [hl] at HL
        by_cases d : c < 48
        · have HS := Lib.hid (bSign_yes a b hl (by omega))
          clear hl
          go_enter Tryz.func157, Tryz.ntmps157
          go_wp2_with (go_at_call 128; refine HL.out.mono ?_; rintro e w' ⟨rfl, rfl⟩)
          go_ret
          exact ⟨by rw [HS.out]; rfl, rfl⟩
        · by_cases f : 57 < c
          · have HS := Lib.hid (bSign_yes a b hl (by omega))
            clear hl
            go_enter Tryz.func157, Tryz.ntmps157
            go_wp2_with (go_at_call 128; refine HL.out.mono ?_; rintro e w' ⟨rfl, rfl⟩)
            go_ret
            exact ⟨by rw [HS.out]; rfl, rfl⟩
          · have HS := Lib.hid (bSign_no (c := c) (.inr (.inr (by omega))))
            have h8 : (decide (c < 48) || decide (57 < c)) = false := by simp; omega
            have H8 := Lib.hid h8
            clear hl h8
            go_enter Tryz.func157, Tryz.ntmps157
            go_wp2_with (go_at_call 128; refine HL.out.mono ?_; rintro e w' ⟨rfl, rfl⟩)
            go_ret
            exact ⟨by rw [HS.out]; exact congrArg (fun b => Ending.returned (.bool b)) H8.out, rfl⟩
    · have HS := Lib.hid (bSign_no (c := c) (.inl (by omega)))
      go_enter Tryz.func157, Tryz.ntmps157
      go_wp2
      go_ret
      exact ⟨by rw [HS.out]; rfl, rfl⟩
  · have HS := Lib.hid (bSign_no (c := c) (.inl (by omega)))
    go_enter Tryz.func157, Tryz.ntmps157
    go_wp2
    go_ret
    exact ⟨by rw [HS.out]; rfl, rfl⟩
theorem toList_pre (s : ByteArray) (k : Nat) : (s.extract 0 k).toList = s.data.toList.take k := by
  rw [ByteArray.toList_eq, ByteArray.data_extract, Array.toList_extract, List.extract_eq_take_drop]; simp
theorem nums_some (s : ByteArray) (k : Nat) : (Utf.nums s)[k]? = (s.data.toList[k]?).map (fun b => (b.toNat : Int)) := by unfold Utf.nums; rw [List.getElem?_map]
theorem byte_inj {a b : UInt8} (h : (a.toNat : Int) = (b.toNat : Int)) : a = b := UInt8.toNat_inj.1 (by omega)
theorem pre1 (s : ByteArray) (c : UInt8) (hc : c ≠ 0) : ((s.extract 0 1).toList == [c]) = decide ((Utf.nums s)[0]?.getD 0 = (c.toNat : Int)) := by
  have hc9 : (c.toNat : Int) ≠ 0 := fun e => hc (byte_inj (b := 0) (by rw [e]; rfl))
  rw [toList_pre, nums_some]
  cases h : s.data.toList with
  | nil => simp; omega
  | cons a t =>
    rw [Bool.eq_iff_iff]
    simp
    exact ⟨fun e => by rw [e], fun e => UInt8.toNat_inj.1 (by omega)⟩
theorem pre2 (s : ByteArray) (c d : UInt8) : ((s.extract 0 2).toList == [c, d]) = decide ((Utf.nums s)[0]? = some (c.toNat : Int) ∧ (Utf.nums s)[1]? = some (d.toNat : Int)) := by
  rw [toList_pre, nums_some, nums_some]
  cases h : s.data.toList with
  | nil => simp
  | cons a t =>
    cases t with
    | nil => simp
    | cons b u =>
      rw [Bool.eq_iff_iff]
      simp
      exact ⟨fun e => by rw [e.1, e.2]; exact ⟨rfl, rfl⟩, fun e => ⟨UInt8.toNat_inj.1 (by omega), UInt8.toNat_inj.1 (by omega)⟩⟩
set_option maxRecDepth 100000 in
set_option maxHeartbeats 1000000 in
theorem hasPre1 (W : World) (s : ByteArray) (c : UInt8) (hc : c ≠ 0) : Calls Tryz.prog 22 #[.string s, .string ⟨#[c]⟩] W fun e w' => e = .returned (.bool (decide ((Utf.nums s)[0]?.getD 0 = (c.toNat : Int)))) ∧ W = w' := by
  have hc9 : (c.toNat : Int) ≠ 0 := fun e => hc (byte_inj (b := 0) (by rw [e]; rfl))
  by_cases h : (s.size : Int) < 1
  · have HE : Hid (decide ((Utf.nums s)[0]?.getD 0 = (c.toNat : Int)) = false) := Lib.hid (decide_eq_false (by
      rw [List.getElem?_eq_none (by rw [Utf.nums_length]; omega)]; simp; omega))
    go_enter Tryz.func22, Tryz.ntmps22
    go_wp2
    go_ret
    exact ⟨by rw [HE.out]; rfl, rfl⟩
  · have HE := Lib.hid (pre1 s c hc)
    go_enter Tryz.func22, Tryz.ntmps22
    go_wp2
    go_ret
    exact ⟨by rw [← HE.out]; rfl, rfl⟩
set_option maxRecDepth 100000 in
set_option maxHeartbeats 1000000 in
theorem hasPre2 (W : World) (s : ByteArray) (c d : UInt8) : Calls Tryz.prog 22 #[.string s, .string ⟨#[c, d]⟩] W fun e w' => e = .returned (.bool (decide ((Utf.nums s)[0]? = some (c.toNat : Int) ∧ (Utf.nums s)[1]? = some (d.toNat : Int)))) ∧ W = w' := by
  obtain ⟨q, hq⟩ : ∃ q, decide ((Utf.nums s)[0]? = some (c.toNat : Int) ∧ (Utf.nums s)[1]? = some (d.toNat : Int)) = q := ⟨_, rfl⟩
  rw [hq]
  by_cases h : (s.size : Int) < 2
  · have HE : Hid (q = false) := Lib.hid (hq.symm.trans <| decide_eq_false (by
      rintro ⟨_, e⟩
      rw [List.getElem?_eq_none (by rw [Utf.nums_length]; omega)] at e; cases e))
    clear hq
    go_enter Tryz.func22, Tryz.ntmps22
    go_wp2
    go_ret
    exact ⟨by rw [HE.out]; rfl, rfl⟩
  · have HE := Lib.hid ((pre2 s c d).trans hq)
    clear hq
    go_enter Tryz.func22, Tryz.ntmps22
    go_wp2
    go_ret
    exact ⟨by rw [← HE.out]; rfl, rfl⟩
set_option maxRecDepth 100000 in
set_option maxHeartbeats 4000000 in
theorem bPlain_any (W : World) (c : Int) (h0 : 0 ≤ c) (h1 : c ≤ 255) : Calls Tryz.prog 117 #[.int .u8 c] W fun e w' => e = .returned (.tuple #[.int .i64 (Br.plain c).1, .int .i64 (Br.plain c).2.1, .int .i64 (Br.plain c).2.2]) ∧ W = w' := by
  by_cases e97 : c = 97
  · subst e97
    go_enter Tryz.func117, Tryz.ntmps117
    go_wp2
    go_ret3
    exact ⟨rfl, rfl⟩
  by_cases e116 : c = 116
  · subst e116
    go_enter Tryz.func117, Tryz.ntmps117
    go_wp2
    go_ret3
    exact ⟨rfl, rfl⟩
  by_cases e110 : c = 110
  · subst e110
    go_enter Tryz.func117, Tryz.ntmps117
    go_wp2
    go_ret3
    exact ⟨rfl, rfl⟩
  by_cases e118 : c = 118
  · subst e118
    go_enter Tryz.func117, Tryz.ntmps117
    go_wp2
    go_ret3
    exact ⟨rfl, rfl⟩
  by_cases e102 : c = 102
  · subst e102
    go_enter Tryz.func117, Tryz.ntmps117
    go_wp2
    go_ret3
    exact ⟨rfl, rfl⟩
  by_cases e114 : c = 114
  · subst e114
    go_enter Tryz.func117, Tryz.ntmps117
    go_wp2
    go_ret3
    exact ⟨rfl, rfl⟩
  have HS := Lib.hid (bSign_any W c h0 h1)
  have hp : Br.plain c = if Br.signB c = true then (c, 2, 0) else (0, 0, 80) := by
    unfold Br.plain
    rw [if_neg e97, if_neg e116, if_neg e110, if_neg e118, if_neg e102, if_neg e114]
  cases hs : Br.signB c with
  | true =>
    rw [hs, if_pos rfl] at hp
    rw [hs] at HS
    rw [hp]
    clear hp hs
    go_enter Tryz.func117, Tryz.ntmps117
    go_wp2_with (go_at_call 157; refine HS.out.mono ?_; rintro e w' ⟨rfl, rfl⟩)
    go_ret3
    exact ⟨rfl, rfl⟩
  | false =>
    rw [hs, if_neg (by decide)] at hp
    rw [hs] at HS
    rw [hp]
    clear hp hs
    go_enter Tryz.func117, Tryz.ntmps117
    go_wp2_with (go_at_call 157; refine HS.out.mono ?_; rintro e w' ⟨rfl, rfl⟩)
    go_ret3
    exact ⟨rfl, rfl⟩
end Go.Proofs.YtmdpchiiamgnnaaGreatDoor
namespace Go.Proofs.YtmdpchiiamgnnaaGreatDoor
open Go.RowKit
set_option linter.unusedVariables false
set_option maxRecDepth 100000 in
set_option maxHeartbeats 4000000 in
theorem bDigits_any (W : World) (s : ByteArray) (most : Nat) (hs : s.size ≤ 140737488351232) (hm : most ≤ 6) : Calls Tryz.prog 119 #[.string s, .int .i64 (most : Int)] W fun e w' =>
    e = .returned (.tuple #[.int .i64 (Br.val (Utf.nums s) (Br.cnt (Utf.nums s) most)), .int .i64 (Br.cnt (Utf.nums s) most : Int)]) ∧ W = w' := by
  obtain ⟨l, hl⟩ : ∃ l, Utf.nums s = l := ⟨_, rfl⟩
  have hln : l.length = s.size := by rw [← hl, Utf.nums_length]
  have hc := Br.cnt_le l most
  have HL := Lib.hid hl
  have HLN := Lib.hid hln
  have HC := Lib.hid hc
  rw [hl]
  clear hl hln hc
  by_cases h9 : most < s.size
  · have hmn : most < s.size := h9
    go_enter Tryz.func119, Tryz.ntmps119
    go_wp2
    go_loop [4, 5] (fun R N => ∃ k : Nat, k ≤ Br.cnt l most ∧ N = .int .i64 (k : Int) ∧ R = .int .i64 (Br.val l k)) (fun _ N => most - (intOf N).toNat)
    case atStart => exact ⟨0, Nat.zero_le _, rfl, rfl⟩
    case round =>
      obtain ⟨k, hk, rfl, rfl⟩ := hrel
      have hcm := HC.out.1
      have hcl := HC.out.2
      rw [HLN.out] at hcl
      by_cases hin : k < s.size ∧ k < most
      · obtain ⟨hin1, hin2⟩ := hin
        have hb : s[k].toNat < 256 := UInt8.toNat_lt _
        have hat : l[k]?.getD 0 = (s[k].toNat : Int) := by rw [← HL.out]; exact Utf.nums_at s k hin1
        have HAT := Lib.hid hat
        have h1 : (k : Int) < (s.size : Int) := by omega
        have h2 : (k : Int) < (most : Int) := by omega
        have hbd := Br.val_bd l most k hk
        have hp : (16 : Int) ^ k ≤ 16 ^ 6 := by
          have : (16 : Nat) ^ k ≤ 16 ^ 6 := Nat.pow_le_pow_right (by decide) (by omega)
          exact_mod_cast this
        have hv0 : 0 ≤ Br.val l k := hbd.1
        have hv1 : Br.val l k < 16777216 := by have := hbd.2; omega
        have hdb := Br.dig_bd (s[k].toNat : Int)
        have HVS := Lib.hid (Br.val_succ l k (by rw [HLN.out]; exact hin1))
        obtain ⟨D, hD⟩ : ∃ D, Br.dig (s[k].toNat : Int) = D := ⟨_, rfl⟩
        have HD := Lib.hid hD
        have HBD := Lib.hid (bDigit_any W (s[k].toNat : Int) (by omega) (by omega))
        rw [hD] at HBD hdb
        obtain ⟨V, hV⟩ : ∃ V, Br.val l k = V := ⟨_, rfl⟩
        have HV := Lib.hid hV
        rw [hV] at hv0 hv1 ⊢
        clear hat hbd hp hD hV hb
        by_cases hd : D < 0
        · have HE : Hid (Br.cnt l most = k) := Lib.hid (Br.cnt_ends l most k (by omega) (by rw [HLN.out]; omega) (fun j hj => Br.cnt_yes l most j (by omega)) (.inr (.inr (by rw [HAT.out, HD.out]; exact hd))))
          go_wp2_with (go_at_call 158; refine HBD.out.mono ?_; rintro e w' ⟨rfl, rfl⟩)
          go_ret2
          exact ⟨by rw [HE.out, HV.out]; rfl, rfl⟩
        · have hd0 : 0 ≤ D := by omega
          have hlt : k < Br.cnt l most := by
            rcases Nat.lt_or_ge k (Br.cnt l most) with h | h
            · exact h
            · obtain rfl : k = Br.cnt l most := by omega
              have := Br.cnt_no l most (by omega) (by rw [HLN.out]; omega)
              rw [HAT.out, HD.out] at this
              exact absurd this hd
          have hw1 : IntKind.i64.wrap (V * 16) = V * 16 := by rw [IntKind.wrap_i64]; omega
          have hw2 : IntKind.i64.wrap (V * 16 + D) = V * 16 + D := by rw [IntKind.wrap_i64]; omega
          have hw3 : IntKind.i64.wrap ((k : Int) + 1) = ((k + 1 : Nat) : Int) := by rw [IntKind.wrap_i64]; omega
          have HLT := Lib.hid hlt
          clear hlt hcm hcl hdb hk
          go_wp2_with (go_at_call 158; refine HBD.out.mono ?_; rintro e w' ⟨rfl, rfl⟩)
          go_round
          case rel => exact ⟨k + 1, HLT.out, by go_num, by rw [HVS.out, HAT.out, HD.out, HV.out]⟩
          case measure => simp [intOf]; omega
      · have HE : Hid (Br.cnt l most = k) := Lib.hid (Br.cnt_ends l most k (by omega) (by rw [HLN.out]; omega) (fun j hj => Br.cnt_yes l most j (by omega)) (by rw [HLN.out]; omega))
        have hno : ¬ ((k : Int) < (s.size : Int) ∧ (k : Int) < (most : Int)) := by omega
        go_wp2
        go_ret2
        exact ⟨by rw [HE.out]; rfl, rfl⟩
  · have hmn : ¬ most < s.size := h9
    go_enter Tryz.func119, Tryz.ntmps119
    go_wp2
    go_loop [4, 5] (fun R N => ∃ k : Nat, k ≤ Br.cnt l most ∧ N = .int .i64 (k : Int) ∧ R = .int .i64 (Br.val l k)) (fun _ N => most - (intOf N).toNat)
    case atStart => exact ⟨0, Nat.zero_le _, rfl, rfl⟩
    case round =>
      obtain ⟨k, hk, rfl, rfl⟩ := hrel
      have hcm := HC.out.1
      have hcl := HC.out.2
      rw [HLN.out] at hcl
      by_cases hin : k < s.size ∧ k < most
      · obtain ⟨hin1, hin2⟩ := hin
        have hb : s[k].toNat < 256 := UInt8.toNat_lt _
        have hat : l[k]?.getD 0 = (s[k].toNat : Int) := by rw [← HL.out]; exact Utf.nums_at s k hin1
        have HAT := Lib.hid hat
        have h1 : (k : Int) < (s.size : Int) := by omega
        have h2 : (k : Int) < (most : Int) := by omega
        have hbd := Br.val_bd l most k hk
        have hp : (16 : Int) ^ k ≤ 16 ^ 6 := by
          have : (16 : Nat) ^ k ≤ 16 ^ 6 := Nat.pow_le_pow_right (by decide) (by omega)
          exact_mod_cast this
        have hv0 : 0 ≤ Br.val l k := hbd.1
        have hv1 : Br.val l k < 16777216 := by have := hbd.2; omega
        have hdb := Br.dig_bd (s[k].toNat : Int)
        have HVS := Lib.hid (Br.val_succ l k (by rw [HLN.out]; exact hin1))
        obtain ⟨D, hD⟩ : ∃ D, Br.dig (s[k].toNat : Int) = D := ⟨_, rfl⟩
        have HD := Lib.hid hD
        have HBD := Lib.hid (bDigit_any W (s[k].toNat : Int) (by omega) (by omega))
        rw [hD] at HBD hdb
        obtain ⟨V, hV⟩ : ∃ V, Br.val l k = V := ⟨_, rfl⟩
        have HV := Lib.hid hV
        rw [hV] at hv0 hv1 ⊢
        clear hat hbd hp hD hV hb
        by_cases hd : D < 0
        · have HE : Hid (Br.cnt l most = k) := Lib.hid (Br.cnt_ends l most k (by omega) (by rw [HLN.out]; omega) (fun j hj => Br.cnt_yes l most j (by omega)) (.inr (.inr (by rw [HAT.out, HD.out]; exact hd))))
          go_wp2_with (go_at_call 158; refine HBD.out.mono ?_; rintro e w' ⟨rfl, rfl⟩)
          go_ret2
          exact ⟨by rw [HE.out, HV.out]; rfl, rfl⟩
        · have hd0 : 0 ≤ D := by omega
          have hlt : k < Br.cnt l most := by
            rcases Nat.lt_or_ge k (Br.cnt l most) with h | h
            · exact h
            · obtain rfl : k = Br.cnt l most := by omega
              have := Br.cnt_no l most (by omega) (by rw [HLN.out]; omega)
              rw [HAT.out, HD.out] at this
              exact absurd this hd
          have hw1 : IntKind.i64.wrap (V * 16) = V * 16 := by rw [IntKind.wrap_i64]; omega
          have hw2 : IntKind.i64.wrap (V * 16 + D) = V * 16 + D := by rw [IntKind.wrap_i64]; omega
          have hw3 : IntKind.i64.wrap ((k : Int) + 1) = ((k + 1 : Nat) : Int) := by rw [IntKind.wrap_i64]; omega
          have HLT := Lib.hid hlt
          clear hlt hcm hcl hdb hk
          go_wp2_with (go_at_call 158; refine HBD.out.mono ?_; rintro e w' ⟨rfl, rfl⟩)
          go_round
          case rel => exact ⟨k + 1, HLT.out, by go_num, by rw [HVS.out, HAT.out, HD.out, HV.out]⟩
          case measure => simp [intOf]; omega
      · have HE : Hid (Br.cnt l most = k) := Lib.hid (Br.cnt_ends l most k (by omega) (by rw [HLN.out]; omega) (fun j hj => Br.cnt_yes l most j (by omega)) (by rw [HLN.out]; omega))
        have hno : ¬ ((k : Int) < (s.size : Int) ∧ (k : Int) < (most : Int)) := by omega
        go_wp2
        go_ret2
        exact ⟨by rw [HE.out]; rfl, rfl⟩
end Go.Proofs.YtmdpchiiamgnnaaGreatDoor
