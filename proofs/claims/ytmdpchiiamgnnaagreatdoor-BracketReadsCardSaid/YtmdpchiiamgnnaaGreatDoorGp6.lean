/- The landed bracket: digits. · The landed bracket: braced. · Mathematics of bracket: how long escapes and items are. -/
import Derived.Test.YtmdpchiiamgnnaaGreatDoorGp5
import Derived.IntWalk
import Derived.Test.YtmdpchiiamgnnaaGreatDoorGp2
namespace Go.Proofs.YtmdpchiiamgnnaaGreatDoor
open Go.RowKit
set_option linter.unusedVariables false
set_option maxRecDepth 100000 in
set_option maxHeartbeats 4000000 in
theorem bDigits_any (W : World) (s : ByteArray) (most : Nat) (hs : s.size ≤ 140737488351232) (hm : most ≤ 6) : Calls Tryz.prog 119 #[.string s, .int .i64 (most : Int)] W fun e w' =>
    e = .returned (.tuple #[.int .i64 (Br.val (Utf.nums s) (Br.cnt (Utf.nums s) most)), .int .i64 (Br.cnt (Utf.nums s) most : Int)]) ∧ W = w' := by
  obtain ⟨l, hl⟩ : ∃ l, Utf.nums s = l := ⟨_, rfl⟩
  have hln : l.length = s.size := by rw [← hl, Utf.nums_length]
  have hc := Br.cnt_le l most
  have HL := Lib.hid hl
  have HLN := Lib.hid hln
  have HC := Lib.hid hc
  rw [hl]
  clear hl hln hc
  by_cases h9 : most < s.size
  · have hmn : most < s.size := h9
    go_enter Tryz.func119, Tryz.ntmps119
    go_wp2
    go_loop [4, 5] (fun R N => ∃ k : Nat, k ≤ Br.cnt l most ∧ N = .int .i64 (k : Int) ∧ R = .int .i64 (Br.val l k)) (fun _ N => most - (intOf N).toNat)
    case atStart => exact ⟨0, Nat.zero_le _, rfl, rfl⟩
    case round =>
      obtain ⟨k, hk, rfl, rfl⟩ := hrel
      have hcm := HC.out.1
      have hcl := HC.out.2
      rw [HLN.out] at hcl
      by_cases hin : k < s.size ∧ k < most
      · obtain ⟨hin1, hin2⟩ := hin
        have hb : s[k].toNat < 256 := UInt8.toNat_lt _
        have hat : l[k]?.getD 0 = (s[k].toNat : Int) := by rw [← HL.out]; exact Utf.nums_at s k hin1
        have HAT := Lib.hid hat
        have h1 : (k : Int) < (s.size : Int) := by omega
        have h2 : (k : Int) < (most : Int) := by omega
        have hbd := Br.val_bd l most k hk
        have hp : (16 : Int) ^ k ≤ 16 ^ 6 := by
          have : (16 : Nat) ^ k ≤ 16 ^ 6 := Nat.pow_le_pow_right (by decide) (by omega)
          exact_mod_cast this
        have hv0 : 0 ≤ Br.val l k := hbd.1
        have hv1 : Br.val l k < 16777216 := by have := hbd.2; omega
        have hdb := Br.dig_bd (s[k].toNat : Int)
        have HVS := Lib.hid (Br.val_succ l k (by rw [HLN.out]; exact hin1))
        obtain ⟨D, hD⟩ : ∃ D, Br.dig (s[k].toNat : Int) = D := ⟨_, rfl⟩
        have HD := Lib.hid hD
        have HBD := Lib.hid (bDigit_any W (s[k].toNat : Int) (by omega) (by omega))
        rw [hD] at HBD hdb
        obtain ⟨V, hV⟩ : ∃ V, Br.val l k = V := ⟨_, rfl⟩
        have HV := Lib.hid hV
        rw [hV] at hv0 hv1 ⊢
        clear hat hbd hp hD hV hb
        by_cases hd : D < 0
        · have HE : Hid (Br.cnt l most = k) := Lib.hid (Br.cnt_ends l most k (by omega) (by rw [HLN.out]; omega) (fun j hj => Br.cnt_yes l most j (by omega)) (.inr (.inr (by rw [HAT.out, HD.out]; exact hd))))
          go_wp2_with (go_at_call 158; refine HBD.out.mono ?_; rintro e w' ⟨rfl, rfl⟩)
          go_ret2
          exact ⟨by rw [HE.out, HV.out]; rfl, rfl⟩
        · have hd0 : 0 ≤ D := by omega
          have hlt : k < Br.cnt l most := by
            rcases Nat.lt_or_ge k (Br.cnt l most) with h | h
            · exact h
            · obtain rfl : k = Br.cnt l most := by omega
              have := Br.cnt_no l most (by omega) (by rw [HLN.out]; omega)
              rw [HAT.out, HD.out] at this
              exact absurd this hd
          have hw1 : IntKind.i64.wrap (V * 16) = V * 16 := by rw [IntKind.wrap_i64]; omega
          have hw2 : IntKind.i64.wrap (V * 16 + D) = V * 16 + D := by rw [IntKind.wrap_i64]; omega
          have hw3 : IntKind.i64.wrap ((k : Int) + 1) = ((k + 1 : Nat) : Int) := by rw [IntKind.wrap_i64]; omega
          have HLT := Lib.hid hlt
          clear hlt hcm hcl hdb hk
          go_wp2_with (go_at_call 158; refine HBD.out.mono ?_; rintro e w' ⟨rfl, rfl⟩)
          go_round
          case rel => exact ⟨k + 1, HLT.out, by go_num, by rw [HVS.out, HAT.out, HD.out, HV.out]⟩
          case measure => simp [intOf]; omega
      · have HE : Hid (Br.cnt l most = k) := Lib.hid (Br.cnt_ends l most k (by omega) (by rw [HLN.out]; omega) (fun j hj => Br.cnt_yes l most j (by omega)) (by rw [HLN.out]; omega))
        have hno : ¬ ((k : Int) < (s.size : Int) ∧ (k : Int) < (most : Int)) := by omega
        go_wp2
        go_ret2
        exact ⟨by rw [HE.out]; rfl, rfl⟩
  · have hmn : ¬ most < s.size := h9
    go_enter Tryz.func119, Tryz.ntmps119
    go_wp2
    go_loop [4, 5] (fun R N => ∃ k : Nat, k ≤ Br.cnt l most ∧ N = .int .i64 (k : Int) ∧ R = .int .i64 (Br.val l k)) (fun _ N => most - (intOf N).toNat)
    case atStart => exact ⟨0, Nat.zero_le _, rfl, rfl⟩
    case round =>
      obtain ⟨k, hk, rfl, rfl⟩ := hrel
      have hcm := HC.out.1
      have hcl := HC.out.2
      rw [HLN.out] at hcl
      by_cases hin : k < s.size ∧ k < most
      · obtain ⟨hin1, hin2⟩ := hin
        have hb : s[k].toNat < 256 := UInt8.toNat_lt _
        have hat : l[k]?.getD 0 = (s[k].toNat : Int) := by rw [← HL.out]; exact Utf.nums_at s k hin1
        have HAT := Lib.hid hat
        have h1 : (k : Int) < (s.size : Int) := by omega
        have h2 : (k : Int) < (most : Int) := by omega
        have hbd := Br.val_bd l most k hk
        have hp : (16 : Int) ^ k ≤ 16 ^ 6 := by
          have : (16 : Nat) ^ k ≤ 16 ^ 6 := Nat.pow_le_pow_right (by decide) (by omega)
          exact_mod_cast this
        have hv0 : 0 ≤ Br.val l k := hbd.1
        have hv1 : Br.val l k < 16777216 := by have := hbd.2; omega
        have hdb := Br.dig_bd (s[k].toNat : Int)
        have HVS := Lib.hid (Br.val_succ l k (by rw [HLN.out]; exact hin1))
        obtain ⟨D, hD⟩ : ∃ D, Br.dig (s[k].toNat : Int) = D := ⟨_, rfl⟩
        have HD := Lib.hid hD
        have HBD := Lib.hid (bDigit_any W (s[k].toNat : Int) (by omega) (by omega))
        rw [hD] at HBD hdb
        obtain ⟨V, hV⟩ : ∃ V, Br.val l k = V := ⟨_, rfl⟩
        have HV := Lib.hid hV
        rw [hV] at hv0 hv1 ⊢
        clear hat hbd hp hD hV hb
        by_cases hd : D < 0
        · have HE : Hid (Br.cnt l most = k) := Lib.hid (Br.cnt_ends l most k (by omega) (by rw [HLN.out]; omega) (fun j hj => Br.cnt_yes l most j (by omega)) (.inr (.inr (by rw [HAT.out, HD.out]; exact hd))))
          go_wp2_with (go_at_call 158; refine HBD.out.mono ?_; rintro e w' ⟨rfl, rfl⟩)
          go_ret2
          exact ⟨by rw [HE.out, HV.out]; rfl, rfl⟩
        · have hd0 : 0 ≤ D := by omega
          have hlt : k < Br.cnt l most := by
            rcases Nat.lt_or_ge k (Br.cnt l most) with h | h
            · exact h
            · obtain rfl : k = Br.cnt l most := by omega
              have := Br.cnt_no l most (by omega) (by rw [HLN.out]; omega)
              rw [HAT.out, HD.out] at this
              exact absurd this hd
          have hw1 : IntKind.i64.wrap (V * 16) = V * 16 := by rw [IntKind.wrap_i64]; omega
          have hw2 : IntKind.i64.wrap (V * 16 + D) = V * 16 + D := by rw [IntKind.wrap_i64]; omega
          have hw3 : IntKind.i64.wrap ((k : Int) + 1) = ((k + 1 : Nat) : Int) := by rw [IntKind.wrap_i64]; omega
          have HLT := Lib.hid hlt
          clear hlt hcm hcl hdb hk
          go_wp2_with (go_at_call 158; refine HBD.out.mono ?_; rintro e w' ⟨rfl, rfl⟩)
          go_round
          case rel => exact ⟨k + 1, HLT.out, by go_num, by rw [HVS.out, HAT.out, HD.out, HV.out]⟩
          case measure => simp [intOf]; omega
      · have HE : Hid (Br.cnt l most = k) := Lib.hid (Br.cnt_ends l most k (by omega) (by rw [HLN.out]; omega) (fun j hj => Br.cnt_yes l most j (by omega)) (by rw [HLN.out]; omega))
        have hno : ¬ ((k : Int) < (s.size : Int) ∧ (k : Int) < (most : Int)) := by omega
        go_wp2
        go_ret2
        exact ⟨by rw [HE.out]; rfl, rfl⟩
end Go.Proofs.YtmdpchiiamgnnaaGreatDoor
namespace Go.Proofs.YtmdpchiiamgnnaaGreatDoor
open Go.RowKit
set_option linter.unusedVariables false
theorem tail_drop (s : ByteArray) (k : Nat) : Utf.nums (s.extract k s.size) = (Utf.nums s).drop k := by
  rw [Utf.nums_extract, List.take_of_length_le]
  rw [List.length_drop, Utf.nums_length]; omega
set_option maxRecDepth 100000 in
set_option maxHeartbeats 4000000 in
theorem bBraced_any (W : World) (s : ByteArray) (hs : s.size ≤ 140737488351232) (h3 : 3 ≤ s.size) : Calls Tryz.prog 118 #[.string s] W fun e w' =>
    e = .returned (.tuple #[.int .i64 (Br.braced (Utf.nums s)).1, .int .i64 (Br.braced (Utf.nums s)).2.1, .int .i64 (Br.braced (Utf.nums s)).2.2]) ∧ W = w' := by
  have hD := bDigits_any W (s.extract 3 s.size) 6 (by rw [ByteArray.size_extract]; omega) (by omega)
  rw [tail_drop] at hD
  have hc := Br.cnt_le ((Utf.nums s).drop 3) 6
  rw [List.length_drop, Utf.nums_length] at hc
  have hv := Br.val_bd ((Utf.nums s).drop 3) 6 _ (Nat.le_refl _)
  have hbr : Br.braced (Utf.nums s) = (if 3 + Br.cnt ((Utf.nums s).drop 3) 6 = s.size then (0, 0, 82) else if (Utf.nums s)[3 + Br.cnt ((Utf.nums s).drop 3) 6]?.getD 0 ≠ 125 ∨ Br.cnt ((Utf.nums s).drop 3) 6 = 0 ∨ 1114111 < Br.val ((Utf.nums s).drop 3) (Br.cnt ((Utf.nums s).drop 3) 6) then (0, 0, 80) else (Br.val ((Utf.nums s).drop 3) (Br.cnt ((Utf.nums s).drop 3) 6), (Br.cnt ((Utf.nums s).drop 3) 6 : Int) + 4, 0)) := by
    unfold Br.braced
    dsimp only
    rw [Utf.nums_length]
  obtain ⟨V, hV⟩ : ∃ V, Br.val ((Utf.nums s).drop 3) (Br.cnt ((Utf.nums s).drop 3) 6) = V := ⟨_, rfl⟩
  rw [hV] at hD hv hbr
  obtain ⟨K, hK⟩ : ∃ K, Br.cnt ((Utf.nums s).drop 3) 6 = K := ⟨_, rfl⟩
  rw [hK] at hD hc hbr
  have hv0 : 0 ≤ V := hv.1
  obtain ⟨e, he⟩ : ∃ e, 3 + K = e := ⟨_, rfl⟩
  rw [he] at hbr
  have hw : IntKind.i64.wrap (3 + (K : Int)) = (e : Int) := by rw [IntKind.wrap_i64]; omega
  have hw2 : IntKind.i64.wrap ((e : Int) + 1) = (K : Int) + 4 := by rw [IntKind.wrap_i64]; omega
  have h3i : (3 : Int) ≤ (s.size : Int) := by omega
  have HD := Lib.hid hD
  obtain ⟨R, hR⟩ : ∃ R, Br.braced (Utf.nums s) = R := ⟨_, rfl⟩
  rw [hR] at hbr ⊢
  have HBR := Lib.hid hbr
  clear hD hv hbr hR hV hK
  by_cases c1 : e = s.size
  · have HE : Hid (R = (0, 0, 82)) := Lib.hid (by rw [HBR.out, if_pos c1])
    have h1 : ((e : Int) == (s.size : Int)) = true := by simp [c1]
    clear he
    go_enter Tryz.func118, Tryz.ntmps118
    go_wp2_with (go_at_call 119; refine HD.out.mono ?_; rintro e w' ⟨rfl, rfl⟩)
    go_ret3
    exact ⟨by rw [HE.out]; rfl, rfl⟩
  have h1 : ((e : Int) == (s.size : Int)) = false := by simp; omega
  have hlt : e < s.size := by omega
  have hli : (e : Int) < (s.size : Int) := by omega
  have hb : s[e].toNat < 256 := UInt8.toNat_lt _
  have hat : (Utf.nums s)[e]?.getD 0 = (s[e].toNat : Int) := Utf.nums_at s e hlt
  have HAT := Lib.hid hat
  clear he hat
  by_cases c2 : (s[e].toNat : Int) = 125
  · by_cases c3 : K = 0
    · have HE : Hid (R = (0, 0, 80)) := Lib.hid (by rw [HBR.out, if_neg c1, if_pos (.inr (.inl c3))])
      have h4 : ((s[e].toNat : Int) != 125) = false := by simp [c2]
      have h5 : ((K : Int) == 0) = true := by simp [c3]
      clear c2 c3
      go_enter Tryz.func118, Tryz.ntmps118
      go_wp2_with (go_at_call 119; refine HD.out.mono ?_; rintro e w' ⟨rfl, rfl⟩)
      go_ret3
      exact ⟨by rw [HE.out]; rfl, rfl⟩
    · have h4 : ((s[e].toNat : Int) != 125) = false := by simp [c2]
      have h5 : ((K : Int) == 0) = false := by simp; omega
      by_cases c4 : 1114111 < V
      · have HE : Hid (R = (0, 0, 80)) := Lib.hid (by rw [HBR.out, if_neg c1, if_pos (.inr (.inr c4))])
        clear c2 c3
        go_enter Tryz.func118, Tryz.ntmps118
        go_wp2_with (go_at_call 119; refine HD.out.mono ?_; rintro e w' ⟨rfl, rfl⟩)
        go_ret3
        exact ⟨by rw [HE.out]; rfl, rfl⟩
      · have HE : Hid (R = (V, (K : Int) + 4, 0)) := Lib.hid (by rw [HBR.out, if_neg c1, if_neg (by rw [HAT.out]; omega)])
        clear c2 c3
        go_enter Tryz.func118, Tryz.ntmps118
        go_wp2_with (go_at_call 119; refine HD.out.mono ?_; rintro e w' ⟨rfl, rfl⟩)
        go_ret3
        exact ⟨by rw [HE.out]; rfl, rfl⟩
  · have HE : Hid (R = (0, 0, 80)) := Lib.hid (by rw [HBR.out, if_neg c1, if_pos (.inl (by rw [HAT.out]; exact c2))])
    have h4 : ((s[e].toNat : Int) != 125) = true := by simpa using c2
    clear c2
    go_enter Tryz.func118, Tryz.ntmps118
    go_wp2_with (go_at_call 119; refine HD.out.mono ?_; rintro e w' ⟨rfl, rfl⟩)
    go_ret3
    exact ⟨by rw [HE.out]; rfl, rfl⟩
end Go.Proofs.YtmdpchiiamgnnaaGreatDoor
namespace Go.Proofs.YtmdpchiiamgnnaaGreatDoor.Br
open Go.Proofs.YtmdpchiiamgnnaaGreatDoor.Rg
set_option linter.unusedVariables false
theorem getD_lt {l : List Int} {k : Nat} {c : Int} (h : l[k]?.getD 0 = c) (hc : c ≠ 0) : k < l.length := by
  rcases Nat.lt_or_ge k l.length with h1 | h1
  · exact h1
  · rw [List.getElem?_eq_none h1] at h; exact absurd h.symm hc
theorem plain_cases (c : Int) : (plain c = (0, 0, 80)) ∨ (0 ≤ (plain c).1 ∧ (plain c).1 ≤ 126 ∧ (plain c).2.1 = 2 ∧ (plain c).2.2 = 0) := by
  unfold plain
  repeat (split; · exact .inr ⟨by decide, by decide, rfl, rfl⟩)
  split
  · rename_i h
    simp [signB] at h
    exact .inr ⟨by show 0 ≤ c; omega, by show c ≤ 126; omega, rfl, rfl⟩
  · exact .inl rfl
/-- A number's escape: an error without number and length, or two bytes at least. -/
theorem num_cases (l : List Int) : ((num l).1 = 0 ∧ (num l).2.1 = 0 ∧ ((num l).2.2 = 3 ∨ (num l).2.2 = 82 ∨ (num l).2.2 = 80)) ∨ (0 ≤ (num l).1 ∧ (num l).1 ≤ 1114111 ∧ 2 ≤ (num l).2.1 ∧ (num l).2.1 ≤ l.length ∧ (num l).2.2 = 0) := by
  unfold num
  by_cases h0 : l[0]?.getD 0 ≠ 92
  · rw [if_pos h0]; exact .inl ⟨rfl, rfl, .inl rfl⟩
  rw [if_neg h0]
  have h00 : 0 < l.length := getD_lt (c := 92) (by omega) (by decide)
  by_cases h1 : l.length = 1
  · rw [if_pos h1]; exact .inl ⟨rfl, rfl, .inr (.inl rfl)⟩
  rw [if_neg h1]
  by_cases h2 : l[1]?.getD 0 ≠ 120
  · rw [if_pos h2]
    rcases plain_cases (l[1]?.getD 0) with h | ⟨h3, h4, h5, h6⟩
    · rw [h]; exact .inl ⟨rfl, rfl, .inr (.inr rfl)⟩
    · exact .inr ⟨h3, by omega, by omega, by omega, h6⟩
  rw [if_neg h2]
  by_cases h3 : l[2]?.getD 0 = 123
  · rw [if_pos h3]
    unfold braced
    dsimp only
    have hc := cnt_le (l.drop 3) 6
    have hv := val_bd (l.drop 3) 6 _ (Nat.le_refl _)
    rw [List.length_drop] at hc
    have h33 := getD_lt h3 (by decide)
    by_cases h4 : 3 + cnt (l.drop 3) 6 = l.length
    · rw [if_pos h4]; exact .inl ⟨rfl, rfl, .inr (.inl rfl)⟩
    rw [if_neg h4]
    by_cases h5 : l[3 + cnt (l.drop 3) 6]?.getD 0 ≠ 125 ∨ cnt (l.drop 3) 6 = 0 ∨ 1114111 < val (l.drop 3) (cnt (l.drop 3) 6)
    · rw [if_pos h5]; exact .inl ⟨rfl, rfl, .inr (.inr rfl)⟩
    rw [if_neg h5]
    refine .inr ⟨hv.1, ?_, ?_, ?_, rfl⟩
    · show val _ _ ≤ _; omega
    · show (2 : Int) ≤ ((cnt (l.drop 3) 6 : Nat) : Int) + 4; omega
    · show ((cnt (l.drop 3) 6 : Nat) : Int) + 4 ≤ _; omega
  · rw [if_neg h3]
    unfold two
    dsimp only
    have hc := cnt_le (l.drop 2) 2
    rw [List.length_drop] at hc
    by_cases h4 : cnt (l.drop 2) 2 = 2
    · rw [if_pos h4]
      have hv := val_bd (l.drop 2) 2 2 (by omega)
      refine .inr ⟨hv.1, ?_, ?_, ?_, rfl⟩
      · show val _ _ ≤ _; have := hv.2; omega
      · show (2 : Int) ≤ 4; omega
      · show (4 : Int) ≤ _; omega
    rw [if_neg h4]
    by_cases h5 : cnt (l.drop 2) 2 + 2 = l.length
    · rw [if_pos h5]; exact .inl ⟨rfl, rfl, .inr (.inl rfl)⟩
    · rw [if_neg h5]; exact .inl ⟨rfl, rfl, .inr (.inr rfl)⟩
theorem num_form {l : List Int} (h : l[0]?.getD 0 = 92) : (num l).2.2 ≠ 3 := by
  unfold num
  rw [if_neg (by omega)]
  split
  · decide
  split
  · rcases plain_cases (l[1]?.getD 0) with h | h
    · rw [h]; decide
    · rw [h.2.2.2]; decide
  split
  · unfold braced; dsimp only; split
    · decide
    · split <;> simp
  · unfold two; dsimp only; split
    · simp
    · split <;> simp
theorem num_no {l : List Int} (h : l[0]?.getD 0 ≠ 92) : num l = (0, 0, 3) := by unfold num; rw [if_pos h]
theorem nums_len (s : ByteArray) : (Utf.nums s).length = s.size := Utf.nums_length s
theorem nameX_cases (s : ByteArray) (h2 : 2 ≤ s.size) : ((nameX s).2.2 = 82 ∨ (nameX s).2.2 = 70) ∨ ((nameX s).2.2 = 0 ∧ 3 ≤ (nameX s).2.1 ∧ (nameX s).2.1 ≤ s.size) := by
  unfold nameX
  dsimp only
  rw [nums_len]
  by_cases h3 : s.size = 2
  · rw [if_pos h3]; exact .inl (.inl rfl)
  rw [if_neg h3]
  split
  · exact .inr ⟨rfl, Int.le_refl _, by show (3 : Int) ≤ _; omega⟩
  split
  · exact .inl (.inr rfl)
  split
  · exact .inl (.inl rfl)
  · rename_i h
    have := upTo_le 125 ((Utf.nums s).drop 3)
    rw [List.length_drop, nums_len] at h this
    refine .inr ⟨rfl, ?_, ?_⟩
    · show (3 : Int) ≤ ((upTo 125 ((Utf.nums s).drop 3) : Nat) : Int) + 4; omega
    · show ((upTo 125 ((Utf.nums s).drop 3) : Nat) : Int) + 4 ≤ _; omega
theorem propX_cases (s : ByteArray) (neg : Bool) (h2 : 2 ≤ s.size) : ((propX s neg).1 = none ∧ (propX s neg).2.1 = 0 ∧ ((propX s neg).2.2 = 82 ∨ (propX s neg).2.2 = 70)) ∨ (∃ x, (propX s neg).1 = some x ∧ (propX s neg).2.2 = 0 ∧ 3 ≤ (propX s neg).2.1 ∧ (propX s neg).2.1 ≤ s.size) := by
  unfold propX
  rcases nameX_cases s h2 with h | ⟨h, h3, h4⟩
  · rw [if_pos (by omega)]; exact .inl ⟨rfl, rfl, h⟩
  · rw [if_neg (by omega)]
    cases hl : Cl.lookC Cl.propT (nameX s).1.data.toList with
    | none => exact .inl ⟨rfl, rfl, .inr rfl⟩
    | some p => exact .inr ⟨_, rfl, rfl, h3, h4⟩
/-- A set's escape. -/
theorem set_cases (s : ByteArray) : ((set s).1 = none ∧ (set s).2.1 = 0 ∧ ((set s).2.2 = 3 ∨ (set s).2.2 = 5 ∨ (set s).2.2 = 82 ∨ (set s).2.2 = 70)) ∨ (∃ x, (set s).1 = some x ∧ (set s).2.2 = 0 ∧ 2 ≤ (set s).2.1 ∧ (set s).2.1 ≤ s.size) := by
  unfold set
  dsimp only
  by_cases h0 : (Utf.nums s)[0]?.getD 0 ≠ 92
  · rw [if_pos h0]; exact .inl ⟨rfl, rfl, .inl rfl⟩
  rw [if_neg h0]
  have h00 : 0 < (Utf.nums s).length := getD_lt (c := 92) (by omega) (by decide)
  by_cases h1 : (Utf.nums s).length = 1
  · rw [if_pos h1]; exact .inl ⟨rfl, rfl, .inr (.inl rfl)⟩
  rw [if_neg h1]
  rw [nums_len] at h00 h1
  split
  · rcases propX_cases s true (by omega) with ⟨e1, e2, e3⟩ | ⟨x, e1, e2, e3, e4⟩
    · exact .inl ⟨e1, e2, e3.elim (fun e => .inr (.inr (.inl e))) (fun e => .inr (.inr (.inr e)))⟩
    · exact .inr ⟨x, e1, e2, by omega, e4⟩
  split
  · rcases propX_cases s false (by omega) with ⟨e1, e2, e3⟩ | ⟨x, e1, e2, e3, e4⟩
    · exact .inl ⟨e1, e2, e3.elim (fun e => .inr (.inr (.inl e))) (fun e => .inr (.inr (.inr e)))⟩
    · exact .inr ⟨x, e1, e2, by omega, e4⟩
  cases Cl.letterX ((Utf.nums s)[1]?.getD 0) with
  | none => exact .inl ⟨rfl, rfl, .inr (.inl rfl)⟩
  | some x => exact .inr ⟨x, rfl, rfl, Int.le_refl _, by show (2 : Int) ≤ _; omega⟩
theorem one_cases (l : List Int) (hb : Utf.Bytes l) : ((one l).1 = 0 ∧ (one l).2.1 = 0 ∧ ((one l).2.2 = 3 ∨ (one l).2.2 = 82 ∨ (one l).2.2 = 80)) ∨ (0 ≤ (one l).1 ∧ (one l).1 ≤ 1114111 ∧ 1 ≤ (one l).2.1 ∧ (one l).2.1 ≤ l.length ∧ (one l).2.2 = 0) := by
  unfold one
  split
  · rcases num_cases l with h | ⟨h1, h2, h3, h4, h5⟩
    · exact .inl h
    · exact .inr ⟨h1, h2, by omega, h4, h5⟩
  split
  · exact .inl ⟨rfl, rfl, .inl rfl⟩
  · rename_i h
    have h1 := Utf.dec_len l hb
    have h2 := Utf.dec_neg l hb
    have hl : l ≠ [] := by rintro rfl; exact h (by decide)
    exact .inr ⟨by show 0 ≤ (Utf.dec l).1; omega, h2.2.2, h1.2.2.1 hl, h1.2.1, rfl⟩
/-- An item that is read ends behind its beginning, and in the text. -/
theorem item_bd (s : ByteArray) (at_ : Nat) (x : It) (next : Nat) (h : item s at_ = .ok x next) : at_ < next ∧ next ≤ s.size := by
  unfold item at h
  dsimp only at h
  split at h
  · rename_i hc
    have h1 : at_ + 1 < s.size := by
      have := (List.getElem?_eq_some_iff.1 hc.2).1
      rw [List.length_drop, nums_len] at this; omega
    unfold colonX at h
    dsimp only at h
    split at h
    · cases h
    rename_i hn
    have h2 := upTo2_le 58 93 ((Utf.nums s).drop (at_ + 2))
    have h3 := upTo2_at 58 93 ((Utf.nums s).drop (at_ + 2)) (by omega)
    have h4 := (List.getElem?_eq_some_iff.1 h3.2).1
    rw [List.length_drop, nums_len] at h4
    split at h
    · cases h
    · cases h; omega
  split at h
  · rename_i hc
    rcases set_cases (s.extract at_ s.size) with ⟨e1, e2, e3⟩ | ⟨y, e1, e2, e3, e4⟩
    · omega
    · rw [e1] at h
      cases h
      rw [ByteArray.size_extract] at e4
      omega
  split at h
  · cases h
  unfold span at h
  dsimp only at h
  split at h
  · cases h
  have o1 := one_cases ((Utf.nums s).drop at_) (Utf.bytes_drop (Utf.nums_bytes s) _)
  rw [List.length_drop, nums_len] at o1
  split at h
  · cases h; omega
  rename_i hg
  split at h
  · cases h
  split at h
  · cases h
  rename_i ho
  have o2 := one_cases ((Utf.nums s).drop (at_ + (one ((Utf.nums s).drop at_)).2.1.toNat + 1)) (Utf.bytes_drop (Utf.nums_bytes s) _)
  rw [List.length_drop, nums_len] at o2
  split at h
  · cases h
  · cases h; omega
theorem items_fuel (s : ByteArray) (fs : Nat) : ∀ (f g at_ : Nat) (Xs : List It), s.size + 1 - at_ ≤ f → s.size + 1 - at_ ≤ g → items s fs f at_ Xs = items s fs g at_ Xs
  | 0, 0, at_, Xs, _, _ => rfl
  | 0, g + 1, at_, Xs, h, _ => by
    unfold items
    rw [if_pos (by omega)]
  | f + 1, 0, at_, Xs, _, h => by
    unfold items
    rw [if_pos (by omega)]
  | f + 1, g + 1, at_, Xs, hf, hg => by
    unfold items
    by_cases h1 : s.size ≤ at_
    · rw [if_pos h1, if_pos h1]
    rw [if_neg h1, if_neg h1]
    by_cases h2 : (Utf.nums s)[at_]?.getD 0 = 93 ∧ fs < at_
    · rw [if_pos h2, if_pos h2]
    rw [if_neg h2, if_neg h2]
    cases hx : item s at_ with
    | bad o c => rfl
    | ok x next =>
      have := item_bd s at_ x next hx
      exact items_fuel s fs f g next (Xs ++ [x]) (by omega) (by omega)
/-- The items from a place on. -/
def rest (s : ByteArray) (fs at_ : Nat) (Xs : List It) : Res (List It) := items s fs (s.size + 1 - at_) at_ Xs
theorem rest_end {s : ByteArray} {fs at_ : Nat} {Xs : List It} (h : s.size ≤ at_) : rest s fs at_ Xs = .bad s.size 82 := by
  unfold rest
  cases s.size + 1 - at_ with
  | zero => rfl
  | succ k => unfold items; rw [if_pos h]
theorem rest_close {s : ByteArray} {fs at_ : Nat} {Xs : List It} (h : at_ < s.size) (h2 : (Utf.nums s)[at_]?.getD 0 = 93) (h3 : fs < at_) : rest s fs at_ Xs = .ok Xs at_ := by
  unfold rest
  rw [show s.size + 1 - at_ = (s.size - at_) + 1 by omega]
  unfold items; rw [if_neg (by omega), if_pos ⟨h2, h3⟩]
theorem rest_bad {s : ByteArray} {fs at_ : Nat} {Xs : List It} {o c : Int} (h : at_ < s.size) (h2 : ¬ ((Utf.nums s)[at_]?.getD 0 = 93 ∧ fs < at_)) (hx : item s at_ = .bad o c) : rest s fs at_ Xs = .bad o c := by
  unfold rest
  rw [show s.size + 1 - at_ = (s.size - at_) + 1 by omega]
  unfold items; rw [if_neg (by omega), if_neg h2, hx]
theorem rest_step {s : ByteArray} {fs at_ : Nat} {Xs : List It} {x : It} {next : Nat} (h : at_ < s.size) (h2 : ¬ ((Utf.nums s)[at_]?.getD 0 = 93 ∧ fs < at_)) (hx : item s at_ = .ok x next) : rest s fs at_ Xs = rest s fs next (Xs ++ [x]) := by
  have hb := item_bd s at_ x next hx
  unfold rest
  rw [show s.size + 1 - at_ = (s.size - at_) + 1 by omega]
  rw [items, if_neg (by omega), if_neg h2, hx]
  exact items_fuel s fs _ _ next _ (by omega) (Nat.le_refl _)
theorem brack_no {s : ByteArray} (h : (Utf.nums s)[0]?.getD 0 ≠ 91) : brack s = .bad 0 3 := by unfold brack; rw [if_pos h]
theorem brack_yes {s : ByteArray} (h : (Utf.nums s)[0]?.getD 0 = 91) : brack s = rest s (first (Utf.nums s)) (first (Utf.nums s)) [] := by unfold brack rest; rw [if_neg (by omega)]
end Go.Proofs.YtmdpchiiamgnnaaGreatDoor.Br
