/- The landed bracket: digits. · The landed bracket: braced. -/
import Derived.Test.YtcomjkoaieeidaaGreatDoorGp8
import Derived.IntWalk
namespace Go.Proofs.YtcomjkoaieeidaaGreatDoor
open Go.RowKit
set_option linter.unusedVariables false
set_option maxRecDepth 100000 in
set_option maxHeartbeats 4000000 in
theorem bDigits_any (W : World) (s : ByteArray) (most : Nat) (hs : s.size ≤ 140737488351232) (hm : most ≤ 6) : Calls Tryz.prog 26 #[.string s, .int .i64 (most : Int)] W fun e w' =>
    e = .returned (.tuple #[.int .i64 (Br.val (Utf.nums s) (Br.cnt (Utf.nums s) most)), .int .i64 (Br.cnt (Utf.nums s) most : Int)]) ∧ W = w' := by
  obtain ⟨l, hl⟩ : ∃ l, Utf.nums s = l := ⟨_, rfl⟩
  have hln : l.length = s.size := by rw [← hl, Utf.nums_length]
  have hc := Br.cnt_le l most
  have HL := Lib.hid hl
  have HLN := Lib.hid hln
  have HC := Lib.hid hc
  rw [hl]
  clear hl hln hc
  by_cases h9 : most < s.size
  · have hmn : most < s.size := h9
    go_enter Tryz.func26, Tryz.ntmps26
    go_wp2
    go_loop [4, 5] (fun R N => ∃ k : Nat, k ≤ Br.cnt l most ∧ N = .int .i64 (k : Int) ∧ R = .int .i64 (Br.val l k)) (fun _ N => most - (intOf N).toNat)
    case atStart => exact ⟨0, Nat.zero_le _, rfl, rfl⟩
    case round =>
      obtain ⟨k, hk, rfl, rfl⟩ := hrel
      have hcm := HC.out.1
      have hcl := HC.out.2
      rw [HLN.out] at hcl
      by_cases hin : k < s.size ∧ k < most
      · obtain ⟨hin1, hin2⟩ := hin
        have hb : s[k].toNat < 256 := UInt8.toNat_lt _
        have hat : l[k]?.getD 0 = (s[k].toNat : Int) := by rw [← HL.out]; exact Utf.nums_at s k hin1
        have HAT := Lib.hid hat
        have h1 : (k : Int) < (s.size : Int) := by omega
        have h2 : (k : Int) < (most : Int) := by omega
        have hbd := Br.val_bd l most k hk
        have hp : (16 : Int) ^ k ≤ 16 ^ 6 := by
          have : (16 : Nat) ^ k ≤ 16 ^ 6 := Nat.pow_le_pow_right (by decide) (by omega)
          exact_mod_cast this
        have hv0 : 0 ≤ Br.val l k := hbd.1
        have hv1 : Br.val l k < 16777216 := by have := hbd.2; omega
        have hdb := Br.dig_bd (s[k].toNat : Int)
        have HVS := Lib.hid (Br.val_succ l k (by rw [HLN.out]; exact hin1))
        obtain ⟨D, hD⟩ : ∃ D, Br.dig (s[k].toNat : Int) = D := ⟨_, rfl⟩
        have HD := Lib.hid hD
        have HBD := Lib.hid (bDigit_any W (s[k].toNat : Int) (by omega) (by omega))
        rw [hD] at HBD hdb
        obtain ⟨V, hV⟩ : ∃ V, Br.val l k = V := ⟨_, rfl⟩
        have HV := Lib.hid hV
        rw [hV] at hv0 hv1 ⊢
        clear hat hbd hp hD hV hb
        by_cases hd : D < 0
        · have HE : Hid (Br.cnt l most = k) := Lib.hid (Br.cnt_ends l most k (by omega) (by rw [HLN.out]; omega) (fun j hj => Br.cnt_yes l most j (by omega)) (.inr (.inr (by rw [HAT.out, HD.out]; exact hd))))
          go_wp2_with (go_at_call 50; refine HBD.out.mono ?_; rintro e w' ⟨rfl, rfl⟩)
          go_ret2
          exact ⟨by rw [HE.out, HV.out]; rfl, rfl⟩
        · have hd0 : 0 ≤ D := by omega
          have hlt : k < Br.cnt l most := by
            rcases Nat.lt_or_ge k (Br.cnt l most) with h | h
            · exact h
            · obtain rfl : k = Br.cnt l most := by omega
              have := Br.cnt_no l most (by omega) (by rw [HLN.out]; omega)
              rw [HAT.out, HD.out] at this
              exact absurd this hd
          have hw1 : IntKind.i64.wrap (V * 16) = V * 16 := by rw [IntKind.wrap_i64]; omega
          have hw2 : IntKind.i64.wrap (V * 16 + D) = V * 16 + D := by rw [IntKind.wrap_i64]; omega
          have hw3 : IntKind.i64.wrap ((k : Int) + 1) = ((k + 1 : Nat) : Int) := by rw [IntKind.wrap_i64]; omega
          have HLT := Lib.hid hlt
          clear hlt hcm hcl hdb hk
          go_wp2_with (go_at_call 50; refine HBD.out.mono ?_; rintro e w' ⟨rfl, rfl⟩)
          go_round
          case rel => exact ⟨k + 1, HLT.out, by go_num, by rw [HVS.out, HAT.out, HD.out, HV.out]⟩
          case measure => simp [intOf]; omega
      · have HE : Hid (Br.cnt l most = k) := Lib.hid (Br.cnt_ends l most k (by omega) (by rw [HLN.out]; omega) (fun j hj => Br.cnt_yes l most j (by omega)) (by rw [HLN.out]; omega))
        have hno : ¬ ((k : Int) < (s.size : Int) ∧ (k : Int) < (most : Int)) := by omega
        go_wp2
        go_ret2
        exact ⟨by rw [HE.out]; rfl, rfl⟩
  · have hmn : ¬ most < s.size := h9
    go_enter Tryz.func26, Tryz.ntmps26
    go_wp2
    go_loop [4, 5] (fun R N => ∃ k : Nat, k ≤ Br.cnt l most ∧ N = .int .i64 (k : Int) ∧ R = .int .i64 (Br.val l k)) (fun _ N => most - (intOf N).toNat)
    case atStart => exact ⟨0, Nat.zero_le _, rfl, rfl⟩
    case round =>
      obtain ⟨k, hk, rfl, rfl⟩ := hrel
      have hcm := HC.out.1
      have hcl := HC.out.2
      rw [HLN.out] at hcl
      by_cases hin : k < s.size ∧ k < most
      · obtain ⟨hin1, hin2⟩ := hin
        have hb : s[k].toNat < 256 := UInt8.toNat_lt _
        have hat : l[k]?.getD 0 = (s[k].toNat : Int) := by rw [← HL.out]; exact Utf.nums_at s k hin1
        have HAT := Lib.hid hat
        have h1 : (k : Int) < (s.size : Int) := by omega
        have h2 : (k : Int) < (most : Int) := by omega
        have hbd := Br.val_bd l most k hk
        have hp : (16 : Int) ^ k ≤ 16 ^ 6 := by
          have : (16 : Nat) ^ k ≤ 16 ^ 6 := Nat.pow_le_pow_right (by decide) (by omega)
          exact_mod_cast this
        have hv0 : 0 ≤ Br.val l k := hbd.1
        have hv1 : Br.val l k < 16777216 := by have := hbd.2; omega
        have hdb := Br.dig_bd (s[k].toNat : Int)
        have HVS := Lib.hid (Br.val_succ l k (by rw [HLN.out]; exact hin1))
        obtain ⟨D, hD⟩ : ∃ D, Br.dig (s[k].toNat : Int) = D := ⟨_, rfl⟩
        have HD := Lib.hid hD
        have HBD := Lib.hid (bDigit_any W (s[k].toNat : Int) (by omega) (by omega))
        rw [hD] at HBD hdb
        obtain ⟨V, hV⟩ : ∃ V, Br.val l k = V := ⟨_, rfl⟩
        have HV := Lib.hid hV
        rw [hV] at hv0 hv1 ⊢
        clear hat hbd hp hD hV hb
        by_cases hd : D < 0
        · have HE : Hid (Br.cnt l most = k) := Lib.hid (Br.cnt_ends l most k (by omega) (by rw [HLN.out]; omega) (fun j hj => Br.cnt_yes l most j (by omega)) (.inr (.inr (by rw [HAT.out, HD.out]; exact hd))))
          go_wp2_with (go_at_call 50; refine HBD.out.mono ?_; rintro e w' ⟨rfl, rfl⟩)
          go_ret2
          exact ⟨by rw [HE.out, HV.out]; rfl, rfl⟩
        · have hd0 : 0 ≤ D := by omega
          have hlt : k < Br.cnt l most := by
            rcases Nat.lt_or_ge k (Br.cnt l most) with h | h
            · exact h
            · obtain rfl : k = Br.cnt l most := by omega
              have := Br.cnt_no l most (by omega) (by rw [HLN.out]; omega)
              rw [HAT.out, HD.out] at this
              exact absurd this hd
          have hw1 : IntKind.i64.wrap (V * 16) = V * 16 := by rw [IntKind.wrap_i64]; omega
          have hw2 : IntKind.i64.wrap (V * 16 + D) = V * 16 + D := by rw [IntKind.wrap_i64]; omega
          have hw3 : IntKind.i64.wrap ((k : Int) + 1) = ((k + 1 : Nat) : Int) := by rw [IntKind.wrap_i64]; omega
          have HLT := Lib.hid hlt
          clear hlt hcm hcl hdb hk
          go_wp2_with (go_at_call 50; refine HBD.out.mono ?_; rintro e w' ⟨rfl, rfl⟩)
          go_round
          case rel => exact ⟨k + 1, HLT.out, by go_num, by rw [HVS.out, HAT.out, HD.out, HV.out]⟩
          case measure => simp [intOf]; omega
      · have HE : Hid (Br.cnt l most = k) := Lib.hid (Br.cnt_ends l most k (by omega) (by rw [HLN.out]; omega) (fun j hj => Br.cnt_yes l most j (by omega)) (by rw [HLN.out]; omega))
        have hno : ¬ ((k : Int) < (s.size : Int) ∧ (k : Int) < (most : Int)) := by omega
        go_wp2
        go_ret2
        exact ⟨by rw [HE.out]; rfl, rfl⟩
end Go.Proofs.YtcomjkoaieeidaaGreatDoor
namespace Go.Proofs.YtcomjkoaieeidaaGreatDoor
open Go.RowKit
set_option linter.unusedVariables false
theorem tail_drop (s : ByteArray) (k : Nat) : Utf.nums (s.extract k s.size) = (Utf.nums s).drop k := by
  rw [Utf.nums_extract, List.take_of_length_le]
  rw [List.length_drop, Utf.nums_length]; omega
set_option maxRecDepth 100000 in
set_option maxHeartbeats 4000000 in
theorem bBraced_any (W : World) (s : ByteArray) (hs : s.size ≤ 140737488351232) (h3 : 3 ≤ s.size) : Calls Tryz.prog 25 #[.string s] W fun e w' =>
    e = .returned (.tuple #[.int .i64 (Br.braced (Utf.nums s)).1, .int .i64 (Br.braced (Utf.nums s)).2.1, .int .i64 (Br.braced (Utf.nums s)).2.2]) ∧ W = w' := by
  have hD := bDigits_any W (s.extract 3 s.size) 6 (by rw [ByteArray.size_extract]; omega) (by omega)
  rw [tail_drop] at hD
  have hc := Br.cnt_le ((Utf.nums s).drop 3) 6
  rw [List.length_drop, Utf.nums_length] at hc
  have hv := Br.val_bd ((Utf.nums s).drop 3) 6 _ (Nat.le_refl _)
  have hbr : Br.braced (Utf.nums s) = (if 3 + Br.cnt ((Utf.nums s).drop 3) 6 = s.size then (0, 0, 82) else if (Utf.nums s)[3 + Br.cnt ((Utf.nums s).drop 3) 6]?.getD 0 ≠ 125 ∨ Br.cnt ((Utf.nums s).drop 3) 6 = 0 ∨ 1114111 < Br.val ((Utf.nums s).drop 3) (Br.cnt ((Utf.nums s).drop 3) 6) then (0, 0, 80) else (Br.val ((Utf.nums s).drop 3) (Br.cnt ((Utf.nums s).drop 3) 6), (Br.cnt ((Utf.nums s).drop 3) 6 : Int) + 4, 0)) := by
    unfold Br.braced
    dsimp only
    rw [Utf.nums_length]
  obtain ⟨V, hV⟩ : ∃ V, Br.val ((Utf.nums s).drop 3) (Br.cnt ((Utf.nums s).drop 3) 6) = V := ⟨_, rfl⟩
  rw [hV] at hD hv hbr
  obtain ⟨K, hK⟩ : ∃ K, Br.cnt ((Utf.nums s).drop 3) 6 = K := ⟨_, rfl⟩
  rw [hK] at hD hc hbr
  have hv0 : 0 ≤ V := hv.1
  obtain ⟨e, he⟩ : ∃ e, 3 + K = e := ⟨_, rfl⟩
  rw [he] at hbr
  have hw : IntKind.i64.wrap (3 + (K : Int)) = (e : Int) := by rw [IntKind.wrap_i64]; omega
  have hw2 : IntKind.i64.wrap ((e : Int) + 1) = (K : Int) + 4 := by rw [IntKind.wrap_i64]; omega
  have h3i : (3 : Int) ≤ (s.size : Int) := by omega
  have HD := Lib.hid hD
  obtain ⟨R, hR⟩ : ∃ R, Br.braced (Utf.nums s) = R := ⟨_, rfl⟩
  rw [hR] at hbr ⊢
  have HBR := Lib.hid hbr
  clear hD hv hbr hR hV hK
  by_cases c1 : e = s.size
  · have HE : Hid (R = (0, 0, 82)) := Lib.hid (by rw [HBR.out, if_pos c1])
    have h1 : ((e : Int) == (s.size : Int)) = true := by simp [c1]
    clear he
    go_enter Tryz.func25, Tryz.ntmps25
    go_wp2_with (go_at_call 26; refine HD.out.mono ?_; rintro e w' ⟨rfl, rfl⟩)
    go_ret3
    exact ⟨by rw [HE.out]; rfl, rfl⟩
  have h1 : ((e : Int) == (s.size : Int)) = false := by simp; omega
  have hlt : e < s.size := by omega
  have hli : (e : Int) < (s.size : Int) := by omega
  have hb : s[e].toNat < 256 := UInt8.toNat_lt _
  have hat : (Utf.nums s)[e]?.getD 0 = (s[e].toNat : Int) := Utf.nums_at s e hlt
  have HAT := Lib.hid hat
  clear he hat
  by_cases c2 : (s[e].toNat : Int) = 125
  · by_cases c3 : K = 0
    · have HE : Hid (R = (0, 0, 80)) := Lib.hid (by rw [HBR.out, if_neg c1, if_pos (.inr (.inl c3))])
      have h4 : ((s[e].toNat : Int) != 125) = false := by simp [c2]
      have h5 : ((K : Int) == 0) = true := by simp [c3]
      clear c2 c3
      go_enter Tryz.func25, Tryz.ntmps25
      go_wp2_with (go_at_call 26; refine HD.out.mono ?_; rintro e w' ⟨rfl, rfl⟩)
      go_ret3
      exact ⟨by rw [HE.out]; rfl, rfl⟩
    · have h4 : ((s[e].toNat : Int) != 125) = false := by simp [c2]
      have h5 : ((K : Int) == 0) = false := by simp; omega
      by_cases c4 : 1114111 < V
      · have HE : Hid (R = (0, 0, 80)) := Lib.hid (by rw [HBR.out, if_neg c1, if_pos (.inr (.inr c4))])
        clear c2 c3
        go_enter Tryz.func25, Tryz.ntmps25
        go_wp2_with (go_at_call 26; refine HD.out.mono ?_; rintro e w' ⟨rfl, rfl⟩)
        go_ret3
        exact ⟨by rw [HE.out]; rfl, rfl⟩
      · have HE : Hid (R = (V, (K : Int) + 4, 0)) := Lib.hid (by rw [HBR.out, if_neg c1, if_neg (by rw [HAT.out]; omega)])
        clear c2 c3
        go_enter Tryz.func25, Tryz.ntmps25
        go_wp2_with (go_at_call 26; refine HD.out.mono ?_; rintro e w' ⟨rfl, rfl⟩)
        go_ret3
        exact ⟨by rw [HE.out]; rfl, rfl⟩
  · have HE : Hid (R = (0, 0, 80)) := Lib.hid (by rw [HBR.out, if_neg c1, if_pos (.inl (by rw [HAT.out]; exact c2))])
    have h4 : ((s[e].toNat : Int) != 125) = true := by simpa using c2
    clear c2
    go_enter Tryz.func25, Tryz.ntmps25
    go_wp2_with (go_at_call 26; refine HD.out.mono ?_; rintro e w' ⟨rfl, rfl⟩)
    go_ret3
    exact ⟨by rw [HE.out]; rfl, rfl⟩
end Go.Proofs.YtcomjkoaieeidaaGreatDoor
