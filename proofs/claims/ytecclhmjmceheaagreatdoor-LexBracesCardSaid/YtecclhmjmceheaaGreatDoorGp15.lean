/- The landed bracket: digits. · The landed bracket: braced. · The landed bracket: propertyName. -/
import Derived.Test.YtecclhmjmceheaaGreatDoorGp14
import Derived.IntWalk
import Derived.Test.YtecclhmjmceheaaGreatDoorGp3
namespace Go.Proofs.YtecclhmjmceheaaGreatDoor
open Go.RowKit
set_option linter.unusedVariables false
set_option maxRecDepth 100000 in
set_option maxHeartbeats 4000000 in
theorem bDigits_any (W : World) (s : ByteArray) (most : Nat) (hs : s.size ≤ 140737488351232) (hm : most ≤ 6) : Calls Tryz.prog 120 #[.string s, .int .i64 (most : Int)] W fun e w' =>
    e = .returned (.tuple #[.int .i64 (Br.val (Utf.nums s) (Br.cnt (Utf.nums s) most)), .int .i64 (Br.cnt (Utf.nums s) most : Int)]) ∧ W = w' := by
  obtain ⟨l, hl⟩ : ∃ l, Utf.nums s = l := ⟨_, rfl⟩
  have hln : l.length = s.size := by rw [← hl, Utf.nums_length]
  have hc := Br.cnt_le l most
  have HL := Lib.hid hl
  have HLN := Lib.hid hln
  have HC := Lib.hid hc
  rw [hl]
  clear hl hln hc
  by_cases h9 : most < s.size
  · have hmn : most < s.size := h9
    go_enter Tryz.func120, Tryz.ntmps120
    go_wp2
    go_loop [4, 5] (fun R N => ∃ k : Nat, k ≤ Br.cnt l most ∧ N = .int .i64 (k : Int) ∧ R = .int .i64 (Br.val l k)) (fun _ N => most - (intOf N).toNat)
    case atStart => exact ⟨0, Nat.zero_le _, rfl, rfl⟩
    case round =>
      obtain ⟨k, hk, rfl, rfl⟩ := hrel
      have hcm := HC.out.1
      have hcl := HC.out.2
      rw [HLN.out] at hcl
      by_cases hin : k < s.size ∧ k < most
      · obtain ⟨hin1, hin2⟩ := hin
        have hb : s[k].toNat < 256 := UInt8.toNat_lt _
        have hat : l[k]?.getD 0 = (s[k].toNat : Int) := by rw [← HL.out]; exact Utf.nums_at s k hin1
        have HAT := Lib.hid hat
        have h1 : (k : Int) < (s.size : Int) := by omega
        have h2 : (k : Int) < (most : Int) := by omega
        have hbd := Br.val_bd l most k hk
        have hp : (16 : Int) ^ k ≤ 16 ^ 6 := by
          have : (16 : Nat) ^ k ≤ 16 ^ 6 := Nat.pow_le_pow_right (by decide) (by omega)
          exact_mod_cast this
        have hv0 : 0 ≤ Br.val l k := hbd.1
        have hv1 : Br.val l k < 16777216 := by have := hbd.2; omega
        have hdb := Br.dig_bd (s[k].toNat : Int)
        have HVS := Lib.hid (Br.val_succ l k (by rw [HLN.out]; exact hin1))
        obtain ⟨D, hD⟩ : ∃ D, Br.dig (s[k].toNat : Int) = D := ⟨_, rfl⟩
        have HD := Lib.hid hD
        have HBD := Lib.hid (bDigit_any W (s[k].toNat : Int) (by omega) (by omega))
        rw [hD] at HBD hdb
        obtain ⟨V, hV⟩ : ∃ V, Br.val l k = V := ⟨_, rfl⟩
        have HV := Lib.hid hV
        rw [hV] at hv0 hv1 ⊢
        clear hat hbd hp hD hV hb
        by_cases hd : D < 0
        · have HE : Hid (Br.cnt l most = k) := Lib.hid (Br.cnt_ends l most k (by omega) (by rw [HLN.out]; omega) (fun j hj => Br.cnt_yes l most j (by omega)) (.inr (.inr (by rw [HAT.out, HD.out]; exact hd))))
          go_wp2_with (go_at_call 152; refine HBD.out.mono ?_; rintro e w' ⟨rfl, rfl⟩)
          go_ret2
          exact ⟨by rw [HE.out, HV.out]; rfl, rfl⟩
        · have hd0 : 0 ≤ D := by omega
          have hlt : k < Br.cnt l most := by
            rcases Nat.lt_or_ge k (Br.cnt l most) with h | h
            · exact h
            · obtain rfl : k = Br.cnt l most := by omega
              have := Br.cnt_no l most (by omega) (by rw [HLN.out]; omega)
              rw [HAT.out, HD.out] at this
              exact absurd this hd
          have hw1 : IntKind.i64.wrap (V * 16) = V * 16 := by rw [IntKind.wrap_i64]; omega
          have hw2 : IntKind.i64.wrap (V * 16 + D) = V * 16 + D := by rw [IntKind.wrap_i64]; omega
          have hw3 : IntKind.i64.wrap ((k : Int) + 1) = ((k + 1 : Nat) : Int) := by rw [IntKind.wrap_i64]; omega
          have HLT := Lib.hid hlt
          clear hlt hcm hcl hdb hk
          go_wp2_with (go_at_call 152; refine HBD.out.mono ?_; rintro e w' ⟨rfl, rfl⟩)
          go_round
          case rel => exact ⟨k + 1, HLT.out, by go_num, by rw [HVS.out, HAT.out, HD.out, HV.out]⟩
          case measure => simp [intOf]; omega
      · have HE : Hid (Br.cnt l most = k) := Lib.hid (Br.cnt_ends l most k (by omega) (by rw [HLN.out]; omega) (fun j hj => Br.cnt_yes l most j (by omega)) (by rw [HLN.out]; omega))
        have hno : ¬ ((k : Int) < (s.size : Int) ∧ (k : Int) < (most : Int)) := by omega
        go_wp2
        go_ret2
        exact ⟨by rw [HE.out]; rfl, rfl⟩
  · have hmn : ¬ most < s.size := h9
    go_enter Tryz.func120, Tryz.ntmps120
    go_wp2
    go_loop [4, 5] (fun R N => ∃ k : Nat, k ≤ Br.cnt l most ∧ N = .int .i64 (k : Int) ∧ R = .int .i64 (Br.val l k)) (fun _ N => most - (intOf N).toNat)
    case atStart => exact ⟨0, Nat.zero_le _, rfl, rfl⟩
    case round =>
      obtain ⟨k, hk, rfl, rfl⟩ := hrel
      have hcm := HC.out.1
      have hcl := HC.out.2
      rw [HLN.out] at hcl
      by_cases hin : k < s.size ∧ k < most
      · obtain ⟨hin1, hin2⟩ := hin
        have hb : s[k].toNat < 256 := UInt8.toNat_lt _
        have hat : l[k]?.getD 0 = (s[k].toNat : Int) := by rw [← HL.out]; exact Utf.nums_at s k hin1
        have HAT := Lib.hid hat
        have h1 : (k : Int) < (s.size : Int) := by omega
        have h2 : (k : Int) < (most : Int) := by omega
        have hbd := Br.val_bd l most k hk
        have hp : (16 : Int) ^ k ≤ 16 ^ 6 := by
          have : (16 : Nat) ^ k ≤ 16 ^ 6 := Nat.pow_le_pow_right (by decide) (by omega)
          exact_mod_cast this
        have hv0 : 0 ≤ Br.val l k := hbd.1
        have hv1 : Br.val l k < 16777216 := by have := hbd.2; omega
        have hdb := Br.dig_bd (s[k].toNat : Int)
        have HVS := Lib.hid (Br.val_succ l k (by rw [HLN.out]; exact hin1))
        obtain ⟨D, hD⟩ : ∃ D, Br.dig (s[k].toNat : Int) = D := ⟨_, rfl⟩
        have HD := Lib.hid hD
        have HBD := Lib.hid (bDigit_any W (s[k].toNat : Int) (by omega) (by omega))
        rw [hD] at HBD hdb
        obtain ⟨V, hV⟩ : ∃ V, Br.val l k = V := ⟨_, rfl⟩
        have HV := Lib.hid hV
        rw [hV] at hv0 hv1 ⊢
        clear hat hbd hp hD hV hb
        by_cases hd : D < 0
        · have HE : Hid (Br.cnt l most = k) := Lib.hid (Br.cnt_ends l most k (by omega) (by rw [HLN.out]; omega) (fun j hj => Br.cnt_yes l most j (by omega)) (.inr (.inr (by rw [HAT.out, HD.out]; exact hd))))
          go_wp2_with (go_at_call 152; refine HBD.out.mono ?_; rintro e w' ⟨rfl, rfl⟩)
          go_ret2
          exact ⟨by rw [HE.out, HV.out]; rfl, rfl⟩
        · have hd0 : 0 ≤ D := by omega
          have hlt : k < Br.cnt l most := by
            rcases Nat.lt_or_ge k (Br.cnt l most) with h | h
            · exact h
            · obtain rfl : k = Br.cnt l most := by omega
              have := Br.cnt_no l most (by omega) (by rw [HLN.out]; omega)
              rw [HAT.out, HD.out] at this
              exact absurd this hd
          have hw1 : IntKind.i64.wrap (V * 16) = V * 16 := by rw [IntKind.wrap_i64]; omega
          have hw2 : IntKind.i64.wrap (V * 16 + D) = V * 16 + D := by rw [IntKind.wrap_i64]; omega
          have hw3 : IntKind.i64.wrap ((k : Int) + 1) = ((k + 1 : Nat) : Int) := by rw [IntKind.wrap_i64]; omega
          have HLT := Lib.hid hlt
          clear hlt hcm hcl hdb hk
          go_wp2_with (go_at_call 152; refine HBD.out.mono ?_; rintro e w' ⟨rfl, rfl⟩)
          go_round
          case rel => exact ⟨k + 1, HLT.out, by go_num, by rw [HVS.out, HAT.out, HD.out, HV.out]⟩
          case measure => simp [intOf]; omega
      · have HE : Hid (Br.cnt l most = k) := Lib.hid (Br.cnt_ends l most k (by omega) (by rw [HLN.out]; omega) (fun j hj => Br.cnt_yes l most j (by omega)) (by rw [HLN.out]; omega))
        have hno : ¬ ((k : Int) < (s.size : Int) ∧ (k : Int) < (most : Int)) := by omega
        go_wp2
        go_ret2
        exact ⟨by rw [HE.out]; rfl, rfl⟩
end Go.Proofs.YtecclhmjmceheaaGreatDoor
namespace Go.Proofs.YtecclhmjmceheaaGreatDoor
open Go.RowKit
set_option linter.unusedVariables false
theorem tail_drop (s : ByteArray) (k : Nat) : Utf.nums (s.extract k s.size) = (Utf.nums s).drop k := by
  rw [Utf.nums_extract, List.take_of_length_le]
  rw [List.length_drop, Utf.nums_length]; omega
set_option maxRecDepth 100000 in
set_option maxHeartbeats 4000000 in
theorem bBraced_any (W : World) (s : ByteArray) (hs : s.size ≤ 140737488351232) (h3 : 3 ≤ s.size) : Calls Tryz.prog 119 #[.string s] W fun e w' =>
    e = .returned (.tuple #[.int .i64 (Br.braced (Utf.nums s)).1, .int .i64 (Br.braced (Utf.nums s)).2.1, .int .i64 (Br.braced (Utf.nums s)).2.2]) ∧ W = w' := by
  have hD := bDigits_any W (s.extract 3 s.size) 6 (by rw [ByteArray.size_extract]; omega) (by omega)
  rw [tail_drop] at hD
  have hc := Br.cnt_le ((Utf.nums s).drop 3) 6
  rw [List.length_drop, Utf.nums_length] at hc
  have hv := Br.val_bd ((Utf.nums s).drop 3) 6 _ (Nat.le_refl _)
  have hbr : Br.braced (Utf.nums s) = (if 3 + Br.cnt ((Utf.nums s).drop 3) 6 = s.size then (0, 0, 82) else if (Utf.nums s)[3 + Br.cnt ((Utf.nums s).drop 3) 6]?.getD 0 ≠ 125 ∨ Br.cnt ((Utf.nums s).drop 3) 6 = 0 ∨ 1114111 < Br.val ((Utf.nums s).drop 3) (Br.cnt ((Utf.nums s).drop 3) 6) then (0, 0, 80) else (Br.val ((Utf.nums s).drop 3) (Br.cnt ((Utf.nums s).drop 3) 6), (Br.cnt ((Utf.nums s).drop 3) 6 : Int) + 4, 0)) := by
    unfold Br.braced
    dsimp only
    rw [Utf.nums_length]
  obtain ⟨V, hV⟩ : ∃ V, Br.val ((Utf.nums s).drop 3) (Br.cnt ((Utf.nums s).drop 3) 6) = V := ⟨_, rfl⟩
  rw [hV] at hD hv hbr
  obtain ⟨K, hK⟩ : ∃ K, Br.cnt ((Utf.nums s).drop 3) 6 = K := ⟨_, rfl⟩
  rw [hK] at hD hc hbr
  have hv0 : 0 ≤ V := hv.1
  obtain ⟨e, he⟩ : ∃ e, 3 + K = e := ⟨_, rfl⟩
  rw [he] at hbr
  have hw : IntKind.i64.wrap (3 + (K : Int)) = (e : Int) := by rw [IntKind.wrap_i64]; omega
  have hw2 : IntKind.i64.wrap ((e : Int) + 1) = (K : Int) + 4 := by rw [IntKind.wrap_i64]; omega
  have h3i : (3 : Int) ≤ (s.size : Int) := by omega
  have HD := Lib.hid hD
  obtain ⟨R, hR⟩ : ∃ R, Br.braced (Utf.nums s) = R := ⟨_, rfl⟩
  rw [hR] at hbr ⊢
  have HBR := Lib.hid hbr
  clear hD hv hbr hR hV hK
  by_cases c1 : e = s.size
  · have HE : Hid (R = (0, 0, 82)) := Lib.hid (by rw [HBR.out, if_pos c1])
    have h1 : ((e : Int) == (s.size : Int)) = true := by simp [c1]
    clear he
    go_enter Tryz.func119, Tryz.ntmps119
    go_wp2_with (go_at_call 120; refine HD.out.mono ?_; rintro e w' ⟨rfl, rfl⟩)
    go_ret3
    exact ⟨by rw [HE.out]; rfl, rfl⟩
  have h1 : ((e : Int) == (s.size : Int)) = false := by simp; omega
  have hlt : e < s.size := by omega
  have hli : (e : Int) < (s.size : Int) := by omega
  have hb : s[e].toNat < 256 := UInt8.toNat_lt _
  have hat : (Utf.nums s)[e]?.getD 0 = (s[e].toNat : Int) := Utf.nums_at s e hlt
  have HAT := Lib.hid hat
  clear he hat
  by_cases c2 : (s[e].toNat : Int) = 125
  · by_cases c3 : K = 0
    · have HE : Hid (R = (0, 0, 80)) := Lib.hid (by rw [HBR.out, if_neg c1, if_pos (.inr (.inl c3))])
      have h4 : ((s[e].toNat : Int) != 125) = false := by simp [c2]
      have h5 : ((K : Int) == 0) = true := by simp [c3]
      clear c2 c3
      go_enter Tryz.func119, Tryz.ntmps119
      go_wp2_with (go_at_call 120; refine HD.out.mono ?_; rintro e w' ⟨rfl, rfl⟩)
      go_ret3
      exact ⟨by rw [HE.out]; rfl, rfl⟩
    · have h4 : ((s[e].toNat : Int) != 125) = false := by simp [c2]
      have h5 : ((K : Int) == 0) = false := by simp; omega
      by_cases c4 : 1114111 < V
      · have HE : Hid (R = (0, 0, 80)) := Lib.hid (by rw [HBR.out, if_neg c1, if_pos (.inr (.inr c4))])
        clear c2 c3
        go_enter Tryz.func119, Tryz.ntmps119
        go_wp2_with (go_at_call 120; refine HD.out.mono ?_; rintro e w' ⟨rfl, rfl⟩)
        go_ret3
        exact ⟨by rw [HE.out]; rfl, rfl⟩
      · have HE : Hid (R = (V, (K : Int) + 4, 0)) := Lib.hid (by rw [HBR.out, if_neg c1, if_neg (by rw [HAT.out]; omega)])
        clear c2 c3
        go_enter Tryz.func119, Tryz.ntmps119
        go_wp2_with (go_at_call 120; refine HD.out.mono ?_; rintro e w' ⟨rfl, rfl⟩)
        go_ret3
        exact ⟨by rw [HE.out]; rfl, rfl⟩
  · have HE : Hid (R = (0, 0, 80)) := Lib.hid (by rw [HBR.out, if_neg c1, if_pos (.inl (by rw [HAT.out]; exact c2))])
    have h4 : ((s[e].toNat : Int) != 125) = true := by simpa using c2
    clear c2
    go_enter Tryz.func119, Tryz.ntmps119
    go_wp2_with (go_at_call 120; refine HD.out.mono ?_; rintro e w' ⟨rfl, rfl⟩)
    go_ret3
    exact ⟨by rw [HE.out]; rfl, rfl⟩
end Go.Proofs.YtecclhmjmceheaaGreatDoor
namespace Go.Proofs.YtecclhmjmceheaaGreatDoor
open Go.RowKit
set_option linter.unusedVariables false
namespace Br
/-- A property's name in front of a text, the length of what it is written in, and the code. -/
def pname (t : ByteArray) : ByteArray × Int × Int :=
  let l := Utf.nums t
  if l.length = 0 then (⟨#[]⟩, 0, 82) else if letB (l[0]?.getD 0) = true then (t.extract 0 1, 1, 0) else if l[0]?.getD 0 ≠ 123 then (⟨#[]⟩, 0, 70)
  else if upTo 125 (l.drop 1) = (l.drop 1).length then (⟨#[]⟩, 0, 82) else ((t.extract 1 t.size).extract 0 (upTo 125 (l.drop 1)), upTo 125 (l.drop 1) + 2, 0)
theorem bytes_inj {s t : ByteArray} (h : Utf.nums s = Utf.nums t) : s = t := by
  apply ByteArray.ext
  apply Array.toList_inj.1
  unfold Utf.nums at h
  exact List.map_inj_right (fun a b e => UInt8.toNat_inj.1 (by exact_mod_cast e)) |>.1 h
theorem ext_tail (s : ByteArray) (a k : Nat) : (s.extract a s.size).extract 0 k = s.extract a (a + k) := by
  apply bytes_inj
  rw [Utf.nums_extract, tail_drop, Utf.nums_extract]
  simp
theorem ext_ext (s : ByteArray) (a b : Nat) : (s.extract a s.size).extract b (s.extract a s.size).size = s.extract (a + b) s.size := by
  apply bytes_inj
  rw [tail_drop, tail_drop, tail_drop, List.drop_drop]
theorem nameX_of (s : ByteArray) (h : 2 ≤ s.size) : nameX s = ((pname (s.extract 2 s.size)).1, (if (pname (s.extract 2 s.size)).2.2 = 0 then (pname (s.extract 2 s.size)).2.1 + 2 else 0), (pname (s.extract 2 s.size)).2.2) := by
  have e0 : (Utf.nums (s.extract 2 s.size))[0]?.getD 0 = (Utf.nums s)[2]?.getD 0 := by rw [tail_drop, List.getElem?_drop]
  have el : (Utf.nums (s.extract 2 s.size)).length = s.size - 2 := by rw [tail_drop, List.length_drop, Utf.nums_length]
  have ed : (Utf.nums (s.extract 2 s.size)).drop 1 = (Utf.nums s).drop 3 := by rw [tail_drop, List.drop_drop]
  have e1 : (s.extract 2 s.size).extract 0 1 = s.extract 2 3 := ext_tail s 2 1
  have e2 : ∀ k, ((s.extract 2 s.size).extract 1 (s.extract 2 s.size).size).extract 0 k = s.extract 3 (3 + k) := fun k => by rw [ext_ext, ext_tail]
  have e3 : ((Utf.nums s).drop 3).length = s.size - 3 := by rw [List.length_drop, Utf.nums_length]
  obtain ⟨t, ht⟩ : ∃ t, s.extract 2 s.size = t := ⟨_, rfl⟩
  rw [ht] at e0 el ed e1 e2 ⊢
  have key : ∀ X : ByteArray × Int × Int, pname t = X → nameX s = (X.1, (if X.2.2 = 0 then X.2.1 + 2 else 0), X.2.2) → nameX s = ((pname t).1, (if (pname t).2.2 = 0 then (pname t).2.1 + 2 else 0), (pname t).2.2) := fun X h1 h2 => by rw [h1]; exact h2
  by_cases c0 : s.size = 2
  · refine key (⟨#[]⟩, 0, 82) ?_ ?_
    · unfold pname; dsimp only; rw [if_pos (by omega)]
    · unfold nameX; dsimp only; rw [if_pos (by rw [Utf.nums_length]; exact c0)]; rfl
  by_cases c1 : letB ((Utf.nums s)[2]?.getD 0) = true
  · refine key (s.extract 2 3, 1, 0) ?_ ?_
    · unfold pname; dsimp only; rw [if_neg (by omega), if_pos (by rw [e0]; exact c1), e1]
    · unfold nameX; dsimp only; rw [if_neg (by rw [Utf.nums_length]; exact c0), if_pos c1]; rfl
  by_cases c2 : (Utf.nums s)[2]?.getD 0 ≠ 123
  · refine key (⟨#[]⟩, 0, 70) ?_ ?_
    · unfold pname; dsimp only; rw [if_neg (by omega), if_neg (by rw [e0]; exact c1), if_pos (by rw [e0]; exact c2)]
    · unfold nameX; dsimp only; rw [if_neg (by rw [Utf.nums_length]; exact c0), if_neg c1, if_pos c2]; rfl
  by_cases c3 : upTo 125 ((Utf.nums s).drop 3) = ((Utf.nums s).drop 3).length
  · refine key (⟨#[]⟩, 0, 82) ?_ ?_
    · unfold pname; dsimp only; rw [if_neg (by omega), if_neg (by rw [e0]; exact c1), if_neg (by rw [e0]; exact c2), if_pos (by rw [ed]; exact c3)]
    · unfold nameX; dsimp only; rw [if_neg (by rw [Utf.nums_length]; exact c0), if_neg c1, if_neg c2, if_pos c3]; rfl
  · refine key (s.extract 3 (3 + upTo 125 ((Utf.nums s).drop 3)), upTo 125 ((Utf.nums s).drop 3) + 2, 0) ?_ ?_
    · unfold pname; dsimp only; rw [if_neg (by omega), if_neg (by rw [e0]; exact c1), if_neg (by rw [e0]; exact c2), if_neg (by rw [ed]; exact c3), ed, e2]
    · unfold nameX; dsimp only; rw [if_neg (by rw [Utf.nums_length]; exact c0), if_neg c1, if_neg c2, if_neg c3, if_pos rfl]
      congr 2
end Br
set_option maxRecDepth 100000 in
set_option maxHeartbeats 4000000 in
theorem pname_any (W : World) (t : ByteArray) (ht : t.size ≤ 100000) (hE : Ev W) : Calls Tryz.prog 148 #[.string t] W fun e w' =>
    e = .returned (.tuple #[.string (Br.pname t).1, .int .i64 (Br.pname t).2.1, .int .i64 (Br.pname t).2.2]) ∧ ∃ d, w' = W.drewN d := by
  have hpn : Br.pname t = (if t.size = 0 then (⟨#[]⟩, 0, 82) else if Br.letB ((Utf.nums t)[0]?.getD 0) = true then (t.extract 0 1, 1, 0) else if (Utf.nums t)[0]?.getD 0 ≠ 123 then (⟨#[]⟩, 0, 70)
      else if Br.upTo 125 ((Utf.nums t).drop 1) = t.size - 1 then (⟨#[]⟩, 0, 82) else ((t.extract 1 t.size).extract 0 (Br.upTo 125 ((Utf.nums t).drop 1)), (Br.upTo 125 ((Utf.nums t).drop 1) : Int) + 2, 0)) := by
    unfold Br.pname
    dsimp only
    rw [List.length_drop, Utf.nums_length]
  obtain ⟨R, hR⟩ : ∃ R, Br.pname t = R := ⟨_, rfl⟩
  rw [hR] at hpn ⊢
  clear hR
  by_cases c0 : t.size = 0
  · have HE : Hid (R = (⟨#[]⟩, 0, 82)) := Lib.hid (by rw [hpn, if_pos c0])
    obtain ⟨hne, hne2⟩ := toList_e c0
    clear hpn
    go_enter Tryz.func148, Tryz.ntmps148
    go_wp2
    go_ret3
    exact ⟨by rw [HE.out]; rfl, 0, rfl⟩
  have h0 : 0 < t.size := by omega
  have h0i : (0 : Int) < (t.size : Int) := by omega
  obtain ⟨hne, hne2⟩ := toList_ne h0
  have hat : (Utf.nums t)[0]?.getD 0 = (t[0].toNat : Int) := Utf.nums_at t 0 h0
  have hb : t[0].toNat < 256 := UInt8.toNat_lt _
  rw [if_neg c0, hat] at hpn
  have HL := Lib.hid (bLetter_any W (t[0].toNat : Int) (by omega) (by omega))
  clear hat
  cases hl : Br.letB (t[0].toNat : Int) with
  | true =>
    have HE : Hid (R = (t.extract 0 1, 1, 0)) := Lib.hid (by rw [hpn, hl, if_pos rfl])
    rw [hl] at HL
    have h1i : (1 : Int) ≤ (t.size : Int) := by omega
    clear hpn hl
    go_enter Tryz.func148, Tryz.ntmps148
    go_wp2_with fail
    refine HL.out.mono ?_
    rintro e w' ⟨rfl, rfl⟩
    go_wp2
    go_ret3
    exact ⟨by rw [HE.out]; rfl, 0, rfl⟩
  | false =>
    rw [hl] at HL
    rw [hl, if_neg (by decide)] at hpn
    clear hl
    by_cases c2 : (t[0].toNat : Int) ≠ 123
    · have HE : Hid (R = (⟨#[]⟩, 0, 70)) := Lib.hid (by rw [hpn, if_pos c2])
      have h4 : ((t[0].toNat : Int) != 123) = true := by simpa using c2
      clear hpn c2
      go_enter Tryz.func148, Tryz.ntmps148
      go_wp2_with fail
      refine HL.out.mono ?_
      rintro e w' ⟨rfl, rfl⟩
      go_wp2
      go_ret3
      exact ⟨by rw [HE.out]; rfl, 0, rfl⟩
    have h4 : ((t[0].toNat : Int) != 123) = false := by simp; omega
    rw [if_neg c2] at hpn
    have h1i : (1 : Int) ≤ (t.size : Int) := by omega
    have hk := Br.upTo_le 125 ((Utf.nums t).drop 1)
    rw [List.length_drop, Utf.nums_length] at hk
    have hsz : (t.extract 1 t.size).size = t.size - 1 := by rw [ByteArray.size_extract]; omega
    have hcut := cut_1 W (t.extract 1 t.size) (by omega) 125 hE
    rw [show (((125 : UInt8).toNat : Nat) : Int) = 125 from rfl, tail_drop] at hcut
    unfold CutPost at hcut
    rw [hsz] at hcut
    obtain ⟨K, hK⟩ : ∃ K, Br.upTo 125 ((Utf.nums t).drop 1) = K := ⟨_, rfl⟩
    rw [hK] at hpn hk hcut
    by_cases c3 : K = t.size - 1
    · have HE : Hid (R = (⟨#[]⟩, 0, 82)) := Lib.hid (by rw [hpn, if_pos c3])
      rw [decide_eq_false (by simpa using c3)] at hcut
      have HC := Lib.hid hcut
      clear hpn hcut hK c2 c3 hk hsz
      go_enter Tryz.func148, Tryz.ntmps148
      go_wp2_with fail
      refine HL.out.mono ?_
      rintro e w' ⟨rfl, rfl⟩
      go_wp2_with fail
      refine HC.out.mono ?_
      rintro e w' ⟨b, rfl, dd, rfl⟩
      go_wp2
      go_ret3
      exact ⟨by rw [HE.out]; rfl, dd, rfl⟩
    · have HE : Hid (R = ((t.extract 1 t.size).extract 0 K, (K : Int) + 2, 0)) := Lib.hid (by rw [hpn, if_neg c3])
      rw [decide_eq_true (by simpa using c3)] at hcut
      have HC := Lib.hid hcut
      obtain ⟨nm, hnm⟩ : ∃ nm, (t.extract 1 t.size).extract 0 K = nm := ⟨_, rfl⟩
      have hnz : nm.size = K := by rw [← hnm, ByteArray.size_extract]; omega
      rw [hnm] at HC HE
      have HNZ := Lib.hid hnz
      have hw1 : IntKind.i64.wrap (1 + (nm.size : Int)) = (K : Int) + 1 := by rw [IntKind.wrap_i64, hnz]; omega
      have hw2 : IntKind.i64.wrap ((K : Int) + 1 + 1) = (K : Int) + 2 := by rw [IntKind.wrap_i64]; omega
      clear hpn hcut hK c2 c3 hk hsz hnm hnz
      go_enter Tryz.func148, Tryz.ntmps148
      go_wp2_with fail
      refine HL.out.mono ?_
      rintro e w' ⟨rfl, rfl⟩
      go_wp2_with fail
      refine HC.out.mono ?_
      rintro e w' ⟨b, rfl, dd, rfl⟩
      go_wp2
      go_ret3
      exact ⟨by rw [HE.out]; rfl, dd, rfl⟩
end Go.Proofs.YtecclhmjmceheaaGreatDoor
