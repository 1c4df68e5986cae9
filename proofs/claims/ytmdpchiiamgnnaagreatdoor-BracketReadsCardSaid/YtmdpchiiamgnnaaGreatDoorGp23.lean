/- The reference's bracket (burinref07): Digit, Letter, hex, Number. -/
import Derived.Test.YtmdpchiiamgnnaaGreatDoorGp5
import Derived.IntWalk
import Derived.WalkSmall
namespace Go.Proofs.YtmdpchiiamgnnaaGreatDoor
open Go.RowKit
set_option linter.unusedVariables false
set_option maxRecDepth 100000 in
set_option maxHeartbeats 1000000 in
theorem rDigit_any (W : World) (c : Int) (h0 : 0 ≤ c) (h1 : c ≤ 255) : Calls Tryz.prog 155 #[.int .u8 c] W fun e w' => e = .returned (.int .i64 (Br.dig c)) ∧ W = w' := by
  have HD : Hid (Br.dig c = Br.dig c) := Lib.hid rfl
  by_cases a : 48 ≤ c
  · by_cases b : c ≤ 57
    · have hw : IntKind.i64.wrap (c - 48) = c - 48 := by rw [IntKind.wrap_i64]; omega
      have e : Br.dig c = c - 48 := by unfold Br.dig; rw [if_pos ⟨a, b⟩]
      rw [e]
      go_enter Tryz.func155, Tryz.ntmps155
      go_wp2
      go_ret
      exact ⟨rfl, rfl⟩
    · by_cases a2 : 97 ≤ c
      · by_cases b2 : c ≤ 102
        · have hw : IntKind.i64.wrap (c - 97) = c - 97 := by rw [IntKind.wrap_i64]; omega
          have hw2 : IntKind.i64.wrap (c - 97 + 10) = c - 87 := by rw [IntKind.wrap_i64]; omega
          have e : Br.dig c = c - 87 := by unfold Br.dig; rw [if_neg (by omega), if_pos ⟨a2, b2⟩]
          rw [e]
          go_enter Tryz.func155, Tryz.ntmps155
          go_wp2
          go_ret
          exact ⟨rfl, rfl⟩
        · have e : Br.dig c = -1 := by unfold Br.dig; rw [if_neg (by omega), if_neg (by omega), if_neg (by omega)]
          rw [e]
          have h9 : ¬ c ≤ 70 := by omega
          go_enter Tryz.func155, Tryz.ntmps155
          go_wp2
          go_ret
          exact ⟨rfl, rfl⟩
      · by_cases a3 : 65 ≤ c
        · by_cases b3 : c ≤ 70
          · have hw : IntKind.i64.wrap (c - 65) = c - 65 := by rw [IntKind.wrap_i64]; omega
            have hw2 : IntKind.i64.wrap (c - 65 + 10) = c - 55 := by rw [IntKind.wrap_i64]; omega
            have e : Br.dig c = c - 55 := by unfold Br.dig; rw [if_neg (by omega), if_neg (by omega), if_pos ⟨a3, b3⟩]
            rw [e]
            go_enter Tryz.func155, Tryz.ntmps155
            go_wp2
            go_ret
            exact ⟨rfl, rfl⟩
          · have e : Br.dig c = -1 := by unfold Br.dig; rw [if_neg (by omega), if_neg (by omega), if_neg (by omega)]
            rw [e]
            go_enter Tryz.func155, Tryz.ntmps155
            go_wp2
            go_ret
            exact ⟨rfl, rfl⟩
        · have e : Br.dig c = -1 := by unfold Br.dig; rw [if_neg (by omega), if_neg (by omega), if_neg (by omega)]
          rw [e]
          go_enter Tryz.func155, Tryz.ntmps155
          go_wp2
          go_ret
          exact ⟨rfl, rfl⟩
  · have e : Br.dig c = -1 := by unfold Br.dig; rw [if_neg (by omega), if_neg (by omega), if_neg (by omega)]
    rw [e]
    have h7 : ¬ 97 ≤ c := by omega
    have h8 : ¬ 65 ≤ c := by omega
    go_enter Tryz.func155, Tryz.ntmps155
    go_wp2
    go_ret
    exact ⟨rfl, rfl⟩
set_option maxRecDepth 100000 in
set_option maxHeartbeats 1000000 in
theorem rLetter_any (W : World) (c : Int) (h0 : 0 ≤ c) (h1 : c ≤ 255) : Calls Tryz.prog 84 #[.int .u8 c] W fun e w' => e = .returned (.bool (Br.letB c)) ∧ W = w' := by
  by_cases a : 97 ≤ c
  · have h9 : 65 ≤ c := by omega
    have h8 : ¬ c ≤ 90 := by omega
    by_cases b : c ≤ 122
    · rw [bLet_yes (.inr ⟨a, b⟩)]
      go_enter Tryz.func84, Tryz.ntmps84
      go_wp2
      go_ret
      exact ⟨rfl, rfl⟩
    · rw [bLet_no (by omega)]
      go_enter Tryz.func84, Tryz.ntmps84
      go_wp2
      go_ret
      exact ⟨rfl, rfl⟩
  · by_cases d : 65 ≤ c
    · by_cases f : c ≤ 90
      · rw [bLet_yes (.inl ⟨d, f⟩)]
        go_enter Tryz.func84, Tryz.ntmps84
        go_wp2
        go_ret
        exact ⟨rfl, rfl⟩
      · rw [bLet_no (by omega)]
        go_enter Tryz.func84, Tryz.ntmps84
        go_wp2
        go_ret
        exact ⟨rfl, rfl⟩
    · rw [bLet_no (by omega)]
      go_enter Tryz.func84, Tryz.ntmps84
      go_wp2
      go_ret
      exact ⟨rfl, rfl⟩
set_option maxRecDepth 100000 in
set_option maxHeartbeats 4000000 in
theorem rHex_brace (W : World) (s : ByteArray) (hs : s.size ≤ 140737488351232) (h3 : 3 ≤ s.size) (hb : (Utf.nums s)[2]?.getD 0 = 123) : Calls Tryz.prog 114 #[.string s] W fun e w' =>
    e = .returned (.tuple #[.int .i64 (Br.braced (Utf.nums s)).1, .int .i64 (Br.braced (Utf.nums s)).2.1, .int .i64 (Br.braced (Utf.nums s)).2.2]) ∧ W = w' := by
  obtain ⟨l, hl⟩ : ∃ l, (Utf.nums s).drop 3 = l := ⟨_, rfl⟩
  have hln : l.length = s.size - 3 := by rw [← hl, List.length_drop, Utf.nums_length]
  have hlk : ∀ k, (Utf.nums s)[3 + k]?.getD 0 = l[k]?.getD 0 := fun k => by rw [← hl, List.getElem?_drop]
  have hc := Br.cnt_le l 6
  have hR : Br.braced (Utf.nums s) = (if 3 + Br.cnt l 6 = s.size then (0, 0, 82) else if l[Br.cnt l 6]?.getD 0 ≠ 125 ∨ Br.cnt l 6 = 0 ∨ 1114111 < Br.val l (Br.cnt l 6) then (0, 0, 80) else (Br.val l (Br.cnt l 6), (Br.cnt l 6 : Int) + 4, 0)) := by
    unfold Br.braced
    dsimp only
    rw [hl, hlk, Utf.nums_length]
  have h2 : 2 < s.size := by omega
  have h2i : (2 : Int) < (s.size : Int) := by omega
  have hat : (s[2].toNat : Int) = 123 := by rw [← Utf.nums_at s 2 h2]; exact hb
  have hatb : ((s[2].toNat : Int) == 123) = true := by simp [hat]
  obtain ⟨R, hRR⟩ : ∃ R, Br.braced (Utf.nums s) = R := ⟨_, rfl⟩
  rw [hRR] at hR ⊢
  have HR := Lib.hid hR
  have HLN := Lib.hid hln
  have HC := Lib.hid hc
  have HLK : Hid (∀ k (h : 3 + k < s.size), l[k]?.getD 0 = (s[3 + k].toNat : Int)) := Lib.hid (fun k h => by rw [← hlk]; exact Utf.nums_at s (3 + k) h)
  clear hR hRR hln hlk hc hl hat hb
  go_enter Tryz.func114, Tryz.ntmps114
  go_wp2
  go_loop [6, 8, 9] (fun A V N => ∃ k e : Nat, k ≤ Br.cnt l 6 ∧ e = 3 + k ∧ A = .int .i64 (e : Int) ∧ N = .int .i64 (k : Int) ∧ V = .int .i64 (Br.val l k)) (fun _ _ N => 6 - (intOf N).toNat)
  case atStart => exact ⟨0, 3, Nat.zero_le _, rfl, rfl, rfl, rfl⟩
  case round =>
    obtain ⟨k, e, hk, he, rfl, rfl, rfl⟩ := hrel
    have hcm := HC.out.1
    have hcl := HC.out.2
    rw [HLN.out] at hcl
    have hbd := Br.val_bd l 6 k hk
    have hp : (16 : Int) ^ k ≤ 16 ^ 6 := by
      have : (16 : Nat) ^ k ≤ 16 ^ 6 := Nat.pow_le_pow_right (by decide) (by omega)
      exact_mod_cast this
    have hv0 : 0 ≤ Br.val l k := hbd.1
    have hv1 : Br.val l k < 16777216 := by have := hbd.2; omega
    have HVS : Hid (k < l.length → Br.val l (k + 1) = Br.val l k * 16 + Br.dig (l[k]?.getD 0)) := Lib.hid (fun h => Br.val_succ l k h)
    obtain ⟨V, hV⟩ : ∃ V, Br.val l k = V := ⟨_, rfl⟩
    have HV := Lib.hid hV
    rw [hV] at hv0 hv1 ⊢
    clear hbd hp hV
    by_cases hk6 : k = 6
    · have h5 : ((k : Int) == 6) = true := by simp [hk6]
      have HK6 : Hid (k = 6) := Lib.hid hk6
      clear hk6
      by_cases hsz : s.size ≤ e
      · have HE : Hid (R = (0, 0, 82)) := Lib.hid (by
          have hkk : Br.cnt l 6 = k := Br.cnt_ends l 6 k (by omega) (by rw [HLN.out]; omega) (fun j hj => Br.cnt_yes l 6 j (by omega)) (.inr (.inl (by rw [HLN.out]; omega)))
          rw [HR.out, if_pos (by omega)])
        have h6 : (s.size : Int) ≤ (e : Int) := by omega
        clear he
        go_wp2
        go_ret3
        exact ⟨by rw [HE.out]; rfl, rfl⟩
      have hlt : e < s.size := by omega
      have hlti : (e : Int) < (s.size : Int) := by omega
      have hnl : ¬ (s.size : Int) ≤ (e : Int) := by omega
      have hbb : s[e].toNat < 256 := UInt8.toNat_lt _
      have hle : l[k]?.getD 0 = (s[e].toNat : Int) := by subst he; exact HLK.out k hlt
      have HLE := Lib.hid hle
      have HEE := Lib.hid he
      have HBD := Lib.hid (rDigit_any W (s[e].toNat : Int) (by omega) (by omega))
      have hdb := Br.dig_bd (s[e].toNat : Int)
      obtain ⟨D, hD⟩ : ∃ D, Br.dig (s[e].toNat : Int) = D := ⟨_, rfl⟩
      have HD := Lib.hid hD
      rw [hD] at HBD hdb
      have HKD : Hid (D < 0 → Br.cnt l 6 = k) := Lib.hid (fun hd => Br.cnt_ends l 6 k (by omega) (by rw [HLN.out]; omega) (fun j hj => Br.cnt_yes l 6 j (by omega)) (.inr (.inr (by rw [HLE.out, HD.out]; exact hd))))
      have HKM : Hid (k = 6 → Br.cnt l 6 = k) := Lib.hid (fun h => by omega)
      have HLT : Hid (¬ D < 0 → k ≠ 6 → k < Br.cnt l 6) := Lib.hid (fun hd hm => by
        rcases Nat.lt_or_ge k (Br.cnt l 6) with h | h
        · exact h
        · obtain rfl : k = Br.cnt l 6 := by omega
          have := Br.cnt_no l 6 (by omega) (by rw [HLN.out]; omega)
          rw [HLE.out, HD.out] at this
          exact absurd this hd)
      have H125 : Hid ((s[e].toNat : Int) = 125 → D < 0) := Lib.hid (fun h => by rw [← HD.out, h]; decide)
      have HBAD : Hid (Br.cnt l 6 = k → (s[e].toNat : Int) ≠ 125 ∨ k = 0 ∨ 1114111 < V → R = (0, 0, 80)) := Lib.hid (fun hkk h => by
        rw [HR.out, if_neg (by omega), if_pos]
        rw [hkk, HLE.out, HV.out]; exact h)
      have HGOOD : Hid (Br.cnt l 6 = k → (s[e].toNat : Int) = 125 → k ≠ 0 → ¬ 1114111 < V → R = (V, (e : Int) + 1, 0)) := Lib.hid (fun hkk h h2 h3 => by
        rw [HR.out, if_neg (by omega), if_neg]
        · rw [hkk, HV.out, HEE.out]; congr 2; omega
        · rw [hkk, HLE.out, HV.out]; omega)
      have hw1 : IntKind.i64.wrap (V * 16) = V * 16 := by rw [IntKind.wrap_i64]; omega
      have hw2 : IntKind.i64.wrap (V * 16 + D) = V * 16 + D := by rw [IntKind.wrap_i64]; omega
      have hw3 : IntKind.i64.wrap ((k : Int) + 1) = ((k + 1 : Nat) : Int) := by rw [IntKind.wrap_i64]; omega
      have hw4 : IntKind.i64.wrap ((e : Int) + 1) = ((e + 1 : Nat) : Int) := by rw [IntKind.wrap_i64]; omega
      clear he hle hD hcm hcl
      by_cases c : (s[e].toNat : Int) = 125
      · have hd := H125.out c
        have hcb : ((s[e].toNat : Int) == 125) = true := by simp [c]
        by_cases k0 : k = 0
        · have HE := Lib.hid (HBAD.out (HKD.out hd) (.inr (.inl k0)))
          have hk0 : ¬ (0 : Int) < (k : Int) := by omega
          have hk0' : decide (0 < k) = false := by simp; omega
          clear c k0 hw1 hw2 hw3 hw4 hk
          go_wp2_with (go_at_call 155; refine HBD.out.mono ?_; rintro e w' ⟨rfl, rfl⟩)
          go_ret3
          exact ⟨by rw [HE.out]; rfl, rfl⟩
        · have hk0 : (0 : Int) < (k : Int) := by omega
          have hk0' : decide (0 < k) = true := by simp; omega
          by_cases hm : 1114111 < V
          · have HE := Lib.hid (HBAD.out (HKD.out hd) (.inr (.inr hm)))
            have hm' : ¬ V ≤ 1114111 := by omega
            clear c k0 hw1 hw2 hw3 hw4 hk
            go_wp2_with (go_at_call 155; refine HBD.out.mono ?_; rintro e w' ⟨rfl, rfl⟩)
            go_ret3
            exact ⟨by rw [HE.out]; rfl, rfl⟩
          · have HE := Lib.hid (HGOOD.out (HKD.out hd) c k0 hm)
            have hm' : V ≤ 1114111 := by omega
            have HW4 : Hid (((e + 1 : Nat) : Int) = (e : Int) + 1) := Lib.hid (by omega)
            clear c k0 hw1 hw2 hw3 hk hd
            go_wp2
            go_ret3
            exact ⟨by rw [HE.out, ← HW4.out]; rfl, rfl⟩
      have hcb : ((s[e].toNat : Int) == 125) = false := by simpa using c
      by_cases hd : D < 0
      · have HE := Lib.hid (HBAD.out (HKD.out hd) (.inl c))
        clear c hw1 hw2 hw3 hw4 hk
        go_wp2_with (go_at_call 155; refine HBD.out.mono ?_; rintro e w' ⟨rfl, rfl⟩)
        go_ret3
        exact ⟨by rw [HE.out]; rfl, rfl⟩
      have HE := Lib.hid (HBAD.out (HKM.out HK6.out) (.inl c))
      clear c hw1 hw2 hw3 hw4 hk
      go_wp2_with (go_at_call 155; refine HBD.out.mono ?_; rintro e w' ⟨rfl, rfl⟩)
      go_ret3
      exact ⟨by rw [HE.out]; rfl, rfl⟩
    · have h5 : ((k : Int) == 6) = false := by simp; omega
      have HK6 : Hid (k ≠ 6) := Lib.hid hk6
      clear hk6
      by_cases hsz : s.size ≤ e
      · have HE : Hid (R = (0, 0, 82)) := Lib.hid (by
          have hkk : Br.cnt l 6 = k := Br.cnt_ends l 6 k (by omega) (by rw [HLN.out]; omega) (fun j hj => Br.cnt_yes l 6 j (by omega)) (.inr (.inl (by rw [HLN.out]; omega)))
          rw [HR.out, if_pos (by omega)])
        have h6 : (s.size : Int) ≤ (e : Int) := by omega
        clear he
        go_wp2
        go_ret3
        exact ⟨by rw [HE.out]; rfl, rfl⟩
      have hlt : e < s.size := by omega
      have hlti : (e : Int) < (s.size : Int) := by omega
      have hnl : ¬ (s.size : Int) ≤ (e : Int) := by omega
      have hbb : s[e].toNat < 256 := UInt8.toNat_lt _
      have hle : l[k]?.getD 0 = (s[e].toNat : Int) := by subst he; exact HLK.out k hlt
      have HLE := Lib.hid hle
      have HEE := Lib.hid he
      have HBD := Lib.hid (rDigit_any W (s[e].toNat : Int) (by omega) (by omega))
      have hdb := Br.dig_bd (s[e].toNat : Int)
      obtain ⟨D, hD⟩ : ∃ D, Br.dig (s[e].toNat : Int) = D := ⟨_, rfl⟩
      have HD := Lib.hid hD
      rw [hD] at HBD hdb
      have HKD : Hid (D < 0 → Br.cnt l 6 = k) := Lib.hid (fun hd => Br.cnt_ends l 6 k (by omega) (by rw [HLN.out]; omega) (fun j hj => Br.cnt_yes l 6 j (by omega)) (.inr (.inr (by rw [HLE.out, HD.out]; exact hd))))
      have HKM : Hid (k = 6 → Br.cnt l 6 = k) := Lib.hid (fun h => by omega)
      have HLT : Hid (¬ D < 0 → k ≠ 6 → k < Br.cnt l 6) := Lib.hid (fun hd hm => by
        rcases Nat.lt_or_ge k (Br.cnt l 6) with h | h
        · exact h
        · obtain rfl : k = Br.cnt l 6 := by omega
          have := Br.cnt_no l 6 (by omega) (by rw [HLN.out]; omega)
          rw [HLE.out, HD.out] at this
          exact absurd this hd)
      have H125 : Hid ((s[e].toNat : Int) = 125 → D < 0) := Lib.hid (fun h => by rw [← HD.out, h]; decide)
      have HBAD : Hid (Br.cnt l 6 = k → (s[e].toNat : Int) ≠ 125 ∨ k = 0 ∨ 1114111 < V → R = (0, 0, 80)) := Lib.hid (fun hkk h => by
        rw [HR.out, if_neg (by omega), if_pos]
        rw [hkk, HLE.out, HV.out]; exact h)
      have HGOOD : Hid (Br.cnt l 6 = k → (s[e].toNat : Int) = 125 → k ≠ 0 → ¬ 1114111 < V → R = (V, (e : Int) + 1, 0)) := Lib.hid (fun hkk h h2 h3 => by
        rw [HR.out, if_neg (by omega), if_neg]
        · rw [hkk, HV.out, HEE.out]; congr 2; omega
        · rw [hkk, HLE.out, HV.out]; omega)
      have hw1 : IntKind.i64.wrap (V * 16) = V * 16 := by rw [IntKind.wrap_i64]; omega
      have hw2 : IntKind.i64.wrap (V * 16 + D) = V * 16 + D := by rw [IntKind.wrap_i64]; omega
      have hw3 : IntKind.i64.wrap ((k : Int) + 1) = ((k + 1 : Nat) : Int) := by rw [IntKind.wrap_i64]; omega
      have hw4 : IntKind.i64.wrap ((e : Int) + 1) = ((e + 1 : Nat) : Int) := by rw [IntKind.wrap_i64]; omega
      clear he hle hD hcm hcl
      by_cases c : (s[e].toNat : Int) = 125
      · have hd := H125.out c
        have hcb : ((s[e].toNat : Int) == 125) = true := by simp [c]
        by_cases k0 : k = 0
        · have HE := Lib.hid (HBAD.out (HKD.out hd) (.inr (.inl k0)))
          have hk0 : ¬ (0 : Int) < (k : Int) := by omega
          have hk0' : decide (0 < k) = false := by simp; omega
          clear c k0 hw1 hw2 hw3 hw4 hk
          go_wp2_with (go_at_call 155; refine HBD.out.mono ?_; rintro e w' ⟨rfl, rfl⟩)
          go_ret3
          exact ⟨by rw [HE.out]; rfl, rfl⟩
        · have hk0 : (0 : Int) < (k : Int) := by omega
          have hk0' : decide (0 < k) = true := by simp; omega
          by_cases hm : 1114111 < V
          · have HE := Lib.hid (HBAD.out (HKD.out hd) (.inr (.inr hm)))
            have hm' : ¬ V ≤ 1114111 := by omega
            clear c k0 hw1 hw2 hw3 hw4 hk
            go_wp2_with (go_at_call 155; refine HBD.out.mono ?_; rintro e w' ⟨rfl, rfl⟩)
            go_ret3
            exact ⟨by rw [HE.out]; rfl, rfl⟩
          · have HE := Lib.hid (HGOOD.out (HKD.out hd) c k0 hm)
            have hm' : V ≤ 1114111 := by omega
            have HW4 : Hid (((e + 1 : Nat) : Int) = (e : Int) + 1) := Lib.hid (by omega)
            clear c k0 hw1 hw2 hw3 hk hd
            go_wp2
            go_ret3
            exact ⟨by rw [HE.out, ← HW4.out]; rfl, rfl⟩
      have hcb : ((s[e].toNat : Int) == 125) = false := by simpa using c
      by_cases hd : D < 0
      · have HE := Lib.hid (HBAD.out (HKD.out hd) (.inl c))
        clear c hw1 hw2 hw3 hw4 hk
        go_wp2_with (go_at_call 155; refine HBD.out.mono ?_; rintro e w' ⟨rfl, rfl⟩)
        go_ret3
        exact ⟨by rw [HE.out]; rfl, rfl⟩
      have HK1 := Lib.hid (HLT.out hd HK6.out)
      have HVV : Hid (V * 16 + D = Br.val l (k + 1)) := Lib.hid (by rw [HVS.out (by rw [HLN.out]; have := HEE.out; omega), HLE.out, HD.out, HV.out])
      have HE1 : Hid (e + 1 = 3 + (k + 1)) := Lib.hid (by have := HEE.out; omega)
      clear c hk
      go_wp2_with (go_at_call 155; refine HBD.out.mono ?_; rintro e w' ⟨rfl, rfl⟩)
      go_round
      case rel => exact ⟨k + 1, e + 1, HK1.out, HE1.out, by go_num, by go_num, by rw [HVV.out]⟩
      case measure => have := HK1.out; have := HC.out.1; simp [intOf]; omega
set_option maxRecDepth 100000 in
set_option maxHeartbeats 4000000 in
theorem rHex_two (W : World) (s : ByteArray) (hs : s.size ≤ 140737488351232) (h3 : 2 ≤ s.size) (hb : ¬ (Utf.nums s)[2]?.getD 0 = 123) : Calls Tryz.prog 114 #[.string s] W fun e w' =>
    e = .returned (.tuple #[.int .i64 (Br.two (Utf.nums s)).1, .int .i64 (Br.two (Utf.nums s)).2.1, .int .i64 (Br.two (Utf.nums s)).2.2]) ∧ W = w' := by
  obtain ⟨l, hl⟩ : ∃ l, (Utf.nums s).drop 2 = l := ⟨_, rfl⟩
  have hln : l.length = s.size - 2 := by rw [← hl, List.length_drop, Utf.nums_length]
  have hlk : ∀ k, (Utf.nums s)[2 + k]?.getD 0 = l[k]?.getD 0 := fun k => by rw [← hl, List.getElem?_drop]
  have hc := Br.cnt_le l 2
  have hR : Br.two (Utf.nums s) = (if Br.cnt l 2 = 2 then (Br.val l 2, 4, 0) else if Br.cnt l 2 + 2 = s.size then (0, 0, 82) else (0, 0, 80)) := by
    unfold Br.two
    dsimp only
    rw [hl, Utf.nums_length]
  obtain ⟨R, hRR⟩ : ∃ R, Br.two (Utf.nums s) = R := ⟨_, rfl⟩
  rw [hRR] at hR ⊢
  have HR := Lib.hid hR
  have HLN := Lib.hid hln
  have HC := Lib.hid hc
  have HLK : Hid (∀ k (h : 2 + k < s.size), l[k]?.getD 0 = (s[2 + k].toNat : Int)) := Lib.hid (fun k h => by rw [← hlk]; exact Utf.nums_at s (2 + k) h)
  clear hR hRR hln hlk hc hl
  by_cases h2 : 2 < s.size
  · have h2i : (2 : Int) < (s.size : Int) := by omega
    have hat : ((s[2].toNat : Int) == 123) = false := by
      have := hb
      rw [Utf.nums_at s 2 h2] at this
      simpa using this
    clear hb
    go_enter Tryz.func114, Tryz.ntmps114
    go_wp2
    go_loop [6, 8, 9] (fun A V N => ∃ k e : Nat, k ≤ Br.cnt l 2 ∧ e = 2 + k ∧ A = .int .i64 (e : Int) ∧ N = .int .i64 (k : Int) ∧ V = .int .i64 (Br.val l k)) (fun _ _ N => 2 - (intOf N).toNat)
    case atStart => exact ⟨0, 2, Nat.zero_le _, rfl, rfl, rfl, rfl⟩
    case round =>
      obtain ⟨k, e, hk, he, rfl, rfl, rfl⟩ := hrel
      have hcm := HC.out.1
      have hcl := HC.out.2
      rw [HLN.out] at hcl
      have hbd := Br.val_bd l 2 k hk
      have hp : (16 : Int) ^ k ≤ 16 ^ 2 := by
        have : (16 : Nat) ^ k ≤ 16 ^ 2 := Nat.pow_le_pow_right (by decide) (by omega)
        exact_mod_cast this
      have hv0 : 0 ≤ Br.val l k := hbd.1
      have hv1 : Br.val l k < 16777216 := by have := hbd.2; omega
      have HVS : Hid (k < l.length → Br.val l (k + 1) = Br.val l k * 16 + Br.dig (l[k]?.getD 0)) := Lib.hid (fun h => Br.val_succ l k h)
      obtain ⟨V, hV⟩ : ∃ V, Br.val l k = V := ⟨_, rfl⟩
      have HV := Lib.hid hV
      rw [hV] at hv0 hv1 ⊢
      clear hbd hp hV
      by_cases hk2 : k = 2
      · have HE : Hid (R = (Br.val l 2, 4, 0)) := Lib.hid (by rw [HR.out, if_pos (by omega)])
        have h5 : ((k : Int) == 2) = true := by simp [hk2]
        have he4 : (e : Int) = 4 := by omega
        have HV2 : Hid (V = Br.val l 2) := Lib.hid (by rw [← HV.out, hk2])
        have HE4 := Lib.hid he4
        clear hk2 he4 he
        go_wp2
        go_ret3
        exact ⟨by rw [HE.out, ← HV2.out, ← HE4.out]; rfl, rfl⟩
      have h5 : ((k : Int) == 2) = false := by simp; omega
      by_cases hsz : s.size ≤ e
      · have HE : Hid (R = (0, 0, 82)) := Lib.hid (by
          have hkk : Br.cnt l 2 = k := Br.cnt_ends l 2 k (by omega) (by rw [HLN.out]; omega) (fun j hj => Br.cnt_yes l 2 j (by omega)) (.inr (.inl (by rw [HLN.out]; omega)))
          rw [HR.out, if_neg (by omega), if_pos (by omega)])
        have h6 : (s.size : Int) ≤ (e : Int) := by omega
        clear he
        go_wp2
        go_ret3
        exact ⟨by rw [HE.out]; rfl, rfl⟩
      have hlt : e < s.size := by omega
      have hlti : (e : Int) < (s.size : Int) := by omega
      have hnl : ¬ (s.size : Int) ≤ (e : Int) := by omega
      have hbb : s[e].toNat < 256 := UInt8.toNat_lt _
      have hle : l[k]?.getD 0 = (s[e].toNat : Int) := by subst he; exact HLK.out k hlt
      have HLE := Lib.hid hle
      have HEE := Lib.hid he
      have HBD := Lib.hid (rDigit_any W (s[e].toNat : Int) (by omega) (by omega))
      have hdb := Br.dig_bd (s[e].toNat : Int)
      obtain ⟨D, hD⟩ : ∃ D, Br.dig (s[e].toNat : Int) = D := ⟨_, rfl⟩
      have HD := Lib.hid hD
      rw [hD] at HBD hdb
      have HKD : Hid (D < 0 → Br.cnt l 2 = k) := Lib.hid (fun hd => Br.cnt_ends l 2 k (by omega) (by rw [HLN.out]; omega) (fun j hj => Br.cnt_yes l 2 j (by omega)) (.inr (.inr (by rw [HLE.out, HD.out]; exact hd))))
      have HKM : Hid (k = 2 → Br.cnt l 2 = k) := Lib.hid (fun h => by omega)
      have HLT : Hid (¬ D < 0 → k ≠ 2 → k < Br.cnt l 2) := Lib.hid (fun hd hm => by
        rcases Nat.lt_or_ge k (Br.cnt l 2) with h | h
        · exact h
        · obtain rfl : k = Br.cnt l 2 := by omega
          have := Br.cnt_no l 2 (by omega) (by rw [HLN.out]; omega)
          rw [HLE.out, HD.out] at this
          exact absurd this hd)
      have HBAD : Hid (Br.cnt l 2 = k → R = (0, 0, 80)) := Lib.hid (fun hkk => by rw [HR.out, if_neg (by omega), if_neg (by omega)])
      have hw1 : IntKind.i64.wrap (V * 16) = V * 16 := by rw [IntKind.wrap_i64]; omega
      have hw2 : IntKind.i64.wrap (V * 16 + D) = V * 16 + D := by rw [IntKind.wrap_i64]; omega
      have hw3 : IntKind.i64.wrap ((k : Int) + 1) = ((k + 1 : Nat) : Int) := by rw [IntKind.wrap_i64]; omega
      have hw4 : IntKind.i64.wrap ((e : Int) + 1) = ((e + 1 : Nat) : Int) := by rw [IntKind.wrap_i64]; omega
      clear he hle hD hcm hcl
      by_cases hd : D < 0
      · have HE := Lib.hid (HBAD.out (HKD.out hd))
        clear hw1 hw2 hw3 hw4 hk hk2
        go_wp2_with (go_at_call 155; refine HBD.out.mono ?_; rintro e w' ⟨rfl, rfl⟩)
        go_ret3
        exact ⟨by rw [HE.out]; rfl, rfl⟩
      have HK1 := Lib.hid (HLT.out hd hk2)
      have HVV : Hid (V * 16 + D = Br.val l (k + 1)) := Lib.hid (by rw [HVS.out (by rw [HLN.out]; have := HEE.out; omega), HLE.out, HD.out, HV.out])
      have HE1 : Hid (e + 1 = 2 + (k + 1)) := Lib.hid (by have := HEE.out; omega)
      clear hk2 hk
      go_wp2_with (go_at_call 155; refine HBD.out.mono ?_; rintro e w' ⟨rfl, rfl⟩)
      go_round
      case rel => exact ⟨k + 1, e + 1, HK1.out, HE1.out, by go_num, by go_num, by rw [HVV.out]⟩
      case measure => have := HK1.out; have := HC.out.1; simp [intOf]; omega
  · have h2i : ¬ (2 : Int) < (s.size : Int) := by omega
    clear hb
    go_enter Tryz.func114, Tryz.ntmps114
    go_wp2
    go_loop [6, 8, 9] (fun A V N => ∃ k e : Nat, k ≤ Br.cnt l 2 ∧ e = 2 + k ∧ A = .int .i64 (e : Int) ∧ N = .int .i64 (k : Int) ∧ V = .int .i64 (Br.val l k)) (fun _ _ N => 2 - (intOf N).toNat)
    case atStart => exact ⟨0, 2, Nat.zero_le _, rfl, rfl, rfl, rfl⟩
    case round =>
      obtain ⟨k, e, hk, he, rfl, rfl, rfl⟩ := hrel
      have hcm := HC.out.1
      have hcl := HC.out.2
      rw [HLN.out] at hcl
      have hbd := Br.val_bd l 2 k hk
      have hp : (16 : Int) ^ k ≤ 16 ^ 2 := by
        have : (16 : Nat) ^ k ≤ 16 ^ 2 := Nat.pow_le_pow_right (by decide) (by omega)
        exact_mod_cast this
      have hv0 : 0 ≤ Br.val l k := hbd.1
      have hv1 : Br.val l k < 16777216 := by have := hbd.2; omega
      have HVS : Hid (k < l.length → Br.val l (k + 1) = Br.val l k * 16 + Br.dig (l[k]?.getD 0)) := Lib.hid (fun h => Br.val_succ l k h)
      obtain ⟨V, hV⟩ : ∃ V, Br.val l k = V := ⟨_, rfl⟩
      have HV := Lib.hid hV
      rw [hV] at hv0 hv1 ⊢
      clear hbd hp hV
      by_cases hk2 : k = 2
      · have HE : Hid (R = (Br.val l 2, 4, 0)) := Lib.hid (by rw [HR.out, if_pos (by omega)])
        have h5 : ((k : Int) == 2) = true := by simp [hk2]
        have he4 : (e : Int) = 4 := by omega
        have HV2 : Hid (V = Br.val l 2) := Lib.hid (by rw [← HV.out, hk2])
        have HE4 := Lib.hid he4
        clear hk2 he4 he
        go_wp2
        go_ret3
        exact ⟨by rw [HE.out, ← HV2.out, ← HE4.out]; rfl, rfl⟩
      have h5 : ((k : Int) == 2) = false := by simp; omega
      by_cases hsz : s.size ≤ e
      · have HE : Hid (R = (0, 0, 82)) := Lib.hid (by
          have hkk : Br.cnt l 2 = k := Br.cnt_ends l 2 k (by omega) (by rw [HLN.out]; omega) (fun j hj => Br.cnt_yes l 2 j (by omega)) (.inr (.inl (by rw [HLN.out]; omega)))
          rw [HR.out, if_neg (by omega), if_pos (by omega)])
        have h6 : (s.size : Int) ≤ (e : Int) := by omega
        clear he
        go_wp2
        go_ret3
        exact ⟨by rw [HE.out]; rfl, rfl⟩
      have hlt : e < s.size := by omega
      have hlti : (e : Int) < (s.size : Int) := by omega
      have hnl : ¬ (s.size : Int) ≤ (e : Int) := by omega
      have hbb : s[e].toNat < 256 := UInt8.toNat_lt _
      have hle : l[k]?.getD 0 = (s[e].toNat : Int) := by subst he; exact HLK.out k hlt
      have HLE := Lib.hid hle
      have HEE := Lib.hid he
      have HBD := Lib.hid (rDigit_any W (s[e].toNat : Int) (by omega) (by omega))
      have hdb := Br.dig_bd (s[e].toNat : Int)
      obtain ⟨D, hD⟩ : ∃ D, Br.dig (s[e].toNat : Int) = D := ⟨_, rfl⟩
      have HD := Lib.hid hD
      rw [hD] at HBD hdb
      have HKD : Hid (D < 0 → Br.cnt l 2 = k) := Lib.hid (fun hd => Br.cnt_ends l 2 k (by omega) (by rw [HLN.out]; omega) (fun j hj => Br.cnt_yes l 2 j (by omega)) (.inr (.inr (by rw [HLE.out, HD.out]; exact hd))))
      have HKM : Hid (k = 2 → Br.cnt l 2 = k) := Lib.hid (fun h => by omega)
      have HLT : Hid (¬ D < 0 → k ≠ 2 → k < Br.cnt l 2) := Lib.hid (fun hd hm => by
        rcases Nat.lt_or_ge k (Br.cnt l 2) with h | h
        · exact h
        · obtain rfl : k = Br.cnt l 2 := by omega
          have := Br.cnt_no l 2 (by omega) (by rw [HLN.out]; omega)
          rw [HLE.out, HD.out] at this
          exact absurd this hd)
      have HBAD : Hid (Br.cnt l 2 = k → R = (0, 0, 80)) := Lib.hid (fun hkk => by rw [HR.out, if_neg (by omega), if_neg (by omega)])
      have hw1 : IntKind.i64.wrap (V * 16) = V * 16 := by rw [IntKind.wrap_i64]; omega
      have hw2 : IntKind.i64.wrap (V * 16 + D) = V * 16 + D := by rw [IntKind.wrap_i64]; omega
      have hw3 : IntKind.i64.wrap ((k : Int) + 1) = ((k + 1 : Nat) : Int) := by rw [IntKind.wrap_i64]; omega
      have hw4 : IntKind.i64.wrap ((e : Int) + 1) = ((e + 1 : Nat) : Int) := by rw [IntKind.wrap_i64]; omega
      clear he hle hD hcm hcl
      by_cases hd : D < 0
      · have HE := Lib.hid (HBAD.out (HKD.out hd))
        clear hw1 hw2 hw3 hw4 hk hk2
        go_wp2_with (go_at_call 155; refine HBD.out.mono ?_; rintro e w' ⟨rfl, rfl⟩)
        go_ret3
        exact ⟨by rw [HE.out]; rfl, rfl⟩
      have HK1 := Lib.hid (HLT.out hd hk2)
      have HVV : Hid (V * 16 + D = Br.val l (k + 1)) := Lib.hid (by rw [HVS.out (by rw [HLN.out]; have := HEE.out; omega), HLE.out, HD.out, HV.out])
      have HE1 : Hid (e + 1 = 2 + (k + 1)) := Lib.hid (by have := HEE.out; omega)
      clear hk2 hk
      go_wp2_with (go_at_call 155; refine HBD.out.mono ?_; rintro e w' ⟨rfl, rfl⟩)
      go_round
      case rel => exact ⟨k + 1, e + 1, HK1.out, HE1.out, by go_num, by go_num, by rw [HVV.out]⟩
      case measure => have := HK1.out; have := HC.out.1; simp [intOf]; omega
end Go.Proofs.YtmdpchiiamgnnaaGreatDoor
