/- The reference's bracket (burinref07): Digit, Letter, hex, Number. · The reference's bracket (burinref07): Number. · The reference's Make (burinref02) for operation 3: the list of the set made of two. · The contracts of the reference's All and Not (burinref02). · The reference's class (burinref04): list, and rows of written numbers. · The reference's class (burinref04): its tables. · The reference's class (burinref04): the name between colons. · The reference's class (burinref04): the property. · The reference's class (burinref04): a name without its mark. · The reference's class (burinref04): the contracts of Letter, Colon and Property. · The reference's bracket (burinref07): Set. · burinlaw07.BracketEscapes, walked. -/
import Derived.Test.YtcomjkoaieeidaaGreatDoorGp8
import Derived.IntWalk
import Derived.WalkSmall
import Derived.Test.YtcomjkoaieeidaaGreatDoorGp5
import Derived.Test.YtcomjkoaieeidaaGreatDoorGp12
import Derived.Test.YtcomjkoaieeidaaGreatDoorGp3
import Derived.Test.YtcomjkoaieeidaaGreatDoorGp13
import Derived.Deep.RegionHeld3
import Derived.Deep.AppendLies
import Derived.Laws.MakeOwn
import Derived.Laws.OwnMore
import Derived.Test.YtcomjkoaieeidaaGreatDoorGp19
import Derived.Test.YtcomjkoaieeidaaGreatDoorGp23
import Derived.Test.YtcomjkoaieeidaaGreatDoorGp33
namespace Go.Proofs.YtcomjkoaieeidaaGreatDoor
open Go.RowKit
set_option linter.unusedVariables false
set_option maxRecDepth 100000 in
set_option maxHeartbeats 1000000 in
theorem rDigit_any (W : World) (c : Int) (h0 : 0 ≤ c) (h1 : c ≤ 255) : Calls Tryz.prog 51 #[.int .u8 c] W fun e w' => e = .returned (.int .i64 (Br.dig c)) ∧ W = w' := by
  have HD : Hid (Br.dig c = Br.dig c) := Lib.hid rfl
  by_cases a : 48 ≤ c
  · by_cases b : c ≤ 57
    · have hw : IntKind.i64.wrap (c - 48) = c - 48 := by rw [IntKind.wrap_i64]; omega
      have e : Br.dig c = c - 48 := by unfold Br.dig; rw [if_pos ⟨a, b⟩]
      rw [e]
      go_enter Tryz.func51, Tryz.ntmps51
      go_wp2
      go_ret
      exact ⟨rfl, rfl⟩
    · by_cases a2 : 97 ≤ c
      · by_cases b2 : c ≤ 102
        · have hw : IntKind.i64.wrap (c - 97) = c - 97 := by rw [IntKind.wrap_i64]; omega
          have hw2 : IntKind.i64.wrap (c - 97 + 10) = c - 87 := by rw [IntKind.wrap_i64]; omega
          have e : Br.dig c = c - 87 := by unfold Br.dig; rw [if_neg (by omega), if_pos ⟨a2, b2⟩]
          rw [e]
          go_enter Tryz.func51, Tryz.ntmps51
          go_wp2
          go_ret
          exact ⟨rfl, rfl⟩
        · have e : Br.dig c = -1 := by unfold Br.dig; rw [if_neg (by omega), if_neg (by omega), if_neg (by omega)]
          rw [e]
          have h9 : ¬ c ≤ 70 := by omega
          go_enter Tryz.func51, Tryz.ntmps51
          go_wp2
          go_ret
          exact ⟨rfl, rfl⟩
      · by_cases a3 : 65 ≤ c
        · by_cases b3 : c ≤ 70
          · have hw : IntKind.i64.wrap (c - 65) = c - 65 := by rw [IntKind.wrap_i64]; omega
            have hw2 : IntKind.i64.wrap (c - 65 + 10) = c - 55 := by rw [IntKind.wrap_i64]; omega
            have e : Br.dig c = c - 55 := by unfold Br.dig; rw [if_neg (by omega), if_neg (by omega), if_pos ⟨a3, b3⟩]
            rw [e]
            go_enter Tryz.func51, Tryz.ntmps51
            go_wp2
            go_ret
            exact ⟨rfl, rfl⟩
          · have e : Br.dig c = -1 := by unfold Br.dig; rw [if_neg (by omega), if_neg (by omega), if_neg (by omega)]
            rw [e]
            go_enter Tryz.func51, Tryz.ntmps51
            go_wp2
            go_ret
            exact ⟨rfl, rfl⟩
        · have e : Br.dig c = -1 := by unfold Br.dig; rw [if_neg (by omega), if_neg (by omega), if_neg (by omega)]
          rw [e]
          go_enter Tryz.func51, Tryz.ntmps51
          go_wp2
          go_ret
          exact ⟨rfl, rfl⟩
  · have e : Br.dig c = -1 := by unfold Br.dig; rw [if_neg (by omega), if_neg (by omega), if_neg (by omega)]
    rw [e]
    have h7 : ¬ 97 ≤ c := by omega
    have h8 : ¬ 65 ≤ c := by omega
    go_enter Tryz.func51, Tryz.ntmps51
    go_wp2
    go_ret
    exact ⟨rfl, rfl⟩
set_option maxRecDepth 100000 in
set_option maxHeartbeats 1000000 in
theorem rLetter_any (W : World) (c : Int) (h0 : 0 ≤ c) (h1 : c ≤ 255) : Calls Tryz.prog 28 #[.int .u8 c] W fun e w' => e = .returned (.bool (Br.letB c)) ∧ W = w' := by
  by_cases a : 97 ≤ c
  · have h9 : 65 ≤ c := by omega
    have h8 : ¬ c ≤ 90 := by omega
    by_cases b : c ≤ 122
    · rw [bLet_yes (.inr ⟨a, b⟩)]
      go_enter Tryz.func28, Tryz.ntmps28
      go_wp2
      go_ret
      exact ⟨rfl, rfl⟩
    · rw [bLet_no (by omega)]
      go_enter Tryz.func28, Tryz.ntmps28
      go_wp2
      go_ret
      exact ⟨rfl, rfl⟩
  · by_cases d : 65 ≤ c
    · by_cases f : c ≤ 90
      · rw [bLet_yes (.inl ⟨d, f⟩)]
        go_enter Tryz.func28, Tryz.ntmps28
        go_wp2
        go_ret
        exact ⟨rfl, rfl⟩
      · rw [bLet_no (by omega)]
        go_enter Tryz.func28, Tryz.ntmps28
        go_wp2
        go_ret
        exact ⟨rfl, rfl⟩
    · rw [bLet_no (by omega)]
      go_enter Tryz.func28, Tryz.ntmps28
      go_wp2
      go_ret
      exact ⟨rfl, rfl⟩
set_option maxRecDepth 100000 in
set_option maxHeartbeats 4000000 in
theorem rHex_brace (W : World) (s : ByteArray) (hs : s.size ≤ 140737488351232) (h3 : 3 ≤ s.size) (hb : (Utf.nums s)[2]?.getD 0 = 123) : Calls Tryz.prog 27 #[.string s] W fun e w' =>
    e = .returned (.tuple #[.int .i64 (Br.braced (Utf.nums s)).1, .int .i64 (Br.braced (Utf.nums s)).2.1, .int .i64 (Br.braced (Utf.nums s)).2.2]) ∧ W = w' := by
  obtain ⟨l, hl⟩ : ∃ l, (Utf.nums s).drop 3 = l := ⟨_, rfl⟩
  have hln : l.length = s.size - 3 := by rw [← hl, List.length_drop, Utf.nums_length]
  have hlk : ∀ k, (Utf.nums s)[3 + k]?.getD 0 = l[k]?.getD 0 := fun k => by rw [← hl, List.getElem?_drop]
  have hc := Br.cnt_le l 6
  have hR : Br.braced (Utf.nums s) = (if 3 + Br.cnt l 6 = s.size then (0, 0, 82) else if l[Br.cnt l 6]?.getD 0 ≠ 125 ∨ Br.cnt l 6 = 0 ∨ 1114111 < Br.val l (Br.cnt l 6) then (0, 0, 80) else (Br.val l (Br.cnt l 6), (Br.cnt l 6 : Int) + 4, 0)) := by
    unfold Br.braced
    dsimp only
    rw [hl, hlk, Utf.nums_length]
  have h2 : 2 < s.size := by omega
  have h2i : (2 : Int) < (s.size : Int) := by omega
  have hat : (s[2].toNat : Int) = 123 := by rw [← Utf.nums_at s 2 h2]; exact hb
  have hatb : ((s[2].toNat : Int) == 123) = true := by simp [hat]
  obtain ⟨R, hRR⟩ : ∃ R, Br.braced (Utf.nums s) = R := ⟨_, rfl⟩
  rw [hRR] at hR ⊢
  have HR := Lib.hid hR
  have HLN := Lib.hid hln
  have HC := Lib.hid hc
  have HLK : Hid (∀ k (h : 3 + k < s.size), l[k]?.getD 0 = (s[3 + k].toNat : Int)) := Lib.hid (fun k h => by rw [← hlk]; exact Utf.nums_at s (3 + k) h)
  clear hR hRR hln hlk hc hl hat hb
  go_enter Tryz.func27, Tryz.ntmps27
  go_wp2
  go_loop [6, 8, 9] (fun A V N => ∃ k e : Nat, k ≤ Br.cnt l 6 ∧ e = 3 + k ∧ A = .int .i64 (e : Int) ∧ N = .int .i64 (k : Int) ∧ V = .int .i64 (Br.val l k)) (fun _ _ N => 6 - (intOf N).toNat)
  case atStart => exact ⟨0, 3, Nat.zero_le _, rfl, rfl, rfl, rfl⟩
  case round =>
    obtain ⟨k, e, hk, he, rfl, rfl, rfl⟩ := hrel
    have hcm := HC.out.1
    have hcl := HC.out.2
    rw [HLN.out] at hcl
    have hbd := Br.val_bd l 6 k hk
    have hp : (16 : Int) ^ k ≤ 16 ^ 6 := by
      have : (16 : Nat) ^ k ≤ 16 ^ 6 := Nat.pow_le_pow_right (by decide) (by omega)
      exact_mod_cast this
    have hv0 : 0 ≤ Br.val l k := hbd.1
    have hv1 : Br.val l k < 16777216 := by have := hbd.2; omega
    have HVS : Hid (k < l.length → Br.val l (k + 1) = Br.val l k * 16 + Br.dig (l[k]?.getD 0)) := Lib.hid (fun h => Br.val_succ l k h)
    obtain ⟨V, hV⟩ : ∃ V, Br.val l k = V := ⟨_, rfl⟩
    have HV := Lib.hid hV
    rw [hV] at hv0 hv1 ⊢
    clear hbd hp hV
    by_cases hk6 : k = 6
    · have h5 : ((k : Int) == 6) = true := by simp [hk6]
      have HK6 : Hid (k = 6) := Lib.hid hk6
      clear hk6
      by_cases hsz : s.size ≤ e
      · have HE : Hid (R = (0, 0, 82)) := Lib.hid (by
          have hkk : Br.cnt l 6 = k := Br.cnt_ends l 6 k (by omega) (by rw [HLN.out]; omega) (fun j hj => Br.cnt_yes l 6 j (by omega)) (.inr (.inl (by rw [HLN.out]; omega)))
          rw [HR.out, if_pos (by omega)])
        have h6 : (s.size : Int) ≤ (e : Int) := by omega
        clear he
        go_wp2
        go_ret3
        exact ⟨by rw [HE.out]; rfl, rfl⟩
      have hlt : e < s.size := by omega
      have hlti : (e : Int) < (s.size : Int) := by omega
      have hnl : ¬ (s.size : Int) ≤ (e : Int) := by omega
      have hbb : s[e].toNat < 256 := UInt8.toNat_lt _
      have hle : l[k]?.getD 0 = (s[e].toNat : Int) := by subst he; exact HLK.out k hlt
      have HLE := Lib.hid hle
      have HEE := Lib.hid he
      have HBD := Lib.hid (rDigit_any W (s[e].toNat : Int) (by omega) (by omega))
      have hdb := Br.dig_bd (s[e].toNat : Int)
      obtain ⟨D, hD⟩ : ∃ D, Br.dig (s[e].toNat : Int) = D := ⟨_, rfl⟩
      have HD := Lib.hid hD
      rw [hD] at HBD hdb
      have HKD : Hid (D < 0 → Br.cnt l 6 = k) := Lib.hid (fun hd => Br.cnt_ends l 6 k (by omega) (by rw [HLN.out]; omega) (fun j hj => Br.cnt_yes l 6 j (by omega)) (.inr (.inr (by rw [HLE.out, HD.out]; exact hd))))
      have HKM : Hid (k = 6 → Br.cnt l 6 = k) := Lib.hid (fun h => by omega)
      have HLT : Hid (¬ D < 0 → k ≠ 6 → k < Br.cnt l 6) := Lib.hid (fun hd hm => by
        rcases Nat.lt_or_ge k (Br.cnt l 6) with h | h
        · exact h
        · obtain rfl : k = Br.cnt l 6 := by omega
          have := Br.cnt_no l 6 (by omega) (by rw [HLN.out]; omega)
          rw [HLE.out, HD.out] at this
          exact absurd this hd)
      have H125 : Hid ((s[e].toNat : Int) = 125 → D < 0) := Lib.hid (fun h => by rw [← HD.out, h]; decide)
      have HBAD : Hid (Br.cnt l 6 = k → (s[e].toNat : Int) ≠ 125 ∨ k = 0 ∨ 1114111 < V → R = (0, 0, 80)) := Lib.hid (fun hkk h => by
        rw [HR.out, if_neg (by omega), if_pos]
        rw [hkk, HLE.out, HV.out]; exact h)
      have HGOOD : Hid (Br.cnt l 6 = k → (s[e].toNat : Int) = 125 → k ≠ 0 → ¬ 1114111 < V → R = (V, (e : Int) + 1, 0)) := Lib.hid (fun hkk h h2 h3 => by
        rw [HR.out, if_neg (by omega), if_neg]
        · rw [hkk, HV.out, HEE.out]; congr 2; omega
        · rw [hkk, HLE.out, HV.out]; omega)
      have hw1 : IntKind.i64.wrap (V * 16) = V * 16 := by rw [IntKind.wrap_i64]; omega
      have hw2 : IntKind.i64.wrap (V * 16 + D) = V * 16 + D := by rw [IntKind.wrap_i64]; omega
      have hw3 : IntKind.i64.wrap ((k : Int) + 1) = ((k + 1 : Nat) : Int) := by rw [IntKind.wrap_i64]; omega
      have hw4 : IntKind.i64.wrap ((e : Int) + 1) = ((e + 1 : Nat) : Int) := by rw [IntKind.wrap_i64]; omega
      clear he hle hD hcm hcl
      by_cases c : (s[e].toNat : Int) = 125
      · have hd := H125.out c
        have hcb : ((s[e].toNat : Int) == 125) = true := by simp [c]
        by_cases k0 : k = 0
        · have HE := Lib.hid (HBAD.out (HKD.out hd) (.inr (.inl k0)))
          have hk0 : ¬ (0 : Int) < (k : Int) := by omega
          have hk0' : decide (0 < k) = false := by simp; omega
          clear c k0 hw1 hw2 hw3 hw4 hk
          go_wp2_with (go_at_call 51; refine HBD.out.mono ?_; rintro e w' ⟨rfl, rfl⟩)
          go_ret3
          exact ⟨by rw [HE.out]; rfl, rfl⟩
        · have hk0 : (0 : Int) < (k : Int) := by omega
          have hk0' : decide (0 < k) = true := by simp; omega
          by_cases hm : 1114111 < V
          · have HE := Lib.hid (HBAD.out (HKD.out hd) (.inr (.inr hm)))
            have hm' : ¬ V ≤ 1114111 := by omega
            clear c k0 hw1 hw2 hw3 hw4 hk
            go_wp2_with (go_at_call 51; refine HBD.out.mono ?_; rintro e w' ⟨rfl, rfl⟩)
            go_ret3
            exact ⟨by rw [HE.out]; rfl, rfl⟩
          · have HE := Lib.hid (HGOOD.out (HKD.out hd) c k0 hm)
            have hm' : V ≤ 1114111 := by omega
            have HW4 : Hid (((e + 1 : Nat) : Int) = (e : Int) + 1) := Lib.hid (by omega)
            clear c k0 hw1 hw2 hw3 hk hd
            go_wp2
            go_ret3
            exact ⟨by rw [HE.out, ← HW4.out]; rfl, rfl⟩
      have hcb : ((s[e].toNat : Int) == 125) = false := by simpa using c
      by_cases hd : D < 0
      · have HE := Lib.hid (HBAD.out (HKD.out hd) (.inl c))
        clear c hw1 hw2 hw3 hw4 hk
        go_wp2_with (go_at_call 51; refine HBD.out.mono ?_; rintro e w' ⟨rfl, rfl⟩)
        go_ret3
        exact ⟨by rw [HE.out]; rfl, rfl⟩
      have HE := Lib.hid (HBAD.out (HKM.out HK6.out) (.inl c))
      clear c hw1 hw2 hw3 hw4 hk
      go_wp2_with (go_at_call 51; refine HBD.out.mono ?_; rintro e w' ⟨rfl, rfl⟩)
      go_ret3
      exact ⟨by rw [HE.out]; rfl, rfl⟩
    · have h5 : ((k : Int) == 6) = false := by simp; omega
      have HK6 : Hid (k ≠ 6) := Lib.hid hk6
      clear hk6
      by_cases hsz : s.size ≤ e
      · have HE : Hid (R = (0, 0, 82)) := Lib.hid (by
          have hkk : Br.cnt l 6 = k := Br.cnt_ends l 6 k (by omega) (by rw [HLN.out]; omega) (fun j hj => Br.cnt_yes l 6 j (by omega)) (.inr (.inl (by rw [HLN.out]; omega)))
          rw [HR.out, if_pos (by omega)])
        have h6 : (s.size : Int) ≤ (e : Int) := by omega
        clear he
        go_wp2
        go_ret3
        exact ⟨by rw [HE.out]; rfl, rfl⟩
      have hlt : e < s.size := by omega
      have hlti : (e : Int) < (s.size : Int) := by omega
      have hnl : ¬ (s.size : Int) ≤ (e : Int) := by omega
      have hbb : s[e].toNat < 256 := UInt8.toNat_lt _
      have hle : l[k]?.getD 0 = (s[e].toNat : Int) := by subst he; exact HLK.out k hlt
      have HLE := Lib.hid hle
      have HEE := Lib.hid he
      have HBD := Lib.hid (rDigit_any W (s[e].toNat : Int) (by omega) (by omega))
      have hdb := Br.dig_bd (s[e].toNat : Int)
      obtain ⟨D, hD⟩ : ∃ D, Br.dig (s[e].toNat : Int) = D := ⟨_, rfl⟩
      have HD := Lib.hid hD
      rw [hD] at HBD hdb
      have HKD : Hid (D < 0 → Br.cnt l 6 = k) := Lib.hid (fun hd => Br.cnt_ends l 6 k (by omega) (by rw [HLN.out]; omega) (fun j hj => Br.cnt_yes l 6 j (by omega)) (.inr (.inr (by rw [HLE.out, HD.out]; exact hd))))
      have HKM : Hid (k = 6 → Br.cnt l 6 = k) := Lib.hid (fun h => by omega)
      have HLT : Hid (¬ D < 0 → k ≠ 6 → k < Br.cnt l 6) := Lib.hid (fun hd hm => by
        rcases Nat.lt_or_ge k (Br.cnt l 6) with h | h
        · exact h
        · obtain rfl : k = Br.cnt l 6 := by omega
          have := Br.cnt_no l 6 (by omega) (by rw [HLN.out]; omega)
          rw [HLE.out, HD.out] at this
          exact absurd this hd)
      have H125 : Hid ((s[e].toNat : Int) = 125 → D < 0) := Lib.hid (fun h => by rw [← HD.out, h]; decide)
      have HBAD : Hid (Br.cnt l 6 = k → (s[e].toNat : Int) ≠ 125 ∨ k = 0 ∨ 1114111 < V → R = (0, 0, 80)) := Lib.hid (fun hkk h => by
        rw [HR.out, if_neg (by omega), if_pos]
        rw [hkk, HLE.out, HV.out]; exact h)
      have HGOOD : Hid (Br.cnt l 6 = k → (s[e].toNat : Int) = 125 → k ≠ 0 → ¬ 1114111 < V → R = (V, (e : Int) + 1, 0)) := Lib.hid (fun hkk h h2 h3 => by
        rw [HR.out, if_neg (by omega), if_neg]
        · rw [hkk, HV.out, HEE.out]; congr 2; omega
        · rw [hkk, HLE.out, HV.out]; omega)
      have hw1 : IntKind.i64.wrap (V * 16) = V * 16 := by rw [IntKind.wrap_i64]; omega
      have hw2 : IntKind.i64.wrap (V * 16 + D) = V * 16 + D := by rw [IntKind.wrap_i64]; omega
      have hw3 : IntKind.i64.wrap ((k : Int) + 1) = ((k + 1 : Nat) : Int) := by rw [IntKind.wrap_i64]; omega
      have hw4 : IntKind.i64.wrap ((e : Int) + 1) = ((e + 1 : Nat) : Int) := by rw [IntKind.wrap_i64]; omega
      clear he hle hD hcm hcl
      by_cases c : (s[e].toNat : Int) = 125
      · have hd := H125.out c
        have hcb : ((s[e].toNat : Int) == 125) = true := by simp [c]
        by_cases k0 : k = 0
        · have HE := Lib.hid (HBAD.out (HKD.out hd) (.inr (.inl k0)))
          have hk0 : ¬ (0 : Int) < (k : Int) := by omega
          have hk0' : decide (0 < k) = false := by simp; omega
          clear c k0 hw1 hw2 hw3 hw4 hk
          go_wp2_with (go_at_call 51; refine HBD.out.mono ?_; rintro e w' ⟨rfl, rfl⟩)
          go_ret3
          exact ⟨by rw [HE.out]; rfl, rfl⟩
        · have hk0 : (0 : Int) < (k : Int) := by omega
          have hk0' : decide (0 < k) = true := by simp; omega
          by_cases hm : 1114111 < V
          · have HE := Lib.hid (HBAD.out (HKD.out hd) (.inr (.inr hm)))
            have hm' : ¬ V ≤ 1114111 := by omega
            clear c k0 hw1 hw2 hw3 hw4 hk
            go_wp2_with (go_at_call 51; refine HBD.out.mono ?_; rintro e w' ⟨rfl, rfl⟩)
            go_ret3
            exact ⟨by rw [HE.out]; rfl, rfl⟩
          · have HE := Lib.hid (HGOOD.out (HKD.out hd) c k0 hm)
            have hm' : V ≤ 1114111 := by omega
            have HW4 : Hid (((e + 1 : Nat) : Int) = (e : Int) + 1) := Lib.hid (by omega)
            clear c k0 hw1 hw2 hw3 hk hd
            go_wp2
            go_ret3
            exact ⟨by rw [HE.out, ← HW4.out]; rfl, rfl⟩
      have hcb : ((s[e].toNat : Int) == 125) = false := by simpa using c
      by_cases hd : D < 0
      · have HE := Lib.hid (HBAD.out (HKD.out hd) (.inl c))
        clear c hw1 hw2 hw3 hw4 hk
        go_wp2_with (go_at_call 51; refine HBD.out.mono ?_; rintro e w' ⟨rfl, rfl⟩)
        go_ret3
        exact ⟨by rw [HE.out]; rfl, rfl⟩
      have HK1 := Lib.hid (HLT.out hd HK6.out)
      have HVV : Hid (V * 16 + D = Br.val l (k + 1)) := Lib.hid (by rw [HVS.out (by rw [HLN.out]; have := HEE.out; omega), HLE.out, HD.out, HV.out])
      have HE1 : Hid (e + 1 = 3 + (k + 1)) := Lib.hid (by have := HEE.out; omega)
      clear c hk
      go_wp2_with (go_at_call 51; refine HBD.out.mono ?_; rintro e w' ⟨rfl, rfl⟩)
      go_round
      case rel => exact ⟨k + 1, e + 1, HK1.out, HE1.out, by go_num, by go_num, by rw [HVV.out]⟩
      case measure => have := HK1.out; have := HC.out.1; simp [intOf]; omega
set_option maxRecDepth 100000 in
set_option maxHeartbeats 4000000 in
theorem rHex_two (W : World) (s : ByteArray) (hs : s.size ≤ 140737488351232) (h3 : 2 ≤ s.size) (hb : ¬ (Utf.nums s)[2]?.getD 0 = 123) : Calls Tryz.prog 27 #[.string s] W fun e w' =>
    e = .returned (.tuple #[.int .i64 (Br.two (Utf.nums s)).1, .int .i64 (Br.two (Utf.nums s)).2.1, .int .i64 (Br.two (Utf.nums s)).2.2]) ∧ W = w' := by
  obtain ⟨l, hl⟩ : ∃ l, (Utf.nums s).drop 2 = l := ⟨_, rfl⟩
  have hln : l.length = s.size - 2 := by rw [← hl, List.length_drop, Utf.nums_length]
  have hlk : ∀ k, (Utf.nums s)[2 + k]?.getD 0 = l[k]?.getD 0 := fun k => by rw [← hl, List.getElem?_drop]
  have hc := Br.cnt_le l 2
  have hR : Br.two (Utf.nums s) = (if Br.cnt l 2 = 2 then (Br.val l 2, 4, 0) else if Br.cnt l 2 + 2 = s.size then (0, 0, 82) else (0, 0, 80)) := by
    unfold Br.two
    dsimp only
    rw [hl, Utf.nums_length]
  obtain ⟨R, hRR⟩ : ∃ R, Br.two (Utf.nums s) = R := ⟨_, rfl⟩
  rw [hRR] at hR ⊢
  have HR := Lib.hid hR
  have HLN := Lib.hid hln
  have HC := Lib.hid hc
  have HLK : Hid (∀ k (h : 2 + k < s.size), l[k]?.getD 0 = (s[2 + k].toNat : Int)) := Lib.hid (fun k h => by rw [← hlk]; exact Utf.nums_at s (2 + k) h)
  clear hR hRR hln hlk hc hl
  by_cases h2 : 2 < s.size
  · have h2i : (2 : Int) < (s.size : Int) := by omega
    have hat : ((s[2].toNat : Int) == 123) = false := by
      have := hb
      rw [Utf.nums_at s 2 h2] at this
      simpa using this
    clear hb
    go_enter Tryz.func27, Tryz.ntmps27
    go_wp2
    go_loop [6, 8, 9] (fun A V N => ∃ k e : Nat, k ≤ Br.cnt l 2 ∧ e = 2 + k ∧ A = .int .i64 (e : Int) ∧ N = .int .i64 (k : Int) ∧ V = .int .i64 (Br.val l k)) (fun _ _ N => 2 - (intOf N).toNat)
    case atStart => exact ⟨0, 2, Nat.zero_le _, rfl, rfl, rfl, rfl⟩
    case round =>
      obtain ⟨k, e, hk, he, rfl, rfl, rfl⟩ := hrel
      have hcm := HC.out.1
      have hcl := HC.out.2
      rw [HLN.out] at hcl
      have hbd := Br.val_bd l 2 k hk
      have hp : (16 : Int) ^ k ≤ 16 ^ 2 := by
        have : (16 : Nat) ^ k ≤ 16 ^ 2 := Nat.pow_le_pow_right (by decide) (by omega)
        exact_mod_cast this
      have hv0 : 0 ≤ Br.val l k := hbd.1
      have hv1 : Br.val l k < 16777216 := by have := hbd.2; omega
      have HVS : Hid (k < l.length → Br.val l (k + 1) = Br.val l k * 16 + Br.dig (l[k]?.getD 0)) := Lib.hid (fun h => Br.val_succ l k h)
      obtain ⟨V, hV⟩ : ∃ V, Br.val l k = V := ⟨_, rfl⟩
      have HV := Lib.hid hV
      rw [hV] at hv0 hv1 ⊢
      clear hbd hp hV
      by_cases hk2 : k = 2
      · have HE : Hid (R = (Br.val l 2, 4, 0)) := Lib.hid (by rw [HR.out, if_pos (by omega)])
        have h5 : ((k : Int) == 2) = true := by simp [hk2]
        have he4 : (e : Int) = 4 := by omega
        have HV2 : Hid (V = Br.val l 2) := Lib.hid (by rw [← HV.out, hk2])
        have HE4 := Lib.hid he4
        clear hk2 he4 he
        go_wp2
        go_ret3
        exact ⟨by rw [HE.out, ← HV2.out, ← HE4.out]; rfl, rfl⟩
      have h5 : ((k : Int) == 2) = false := by simp; omega
      by_cases hsz : s.size ≤ e
      · have HE : Hid (R = (0, 0, 82)) := Lib.hid (by
          have hkk : Br.cnt l 2 = k := Br.cnt_ends l 2 k (by omega) (by rw [HLN.out]; omega) (fun j hj => Br.cnt_yes l 2 j (by omega)) (.inr (.inl (by rw [HLN.out]; omega)))
          rw [HR.out, if_neg (by omega), if_pos (by omega)])
        have h6 : (s.size : Int) ≤ (e : Int) := by omega
        clear he
        go_wp2
        go_ret3
        exact ⟨by rw [HE.out]; rfl, rfl⟩
      have hlt : e < s.size := by omega
      have hlti : (e : Int) < (s.size : Int) := by omega
      have hnl : ¬ (s.size : Int) ≤ (e : Int) := by omega
      have hbb : s[e].toNat < 256 := UInt8.toNat_lt _
      have hle : l[k]?.getD 0 = (s[e].toNat : Int) := by subst he; exact HLK.out k hlt
      have HLE := Lib.hid hle
      have HEE := Lib.hid he
      have HBD := Lib.hid (rDigit_any W (s[e].toNat : Int) (by omega) (by omega))
      have hdb := Br.dig_bd (s[e].toNat : Int)
      obtain ⟨D, hD⟩ : ∃ D, Br.dig (s[e].toNat : Int) = D := ⟨_, rfl⟩
      have HD := Lib.hid hD
      rw [hD] at HBD hdb
      have HKD : Hid (D < 0 → Br.cnt l 2 = k) := Lib.hid (fun hd => Br.cnt_ends l 2 k (by omega) (by rw [HLN.out]; omega) (fun j hj => Br.cnt_yes l 2 j (by omega)) (.inr (.inr (by rw [HLE.out, HD.out]; exact hd))))
      have HKM : Hid (k = 2 → Br.cnt l 2 = k) := Lib.hid (fun h => by omega)
      have HLT : Hid (¬ D < 0 → k ≠ 2 → k < Br.cnt l 2) := Lib.hid (fun hd hm => by
        rcases Nat.lt_or_ge k (Br.cnt l 2) with h | h
        · exact h
        · obtain rfl : k = Br.cnt l 2 := by omega
          have := Br.cnt_no l 2 (by omega) (by rw [HLN.out]; omega)
          rw [HLE.out, HD.out] at this
          exact absurd this hd)
      have HBAD : Hid (Br.cnt l 2 = k → R = (0, 0, 80)) := Lib.hid (fun hkk => by rw [HR.out, if_neg (by omega), if_neg (by omega)])
      have hw1 : IntKind.i64.wrap (V * 16) = V * 16 := by rw [IntKind.wrap_i64]; omega
      have hw2 : IntKind.i64.wrap (V * 16 + D) = V * 16 + D := by rw [IntKind.wrap_i64]; omega
      have hw3 : IntKind.i64.wrap ((k : Int) + 1) = ((k + 1 : Nat) : Int) := by rw [IntKind.wrap_i64]; omega
      have hw4 : IntKind.i64.wrap ((e : Int) + 1) = ((e + 1 : Nat) : Int) := by rw [IntKind.wrap_i64]; omega
      clear he hle hD hcm hcl
      by_cases hd : D < 0
      · have HE := Lib.hid (HBAD.out (HKD.out hd))
        clear hw1 hw2 hw3 hw4 hk hk2
        go_wp2_with (go_at_call 51; refine HBD.out.mono ?_; rintro e w' ⟨rfl, rfl⟩)
        go_ret3
        exact ⟨by rw [HE.out]; rfl, rfl⟩
      have HK1 := Lib.hid (HLT.out hd hk2)
      have HVV : Hid (V * 16 + D = Br.val l (k + 1)) := Lib.hid (by rw [HVS.out (by rw [HLN.out]; have := HEE.out; omega), HLE.out, HD.out, HV.out])
      have HE1 : Hid (e + 1 = 2 + (k + 1)) := Lib.hid (by have := HEE.out; omega)
      clear hk2 hk
      go_wp2_with (go_at_call 51; refine HBD.out.mono ?_; rintro e w' ⟨rfl, rfl⟩)
      go_round
      case rel => exact ⟨k + 1, e + 1, HK1.out, HE1.out, by go_num, by go_num, by rw [HVV.out]⟩
      case measure => have := HK1.out; have := HC.out.1; simp [intOf]; omega
  · have h2i : ¬ (2 : Int) < (s.size : Int) := by omega
    clear hb
    go_enter Tryz.func27, Tryz.ntmps27
    go_wp2
    go_loop [6, 8, 9] (fun A V N => ∃ k e : Nat, k ≤ Br.cnt l 2 ∧ e = 2 + k ∧ A = .int .i64 (e : Int) ∧ N = .int .i64 (k : Int) ∧ V = .int .i64 (Br.val l k)) (fun _ _ N => 2 - (intOf N).toNat)
    case atStart => exact ⟨0, 2, Nat.zero_le _, rfl, rfl, rfl, rfl⟩
    case round =>
      obtain ⟨k, e, hk, he, rfl, rfl, rfl⟩ := hrel
      have hcm := HC.out.1
      have hcl := HC.out.2
      rw [HLN.out] at hcl
      have hbd := Br.val_bd l 2 k hk
      have hp : (16 : Int) ^ k ≤ 16 ^ 2 := by
        have : (16 : Nat) ^ k ≤ 16 ^ 2 := Nat.pow_le_pow_right (by decide) (by omega)
        exact_mod_cast this
      have hv0 : 0 ≤ Br.val l k := hbd.1
      have hv1 : Br.val l k < 16777216 := by have := hbd.2; omega
      have HVS : Hid (k < l.length → Br.val l (k + 1) = Br.val l k * 16 + Br.dig (l[k]?.getD 0)) := Lib.hid (fun h => Br.val_succ l k h)
      obtain ⟨V, hV⟩ : ∃ V, Br.val l k = V := ⟨_, rfl⟩
      have HV := Lib.hid hV
      rw [hV] at hv0 hv1 ⊢
      clear hbd hp hV
      by_cases hk2 : k = 2
      · have HE : Hid (R = (Br.val l 2, 4, 0)) := Lib.hid (by rw [HR.out, if_pos (by omega)])
        have h5 : ((k : Int) == 2) = true := by simp [hk2]
        have he4 : (e : Int) = 4 := by omega
        have HV2 : Hid (V = Br.val l 2) := Lib.hid (by rw [← HV.out, hk2])
        have HE4 := Lib.hid he4
        clear hk2 he4 he
        go_wp2
        go_ret3
        exact ⟨by rw [HE.out, ← HV2.out, ← HE4.out]; rfl, rfl⟩
      have h5 : ((k : Int) == 2) = false := by simp; omega
      by_cases hsz : s.size ≤ e
      · have HE : Hid (R = (0, 0, 82)) := Lib.hid (by
          have hkk : Br.cnt l 2 = k := Br.cnt_ends l 2 k (by omega) (by rw [HLN.out]; omega) (fun j hj => Br.cnt_yes l 2 j (by omega)) (.inr (.inl (by rw [HLN.out]; omega)))
          rw [HR.out, if_neg (by omega), if_pos (by omega)])
        have h6 : (s.size : Int) ≤ (e : Int) := by omega
        clear he
        go_wp2
        go_ret3
        exact ⟨by rw [HE.out]; rfl, rfl⟩
      have hlt : e < s.size := by omega
      have hlti : (e : Int) < (s.size : Int) := by omega
      have hnl : ¬ (s.size : Int) ≤ (e : Int) := by omega
      have hbb : s[e].toNat < 256 := UInt8.toNat_lt _
      have hle : l[k]?.getD 0 = (s[e].toNat : Int) := by subst he; exact HLK.out k hlt
      have HLE := Lib.hid hle
      have HEE := Lib.hid he
      have HBD := Lib.hid (rDigit_any W (s[e].toNat : Int) (by omega) (by omega))
      have hdb := Br.dig_bd (s[e].toNat : Int)
      obtain ⟨D, hD⟩ : ∃ D, Br.dig (s[e].toNat : Int) = D := ⟨_, rfl⟩
      have HD := Lib.hid hD
      rw [hD] at HBD hdb
      have HKD : Hid (D < 0 → Br.cnt l 2 = k) := Lib.hid (fun hd => Br.cnt_ends l 2 k (by omega) (by rw [HLN.out]; omega) (fun j hj => Br.cnt_yes l 2 j (by omega)) (.inr (.inr (by rw [HLE.out, HD.out]; exact hd))))
      have HKM : Hid (k = 2 → Br.cnt l 2 = k) := Lib.hid (fun h => by omega)
      have HLT : Hid (¬ D < 0 → k ≠ 2 → k < Br.cnt l 2) := Lib.hid (fun hd hm => by
        rcases Nat.lt_or_ge k (Br.cnt l 2) with h | h
        · exact h
        · obtain rfl : k = Br.cnt l 2 := by omega
          have := Br.cnt_no l 2 (by omega) (by rw [HLN.out]; omega)
          rw [HLE.out, HD.out] at this
          exact absurd this hd)
      have HBAD : Hid (Br.cnt l 2 = k → R = (0, 0, 80)) := Lib.hid (fun hkk => by rw [HR.out, if_neg (by omega), if_neg (by omega)])
      have hw1 : IntKind.i64.wrap (V * 16) = V * 16 := by rw [IntKind.wrap_i64]; omega
      have hw2 : IntKind.i64.wrap (V * 16 + D) = V * 16 + D := by rw [IntKind.wrap_i64]; omega
      have hw3 : IntKind.i64.wrap ((k : Int) + 1) = ((k + 1 : Nat) : Int) := by rw [IntKind.wrap_i64]; omega
      have hw4 : IntKind.i64.wrap ((e : Int) + 1) = ((e + 1 : Nat) : Int) := by rw [IntKind.wrap_i64]; omega
      clear he hle hD hcm hcl
      by_cases hd : D < 0
      · have HE := Lib.hid (HBAD.out (HKD.out hd))
        clear hw1 hw2 hw3 hw4 hk hk2
        go_wp2_with (go_at_call 51; refine HBD.out.mono ?_; rintro e w' ⟨rfl, rfl⟩)
        go_ret3
        exact ⟨by rw [HE.out]; rfl, rfl⟩
      have HK1 := Lib.hid (HLT.out hd hk2)
      have HVV : Hid (V * 16 + D = Br.val l (k + 1)) := Lib.hid (by rw [HVS.out (by rw [HLN.out]; have := HEE.out; omega), HLE.out, HD.out, HV.out])
      have HE1 : Hid (e + 1 = 2 + (k + 1)) := Lib.hid (by have := HEE.out; omega)
      clear hk2 hk
      go_wp2_with (go_at_call 51; refine HBD.out.mono ?_; rintro e w' ⟨rfl, rfl⟩)
      go_round
      case rel => exact ⟨k + 1, e + 1, HK1.out, HE1.out, by go_num, by go_num, by rw [HVV.out]⟩
      case measure => have := HK1.out; have := HC.out.1; simp [intOf]; omega
end Go.Proofs.YtcomjkoaieeidaaGreatDoor
namespace Go.Proofs.YtcomjkoaieeidaaGreatDoor
open Go.RowKit
set_option linter.unusedVariables false
set_option maxRecDepth 100000 in
set_option maxHeartbeats 4000000 in
theorem rNumber_any (W : World) (s : ByteArray) (hs : s.size ≤ 140737488351232) : Calls Tryz.prog 10 #[.string s] W fun e w' =>
    e = .returned (.tuple #[.int .i64 (Br.num (Utf.nums s)).1, .int .i64 (Br.num (Utf.nums s)).2.1, .int .i64 (Br.num (Utf.nums s)).2.2]) ∧ W = w' := by
  have hnum : Br.num (Utf.nums s) = (if (Utf.nums s)[0]?.getD 0 ≠ 92 then (0, 0, 3) else if s.size = 1 then (0, 0, 82) else if (Utf.nums s)[1]?.getD 0 ≠ 120 then Br.plain ((Utf.nums s)[1]?.getD 0) else if (Utf.nums s)[2]?.getD 0 = 123 then Br.braced (Utf.nums s) else Br.two (Utf.nums s)) := by
    unfold Br.num
    rw [Utf.nums_length]
  obtain ⟨R, hR⟩ : ∃ R, Br.num (Utf.nums s) = R := ⟨_, rfl⟩
  rw [hR] at hnum ⊢
  clear hR
  by_cases h0 : s.size = 0
  · have HE : Hid (R = (0, 0, 3)) := Lib.hid (by rw [hnum, if_pos (by rw [List.getElem?_eq_none (by rw [Utf.nums_length]; omega)]; decide)])
    clear hnum
    go_enter Tryz.func10, Tryz.ntmps10
    go_wp2
    go_ret3
    exact ⟨by rw [HE.out]; rfl, rfl⟩
  have hz0 : 0 < s.size := by omega
  have hz0i : (0 : Int) < (s.size : Int) := by omega
  have hz9 : ((s.size : Int) == 0) = false := by rw [beq_eq_false_iff_ne]; omega
  have hb0 : s[0].toNat < 256 := UInt8.toNat_lt _
  rw [Utf.nums_at s 0 hz0] at hnum
  by_cases c0 : ¬ (s[0].toNat : Int) = 92
  · have HE : Hid (R = (0, 0, 3)) := Lib.hid (by rw [hnum, if_pos c0])
    have h4 : ((s[0].toNat : Int) != 92) = true := by simpa using c0
    clear hnum c0 h0
    go_enter Tryz.func10, Tryz.ntmps10
    go_wp2
    go_ret3
    exact ⟨by rw [HE.out]; rfl, rfl⟩
  have h4 : ((s[0].toNat : Int) != 92) = false := by
    have e : (s[0].toNat : Int) = 92 := by omega
    rw [e]; rfl
  rw [if_neg (by omega)] at hnum
  by_cases c1 : s.size = 1
  · have HE : Hid (R = (0, 0, 82)) := Lib.hid (by rw [hnum, if_pos c1])
    have h1 : ((s.size : Int) == 1) = true := by simp [c1]
    clear hnum c0 c1 h0
    go_enter Tryz.func10, Tryz.ntmps10
    go_wp2
    go_ret3
    exact ⟨by rw [HE.out]; rfl, rfl⟩
  have h1 : ((s.size : Int) == 1) = false := by simp; omega
  have h2 : 1 < s.size := by omega
  have h2i : (1 : Int) < (s.size : Int) := by omega
  have hb : s[1].toNat < 256 := UInt8.toNat_lt _
  have hat : (Utf.nums s)[1]?.getD 0 = (s[1].toNat : Int) := Utf.nums_at s 1 h2
  rw [if_neg c1, hat] at hnum
  clear c0 c1 h0 hat
  by_cases c2 : (s[1].toNat : Int) = 120
  · rw [if_neg (by omega)] at hnum
    have h120 : ((s[1].toNat : Int) == 120) = true := by simp [c2]
    have n97 : ((s[1].toNat : Int) == 97) = false := by simp; omega
    have n102 : ((s[1].toNat : Int) == 102) = false := by simp; omega
    have n116 : ((s[1].toNat : Int) == 116) = false := by simp; omega
    have n110 : ((s[1].toNat : Int) == 110) = false := by simp; omega
    have n114 : ((s[1].toNat : Int) == 114) = false := by simp; omega
    have n118 : ((s[1].toNat : Int) == 118) = false := by simp; omega
    clear c2
    by_cases c3 : (Utf.nums s)[2]?.getD 0 = 123
    · rw [if_pos c3] at hnum
      have h5 : 3 ≤ s.size := by
        rcases Nat.lt_or_ge 2 s.size with h | h
        · exact h
        · rw [List.getElem?_eq_none (by rw [Utf.nums_length]; omega)] at c3; cases c3
      have HX := Lib.hid (rHex_brace W s hs h5 c3)
      rw [← hnum] at HX
      clear hnum c3 h5
      go_enter Tryz.func10, Tryz.ntmps10
      go_wp2_with fail
      refine HX.out.mono ?_
      rintro e w' ⟨rfl, rfl⟩
      go_wp2
      go_ret3
      exact ⟨rfl, rfl⟩
    · rw [if_neg c3] at hnum
      have HX := Lib.hid (rHex_two W s hs (by omega) c3)
      rw [← hnum] at HX
      clear hnum c3
      go_enter Tryz.func10, Tryz.ntmps10
      go_wp2_with fail
      refine HX.out.mono ?_
      rintro e w' ⟨rfl, rfl⟩
      go_wp2
      go_ret3
      exact ⟨rfl, rfl⟩
  rw [if_pos c2] at hnum
  have n120 : ((s[1].toNat : Int) == 120) = false := by simpa using c2
  clear c2
  by_cases e97 : (s[1].toNat : Int) = 97
  · have HE : Hid (R = (7, 2, 0)) := Lib.hid (by rw [hnum, e97]; decide)
    have h97 : ((s[1].toNat : Int) == 97) = true := by simp [e97]
    have m102 : ((s[1].toNat : Int) == 102) = false := by simp; omega
    have m116 : ((s[1].toNat : Int) == 116) = false := by simp; omega
    have m110 : ((s[1].toNat : Int) == 110) = false := by simp; omega
    have m114 : ((s[1].toNat : Int) == 114) = false := by simp; omega
    have m118 : ((s[1].toNat : Int) == 118) = false := by simp; omega
    clear hnum e97  
    go_enter Tryz.func10, Tryz.ntmps10
    go_wp2
    go_ret3
    exact ⟨by rw [HE.out]; rfl, rfl⟩
  have n97 : ((s[1].toNat : Int) == 97) = false := by simpa using e97
  by_cases e102 : (s[1].toNat : Int) = 102
  · have HE : Hid (R = (12, 2, 0)) := Lib.hid (by rw [hnum, e102]; decide)
    have h102 : ((s[1].toNat : Int) == 102) = true := by simp [e102]
    have m97 : ((s[1].toNat : Int) == 97) = false := by simp; omega
    have m116 : ((s[1].toNat : Int) == 116) = false := by simp; omega
    have m110 : ((s[1].toNat : Int) == 110) = false := by simp; omega
    have m114 : ((s[1].toNat : Int) == 114) = false := by simp; omega
    have m118 : ((s[1].toNat : Int) == 118) = false := by simp; omega
    clear hnum e102 e97 n97
    go_enter Tryz.func10, Tryz.ntmps10
    go_wp2
    go_ret3
    exact ⟨by rw [HE.out]; rfl, rfl⟩
  have n102 : ((s[1].toNat : Int) == 102) = false := by simpa using e102
  by_cases e116 : (s[1].toNat : Int) = 116
  · have HE : Hid (R = (9, 2, 0)) := Lib.hid (by rw [hnum, e116]; decide)
    have h116 : ((s[1].toNat : Int) == 116) = true := by simp [e116]
    have m97 : ((s[1].toNat : Int) == 97) = false := by simp; omega
    have m102 : ((s[1].toNat : Int) == 102) = false := by simp; omega
    have m110 : ((s[1].toNat : Int) == 110) = false := by simp; omega
    have m114 : ((s[1].toNat : Int) == 114) = false := by simp; omega
    have m118 : ((s[1].toNat : Int) == 118) = false := by simp; omega
    clear hnum e116 e97 e102 n97 n102
    go_enter Tryz.func10, Tryz.ntmps10
    go_wp2
    go_ret3
    exact ⟨by rw [HE.out]; rfl, rfl⟩
  have n116 : ((s[1].toNat : Int) == 116) = false := by simpa using e116
  by_cases e110 : (s[1].toNat : Int) = 110
  · have HE : Hid (R = (10, 2, 0)) := Lib.hid (by rw [hnum, e110]; decide)
    have h110 : ((s[1].toNat : Int) == 110) = true := by simp [e110]
    have m97 : ((s[1].toNat : Int) == 97) = false := by simp; omega
    have m102 : ((s[1].toNat : Int) == 102) = false := by simp; omega
    have m116 : ((s[1].toNat : Int) == 116) = false := by simp; omega
    have m114 : ((s[1].toNat : Int) == 114) = false := by simp; omega
    have m118 : ((s[1].toNat : Int) == 118) = false := by simp; omega
    clear hnum e110 e97 e102 e116 n97 n102 n116
    go_enter Tryz.func10, Tryz.ntmps10
    go_wp2
    go_ret3
    exact ⟨by rw [HE.out]; rfl, rfl⟩
  have n110 : ((s[1].toNat : Int) == 110) = false := by simpa using e110
  by_cases e114 : (s[1].toNat : Int) = 114
  · have HE : Hid (R = (13, 2, 0)) := Lib.hid (by rw [hnum, e114]; decide)
    have h114 : ((s[1].toNat : Int) == 114) = true := by simp [e114]
    have m97 : ((s[1].toNat : Int) == 97) = false := by simp; omega
    have m102 : ((s[1].toNat : Int) == 102) = false := by simp; omega
    have m116 : ((s[1].toNat : Int) == 116) = false := by simp; omega
    have m110 : ((s[1].toNat : Int) == 110) = false := by simp; omega
    have m118 : ((s[1].toNat : Int) == 118) = false := by simp; omega
    clear hnum e114 e97 e102 e116 e110 n97 n102 n116 n110
    go_enter Tryz.func10, Tryz.ntmps10
    go_wp2
    go_ret3
    exact ⟨by rw [HE.out]; rfl, rfl⟩
  have n114 : ((s[1].toNat : Int) == 114) = false := by simpa using e114
  by_cases e118 : (s[1].toNat : Int) = 118
  · have HE : Hid (R = (11, 2, 0)) := Lib.hid (by rw [hnum, e118]; decide)
    have h118 : ((s[1].toNat : Int) == 118) = true := by simp [e118]
    have m97 : ((s[1].toNat : Int) == 97) = false := by simp; omega
    have m102 : ((s[1].toNat : Int) == 102) = false := by simp; omega
    have m116 : ((s[1].toNat : Int) == 116) = false := by simp; omega
    have m110 : ((s[1].toNat : Int) == 110) = false := by simp; omega
    have m114 : ((s[1].toNat : Int) == 114) = false := by simp; omega
    clear hnum e118 e97 e102 e116 e110 e114 n97 n102 n116 n110 n114
    go_enter Tryz.func10, Tryz.ntmps10
    go_wp2
    go_ret3
    exact ⟨by rw [HE.out]; rfl, rfl⟩
  have n118 : ((s[1].toNat : Int) == 118) = false := by simpa using e118
  have hpl : R = if Br.signB (s[1].toNat : Int) = true then ((s[1].toNat : Int), 2, 0) else (0, 0, 80) := by
    rw [hnum]
    unfold Br.plain
    rw [if_neg e97, if_neg e116, if_neg e110, if_neg e118, if_neg e102, if_neg e114]
  clear hnum e97 e102 e116 e110 e114 e118
  by_cases a : (s[1].toNat : Int) < 33
  · have HE : Hid (R = (0, 0, 80)) := Lib.hid (by rw [hpl, bSign_no (.inl (by omega)), if_neg (by decide)])
    clear hpl
    go_enter Tryz.func10, Tryz.ntmps10
    go_wp2
    go_ret3
    exact ⟨by rw [HE.out]; rfl, rfl⟩
  by_cases b : 126 < (s[1].toNat : Int)
  · have HE : Hid (R = (0, 0, 80)) := Lib.hid (by rw [hpl, bSign_no (.inl (by omega)), if_neg (by decide)])
    clear hpl
    go_enter Tryz.func10, Tryz.ntmps10
    go_wp2
    go_ret3
    exact ⟨by rw [HE.out]; rfl, rfl⟩
  have HL := Lib.hid (rLetter_any W (s[1].toNat : Int) (by omega) (by omega))
  cases hl : Br.letB (s[1].toNat : Int) with
  | true =>
    have HE : Hid (R = (0, 0, 80)) := Lib.hid (by rw [hpl, bSign_no (.inr (.inl hl)), if_neg (by decide)])
    rw [hl] at HL
    clear hpl hl
    go_enter Tryz.func10, Tryz.ntmps10
    go_wp2_with fail
    refine HL.out.mono ?_
    rintro e w' ⟨rfl, rfl⟩
    go_wp2
    go_ret3
    exact ⟨by rw [HE.out]; rfl, rfl⟩
  | false =>
    rw [hl] at HL
    by_cases d : 48 ≤ (s[1].toNat : Int)
    · by_cases f : (s[1].toNat : Int) ≤ 57
      · have HE : Hid (R = (0, 0, 80)) := Lib.hid (by rw [hpl, bSign_no (.inr (.inr ⟨d, f⟩)), if_neg (by decide)])
        clear hpl hl
        go_enter Tryz.func10, Tryz.ntmps10
        go_wp2_with fail
        refine HL.out.mono ?_
        rintro e w' ⟨rfl, rfl⟩
        go_wp2
        go_ret3
        exact ⟨by rw [HE.out]; rfl, rfl⟩
      · have HE : Hid (R = ((s[1].toNat : Int), 2, 0)) := Lib.hid (by rw [hpl, bSign_yes (by omega) (by omega) hl (by omega), if_pos rfl])
        clear hpl hl
        go_enter Tryz.func10, Tryz.ntmps10
        go_wp2_with fail
        refine HL.out.mono ?_
        rintro e w' ⟨rfl, rfl⟩
        go_wp2
        go_ret3
        exact ⟨by rw [HE.out]; rfl, rfl⟩
    · have HE : Hid (R = ((s[1].toNat : Int), 2, 0)) := Lib.hid (by rw [hpl, bSign_yes (by omega) (by omega) hl (by omega), if_pos rfl])
      clear hpl hl
      go_enter Tryz.func10, Tryz.ntmps10
      go_wp2_with fail
      refine HL.out.mono ?_
      rintro e w' ⟨rfl, rfl⟩
      go_wp2
      go_ret3
      exact ⟨by rw [HE.out]; rfl, rfl⟩
end Go.Proofs.YtcomjkoaieeidaaGreatDoor
namespace Go.Proofs.YtcomjkoaieeidaaGreatDoor
open Go.RowKit
set_option linter.unusedVariables false
set_option maxRecDepth 100000 in
set_option maxHeartbeats 8000000 in
theorem refMake3 (W : World) (va vb : Value) (a b : List (Int × Int)) (ha : RRow W va a) (hb : RRow W vb b) :
    Calls Tryz.prog 59 #[.int .i64 3, va, vb] W (MakePost 3 a b W) := by
  obtain ⟨i0, hi, hz0, hz1, hz2⟩ := info_parts Tryz.infoRange
  have HA := Lib.hid ha
  have HB := Lib.hid hb
  clear ha hb
  go_enter Tryz.func59, Tryz.ntmps59
  go_wp2
  go_loopw [7, 8, 9, 10, 11, 12, 13] (fun V A r1 r2 r3 r4 r5 wr => ∃ (t : Int) (out : List (Int × Int)), 0 ≤ t ∧ t ≤ 1114112 ∧ A = .int .i64 t ∧ (out.length : Int) ≤ t ∧ Hid (Rg.MInv (fun q => Rg.opB 3 (Rg.hasB a q) (Rg.hasB b q)) t out) ∧ RgOwn wr W.heap.size V out ∧ Below W.heap.size W wr) (fun _ A _ _ _ _ _ _ => (1114112 - intOf A).toNat)
  case atStart => exact ⟨0, [], by omega, by omega, rfl, by simp, Lib.hid (Rg.MInv.start _), RgOwn.nil, Below.refl _ _⟩
  case round =>
    obtain ⟨t, out, ht0, ht1, rfl, hlen, HM, hO, hBl⟩ := hrel
    by_cases hlt : t ≤ 1114111
    · have HOwn := Lib.hid hO
      have HAw := Lib.hid (HA.out.below (Nat.le_refl _) hBl)
      have HBw := Lib.hid (HB.out.below (Nat.le_refl _) hBl)
      have hsz := hBl.size
      have he1 := Rg.edgeN_bd a t hlt
      have he2 := Rg.edgeN_bd b t hlt
      have hca := fun q => Rg.has_const a t q ht0
      have hcb := fun q => Rg.has_const b t q ht0
      obtain ⟨E1, hE1⟩ : ∃ E, Rg.edgeN a t = E := ⟨_, rfl⟩
      obtain ⟨E2, hE2⟩ : ∃ E, Rg.edgeN b t = E := ⟨_, rfl⟩
      obtain ⟨X, hX⟩ : ∃ X, Rg.hasB a t = X := ⟨_, rfl⟩
      obtain ⟨Y, hY⟩ : ∃ Y, Rg.hasB b t = Y := ⟨_, rfl⟩
      rw [hE1, hX] at hca
      rw [hE2, hY] at hcb
      rw [hE1] at he1
      rw [hE2] at he2
      have HC : Hid (∀ q, t ≤ q → q < E1 → q < E2 → (fun q => Rg.opB 3 (Rg.hasB a q) (Rg.hasB b q)) q = Rg.opB 3 X Y) := Lib.hid (fun q h1 h2 h3 => by show Rg.opB 3 (Rg.hasB a q) (Rg.hasB b q) = _; rw [hca q h1 h2 (by omega), hcb q h1 h3 (by omega)])
      have HF : Hid ((fun q => Rg.opB 3 (Rg.hasB a q) (Rg.hasB b q)) t = Rg.opB 3 X Y) := Lib.hid (HC.out t (Int.le_refl _) (by omega) (by omega))
      have HE1 := Lib.hid hE1
      have HE2 := Lib.hid hE2
      have HX := Lib.hid hX
      have HY := Lib.hid hY
      have HBl := Lib.hid hBl
      clear hO hca hcb hE1 hE2 hX hY hBl
      obtain ⟨N, hN1, hN2, hN3, hNE⟩ : ∃ N, N ≤ E1 ∧ N ≤ E2 ∧ t < N ∧ ((E2 < E1 ∧ N = E2) ∨ (¬ E2 < E1 ∧ N = E1)) := by
        by_cases h : E2 < E1
        · exact ⟨E2, by omega, by omega, by omega, .inl ⟨h, rfl⟩⟩
        · exact ⟨E1, by omega, by omega, by omega, .inr ⟨h, rfl⟩⟩
      rcases hNE with ⟨hEE, rfl⟩ | ⟨hEE, rfl⟩
      all_goals
        go_wp2_with fail
        refine (refEdge_at HAw.out ht0 hlt HE1.out).mono ?_
        rintro e w' ⟨rfl, rfl⟩
        go_wp2_with fail
        refine (refEdge_at HBw.out ht0 hlt HE2.out).mono ?_
        rintro e w' ⟨rfl, rfl⟩
        go_wp2_with fail
        refine (refHas_at HAw.out HX.out).mono ?_
        rintro e w' ⟨rfl, rfl⟩
        go_wp2_with fail
        refine (refHas_at HBw.out HY.out).mono ?_
        rintro e w' ⟨rfl, rfl⟩
        cases X <;> cases Y
        all_goals
          first
          | (have hf := HF.out.trans (show _ = false by decide)
             have HM' := Lib.hid (HM.out.skip hN3 (fun q h1 h2 => (HC.out q h1 (by omega) (by omega)).trans HF.out.symm) hf)
             clear hf
             go_wp2
             go_roundw
             case rel => exact ⟨_, out, by omega, by omega, rfl, by omega, HM', HOwn.out, HBl.out⟩
             case measure => simp [intOf]; omega)
          | (have hf := HF.out.trans (show _ = true by decide)
             have HK := Lib.hid (fun q (h1 : t ≤ q) (h2 : q < N) => (HC.out q h1 (by omega) (by omega)).trans HF.out.symm)
             have HT := Lib.hid hf
             clear hf
             rcases nil_or_snoc out with rfl | ⟨ini, p, rfl⟩
             · obtain ⟨a', cap', rfl⟩ := HOwn.out.empty
               have HM' := Lib.hid (HM.out.add ht0 hN3 (by omega) HK.out HT.out (fun p hp => by cases hp))
               have hown := HOwn.out
               unfold RgOwn at hown
               go_wp2_with (at_builtin; (refine wpList_append_lies _ (by rfl) _ _ 26 (by rfl) W.heap.size 36 i0 (.agg #[.int .i64 0, .int .i64 0]) 2 16 Tryz.underlying26 hi hz0 hz1 hz2 rfl (by decide) _ 0 [] (by rfl) (hown.alloc _) ⟨wr.heap.size, 0, none⟩ 1 1 [.int .i64 t, .int .i64 (N - 1)] (by rfl) rfl (World.news_of_block (cs := #[.int .i64 t, .int .i64 (N - 1)]) (heap_alloc_new wr _)) (by simp [Value.oneCell']) (by omega) (by unfold maxLen; omega) (by omega) (by simp; omega) (wr.heap.size + 1) (by simp) ?_))
               intro g1 cap1 w1 hown' hgrow _ _
               have hO2 : RgOwn w1 W.heap.size (.slice (some ⟨g1, 0, none⟩) (0 + 1) cap1) ([] ++ [(t, N - 1)]) := by unfold RgOwn; rw [List.length_append, flat2_snoc]; exact hown'
               have hB2 := (HBl.out.alloc hsz _).grown hgrow (by simp; omega) (fun q hq => (hown.lt q hq).1)
               have HO2 := Lib.hid hO2
               clear hO2 hown' hgrow hown
               go_wp2
               go_roundw
               case rel => exact ⟨_, _, by omega, by omega, rfl, by simp; omega, HM', HO2.out, hB2⟩
               case measure => simp [intOf]; omega
             · obtain ⟨g, cap', rfl, hgb, hgs⟩ := HOwn.out.form
               have hnn := Rg.norm_unsnoc ini 0 p HM.out.norm
               obtain ⟨_, _, hp1, hp2, hp3⟩ := hnn
               have hcell := HOwn.out.hi
               obtain ⟨hc1, hc2⟩ := hcell
               obtain ⟨m, hm⟩ : ∃ m, ini.length = m := ⟨_, rfl⟩
               have hlen' : (m : Int) + 1 ≤ t := by rw [List.length_append] at hlen; simp at hlen; omega
               rw [hm] at hc1 hc2
               have HMM := Lib.hid hm
               by_cases hpt : p.2 + 1 = t
               · have HM' := Lib.hid (HM.out.join ht0 hN3 (by omega) HK.out HT.out hpt)
                 have hO2 := HOwn.out.setHi (N - 1)
                 rw [hm] at hO2
                 have HO2 := Lib.hid hO2
                 have hbq : (p.2 + 1 == t) = true := by rw [hpt]; simp
                 have HPT := Lib.hid hpt
                 clear hO2 hpt hlen
                 rw [hm]
                 clear hm
                 go_wp2
                 go_roundw
                 case rel => exact ⟨_, _, by omega, by omega, rfl, by rw [List.length_append, HMM.out]; simp; omega, HM', HO2.out, HBl.out.setCell (p := ⟨g, m * 2 + 1, none⟩) hgb _⟩
                 case measure => simp [intOf]; omega
               · have HM' := Lib.hid (HM.out.add ht0 hN3 (by omega) HK.out HT.out (HM.out.last hpt))
                 have hbq : (p.2 + 1 == t) = false := by rw [beq_eq_false_iff_ne]; exact hpt
                 have hown := HOwn.out
                 unfold RgOwn at hown
                 rw [List.length_append, hm] at hown
                 clear hpt hlen
                 rw [hm]
                 clear hm
                 go_wp2_with (at_builtin; (refine wpList_append_lies _ (by rfl) _ _ 26 (by rfl) W.heap.size 36 i0 (.agg #[.int .i64 0, .int .i64 0]) 2 16 Tryz.underlying26 hi hz0 hz1 hz2 rfl (by decide) _ (m + 1) (flat2 (ini ++ [p])) (by rfl) (hown.alloc _) ⟨wr.heap.size, 0, none⟩ 1 1 [.int .i64 t, .int .i64 (N - 1)] (by rfl) rfl (World.news_of_block (cs := #[.int .i64 t, .int .i64 (N - 1)]) (heap_alloc_new wr _)) (by simp [Value.oneCell']) (by omega) (by unfold maxLen; omega) (by omega) (by simp; omega) (wr.heap.size + 1) (by simp) ?_))
                 intro g1 cap1 w1 hown' hgrow _ _
                 have hO2 : RgOwn w1 W.heap.size (.slice (some ⟨g1, 0, none⟩) (m + 1 + 1) cap1) ((ini ++ [p]) ++ [(t, N - 1)]) := by unfold RgOwn; rw [List.length_append, List.length_append, flat2_snoc, HMM.out]; simpa [flat2] using hown'
                 have hB2 := (HBl.out.alloc hsz _).grown hgrow (by simp; omega) (fun q hq => (hown.lt q hq).1)
                 have HO2 := Lib.hid hO2
                 clear hO2 hown' hgrow hown
                 go_wp2
                 go_roundw
                 case rel => exact ⟨_, _, by omega, by omega, rfl, by rw [List.length_append, List.length_append, HMM.out]; simp; omega, HM', HO2.out, hB2⟩
                 case measure => simp [intOf]; omega)
    · have HMd := Lib.hid (Rg.made_of HM.out (by omega))
      have HOwn := Lib.hid hO
      clear hO
      go_wp2
      go_ret
      exact ⟨_, out, rfl, HMd.out, HOwn.out, hBl⟩
end Go.Proofs.YtcomjkoaieeidaaGreatDoor
namespace Go.Proofs.YtcomjkoaieeidaaGreatDoor
open Go.RowKit
set_option linter.unusedVariables false
set_option maxRecDepth 100000 in
set_option maxHeartbeats 2000000 in
theorem refAll (W : World) :
    Calls Tryz.prog 60 #[] W fun e w' => ∃ v, e = .returned v ∧ RgOwn w' W.heap.size v [(0, 1114111)] ∧ Below W.heap.size W w' := by
  go_enter Tryz.func60, Tryz.ntmps60
  go_wp2
  go_ret
  refine ⟨_, rfl, ⟨rfl, Or.inr ⟨W.heap.size, 1, _, rfl, Nat.le_refl _, World.alloc_heap_new _ _, by decide, by decide, rfl, rfl⟩⟩, (Below.refl _ _).alloc (Nat.le_refl _) _⟩
set_option maxRecDepth 100000 in
set_option maxHeartbeats 2000000 in
theorem refNot (W : World) (va : Value) (a : List (Int × Int)) (ha : RRow W va a) :
    Calls Tryz.prog 33 #[va] W (MakePost 3 [(0, 1114111)] a W) := by
  have HA := Lib.hid ha
  clear ha
  go_enter Tryz.func33, Tryz.ntmps33
  go_wp2_with fail
  refine (refAll _).mono ?_
  rintro e wa ⟨va', rfl, hoa, hba⟩
  have HRA := Lib.hid (hoa.row (by decide) (by intro p hp; simp at hp; subst hp; decide))
  have HA' := Lib.hid (HA.out.below (Nat.le_refl _) hba)
  have HB := Lib.hid hba
  clear hoa hba HA
  go_wp2_with fail
  refine (refMake3 _ _ _ [(0, 1114111)] a HRA.out HA'.out).mono ?_
  rintro e wb ⟨v, out, rfl, hm, ho, hb⟩
  go_wp2
  go_ret
  exact ⟨v, out, rfl, hm, ⟨ho.1, ho.2.imp id (fun ⟨g, cap, cur, h1, h2, h3⟩ => ⟨g, cap, cur, h1, Nat.le_trans HB.out.size h2, h3⟩)⟩, HB.out.trans (hb.mono HB.out.size)⟩
end Go.Proofs.YtcomjkoaieeidaaGreatDoor
namespace Go.Proofs.YtcomjkoaieeidaaGreatDoor
open Go.RowKit
set_option linter.unusedVariables false
/-- A block of written numbers reads as their list. -/
theorem irow_lits (W : World) (T : List Int) (n : Nat) (cs : Array Value) (t : TypeId) (hT : T.length = n) (hc : cs = (T.map (Value.int .i64)).toArray) (hn : n ≤ 1000) : IRow (W.alloc (.cells cs t)) (.slice (some ⟨W.heap.size, 0, none⟩) n n) T := by
  subst hc; subst hT
  refine ⟨_, T.length, rfl, Nat.le_refl _, by omega, fun j hj => ⟨W.heap.size, rfl, by simp, ?_⟩⟩
  simp [hj]
set_option maxRecDepth 100000 in
set_option maxHeartbeats 4000000 in
theorem list_any (W : World) (v : Value) (T : List Int) (h : IRow W v T) (hT : ∀ t ∈ T, 0 ≤ t ∧ t ≤ 1114112) (hl : T.length ≤ 1000) :
    Calls Tryz.prog 55 #[v] W fun e w' => ∃ v' out, e = .returned v' ∧ Rg.Made 1 (Cl.pairsOf T) [] out ∧ RgOwn w' W.heap.size v' out ∧ Below W.heap.size W w' := by
  have mixed : Tryz.prog.follows .mixedOrders = true := by kernel_rfl
  obtain ⟨i0, hi, hz0, hz1, hz2⟩ := info_parts Tryz.infoRange
  obtain ⟨a, cap, rfl, hnc, hcm, hc⟩ := h
  have HC := Lib.hid hc
  have HTT := Lib.hid hT
  obtain ⟨n, hn⟩ : ∃ n, T.length = n := ⟨_, rfl⟩
  have HN := Lib.hid hn
  rw [hn] at hl HC hnc ⊢
  obtain ⟨h2, hh⟩ : ∃ h2, n = h2 * 2 ∨ n = h2 * 2 + 1 := ⟨n / 2, by omega⟩
  clear hc hn hT
  go_enter Tryz.func55, Tryz.ntmps55
  go_wp2
  go_loopw [3, 4] (fun V i wr => ∃ k : Nat, k ≤ h2 ∧ i = .int .i64 ((k * 2 : Nat) : Int) ∧ Hid (RgOwn wr W.heap.size V (Cl.pairsOf (T.take (k * 2)))) ∧ Hid (Below W.heap.size W wr)) (fun _ i _ => n + 2 - (intOf i).toNat)
  case atStart => exact ⟨0, Nat.zero_le _, rfl, Lib.hid RgOwn.nil, Lib.hid (Below.refl _ _)⟩
  case round =>
    obtain ⟨k, hk, rfl, HO, HB⟩ := hrel
    by_cases hlt : k < h2
    · obtain ⟨g, rfl, hg, hc1⟩ := HC.out (k * 2) (by omega)
      obtain ⟨g', hgg, _, hc2⟩ := HC.out (k * 2 + 1) (by omega)
      injection hgg with hgg; injection hgg with hgg; subst hgg
      rw [← HB.out.cell (p := ⟨g, k * 2, none⟩) hg] at hc1
      rw [← HB.out.cell (p := ⟨g, k * 2 + 1, none⟩) hg] at hc2
      have hsz := HB.out.size
      have hts := Cl.pairsOf_take T k (by rw [HN.out]; omega)
      have hml : (Cl.pairsOf (T.take (k * 2))).length = k := by
        rw [Cl.pairsOf_len, List.length_take, HN.out]; omega
      obtain ⟨x, ex⟩ : ∃ x, T[k * 2]?.getD 0 = x := ⟨_, rfl⟩
      obtain ⟨y, ey⟩ : ∃ y, T[k * 2 + 1]?.getD 0 = y := ⟨_, rfl⟩
      rw [ex] at hc1 hts
      rw [ey] at hc2 hts
      have HT := Lib.hid hts
      have hown := HO.out
      unfold RgOwn at hown
      rw [hml] at hown
      have HML := Lib.hid hml
      have hgs : g < wr.heap.size := by omega
      clear ex ey hts hml
      have b1 : (0 : Int) ≤ (k : Int) * 2 := by omega
      have b2 : (k : Int) * 2 < (n : Int) := by omega
      have b3 : (0 : Int) ≤ (k : Int) * 2 + 1 := by omega
      have b4 : (k : Int) * 2 + 1 < (n : Int) := by omega
      have b5 : k * 2 < n := by omega
      have b6 : k * 2 + 1 < n := by omega
      have hag : u3.ownBlock ≠ some g := fun e => by have := (hown.lt g e).1; omega
      have HAG := Lib.hid hag
      clear hag hh
      go_wp2
      have w1 : IntKind.i64.wrap ((k : Int) * 2 + 1) = (k : Int) * 2 + 1 := IntWalk.i64_in _ (by omega)
      have w3 : ((k : Int) * 2).toNat = k * 2 := by omega
      have w4 : ((k : Int) * 2 + 1).toNat = k * 2 + 1 := by omega
      go_region_held3 (fun w' => w'.cell? ⟨g, k * 2, none⟩ = some (.int .i64 x) ∧ w'.cell? ⟨g, k * 2 + 1, none⟩ = some (.int .i64 y))
        (first
          | go_keep
          | (go_split_ands
             refine ⟨?_, ?_⟩
             · (rw [hgrow.cell_far _ (by simp; omega) (Ne.symm HAG.out)]; assumption)
             · (rw [hgrow.cell_far _ (by simp; omega) (Ne.symm HAG.out)]; assumption)))
        ((refine step_append_lies _ (by rfl) _ _ 26 (by rfl) W.heap.size 36 i0 (.agg #[.int .i64 0, .int .i64 0]) 2 16 Tryz.underlying26 hi hz0 hz1 hz2 rfl (by omega) _ k (flat2 (Cl.pairsOf (T.take (k * 2)))) (by rfl) ((hown.alloc _).drew)
            ⟨wr.heap.size, 0, none⟩ 1 1 [.int .i64 x, .int .i64 y] (by rfl) (by rfl) (World.news_of_block (cs := #[.int .i64 x, .int .i64 y]) (t := 36) (fr := (0, 0)) (heap_alloc_new wr _)) (by simp [Value.oneCell'])
            (by omega) (by unfold maxLen; omega) (by omega) (by simp; omega) (wr.heap.size + 1) (by simp) ?_; intro gg cap1 wz hown1 hgrow hat hlt1))
      have hO2 : RgOwn wz W.heap.size (.slice (some ⟨gg, 0, none⟩) (k + 1) cap1) (Cl.pairsOf (T.take (k * 2 + 2))) := by
        rw [HT.out]; unfold RgOwn; rw [List.length_append, flat2_snoc, HML.out]; exact hown1
      have hB2 := (below_drewN (HB.out.alloc hsz _) 1).grown hgrow (by simp; omega) (fun q hq => (hown.lt q hq).1)
      have HO2 := Lib.hid hO2
      have HB2 := Lib.hid hB2
      clear hO2 hown1 hgrow hown hB2 hat hlt1 w1 w3 w4
      go_wp2
      go_roundw
      case rel => exact ⟨k + 1, by omega, by go_num, by rw [show (k + 1) * 2 = k * 2 + 2 by omega]; exact HO2, HB2⟩
      case measure => simp [intOf]; omega
    · obtain rfl : k = h2 := by omega
      have hO := HO.out
      rw [Cl.pairsOf_all T k (by rw [HN.out]; exact hh)] at hO
      have hpl := Cl.pairsOf_len T
      rw [HN.out] at hpl
      have HR := Lib.hid (hO.row (by omega) (fun p hp => by
        have hm := Cl.pairsOf_mem T p hp
        have h1 := HTT.out _ hm.1
        have h2 := HTT.out _ hm.2
        omega))
      have c1 : ¬ (k : Int) * 2 + 1 < (n : Int) := by omega
      have c2 : k ≤ 500 := by omega
      clear hO hh
      go_wp2_with fail
      refine (refNorm _ _ _ HR.out).mono ?_
      rintro e w5 ⟨v5, out, rfl, hm5, ho5, hb5⟩
      have HM5 := Lib.hid hm5
      have HO5 := Lib.hid (ho5.lower HB.out.size)
      have HE5 := Lib.hid (HB.out.trans (hb5.mono HB.out.size))
      clear hm5 ho5 hb5
      go_wp2
      go_ret
      exact ⟨v5, out, rfl, HM5.out, HO5.out, HE5.out⟩
end Go.Proofs.YtcomjkoaieeidaaGreatDoor
namespace Go.Proofs.YtcomjkoaieeidaaGreatDoor
open Go.RowKit
set_option linter.unusedVariables false
theorem own_lits (W : World) (T : List Int) (n : Nat) (cs : Array Value) (hT : T.length = n) (hc : cs = (T.map (Value.int .i64)).toArray) (hn : n ≤ 1000) : IOwn (W.alloc (.cells cs 3)) W.heap.size (.slice (some ⟨W.heap.size, 0, none⟩) n n) T := by
  subst hc; subst hT
  exact ⟨by simp [flat1], .inr ⟨W.heap.size, T.length, (T.map (Value.int .i64)).toArray, rfl, Nat.le_refl _, heap_alloc_new _ _, Nat.le_refl _, by unfold maxLen; omega, by simp, by rw [Nat.mul_one]; exact List.take_of_length_le (by simp)⟩⟩
/-- A table of numbers, handed back. -/
def TabPost (T : List Int) (W : World) (e : Ending) (w' : World) : Prop := ∃ v, e = .returned v ∧ IOwn w' W.heap.size v T ∧ Below W.heap.size W w'
set_option maxRecDepth 100000 in
set_option maxHeartbeats 2000000 in
theorem word_any (W : World) : Calls Tryz.prog 56 #[] W (TabPost Cl.word W) := by
  go_enter Tryz.func56, Tryz.ntmps56
  go_wp2
  go_ret
  exact ⟨_, rfl, own_lits W Cl.word 8 _ rfl rfl (by decide), (Below.refl _ _).alloc (Nat.le_refl _) _⟩
set_option maxRecDepth 100000 in
set_option maxHeartbeats 2000000 in
theorem latin_any (W : World) : Calls Tryz.prog 90 #[] W (TabPost Cl.latin W) := by
  go_enter Tryz.func90, Tryz.ntmps90
  go_wp2
  go_ret
  exact ⟨_, rfl, own_lits W Cl.latin 14 _ rfl rfl (by decide), (Below.refl _ _).alloc (Nat.le_refl _) _⟩
set_option maxRecDepth 100000 in
set_option maxHeartbeats 2000000 in
theorem greek_any (W : World) : Calls Tryz.prog 87 #[] W (TabPost Cl.greek W) := by
  go_enter Tryz.func87, Tryz.ntmps87
  go_wp2
  go_ret
  exact ⟨_, rfl, own_lits W Cl.greek 24 _ rfl rfl (by decide), (Below.refl _ _).alloc (Nat.le_refl _) _⟩
set_option maxRecDepth 100000 in
set_option maxHeartbeats 2000000 in
theorem cyrillic_any (W : World) : Calls Tryz.prog 86 #[] W (TabPost Cl.cyrillic W) := by
  go_enter Tryz.func86, Tryz.ntmps86
  go_wp2
  go_ret
  exact ⟨_, rfl, own_lits W Cl.cyrillic 4 _ rfl rfl (by decide), (Below.refl _ _).alloc (Nat.le_refl _) _⟩
set_option maxRecDepth 100000 in
set_option maxHeartbeats 2000000 in
theorem capitals_any (W : World) : Calls Tryz.prog 88 #[] W (TabPost Cl.capitals W) := by
  go_enter Tryz.func88, Tryz.ntmps88
  go_wp2
  go_ret
  exact ⟨_, rfl, own_lits W Cl.capitals 14 _ rfl rfl (by decide), (Below.refl _ _).alloc (Nat.le_refl _) _⟩
set_option maxRecDepth 100000 in
set_option maxHeartbeats 2000000 in
theorem small_any (W : World) : Calls Tryz.prog 89 #[] W (TabPost Cl.small W) := by
  go_enter Tryz.func89, Tryz.ntmps89
  go_wp2
  go_ret
  exact ⟨_, rfl, own_lits W Cl.small 14 _ rfl rfl (by decide), (Below.refl _ _).alloc (Nat.le_refl _) _⟩
end Go.Proofs.YtcomjkoaieeidaaGreatDoor
namespace Go.Proofs.YtcomjkoaieeidaaGreatDoor
open Go.RowKit
set_option linter.unusedVariables false
theorem irow_nil (W : World) : IRow W (.slice none 0 0) [] := ⟨none, 0, rfl, Nat.le_refl _, by decide, fun j h => absurd h (Nat.not_lt_zero _)⟩
/-- What a table has of a name, handed back. -/
def LookPost (T : List (List UInt8 × List Int)) (s : List UInt8) (W : World) (e : Ending) (w' : World) : Prop :=
  ∃ v o, Cl.look T s = o ∧ e = .returned (.tuple #[v, .bool o.isSome]) ∧ IRow w' v (o.getD []) ∧ Below W.heap.size W w'
set_option maxRecDepth 100000 in
set_option maxHeartbeats 2000000 in
theorem colon_any (W : World) (s : ByteArray) : Calls Tryz.prog 95 #[.string s] W (LookPost Cl.colonT s.toList W) := by
  go_enter Tryz.func95, Tryz.ntmps95
  go_wp2_with (go_at_call 56; refine (word_any _).mono ?_; rintro e w1 ⟨v, rfl, ho, hb⟩)
  · go_ret2
    exact ⟨_, some [48, 57, 65, 90, 97, 122], (by unfold Cl.colonT; repeat (first | exact Cl.look_hit (by assumption) | refine Eq.trans (Cl.look_miss (by assumption)) ?_ | rfl)), rfl, (own_lits W [48, 57, 65, 90, 97, 122] 6 _ rfl rfl (by decide)).row, (Below.refl _ _).alloc (Nat.le_refl _) _⟩
  · go_ret2
    exact ⟨_, some [65, 90, 97, 122], (by unfold Cl.colonT; repeat (first | exact Cl.look_hit (by assumption) | refine Eq.trans (Cl.look_miss (by assumption)) ?_ | rfl)), rfl, (own_lits W [65, 90, 97, 122] 4 _ rfl rfl (by decide)).row, (Below.refl _ _).alloc (Nat.le_refl _) _⟩
  · go_ret2
    exact ⟨_, some [0, 127], (by unfold Cl.colonT; repeat (first | exact Cl.look_hit (by assumption) | refine Eq.trans (Cl.look_miss (by assumption)) ?_ | rfl)), rfl, (own_lits W [0, 127] 2 _ rfl rfl (by decide)).row, (Below.refl _ _).alloc (Nat.le_refl _) _⟩
  · go_ret2
    exact ⟨_, some [9, 9, 32, 32], (by unfold Cl.colonT; repeat (first | exact Cl.look_hit (by assumption) | refine Eq.trans (Cl.look_miss (by assumption)) ?_ | rfl)), rfl, (own_lits W [9, 9, 32, 32] 4 _ rfl rfl (by decide)).row, (Below.refl _ _).alloc (Nat.le_refl _) _⟩
  · go_ret2
    exact ⟨_, some [0, 31, 127, 127], (by unfold Cl.colonT; repeat (first | exact Cl.look_hit (by assumption) | refine Eq.trans (Cl.look_miss (by assumption)) ?_ | rfl)), rfl, (own_lits W [0, 31, 127, 127] 4 _ rfl rfl (by decide)).row, (Below.refl _ _).alloc (Nat.le_refl _) _⟩
  · go_ret2
    exact ⟨_, some [48, 57], (by unfold Cl.colonT; repeat (first | exact Cl.look_hit (by assumption) | refine Eq.trans (Cl.look_miss (by assumption)) ?_ | rfl)), rfl, (own_lits W [48, 57] 2 _ rfl rfl (by decide)).row, (Below.refl _ _).alloc (Nat.le_refl _) _⟩
  · go_ret2
    exact ⟨_, some [33, 126], (by unfold Cl.colonT; repeat (first | exact Cl.look_hit (by assumption) | refine Eq.trans (Cl.look_miss (by assumption)) ?_ | rfl)), rfl, (own_lits W [33, 126] 2 _ rfl rfl (by decide)).row, (Below.refl _ _).alloc (Nat.le_refl _) _⟩
  · go_ret2
    exact ⟨_, some [97, 122], (by unfold Cl.colonT; repeat (first | exact Cl.look_hit (by assumption) | refine Eq.trans (Cl.look_miss (by assumption)) ?_ | rfl)), rfl, (own_lits W [97, 122] 2 _ rfl rfl (by decide)).row, (Below.refl _ _).alloc (Nat.le_refl _) _⟩
  · go_ret2
    exact ⟨_, some [32, 126], (by unfold Cl.colonT; repeat (first | exact Cl.look_hit (by assumption) | refine Eq.trans (Cl.look_miss (by assumption)) ?_ | rfl)), rfl, (own_lits W [32, 126] 2 _ rfl rfl (by decide)).row, (Below.refl _ _).alloc (Nat.le_refl _) _⟩
  · go_ret2
    exact ⟨_, some [33, 47, 58, 64, 91, 96, 123, 126], (by unfold Cl.colonT; repeat (first | exact Cl.look_hit (by assumption) | refine Eq.trans (Cl.look_miss (by assumption)) ?_ | rfl)), rfl, (own_lits W [33, 47, 58, 64, 91, 96, 123, 126] 8 _ rfl rfl (by decide)).row, (Below.refl _ _).alloc (Nat.le_refl _) _⟩
  · go_ret2
    exact ⟨_, some [9, 13, 32, 32], (by unfold Cl.colonT; repeat (first | exact Cl.look_hit (by assumption) | refine Eq.trans (Cl.look_miss (by assumption)) ?_ | rfl)), rfl, (own_lits W [9, 13, 32, 32] 4 _ rfl rfl (by decide)).row, (Below.refl _ _).alloc (Nat.le_refl _) _⟩
  · go_ret2
    exact ⟨_, some [65, 90], (by unfold Cl.colonT; repeat (first | exact Cl.look_hit (by assumption) | refine Eq.trans (Cl.look_miss (by assumption)) ?_ | rfl)), rfl, (own_lits W [65, 90] 2 _ rfl rfl (by decide)).row, (Below.refl _ _).alloc (Nat.le_refl _) _⟩
  · go_ret2
    exact ⟨_, some Cl.word, (by unfold Cl.colonT; repeat (first | exact Cl.look_hit (by assumption) | refine Eq.trans (Cl.look_miss (by assumption)) ?_ | rfl)), rfl, ho.row, hb⟩
  · go_ret2
    exact ⟨_, some [48, 57, 65, 70, 97, 102], (by unfold Cl.colonT; repeat (first | exact Cl.look_hit (by assumption) | refine Eq.trans (Cl.look_miss (by assumption)) ?_ | rfl)), rfl, (own_lits W [48, 57, 65, 70, 97, 102] 6 _ rfl rfl (by decide)).row, (Below.refl _ _).alloc (Nat.le_refl _) _⟩
  · go_ret2
    exact ⟨_, none, (by unfold Cl.colonT; repeat (first | exact Cl.look_hit (by assumption) | refine Eq.trans (Cl.look_miss (by assumption)) ?_ | rfl)), rfl, irow_nil _, Below.refl _ _⟩
end Go.Proofs.YtcomjkoaieeidaaGreatDoor
namespace Go.Proofs.YtcomjkoaieeidaaGreatDoor
open Go.RowKit
set_option linter.unusedVariables false
theorem row_news {W : World} {v : Value} {T : List Int} {m : Nat} (h : IRow W v T) (hm : T.length = m) (hp : 0 < m) :
    ∃ b c, v = .slice (some ⟨b, 0, none⟩) m c ∧ ∀ j u, (flat1 T)[j]? = some u → W.cell? ((⟨b, 0, none⟩ : Addr).add j) = some u := by
  subst hm
  obtain ⟨a, cap, rfl, h1, h2, hc⟩ := h
  obtain ⟨b, rfl, _, _⟩ := hc 0 hp
  refine ⟨b, cap, rfl, fun j u hu => ?_⟩
  have hadd : (⟨b, 0, none⟩ : Addr).add j = ⟨b, j, none⟩ := by unfold Addr.add; split <;> simp_all
  rw [hadd]
  simp only [flat1, List.getElem?_map] at hu
  cases e : T[j]? with
  | none => rw [e] at hu; cases hu
  | some x =>
    rw [e] at hu
    have hlt := (List.getElem?_eq_some_iff.1 e).1
    obtain ⟨b', eb, _, h3⟩ := hc j hlt
    injection eb with eb; injection eb with eb; subst eb
    rw [h3, e]
    simpa using hu
theorem flat1_cells (l : List Int) : ∀ u ∈ flat1 l, u.oneCell' = true := by
  intro u hu
  obtain ⟨x, _, rfl⟩ := List.mem_map.1 hu
  rfl
set_option maxRecDepth 100000 in
set_option maxHeartbeats 4000000 in
theorem prop_l (W : World) (s : ByteArray) (hs : s.toList = [76]) : Calls Tryz.prog 58 #[.string s] W (LookPost Cl.propT s.toList W) := by
  obtain ⟨i0, hi0, hz0, hz1, hz2⟩ := info_parts Tryz.infoInt
  have HL : Hid (Cl.look Cl.propT s.toList = some (Cl.capitals ++ Cl.small ++ Cl.latin ++ Cl.greek ++ Cl.cyrillic)) := Lib.hid (by rw [hs]; rfl)
  have t1 : (s.toList == [65, 110, 121]) = false := by rw [hs]; decide
  have t2 : (s.toList == [67, 121, 114, 105, 108, 108, 105, 99]) = false := by rw [hs]; decide
  have t3 : (s.toList == [71, 114, 101, 101, 107]) = false := by rw [hs]; decide
  have t4 : (s.toList == [76]) = true := by rw [hs]; decide
  clear hs
  go_enter Tryz.func58, Tryz.ntmps58
  go_wp2_with fail
  refine (capitals_any _).mono ?_
  rintro e w1 ⟨v1, rfl, ho, hb⟩
  have O1 := Lib.hid ho
  have D1 := Lib.hid hb
  clear ho hb
  go_wp2_with fail
  refine (small_any _).mono ?_
  rintro e x1 ⟨vt, rfl, ho, hb⟩
  have hown : World.ownsRow x1 W.heap.size 3 1 v1 14 (flat1 (Cl.capitals)) := O1.out.below hb
  have hd := D1.out.trans (hb.mono D1.out.size)
  have hsz := hd.size
  obtain ⟨b, c, rfl, hnews⟩ := row_news ho.row (show Cl.small.length = 14 from rfl) (by decide)
  clear ho hb O1 D1
  go_wp2_with (at_builtin; (refine wpList_append_own _ (by rfl) _ _ 58 (by rfl) W.heap.size 3 i0 (.int .i64 0) 1 8 Tryz.underlying58 hi0 hz0 hz1 hz2 rfl (by decide) _ 14 (flat1 (Cl.capitals)) (by rfl) hown ⟨b, 0, none⟩ 14 c (flat1 Cl.small) (by rfl) (by rfl) hnews (flat1_cells _) (by unfold maxLen; omega) (by omega) hsz ?_))
  intro v2 w2 hown1 hgrow _
  have O2 : Hid (IOwn w2 W.heap.size v2 (Cl.capitals ++ Cl.small)) := Lib.hid (by unfold IOwn; rw [show flat1 (Cl.capitals ++ Cl.small) = flat1 (Cl.capitals) ++ flat1 Cl.small from List.map_append]; exact hown1)
  have D2 := Lib.hid (hd.grown hgrow hsz (fun q hq => (hown.lt q hq).1))
  clear hown hd hsz hnews hown1 hgrow
  go_wp2_with fail
  refine (latin_any _).mono ?_
  rintro e x2 ⟨vt, rfl, ho, hb⟩
  have hown : World.ownsRow x2 W.heap.size 3 1 v2 28 (flat1 (Cl.capitals ++ Cl.small)) := O2.out.below hb
  have hd := D2.out.trans (hb.mono D2.out.size)
  have hsz := hd.size
  obtain ⟨b, c, rfl, hnews⟩ := row_news ho.row (show Cl.latin.length = 14 from rfl) (by decide)
  clear ho hb O2 D2
  go_wp2_with (at_builtin; (refine wpList_append_own _ (by rfl) _ _ 58 (by rfl) W.heap.size 3 i0 (.int .i64 0) 1 8 Tryz.underlying58 hi0 hz0 hz1 hz2 rfl (by decide) _ 28 (flat1 (Cl.capitals ++ Cl.small)) (by rfl) hown ⟨b, 0, none⟩ 14 c (flat1 Cl.latin) (by rfl) (by rfl) hnews (flat1_cells _) (by unfold maxLen; omega) (by omega) hsz ?_))
  intro v3 w3 hown1 hgrow _
  have O3 : Hid (IOwn w3 W.heap.size v3 (Cl.capitals ++ Cl.small ++ Cl.latin)) := Lib.hid (by unfold IOwn; rw [show flat1 (Cl.capitals ++ Cl.small ++ Cl.latin) = flat1 (Cl.capitals ++ Cl.small) ++ flat1 Cl.latin from List.map_append]; exact hown1)
  have D3 := Lib.hid (hd.grown hgrow hsz (fun q hq => (hown.lt q hq).1))
  clear hown hd hsz hnews hown1 hgrow
  go_wp2_with fail
  refine (greek_any _).mono ?_
  rintro e x3 ⟨vt, rfl, ho, hb⟩
  have hown : World.ownsRow x3 W.heap.size 3 1 v3 42 (flat1 (Cl.capitals ++ Cl.small ++ Cl.latin)) := O3.out.below hb
  have hd := D3.out.trans (hb.mono D3.out.size)
  have hsz := hd.size
  obtain ⟨b, c, rfl, hnews⟩ := row_news ho.row (show Cl.greek.length = 24 from rfl) (by decide)
  clear ho hb O3 D3
  go_wp2_with (at_builtin; (refine wpList_append_own _ (by rfl) _ _ 58 (by rfl) W.heap.size 3 i0 (.int .i64 0) 1 8 Tryz.underlying58 hi0 hz0 hz1 hz2 rfl (by decide) _ 42 (flat1 (Cl.capitals ++ Cl.small ++ Cl.latin)) (by rfl) hown ⟨b, 0, none⟩ 24 c (flat1 Cl.greek) (by rfl) (by rfl) hnews (flat1_cells _) (by unfold maxLen; omega) (by omega) hsz ?_))
  intro v4 w4 hown1 hgrow _
  have O4 : Hid (IOwn w4 W.heap.size v4 (Cl.capitals ++ Cl.small ++ Cl.latin ++ Cl.greek)) := Lib.hid (by unfold IOwn; rw [show flat1 (Cl.capitals ++ Cl.small ++ Cl.latin ++ Cl.greek) = flat1 (Cl.capitals ++ Cl.small ++ Cl.latin) ++ flat1 Cl.greek from List.map_append]; exact hown1)
  have D4 := Lib.hid (hd.grown hgrow hsz (fun q hq => (hown.lt q hq).1))
  clear hown hd hsz hnews hown1 hgrow
  go_wp2_with fail
  refine (cyrillic_any _).mono ?_
  rintro e x4 ⟨vt, rfl, ho, hb⟩
  have hown : World.ownsRow x4 W.heap.size 3 1 v4 66 (flat1 (Cl.capitals ++ Cl.small ++ Cl.latin ++ Cl.greek)) := O4.out.below hb
  have hd := D4.out.trans (hb.mono D4.out.size)
  have hsz := hd.size
  obtain ⟨b, c, rfl, hnews⟩ := row_news ho.row (show Cl.cyrillic.length = 4 from rfl) (by decide)
  clear ho hb O4 D4
  go_wp2_with (at_builtin; (refine wpList_append_own _ (by rfl) _ _ 58 (by rfl) W.heap.size 3 i0 (.int .i64 0) 1 8 Tryz.underlying58 hi0 hz0 hz1 hz2 rfl (by decide) _ 66 (flat1 (Cl.capitals ++ Cl.small ++ Cl.latin ++ Cl.greek)) (by rfl) hown ⟨b, 0, none⟩ 4 c (flat1 Cl.cyrillic) (by rfl) (by rfl) hnews (flat1_cells _) (by unfold maxLen; omega) (by omega) hsz ?_))
  intro v5 w5 hown1 hgrow _
  have O5 : Hid (IOwn w5 W.heap.size v5 (Cl.capitals ++ Cl.small ++ Cl.latin ++ Cl.greek ++ Cl.cyrillic)) := Lib.hid (by unfold IOwn; rw [show flat1 (Cl.capitals ++ Cl.small ++ Cl.latin ++ Cl.greek ++ Cl.cyrillic) = flat1 (Cl.capitals ++ Cl.small ++ Cl.latin ++ Cl.greek) ++ flat1 Cl.cyrillic from List.map_append]; exact hown1)
  have D5 := Lib.hid (hd.grown hgrow hsz (fun q hq => (hown.lt q hq).1))
  clear hown hd hsz hnews hown1 hgrow
  go_wp2
  go_ret2
  exact ⟨_, some _, HL.out, rfl, O5.out.row, D5.out⟩
set_option maxRecDepth 100000 in
set_option maxHeartbeats 4000000 in
theorem prop_any (W : World) (s : ByteArray) : Calls Tryz.prog 58 #[.string s] W (LookPost Cl.propT s.toList W) := by
  by_cases hL : (s.toList == [76]) = true
  · exact prop_l W s (by simpa using hL)
  · have hL := Bool.eq_false_iff.2 hL
    go_enter Tryz.func58, Tryz.ntmps58
    go_wp2_with (first
      | (go_at_call 88; refine (capitals_any _).mono ?_; rintro e wc ⟨vc, rfl, ho, hb⟩)
      | (go_at_call 89; refine (small_any _).mono ?_; rintro e ws ⟨vs, rfl, ho, hb⟩)
      | (go_at_call 90; refine (latin_any _).mono ?_; rintro e wl ⟨vl, rfl, ho, hb⟩)
      | (go_at_call 87; refine (greek_any _).mono ?_; rintro e wg ⟨vg, rfl, ho, hb⟩)
      | (go_at_call 86; refine (cyrillic_any _).mono ?_; rintro e wy ⟨vy, rfl, ho, hb⟩))
    · go_ret2
      exact ⟨_, some [0, 1114111], (by unfold Cl.propT; repeat (first | exact Cl.look_hit (by assumption) | refine Eq.trans (Cl.look_miss (by assumption)) ?_ | rfl)), rfl, (own_lits W [0, 1114111] 2 _ rfl rfl (by decide)).row, (Below.refl _ _).alloc (Nat.le_refl _) _⟩
    · go_ret2
      exact ⟨_, some Cl.cyrillic, (by unfold Cl.propT; repeat (first | exact Cl.look_hit (by assumption) | refine Eq.trans (Cl.look_miss (by assumption)) ?_ | rfl)), rfl, ho.row, hb⟩
    · go_ret2
      exact ⟨_, some Cl.greek, (by unfold Cl.propT; repeat (first | exact Cl.look_hit (by assumption) | refine Eq.trans (Cl.look_miss (by assumption)) ?_ | rfl)), rfl, ho.row, hb⟩
    · go_ret2
      exact ⟨_, some Cl.latin, (by unfold Cl.propT; repeat (first | exact Cl.look_hit (by assumption) | refine Eq.trans (Cl.look_miss (by assumption)) ?_ | rfl)), rfl, ho.row, hb⟩
    · go_ret2
      exact ⟨_, some Cl.small, (by unfold Cl.propT; repeat (first | exact Cl.look_hit (by assumption) | refine Eq.trans (Cl.look_miss (by assumption)) ?_ | rfl)), rfl, ho.row, hb⟩
    · go_ret2
      exact ⟨_, some Cl.capitals, (by unfold Cl.propT; repeat (first | exact Cl.look_hit (by assumption) | refine Eq.trans (Cl.look_miss (by assumption)) ?_ | rfl)), rfl, ho.row, hb⟩
    · go_ret2
      exact ⟨_, some [48, 57, 1632, 1641, 1776, 1785, 2406, 2415], (by unfold Cl.propT; repeat (first | exact Cl.look_hit (by assumption) | refine Eq.trans (Cl.look_miss (by assumption)) ?_ | rfl)), rfl, (own_lits W [48, 57, 1632, 1641, 1776, 1785, 2406, 2415] 8 _ rfl rfl (by decide)).row, (Below.refl _ _).alloc (Nat.le_refl _) _⟩
    · go_ret2
      exact ⟨_, none, (by unfold Cl.propT; repeat (first | exact Cl.look_hit (by assumption) | refine Eq.trans (Cl.look_miss (by assumption)) ?_ | rfl)), rfl, irow_nil _, Below.refl _ _⟩
end Go.Proofs.YtcomjkoaieeidaaGreatDoor
namespace Go.Proofs.YtcomjkoaieeidaaGreatDoor
open Go.RowKit
set_option linter.unusedVariables false
namespace Cl
theorem bare_yes (s : ByteArray) (h0 : 0 < s.size) (h : ((s[0].toNat : Int) == 94) = true) : Cl.bare s.toList = ((s.extract 1 s.size).toList, true) := by
  have hs : s[0] = 94 := by
    have : s[0].toNat = 94 := by have := eq_of_beq h; omega
    exact UInt8.toNat_inj.1 this
  have e : s.toList = 94 :: (s.extract 1 s.size).toList := by
    rw [ByteArray.toList_eq, ByteArray.toList_eq, ByteArray.data_extract, Array.toList_extract]
    have hl : 0 < s.data.toList.length := by simpa using h0
    have h1 : s.data.toList[0]'hl = 94 := hs
    have h2 := List.drop_eq_getElem_cons hl
    rw [List.drop_zero, h1] at h2
    have h3 : s.data.toList.extract 1 s.size = s.data.toList.drop 1 := by
      rw [List.extract_eq_take_drop]
      exact List.take_of_length_le (by simp)
    rw [h3]; exact h2
  rw [e]; rfl
theorem bare_no (s : ByteArray) (h : ∀ h0 : 0 < s.size, ((s[0].toNat : Int) == 94) = false) : Cl.bare s.toList = (s.toList, false) := by
  unfold Cl.bare
  split
  · rename_i t he
    exfalso
    have hl : 0 < s.size := by
      have : s.toList.length = s.size := by rw [ByteArray.toList_eq]; simp
      rw [← this, he]; simp
    have h1 := h hl
    have h2 : s[0] = 94 := by
      have e2 : s.data.toList = 94 :: t := by rw [← ByteArray.toList_eq]; exact he
      have h3 : s.data.toList[0]'(by rw [e2]; simp) = 94 := by simp [e2]
      exact h3
    rw [h2] at h1
    exact absurd h1 (by decide)
  · rfl
end Cl
set_option maxRecDepth 100000 in
set_option maxHeartbeats 2000000 in
theorem bare_any (W : World) (s : ByteArray) (hm : s.size ≤ 9223372036854775807) : Calls Tryz.prog 57 #[.string s] W fun e w' => ∃ t : ByteArray, e = .returned (.tuple #[.string t, .bool (Cl.bare s.toList).2]) ∧ t.toList = (Cl.bare s.toList).1 ∧ t.size ≤ 9223372036854775807 ∧ W = w' := by
  by_cases h0 : 0 < s.size
  · have h1 : (0 : Int) < (s.size : Int) := by omega
    have h2 : (1 : Int) ≤ (s.size : Int) := by omega
    have hy := Lib.hid (Cl.bare_yes s h0)
    have hn := Lib.hid (fun (h : ((s[0].toNat : Int) == 94) = false) => Cl.bare_no s (fun _ => h))
    go_enter Tryz.func57, Tryz.ntmps57
    go_wp2
    · have e := hy.out (by assumption)
      go_ret2
      rw [e]
      exact ⟨s.extract 1 s.size, rfl, rfl, by rw [ByteArray.size_extract]; omega, rfl⟩
    · have e := hn.out (by assumption)
      go_ret2
      rw [e]
      exact ⟨s, rfl, rfl, hm, rfl⟩
  · have h1 : ¬ (0 : Int) < (s.size : Int) := by omega
    have e := Lib.hid (Cl.bare_no s (fun h => absurd h h0))
    go_enter Tryz.func57, Tryz.ntmps57
    go_wp2
    go_ret2
    rw [e.out]
    exact ⟨s, rfl, rfl, hm, rfl⟩
end Go.Proofs.YtcomjkoaieeidaaGreatDoor
namespace Go.Proofs.YtcomjkoaieeidaaGreatDoor
open Go.RowKit
set_option linter.unusedVariables false
def tabOk (T : List (List UInt8 × List Int)) : Bool := T.all fun e => (e.2.all fun t => decide (0 ≤ t) && decide (t ≤ 1114112)) && decide (e.2.length ≤ 1000)
theorem tab_colon : tabOk Cl.colonT = true := by decide +kernel
theorem tab_prop : tabOk Cl.propT = true := by decide +kernel
theorem look_ok {T : List (List UInt8 × List Int)} (hT : tabOk T = true) {s : List UInt8} {n : List Int} (h : Cl.look T s = some n) : (∀ t ∈ n, 0 ≤ t ∧ t ≤ 1114112) ∧ n.length ≤ 1000 := by
  unfold Cl.look at h
  cases hf : T.find? fun e => s == e.1 with
  | none => rw [hf] at h; cases h
  | some e =>
    rw [hf] at h
    injection h with h
    subst h
    have hm := List.all_eq_true.1 hT e (List.mem_of_find?_eq_some hf)
    simp only [Bool.and_eq_true, List.all_eq_true, decide_eq_true_eq] at hm
    exact ⟨hm.1, hm.2⟩
set_option maxRecDepth 100000 in
set_option maxHeartbeats 4000000 in
theorem letter_any (W : World) (c : Int) : Calls Tryz.prog 31 #[.int .u8 c] W (ClassPost (Cl.letterX c) W) := by
  by_cases h100 : c = 100
  · subst h100
    have HX : Hid (Cl.letterX 100 = some (false, [48, 57])) := Lib.hid (by decide)
    go_enter Tryz.func31, Tryz.ntmps31
    go_wp2_with fail
    have hr := (own_lits W [48, 57] 2 _ rfl rfl (by decide)).row
    have D0 := Lib.hid ((Below.refl W.heap.size W).alloc (Nat.le_refl _) (.cells (([48, 57] : List Int).map (Value.int .i64)).toArray 3))
    refine (list_any _ _ [48, 57] hr (by decide) (by decide)).mono ?_
    rintro e w1 ⟨v1, o1, rfl, hm, ho, hb⟩
    have D1 := Lib.hid (D0.out.trans (hb.mono D0.out.size))
    have M1 := Lib.hid hm
    have O1 := Lib.hid (ho.lower D0.out.size)
    clear hm ho hb hr
    go_wp2
    go_ret2
    exact ⟨v1, o1, 0, rfl, by rw [HX.out]; exact Cl.classIs_yes M1.out, O1.out, D1.out⟩
  by_cases h68 : c = 68
  · subst h68
    have HX : Hid (Cl.letterX 68 = some (true, [48, 57])) := Lib.hid (by decide)
    go_enter Tryz.func31, Tryz.ntmps31
    go_wp2_with fail
    have hr := (own_lits W [48, 57] 2 _ rfl rfl (by decide)).row
    have D0 := Lib.hid ((Below.refl W.heap.size W).alloc (Nat.le_refl _) (.cells (([48, 57] : List Int).map (Value.int .i64)).toArray 3))
    refine (list_any _ _ [48, 57] hr (by decide) (by decide)).mono ?_
    rintro e w1 ⟨v1, o1, rfl, hm, ho, hb⟩
    have D1 := Lib.hid (D0.out.trans (hb.mono D0.out.size))
    have M1 := Lib.hid hm
    have R1 := Lib.hid (ho.normRow hm.norm)
    clear hm ho hb hr
    go_wp2_with fail
    refine (refNot _ _ _ R1.out).mono ?_
    rintro e w2 ⟨v2, o2, rfl, hm, ho, hb⟩
    have M2 := Lib.hid hm
    have O2 := Lib.hid (ho.lower D1.out.size)
    have D2 := Lib.hid (D1.out.trans (hb.mono D1.out.size))
    clear hm ho hb
    go_wp2
    go_ret2
    exact ⟨v2, o2, 0, rfl, by rw [HX.out]; exact Cl.classIs_not M1.out M2.out, O2.out, D2.out⟩
  by_cases h115 : c = 115
  · subst h115
    have HX : Hid (Cl.letterX 115 = some (false, [9, 10, 12, 13, 32, 32])) := Lib.hid (by decide)
    go_enter Tryz.func31, Tryz.ntmps31
    go_wp2_with fail
    have hr := (own_lits W [9, 10, 12, 13, 32, 32] 6 _ rfl rfl (by decide)).row
    have D0 := Lib.hid ((Below.refl W.heap.size W).alloc (Nat.le_refl _) (.cells (([9, 10, 12, 13, 32, 32] : List Int).map (Value.int .i64)).toArray 3))
    refine (list_any _ _ [9, 10, 12, 13, 32, 32] hr (by decide) (by decide)).mono ?_
    rintro e w1 ⟨v1, o1, rfl, hm, ho, hb⟩
    have D1 := Lib.hid (D0.out.trans (hb.mono D0.out.size))
    have M1 := Lib.hid hm
    have O1 := Lib.hid (ho.lower D0.out.size)
    clear hm ho hb hr
    go_wp2
    go_ret2
    exact ⟨v1, o1, 0, rfl, by rw [HX.out]; exact Cl.classIs_yes M1.out, O1.out, D1.out⟩
  by_cases h83 : c = 83
  · subst h83
    have HX : Hid (Cl.letterX 83 = some (true, [9, 10, 12, 13, 32, 32])) := Lib.hid (by decide)
    go_enter Tryz.func31, Tryz.ntmps31
    go_wp2_with fail
    have hr := (own_lits W [9, 10, 12, 13, 32, 32] 6 _ rfl rfl (by decide)).row
    have D0 := Lib.hid ((Below.refl W.heap.size W).alloc (Nat.le_refl _) (.cells (([9, 10, 12, 13, 32, 32] : List Int).map (Value.int .i64)).toArray 3))
    refine (list_any _ _ [9, 10, 12, 13, 32, 32] hr (by decide) (by decide)).mono ?_
    rintro e w1 ⟨v1, o1, rfl, hm, ho, hb⟩
    have D1 := Lib.hid (D0.out.trans (hb.mono D0.out.size))
    have M1 := Lib.hid hm
    have R1 := Lib.hid (ho.normRow hm.norm)
    clear hm ho hb hr
    go_wp2_with fail
    refine (refNot _ _ _ R1.out).mono ?_
    rintro e w2 ⟨v2, o2, rfl, hm, ho, hb⟩
    have M2 := Lib.hid hm
    have O2 := Lib.hid (ho.lower D1.out.size)
    have D2 := Lib.hid (D1.out.trans (hb.mono D1.out.size))
    clear hm ho hb
    go_wp2
    go_ret2
    exact ⟨v2, o2, 0, rfl, by rw [HX.out]; exact Cl.classIs_not M1.out M2.out, O2.out, D2.out⟩
  by_cases h119 : c = 119
  · subst h119
    have HX : Hid (Cl.letterX 119 = some (false, Cl.word)) := Lib.hid (by decide)
    go_enter Tryz.func31, Tryz.ntmps31
    go_wp2_with fail
    refine (word_any _).mono ?_
    rintro e w0 ⟨v0, rfl, ho0, hb0⟩
    have hr := ho0.row
    have D0 := Lib.hid hb0
    clear ho0 hb0
    go_wp2_with fail
    refine (list_any _ _ Cl.word hr (by decide) (by decide)).mono ?_
    rintro e w1 ⟨v1, o1, rfl, hm, ho, hb⟩
    have D1 := Lib.hid (D0.out.trans (hb.mono D0.out.size))
    have M1 := Lib.hid hm
    have O1 := Lib.hid (ho.lower D0.out.size)
    clear hm ho hb hr
    go_wp2
    go_ret2
    exact ⟨v1, o1, 0, rfl, by rw [HX.out]; exact Cl.classIs_yes M1.out, O1.out, D1.out⟩
  by_cases h87 : c = 87
  · subst h87
    have HX : Hid (Cl.letterX 87 = some (true, Cl.word)) := Lib.hid (by decide)
    go_enter Tryz.func31, Tryz.ntmps31
    go_wp2_with fail
    refine (word_any _).mono ?_
    rintro e w0 ⟨v0, rfl, ho0, hb0⟩
    have hr := ho0.row
    have D0 := Lib.hid hb0
    clear ho0 hb0
    go_wp2_with fail
    refine (list_any _ _ Cl.word hr (by decide) (by decide)).mono ?_
    rintro e w1 ⟨v1, o1, rfl, hm, ho, hb⟩
    have D1 := Lib.hid (D0.out.trans (hb.mono D0.out.size))
    have M1 := Lib.hid hm
    have R1 := Lib.hid (ho.normRow hm.norm)
    clear hm ho hb hr
    go_wp2_with fail
    refine (refNot _ _ _ R1.out).mono ?_
    rintro e w2 ⟨v2, o2, rfl, hm, ho, hb⟩
    have M2 := Lib.hid hm
    have O2 := Lib.hid (ho.lower D1.out.size)
    have D2 := Lib.hid (D1.out.trans (hb.mono D1.out.size))
    clear hm ho hb
    go_wp2
    go_ret2
    exact ⟨v2, o2, 0, rfl, by rw [HX.out]; exact Cl.classIs_not M1.out M2.out, O2.out, D2.out⟩
  have q100 : (c == 100) = false := beq_eq_false_iff_ne.2 h100
  have q68 : (c == 68) = false := beq_eq_false_iff_ne.2 h68
  have q115 : (c == 115) = false := beq_eq_false_iff_ne.2 h115
  have q83 : (c == 83) = false := beq_eq_false_iff_ne.2 h83
  have q119 : (c == 119) = false := beq_eq_false_iff_ne.2 h119
  have q87 : (c == 87) = false := beq_eq_false_iff_ne.2 h87
  have HX : Hid (Cl.letterX c = none) := Lib.hid (by unfold Cl.letterX; simp [h100, h68, h115, h83, h119, h87])
  clear h100 h68 h115 h83 h119 h87
  go_enter Tryz.func31, Tryz.ntmps31
  go_wp2
  go_ret2
  exact ⟨_, [], 70, rfl, by rw [HX.out]; exact ⟨rfl, rfl⟩, RgOwn.nil, Below.refl _ _⟩
set_option maxRecDepth 100000 in
set_option maxHeartbeats 4000000 in
theorem refColon_any (W : World) (s : ByteArray) (hm : s.size ≤ 9223372036854775807) : Calls Tryz.prog 64 #[.string s] W (ClassPost (Cl.lookC Cl.colonT s.toList) W) := by
  have HB := Lib.hid (bare_any W s hm)
  unfold Cl.lookC
  obtain ⟨N, hN⟩ : ∃ N, Cl.bare s.toList = N := ⟨_, rfl⟩
  rw [hN] at HB ⊢
  obtain ⟨own, lacks⟩ := N
  obtain ⟨o, ho⟩ : ∃ o, Cl.look Cl.colonT own = o := ⟨_, rfl⟩
  have HO := Lib.hid ho
  try dsimp only
  rw [ho]
  clear ho hN
  go_enter Tryz.func64, Tryz.ntmps64
  go_wp2_with fail
  refine HB.out.mono ?_
  rintro e w0 ⟨t, rfl, ht, _, rfl⟩
  try dsimp only at ht
  have HT := Lib.hid ht
  clear ht
  go_wp2_with fail
  refine (colon_any _ t).mono ?_
  rintro e w1 ⟨v1, o1, hl, rfl, hr, hb⟩
  have he : o1 = o := by rw [← hl, HT.out, HO.out]
  subst he
  have HR := Lib.hid hr
  have D1 := Lib.hid hb
  clear hl hr hb
  cases o1 with
  | none =>
    go_wp2
    go_ret2
    exact ⟨_, [], 70, rfl, ⟨rfl, rfl⟩, RgOwn.nil, D1.out⟩
  | some n =>
    obtain ⟨hk1, hk2⟩ := look_ok tab_colon HO.out
    have HK := Lib.hid hk1
    clear hk1
    cases lacks with
    | false =>
      go_wp2_with fail
      refine (list_any _ _ n HR.out HK.out hk2).mono ?_
      rintro e w2 ⟨v2, o2, rfl, hm, ho, hb⟩
      have M2 := Lib.hid hm
      have O2 := Lib.hid (ho.lower D1.out.size)
      have D2 := Lib.hid (D1.out.trans (hb.mono D1.out.size))
      clear hm ho hb
      go_wp2
      go_ret2
      exact ⟨v2, o2, 0, rfl, Cl.classIs_yes M2.out, O2.out, D2.out⟩
    | true =>
      go_wp2_with fail
      refine (list_any _ _ n HR.out HK.out hk2).mono ?_
      rintro e w2 ⟨v2, o2, rfl, hm, ho, hb⟩
      have M2 := Lib.hid hm
      have R2 := Lib.hid (ho.normRow hm.norm)
      have D2 := Lib.hid (D1.out.trans (hb.mono D1.out.size))
      clear hm ho hb
      go_wp2_with fail
      refine (refNot _ _ _ R2.out).mono ?_
      rintro e w3 ⟨v3, o3, rfl, hm, ho, hb⟩
      have M3 := Lib.hid hm
      have O3 := Lib.hid (ho.lower D2.out.size)
      have D3 := Lib.hid (D2.out.trans (hb.mono D2.out.size))
      clear hm ho hb
      go_wp2
      go_ret2
      exact ⟨v3, o3, 0, rfl, Cl.classIs_not M2.out M3.out, O3.out, D3.out⟩
set_option maxRecDepth 100000 in
set_option maxHeartbeats 4000000 in
theorem refProp_any (W : World) (s : ByteArray) (hm : s.size ≤ 9223372036854775807) : Calls Tryz.prog 32 #[.string s] W (ClassPost (Cl.lookC Cl.propT s.toList) W) := by
  have HB := Lib.hid (bare_any W s hm)
  unfold Cl.lookC
  obtain ⟨N, hN⟩ : ∃ N, Cl.bare s.toList = N := ⟨_, rfl⟩
  rw [hN] at HB ⊢
  obtain ⟨own, lacks⟩ := N
  obtain ⟨o, ho⟩ : ∃ o, Cl.look Cl.propT own = o := ⟨_, rfl⟩
  have HO := Lib.hid ho
  try dsimp only
  rw [ho]
  clear ho hN
  go_enter Tryz.func32, Tryz.ntmps32
  go_wp2_with fail
  refine HB.out.mono ?_
  rintro e w0 ⟨t, rfl, ht, _, rfl⟩
  try dsimp only at ht
  have HT := Lib.hid ht
  clear ht
  go_wp2_with fail
  refine (prop_any _ t).mono ?_
  rintro e w1 ⟨v1, o1, hl, rfl, hr, hb⟩
  have he : o1 = o := by rw [← hl, HT.out, HO.out]
  subst he
  have HR := Lib.hid hr
  have D1 := Lib.hid hb
  clear hl hr hb
  cases o1 with
  | none =>
    go_wp2
    go_ret2
    exact ⟨_, [], 70, rfl, ⟨rfl, rfl⟩, RgOwn.nil, D1.out⟩
  | some n =>
    obtain ⟨hk1, hk2⟩ := look_ok tab_prop HO.out
    have HK := Lib.hid hk1
    clear hk1
    cases lacks with
    | false =>
      go_wp2_with fail
      refine (list_any _ _ n HR.out HK.out hk2).mono ?_
      rintro e w2 ⟨v2, o2, rfl, hm, ho, hb⟩
      have M2 := Lib.hid hm
      have O2 := Lib.hid (ho.lower D1.out.size)
      have D2 := Lib.hid (D1.out.trans (hb.mono D1.out.size))
      clear hm ho hb
      go_wp2
      go_ret2
      exact ⟨v2, o2, 0, rfl, Cl.classIs_yes M2.out, O2.out, D2.out⟩
    | true =>
      go_wp2_with fail
      refine (list_any _ _ n HR.out HK.out hk2).mono ?_
      rintro e w2 ⟨v2, o2, rfl, hm, ho, hb⟩
      have M2 := Lib.hid hm
      have R2 := Lib.hid (ho.normRow hm.norm)
      have D2 := Lib.hid (D1.out.trans (hb.mono D1.out.size))
      clear hm ho hb
      go_wp2_with fail
      refine (refNot _ _ _ R2.out).mono ?_
      rintro e w3 ⟨v3, o3, rfl, hm, ho, hb⟩
      have M3 := Lib.hid hm
      have O3 := Lib.hid (ho.lower D2.out.size)
      have D3 := Lib.hid (D2.out.trans (hb.mono D2.out.size))
      clear hm ho hb
      go_wp2
      go_ret2
      exact ⟨v3, o3, 0, rfl, Cl.classIs_not M2.out M3.out, O3.out, D3.out⟩
end Go.Proofs.YtcomjkoaieeidaaGreatDoor
namespace Go.Proofs.YtcomjkoaieeidaaGreatDoor
open Go.RowKit
set_option linter.unusedVariables false
theorem data_toList (s : ByteArray) : s.data.toList = s.toList := (ByteArray.toList_eq s).symm
set_option maxRecDepth 100000 in
set_option maxHeartbeats 8000000 in
/-- Behind the name: the property, turned where it is asked. -/
theorem rSet_any (W : World) (s : ByteArray) (hs : s.size ≤ 100000) : Calls Tryz.prog 12 #[.string s] W (SetPost (Br.set s) W) := by
  have hset : Br.set s = (if (Utf.nums s)[0]?.getD 0 ≠ 92 then (none, 0, 3) else if s.size = 1 then (none, 0, 5) else if (Utf.nums s)[1]?.getD 0 = 80 then Br.propX s true else if (Utf.nums s)[1]?.getD 0 = 112 then Br.propX s false else match Cl.letterX ((Utf.nums s)[1]?.getD 0) with | none => (none, 0, 5) | some x => (some x, 2, 0)) := by
    unfold Br.set
    dsimp only
    rw [Utf.nums_length]
    rfl
  obtain ⟨R, hR⟩ : ∃ R, Br.set s = R := ⟨_, rfl⟩
  rw [hR] at hset ⊢
  clear hR
  by_cases h0 : s.size = 0
  · have HE : Hid (R = (none, 0, 3)) := Lib.hid (by rw [hset, if_pos (by rw [List.getElem?_eq_none (by rw [Utf.nums_length]; omega)]; decide)])
    clear hset
    go_enter Tryz.func12, Tryz.ntmps12
    go_wp2
    go_ret3
    rw [HE.out]
    exact ⟨.slice none 0 0, [], rfl, rfl, RgOwn.nil, Below.refl _ _⟩
  have hz0 : 0 < s.size := by omega
  have hz0i : (0 : Int) < (s.size : Int) := by omega
  have hz9 : ((s.size : Int) == 0) = false := by rw [beq_eq_false_iff_ne]; omega
  have hb0 : s[0].toNat < 256 := UInt8.toNat_lt _
  rw [Utf.nums_at s 0 hz0] at hset
  by_cases c0 : ¬ (s[0].toNat : Int) = 92
  · have HE : Hid (R = (none, 0, 3)) := Lib.hid (by rw [hset, if_pos c0])
    have h4 : ((s[0].toNat : Int) != 92) = true := by simpa using c0
    clear hset c0 h0
    go_enter Tryz.func12, Tryz.ntmps12
    go_wp2
    go_ret3
    rw [HE.out]
    exact ⟨.slice none 0 0, [], rfl, rfl, RgOwn.nil, Below.refl _ _⟩
  have h4 : ((s[0].toNat : Int) != 92) = false := by
    have e : (s[0].toNat : Int) = 92 := by omega
    rw [e]; rfl
  rw [if_neg (by omega)] at hset
  by_cases c1 : s.size = 1
  · have HE : Hid (R = (none, 0, 5)) := Lib.hid (by rw [hset, if_pos c1])
    have h1 : ((s.size : Int) == 1) = true := by simp [c1]
    clear hset c0 c1 h0
    go_enter Tryz.func12, Tryz.ntmps12
    go_wp2
    go_ret3
    rw [HE.out]
    exact ⟨.slice none 0 0, [], rfl, rfl, RgOwn.nil, Below.refl _ _⟩
  have h1 : ((s.size : Int) == 1) = false := by simp; omega
  have h2 : 1 < s.size := by omega
  have h2i : (1 : Int) < (s.size : Int) := by omega
  have hb : s[1].toNat < 256 := UInt8.toNat_lt _
  have hat : (Utf.nums s)[1]?.getD 0 = (s[1].toNat : Int) := Utf.nums_at s 1 h2
  rw [if_neg c1, hat] at hset
  clear c0 c1 h0 hat
  by_cases cp : (s[1].toNat : Int) ≠ 112 ∧ (s[1].toNat : Int) ≠ 80
  · obtain ⟨cp1, cp2⟩ := cp
    rw [if_neg cp2, if_neg cp1] at hset
    have m1 : ((s[1].toNat : Int) != 112) = true := by simpa using cp1
    have m2 : ((s[1].toNat : Int) != 80) = true := by simpa using cp2
    have HC := Lib.hid (letter_any W (s[1].toNat : Int))
    obtain ⟨X, hX⟩ : ∃ X, Cl.letterX (s[1].toNat : Int) = X := ⟨_, rfl⟩
    rw [hX] at HC hset
    cases X with
    | none =>
      have HR : Hid (R = (none, 0, 5)) := Lib.hid hset
      clear hset hX cp1 cp2
      go_enter Tryz.func12, Tryz.ntmps12
      go_wp2_with fail
      refine HC.out.mono ?_
      rintro e w2 ⟨v, out, c9, rfl, hc9, ho, hb9⟩
      obtain ⟨rfl, rfl⟩ := hc9
      have HB := Lib.hid hb9
      clear ho hb9
      go_wp2
      go_ret3
      rw [HR.out]
      exact ⟨.slice none 0 0, [], rfl, rfl, RgOwn.nil, HB.out⟩
    | some x =>
      have HR : Hid (R = (some x, 2, 0)) := Lib.hid hset
      clear hset hX cp1 cp2
      go_enter Tryz.func12, Tryz.ntmps12
      go_wp2_with fail
      refine HC.out.mono ?_
      rintro e w2 ⟨v, out, c9, rfl, hc9, ho, hb9⟩
      have HS := Lib.hid (Br.setIs_of hc9)
      obtain rfl : c9 = 0 := hc9.1
      have HB := Lib.hid hb9
      have HO := Lib.hid ho
      clear ho hb9 hc9
      go_wp2
      go_ret3
      rw [HR.out]
      exact ⟨v, out, rfl, HS.out, HO.out, HB.out⟩
  by_cases e80 : (s[1].toNat : Int) = 80
  · have hprop : R = Br.propX s true := by rw [hset]; rw [if_pos e80]
    have hv1 : (s[1].toNat : Int) = 80 := by omega
    have m1 : ((s[1].toNat : Int) != 112) = true := by rw [hv1]; rfl
    have m2 : ((s[1].toNat : Int) != 80) = false := by rw [hv1]; rfl
    have m3 : ((s[1].toNat : Int) == 80) = true := by rw [hv1]; rfl
    have hpx : R = (if (Br.nameX s).2.2 ≠ 0 then (none, 0, (Br.nameX s).2.2) else match Cl.lookC Cl.propT (Br.nameX s).1.data.toList with | none => (none, 0, 70) | some (b, T) => (some (b != true, T), (Br.nameX s).2.1, 0)) := hprop
    clear hprop hset e80 cp hv1
    by_cases z2 : s.size = 2
    · have HE : Hid (R = (none, 0, 82)) := Lib.hid (by
        have hn : Br.nameX s = (⟨#[]⟩, 0, 82) := by unfold Br.nameX; dsimp only; rw [if_pos (by rw [Utf.nums_length]; exact z2)]
        rw [hpx, hn]; rfl)
      have z2b : ((s.size : Int) == 2) = true := by simp [z2]
      clear hpx z2
      go_enter Tryz.func12, Tryz.ntmps12
      go_wp2
      go_ret3
      rw [HE.out]
      exact ⟨.slice none 0 0, [], rfl, rfl, RgOwn.nil, Below.refl _ _⟩
    have z2b : ((s.size : Int) == 2) = false := by simp; omega
    have z3 : 2 < s.size := by omega
    have z3i : (2 : Int) < (s.size : Int) := by omega
    have z4i : (3 : Int) ≤ (s.size : Int) := by omega
    have hb2 : s[2].toNat < 256 := UInt8.toNat_lt _
    have hn : Br.nameX s = (if Br.letB (s[2].toNat : Int) = true then (s.extract 2 3, 3, 0) else if (s[2].toNat : Int) ≠ 123 then (⟨#[]⟩, 0, 70) else if Br.upTo 125 ((Utf.nums s).drop 3) = s.size - 3 then (⟨#[]⟩, 0, 82) else (s.extract 3 (3 + Br.upTo 125 ((Utf.nums s).drop 3)), (Br.upTo 125 ((Utf.nums s).drop 3) : Int) + 4, 0)) := by
      unfold Br.nameX
      dsimp only
      rw [if_neg (by rw [Utf.nums_length]; exact z2), Utf.nums_at s 2 z3, List.length_drop, Utf.nums_length]
    by_cases b3 : (s[2].toNat : Int) = 123
    · have b3b : ((s[2].toNat : Int) == 123) = true := by simp [b3]
      have hnl : Br.letB (s[2].toNat : Int) = false := by rw [b3]; decide
      rw [hnl, if_neg (by decide), if_neg (by omega)] at hn
      have hK := Br.upTo_le 125 ((Utf.nums s).drop 3)
      rw [List.length_drop, Utf.nums_length] at hK
      have hAt := Br.upTo_at 125 ((Utf.nums s).drop 3)
      have hNo := Br.upTo_no 125 ((Utf.nums s).drop 3)
      rw [List.length_drop, Utf.nums_length] at hAt
      obtain ⟨K, hKK⟩ : ∃ K, Br.upTo 125 ((Utf.nums s).drop 3) = K := ⟨_, rfl⟩
      rw [hKK] at hn hK hAt hNo
      have HNO : Hid (∀ e (h : e < s.size), 3 ≤ e → e < 3 + K → ((s[e].toNat : Int) != 125) = true) := Lib.hid (fun e h h3 hk => by
        have := hNo (e - 3) (by omega)
        rw [List.getElem?_drop, show 3 + (e - 3) = e by omega] at this
        have h9 := Utf.nums_at s e h
        obtain ⟨x, hx⟩ : ∃ x, (Utf.nums s)[e]? = some x := ⟨_, List.getElem?_eq_getElem (by rw [Utf.nums_length]; exact h)⟩
        rw [hx] at this h9
        have h8 : x = (s[e].toNat : Int) := h9
        rw [h8] at this
        simpa using this)
      have HAT : Hid (∀ (h : 3 + K < s.size), ((s[3 + K].toNat : Int) != 125) = false) := Lib.hid (fun h => by
        have := hAt (by omega)
        rw [List.getElem?_drop] at this
        have h9 := Utf.nums_at s (3 + K) h
        rw [this] at h9
        have h8 : (s[3 + K].toNat : Int) = 125 := h9.symm
        rw [h8]; rfl)
      have HPN : Hid (R = if K = s.size - 3 then ((none : Br.Cls), (0 : Int), (82 : Int)) else match Cl.lookC Cl.propT (s.extract 3 (3 + K)).data.toList with | none => (none, 0, 70) | some (b, T) => (some (b != true, T), (K : Int) + 4, 0)) := Lib.hid (by
        rw [hpx, hn]
        by_cases hk : K = s.size - 3
        · rw [if_pos hk, if_pos hk]; rfl
        · rw [if_neg hk, if_neg hk]; rfl)
      clear hpx hn hAt hNo hKK z2 b3 hnl
      go_enter Tryz.func12, Tryz.ntmps12
      go_wp2
      go_loop [9] (fun A => ∃ e : Nat, 3 ≤ e ∧ e ≤ 3 + K ∧ A = .int .i64 (e : Int)) (fun A => s.size - (intOf A).toNat)
      case atStart => exact ⟨3, Nat.le_refl _, by omega, rfl⟩
      case round =>
        obtain ⟨e, he, hek, rfl⟩ := hrel
        by_cases h9 : e < 3 + K
        · have h8 : e < s.size := by omega
          have h7 : (e : Int) < (s.size : Int) := by omega
          have h6 := HNO.out e h8 he h9
          have hw : IntKind.i64.wrap ((e : Int) + 1) = ((e + 1 : Nat) : Int) := by rw [IntKind.wrap_i64]; omega
          go_wp2
          go_round
          case rel => exact ⟨e + 1, by omega, by omega, by go_num⟩
          case measure => simp [intOf]; omega
        · obtain rfl : e = 3 + K := by omega
          obtain ⟨E, hE⟩ : ∃ E, 3 + K = E := ⟨_, rfl⟩
          rw [hE] at HPN hek ⊢
          by_cases h8 : K = s.size - 3
          · have HE : Hid (R = (none, 0, 82)) := Lib.hid (by rw [HPN.out, if_pos h8])
            have h7 : ¬ (E : Int) < (s.size : Int) := by omega
            have h6 : ((E : Int) == (s.size : Int)) = true := by simp; omega
            clear hE h8 he h9 hek
            go_wp2
            go_ret3
            rw [HE.out]
            exact ⟨.slice none 0 0, [], rfl, rfl, RgOwn.nil, Below.refl _ _⟩
          · have HPX : Hid (R = match Cl.lookC Cl.propT (s.extract 3 E).data.toList with | none => (none, 0, 70) | some (b, T) => (some (b != true, T), (K : Int) + 4, 0)) := Lib.hid (by rw [HPN.out, if_neg h8])
            have h5 : E < s.size := by omega
            have h7 : (E : Int) < (s.size : Int) := by omega
            have h4 : ((s[E].toNat : Int) != 125) = false := by subst hE; exact HAT.out h5
            have h6 : ((E : Int) == (s.size : Int)) = false := by simp; omega
            have h3 : (3 : Int) ≤ (E : Int) := by omega
            have hw : IntKind.i64.wrap ((E : Int) + 1) = (K : Int) + 4 := by rw [IntKind.wrap_i64]; omega
            clear hE h8 he h9 hek
            go_wp2_with fail
            refine (refProp_any _ (s.extract 3 E) (by first | (rw [ByteArray.size_extract]; omega) | omega)).mono ?_
            rintro e w2 ⟨v, out, c9, rfl, hc9, ho, hb9⟩
            rw [← data_toList] at hc9
            have HB := Lib.hid hb9
            have HO := Lib.hid ho
            cases hl : Cl.lookC Cl.propT (s.extract 3 E).data.toList with
            | none =>
              rw [hl] at hc9
              obtain ⟨rfl, rfl⟩ := hc9
              have HR : Hid (R = (none, 0, 70)) := Lib.hid (by rw [HPX.out, hl])
              clear hl ho hb9
              go_wp2
              go_ret3
              rw [HR.out]
              exact ⟨.slice none 0 0, [], rfl, rfl, RgOwn.nil, HB.out⟩
            | some x =>
              obtain ⟨b, T⟩ := x
              rw [hl] at hc9
              have HS := Lib.hid (Br.setIs_of hc9)
              obtain rfl : c9 = 0 := hc9.1
              have HR : Hid (R = (some (b != true, T), (K : Int) + 4, 0)) := Lib.hid (by rw [HPX.out, hl])
              clear hl ho hb9 hc9
              go_wp2_with fail
              refine (refNot _ v out (setIs_row HS.out HO.out)).mono ?_
              rintro e w3 ⟨v3, out3, rfl, hm3, ho3, hb3⟩
              have HS3 := Lib.hid (Br.setIs_not HS.out hm3)
              have HO3 := Lib.hid (ho3.lower HB.out.size)
              have HB3 := Lib.hid (HB.out.trans (hb3.mono HB.out.size))
              clear hm3 ho3 hb3
              go_wp2
              go_ret3
              rw [HR.out]
              exact ⟨v3, out3, rfl, by simpa using HS3.out, HO3.out, HB3.out⟩

    have b3b : ((s[2].toNat : Int) == 123) = false := by simpa using b3
    have HL := Lib.hid (rLetter_any W (s[2].toNat : Int) (by omega) (by omega))
    cases hl2 : Br.letB (s[2].toNat : Int) with
    | false =>
      rw [hl2] at HL hn
      rw [if_neg (by decide), if_pos b3] at hn
      have HE : Hid (R = (none, 0, 70)) := Lib.hid (by rw [hpx, hn]; rfl)
      clear hpx hn hl2 b3 z2
      go_enter Tryz.func12, Tryz.ntmps12
      go_wp2_with fail
      refine HL.out.mono ?_
      rintro e w' ⟨rfl, rfl⟩
      go_wp2
      go_ret3
      rw [HE.out]
      exact ⟨.slice none 0 0, [], rfl, rfl, RgOwn.nil, Below.refl _ _⟩
    | true =>
      rw [hl2] at HL hn
      rw [if_pos rfl] at hn
      have HPX : Hid (R = match Cl.lookC Cl.propT (s.extract 2 3).data.toList with | none => (none, 0, 70) | some (b, T) => (some (b != true, T), 3, 0)) := Lib.hid (by rw [hpx, hn]; rfl)
      clear hpx hn hl2 b3 z2
      go_enter Tryz.func12, Tryz.ntmps12
      go_wp2_with fail
      refine HL.out.mono ?_
      rintro e w' ⟨rfl, rfl⟩
      go_wp2_with fail
      refine (refProp_any _ (s.extract 2 3) (by first | (rw [ByteArray.size_extract]; omega) | omega)).mono ?_
      rintro e w2 ⟨v, out, c9, rfl, hc9, ho, hb9⟩
      rw [← data_toList] at hc9
      have HB := Lib.hid hb9
      have HO := Lib.hid ho
      cases hl : Cl.lookC Cl.propT (s.extract 2 3).data.toList with
      | none =>
        rw [hl] at hc9
        obtain ⟨rfl, rfl⟩ := hc9
        have HR : Hid (R = (none, 0, 70)) := Lib.hid (by rw [HPX.out, hl])
        clear hl ho hb9
        go_wp2
        go_ret3
        rw [HR.out]
        exact ⟨.slice none 0 0, [], rfl, rfl, RgOwn.nil, HB.out⟩
      | some x =>
        obtain ⟨b, T⟩ := x
        rw [hl] at hc9
        have HS := Lib.hid (Br.setIs_of hc9)
        obtain rfl : c9 = 0 := hc9.1
        have HR : Hid (R = (some (b != true, T), 3, 0)) := Lib.hid (by rw [HPX.out, hl])
        clear hl ho hb9 hc9
        go_wp2_with fail
        refine (refNot _ v out (setIs_row HS.out HO.out)).mono ?_
        rintro e w3 ⟨v3, out3, rfl, hm3, ho3, hb3⟩
        have HS3 := Lib.hid (Br.setIs_not HS.out hm3)
        have HO3 := Lib.hid (ho3.lower HB.out.size)
        have HB3 := Lib.hid (HB.out.trans (hb3.mono HB.out.size))
        clear hm3 ho3 hb3
        go_wp2
        go_ret3
        rw [HR.out]
        exact ⟨v3, out3, rfl, by simpa using HS3.out, HO3.out, HB3.out⟩
  · have hprop : R = Br.propX s false := by rw [hset]; rw [if_neg e80, if_pos (by omega)]
    have hv1 : (s[1].toNat : Int) = 112 := by omega
    have m1 : ((s[1].toNat : Int) != 112) = false := by rw [hv1]; rfl
    have m2 : ((s[1].toNat : Int) != 80) = true := by rw [hv1]; rfl
    have m3 : ((s[1].toNat : Int) == 80) = false := by rw [hv1]; rfl
    have hpx : R = (if (Br.nameX s).2.2 ≠ 0 then (none, 0, (Br.nameX s).2.2) else match Cl.lookC Cl.propT (Br.nameX s).1.data.toList with | none => (none, 0, 70) | some (b, T) => (some (b != false, T), (Br.nameX s).2.1, 0)) := hprop
    clear hprop hset e80 cp hv1
    by_cases z2 : s.size = 2
    · have HE : Hid (R = (none, 0, 82)) := Lib.hid (by
        have hn : Br.nameX s = (⟨#[]⟩, 0, 82) := by unfold Br.nameX; dsimp only; rw [if_pos (by rw [Utf.nums_length]; exact z2)]
        rw [hpx, hn]; rfl)
      have z2b : ((s.size : Int) == 2) = true := by simp [z2]
      clear hpx z2
      go_enter Tryz.func12, Tryz.ntmps12
      go_wp2
      go_ret3
      rw [HE.out]
      exact ⟨.slice none 0 0, [], rfl, rfl, RgOwn.nil, Below.refl _ _⟩
    have z2b : ((s.size : Int) == 2) = false := by simp; omega
    have z3 : 2 < s.size := by omega
    have z3i : (2 : Int) < (s.size : Int) := by omega
    have z4i : (3 : Int) ≤ (s.size : Int) := by omega
    have hb2 : s[2].toNat < 256 := UInt8.toNat_lt _
    have hn : Br.nameX s = (if Br.letB (s[2].toNat : Int) = true then (s.extract 2 3, 3, 0) else if (s[2].toNat : Int) ≠ 123 then (⟨#[]⟩, 0, 70) else if Br.upTo 125 ((Utf.nums s).drop 3) = s.size - 3 then (⟨#[]⟩, 0, 82) else (s.extract 3 (3 + Br.upTo 125 ((Utf.nums s).drop 3)), (Br.upTo 125 ((Utf.nums s).drop 3) : Int) + 4, 0)) := by
      unfold Br.nameX
      dsimp only
      rw [if_neg (by rw [Utf.nums_length]; exact z2), Utf.nums_at s 2 z3, List.length_drop, Utf.nums_length]
    by_cases b3 : (s[2].toNat : Int) = 123
    · have b3b : ((s[2].toNat : Int) == 123) = true := by simp [b3]
      have hnl : Br.letB (s[2].toNat : Int) = false := by rw [b3]; decide
      rw [hnl, if_neg (by decide), if_neg (by omega)] at hn
      have hK := Br.upTo_le 125 ((Utf.nums s).drop 3)
      rw [List.length_drop, Utf.nums_length] at hK
      have hAt := Br.upTo_at 125 ((Utf.nums s).drop 3)
      have hNo := Br.upTo_no 125 ((Utf.nums s).drop 3)
      rw [List.length_drop, Utf.nums_length] at hAt
      obtain ⟨K, hKK⟩ : ∃ K, Br.upTo 125 ((Utf.nums s).drop 3) = K := ⟨_, rfl⟩
      rw [hKK] at hn hK hAt hNo
      have HNO : Hid (∀ e (h : e < s.size), 3 ≤ e → e < 3 + K → ((s[e].toNat : Int) != 125) = true) := Lib.hid (fun e h h3 hk => by
        have := hNo (e - 3) (by omega)
        rw [List.getElem?_drop, show 3 + (e - 3) = e by omega] at this
        have h9 := Utf.nums_at s e h
        obtain ⟨x, hx⟩ : ∃ x, (Utf.nums s)[e]? = some x := ⟨_, List.getElem?_eq_getElem (by rw [Utf.nums_length]; exact h)⟩
        rw [hx] at this h9
        have h8 : x = (s[e].toNat : Int) := h9
        rw [h8] at this
        simpa using this)
      have HAT : Hid (∀ (h : 3 + K < s.size), ((s[3 + K].toNat : Int) != 125) = false) := Lib.hid (fun h => by
        have := hAt (by omega)
        rw [List.getElem?_drop] at this
        have h9 := Utf.nums_at s (3 + K) h
        rw [this] at h9
        have h8 : (s[3 + K].toNat : Int) = 125 := h9.symm
        rw [h8]; rfl)
      have HPN : Hid (R = if K = s.size - 3 then ((none : Br.Cls), (0 : Int), (82 : Int)) else match Cl.lookC Cl.propT (s.extract 3 (3 + K)).data.toList with | none => (none, 0, 70) | some (b, T) => (some (b != false, T), (K : Int) + 4, 0)) := Lib.hid (by
        rw [hpx, hn]
        by_cases hk : K = s.size - 3
        · rw [if_pos hk, if_pos hk]; rfl
        · rw [if_neg hk, if_neg hk]; rfl)
      clear hpx hn hAt hNo hKK z2 b3 hnl
      go_enter Tryz.func12, Tryz.ntmps12
      go_wp2
      go_loop [9] (fun A => ∃ e : Nat, 3 ≤ e ∧ e ≤ 3 + K ∧ A = .int .i64 (e : Int)) (fun A => s.size - (intOf A).toNat)
      case atStart => exact ⟨3, Nat.le_refl _, by omega, rfl⟩
      case round =>
        obtain ⟨e, he, hek, rfl⟩ := hrel
        by_cases h9 : e < 3 + K
        · have h8 : e < s.size := by omega
          have h7 : (e : Int) < (s.size : Int) := by omega
          have h6 := HNO.out e h8 he h9
          have hw : IntKind.i64.wrap ((e : Int) + 1) = ((e + 1 : Nat) : Int) := by rw [IntKind.wrap_i64]; omega
          go_wp2
          go_round
          case rel => exact ⟨e + 1, by omega, by omega, by go_num⟩
          case measure => simp [intOf]; omega
        · obtain rfl : e = 3 + K := by omega
          obtain ⟨E, hE⟩ : ∃ E, 3 + K = E := ⟨_, rfl⟩
          rw [hE] at HPN hek ⊢
          by_cases h8 : K = s.size - 3
          · have HE : Hid (R = (none, 0, 82)) := Lib.hid (by rw [HPN.out, if_pos h8])
            have h7 : ¬ (E : Int) < (s.size : Int) := by omega
            have h6 : ((E : Int) == (s.size : Int)) = true := by simp; omega
            clear hE h8 he h9 hek
            go_wp2
            go_ret3
            rw [HE.out]
            exact ⟨.slice none 0 0, [], rfl, rfl, RgOwn.nil, Below.refl _ _⟩
          · have HPX : Hid (R = match Cl.lookC Cl.propT (s.extract 3 E).data.toList with | none => (none, 0, 70) | some (b, T) => (some (b != false, T), (K : Int) + 4, 0)) := Lib.hid (by rw [HPN.out, if_neg h8])
            have h5 : E < s.size := by omega
            have h7 : (E : Int) < (s.size : Int) := by omega
            have h4 : ((s[E].toNat : Int) != 125) = false := by subst hE; exact HAT.out h5
            have h6 : ((E : Int) == (s.size : Int)) = false := by simp; omega
            have h3 : (3 : Int) ≤ (E : Int) := by omega
            have hw : IntKind.i64.wrap ((E : Int) + 1) = (K : Int) + 4 := by rw [IntKind.wrap_i64]; omega
            clear hE h8 he h9 hek
            go_wp2_with fail
            refine (refProp_any _ (s.extract 3 E) (by first | (rw [ByteArray.size_extract]; omega) | omega)).mono ?_
            rintro e w2 ⟨v, out, c9, rfl, hc9, ho, hb9⟩
            rw [← data_toList] at hc9
            have HB := Lib.hid hb9
            have HO := Lib.hid ho
            cases hl : Cl.lookC Cl.propT (s.extract 3 E).data.toList with
            | none =>
              rw [hl] at hc9
              obtain ⟨rfl, rfl⟩ := hc9
              have HR : Hid (R = (none, 0, 70)) := Lib.hid (by rw [HPX.out, hl])
              clear hl ho hb9
              go_wp2
              go_ret3
              rw [HR.out]
              exact ⟨.slice none 0 0, [], rfl, rfl, RgOwn.nil, HB.out⟩
            | some x =>
              obtain ⟨b, T⟩ := x
              rw [hl] at hc9
              have HS := Lib.hid (Br.setIs_of hc9)
              obtain rfl : c9 = 0 := hc9.1
              have HR : Hid (R = (some (b != false, T), (K : Int) + 4, 0)) := Lib.hid (by rw [HPX.out, hl])
              clear hl ho hb9 hc9
              go_wp2
              go_ret3
              rw [HR.out]
              exact ⟨v, out, rfl, by simpa using HS.out, HO.out, HB.out⟩

    have b3b : ((s[2].toNat : Int) == 123) = false := by simpa using b3
    have HL := Lib.hid (rLetter_any W (s[2].toNat : Int) (by omega) (by omega))
    cases hl2 : Br.letB (s[2].toNat : Int) with
    | false =>
      rw [hl2] at HL hn
      rw [if_neg (by decide), if_pos b3] at hn
      have HE : Hid (R = (none, 0, 70)) := Lib.hid (by rw [hpx, hn]; rfl)
      clear hpx hn hl2 b3 z2
      go_enter Tryz.func12, Tryz.ntmps12
      go_wp2_with fail
      refine HL.out.mono ?_
      rintro e w' ⟨rfl, rfl⟩
      go_wp2
      go_ret3
      rw [HE.out]
      exact ⟨.slice none 0 0, [], rfl, rfl, RgOwn.nil, Below.refl _ _⟩
    | true =>
      rw [hl2] at HL hn
      rw [if_pos rfl] at hn
      have HPX : Hid (R = match Cl.lookC Cl.propT (s.extract 2 3).data.toList with | none => (none, 0, 70) | some (b, T) => (some (b != false, T), 3, 0)) := Lib.hid (by rw [hpx, hn]; rfl)
      clear hpx hn hl2 b3 z2
      go_enter Tryz.func12, Tryz.ntmps12
      go_wp2_with fail
      refine HL.out.mono ?_
      rintro e w' ⟨rfl, rfl⟩
      go_wp2_with fail
      refine (refProp_any _ (s.extract 2 3) (by first | (rw [ByteArray.size_extract]; omega) | omega)).mono ?_
      rintro e w2 ⟨v, out, c9, rfl, hc9, ho, hb9⟩
      rw [← data_toList] at hc9
      have HB := Lib.hid hb9
      have HO := Lib.hid ho
      cases hl : Cl.lookC Cl.propT (s.extract 2 3).data.toList with
      | none =>
        rw [hl] at hc9
        obtain ⟨rfl, rfl⟩ := hc9
        have HR : Hid (R = (none, 0, 70)) := Lib.hid (by rw [HPX.out, hl])
        clear hl ho hb9
        go_wp2
        go_ret3
        rw [HR.out]
        exact ⟨.slice none 0 0, [], rfl, rfl, RgOwn.nil, HB.out⟩
      | some x =>
        obtain ⟨b, T⟩ := x
        rw [hl] at hc9
        have HS := Lib.hid (Br.setIs_of hc9)
        obtain rfl : c9 = 0 := hc9.1
        have HR : Hid (R = (some (b != false, T), 3, 0)) := Lib.hid (by rw [HPX.out, hl])
        clear hl ho hb9 hc9
        go_wp2
        go_ret3
        rw [HR.out]
        exact ⟨v, out, rfl, by simpa using HS.out, HO.out, HB.out⟩
end Go.Proofs.YtcomjkoaieeidaaGreatDoor
namespace Go.Proofs.YtcomjkoaieeidaaGreatDoor
open Go.RowKit
set_option linter.unusedVariables false
set_option maxRecDepth 100000 in
set_option maxHeartbeats 4000000 in
theorem walkBracketEscapes (W : World) (s : ByteArray) (hs : s.size ≤ 140737488351232) (hE : Ev W) : Calls Tryz.prog 3 #[.string s] W fun e w' => e = .returned (.bool true) ∧ Below W.heap.size W w' := by
  have HE := Lib.hid hE
  clear hE
  by_cases h3 : 300 < s.size
  · have h3i : (300 : Int) < (s.size : Int) := by omega
    go_enter Tryz.func3, Tryz.ntmps3
    go_wp2_with fail
    refine (works7_any _ HE.out).mono ?_
    rintro e w1 ⟨rfl, hb⟩
    have HB := Lib.hid hb
    clear hb
    go_wp2
    go_ret
    exact ⟨rfl, HB.out⟩
  have h3i : ¬ (300 : Int) < (s.size : Int) := by omega
  have HN := Lib.hid (fun w => bNumber_any w s hs)
  have HM := Lib.hid (fun w => rNumber_any w s hs)
  have HS := Lib.hid (fun w hw => bSet_any w s (by omega) hw)
  have HT := Lib.hid (fun w => rSet_any w s (by omega))
  obtain ⟨⟨r, n, c⟩, hp⟩ : ∃ p, Br.num (Utf.nums s) = p := ⟨_, rfl⟩
  obtain ⟨⟨X, k, g⟩, hq⟩ : ∃ p, Br.set s = p := ⟨_, rfl⟩
  rw [hp] at HN HM
  rw [hq] at HS HT
  dsimp only at HN HM
  clear hp hq h3
  go_enter Tryz.func3, Tryz.ntmps3
  go_wp2_with fail
  refine (HN.out _).mono ?_
  rintro e w' ⟨rfl, rfl⟩
  go_wp2_with fail
  refine (HM.out _).mono ?_
  rintro e w' ⟨rfl, rfl⟩
  go_wp2_with fail
  refine (HS.out _ HE.out).mono ?_
  rintro e w1 ⟨v1, o1, rfl, hi1, ho1, hb1⟩
  have HB1 := Lib.hid hb1
  have HI1 := Lib.hid hi1
  have HO1 := Lib.hid ho1
  clear hi1 ho1 hb1
  go_wp2_with fail
  refine (HT.out _).mono ?_
  rintro e w2 ⟨v2, o2, rfl, hi2, ho2, hb2⟩
  have HEQ := Lib.hid (Br.setIs_unique HI1.out hi2)
  have HR1 := Lib.hid (setIs_row HI1.out (HO1.out.below hb2))
  have HR2 := Lib.hid (setIs_row hi2 ho2)
  have HB2 := Lib.hid (HB1.out.trans (hb2.mono HB1.out.size))
  clear hi2 ho2 hb2
  go_wp2_with fail
  refine (same_refl_row _ _ _ _ _ HR1.out HR2.out HEQ.out).mono ?_
  rintro e w3 ⟨rfl, hb3⟩
  have HB3 := Lib.hid (HB2.out.trans (hb3.mono HB2.out.size))
  clear hb3
  go_wp2_with fail
  refine (works7_any _ (HE.out.below (Nat.le_refl _) HB3.out)).mono ?_
  rintro e w4 ⟨rfl, hb4⟩
  have HB4 := Lib.hid (HB3.out.trans (hb4.mono HB3.out.size))
  clear hb4
  go_wp2
  go_ret
  exact ⟨rfl, HB4.out⟩
end Go.Proofs.YtcomjkoaieeidaaGreatDoor
