/- The law BandsRunes, walked. -/
import Derived.Test.YtfopcgbfbedcjaaGp30
import Derived.Test.YtfopcgbfbedcjaaGp7
import Derived.Test.YtfopcgbfbedcjaaGp8
import Derived.Test.YtfopcgbfbedcjaaGp22
import Derived.Test.YtfopcgbfbedcjaaGp34
namespace Go.Proofs.Ytfopcgbfbedcjaa
open Go.RowKit
set_option linter.unusedVariables false
set_option maxRecDepth 100000 in
set_option maxHeartbeats 8000000 in
theorem walkBandsRunes (W : World) (v : Value) (l : List (Int × Int)) (r : Int) (s : ByteArray) (hr : RRow W v l) (wr1 : (Lit.int .i64 r).wf = true) (hs : s.size ≤ 140737488351232) :
    Calls Try.prog 5 #[v, .int .i64 r, .string s] W fun e w' => e = .returned (.bool true) ∧ Below W.heap.size W w' := by
  have HR := Lib.hid hr
  obtain ⟨a, cap, rfl, hl, _⟩ := hr
  obtain ⟨n, hn⟩ : ∃ n, l.length = n := ⟨_, rfl⟩
  rw [hn] at HR hl ⊢
  clear hn wr1
  go_enter Try.func5, Try.ntmps5
  go_wp2_with fail
  refine (works5_any _).mono ?_
  rintro e w1 ⟨rfl, hb⟩
  have D1 := Lib.hid hb
  clear hb
  by_cases h20 : 20 < n
  · go_wp2
    go_ret
    exact ⟨rfl, D1.out⟩
  have hne : ¬ (20 : Int) < (n : Int) := by omega
  go_wp2_with fail
  refine (of_any _ _ l (HR.out.below (Nat.le_refl _) D1.out)).mono ?_
  rintro e w2 ⟨C, hC, v2, us2, rfl, hq, hb⟩
  obtain ⟨I, hI⟩ := Bd.setI hC
  have HQ := Lib.hid (hq.row2 (Bd.ofL_ok hC.norm))
  have HI := Lib.hid hI
  have D2 := Lib.hid (D1.out.trans (hb.mono D1.out.size))
  obtain ⟨L, hL⟩ : ∃ L, Bd.ofL C = L := ⟨_, rfl⟩
  rw [hL] at HQ HI
  obtain ⟨b2, c2, rfl, hln, _⟩ := HQ.out
  clear hq hb hC hI hL
  go_wp2_with fail
  refine (long_any _ _ L s (by omega) HQ.out).mono ?_
  rintro e w3 ⟨rfl, hb⟩
  have D3 := Lib.hid (D2.out.trans (hb.mono D2.out.size))
  have HQ3 := Lib.hid (HQ.out.below hb)
  have HR3 := Lib.hid (HR.out.below (Nat.le_refl _) D3.out)
  clear hb
  obtain ⟨x, hx⟩ : ∃ x, (Utf.dec (Utf.nums s)).1 = x := ⟨_, rfl⟩
  have HX := Lib.hid hx
  clear hx
  by_cases hc : Rg.hasB l x = true ∧ Utf.width x ≠ 0
  · have hln2 := HI.out.yes s HX.out hc.1 hc.2
    have hdw := Bd.dec_w (Utf.nums s) (Utf.nums_bytes s) (by rw [HX.out]; exact hc.2)
    have hwp := Bd.width_pos hc.2
    have hwl := Utf.width_le x
    rw [HX.out] at hdw
    obtain ⟨m, hm⟩ : ∃ m, Utf.width x = m := ⟨_, rfl⟩
    rw [hm] at hln2 hdw hwl
    have hm0 : 0 < m := by have := hc.2; omega
    have HDW := Lib.hid hdw
    have HHX := Lib.hid hc.1
    have hxn : ¬ x < 0 := by omega
    have hxd : decide (x < 0) = false := decide_eq_false hxn
    rw [hln2]
    clear hln2 hdw hwp hwl hm hc
    go_wp2_with fail
    refine (decode_any s (by unfold maxLen; omega) _).mono ?_
    rintro e w4 ⟨rfl, d4, rfl⟩
    rw [HX.out, HDW.out]
    have D4 := Lib.hid (below_drewN D3.out d4)
    go_wp2_with fail
    refine (has_any _ _ l x (HR.out.below (Nat.le_refl _) D4.out)).mono ?_
    rintro e w5 ⟨rfl, hb⟩
    rw [HHX.out]
    have D5 := Lib.hid (D4.out.trans (hb.mono D4.out.size))
    have HQ5 := Lib.hid ((HQ3.out.below (below_drewN (Below.refl _ _) d4)).below hb)
    clear hb
    by_cases hw : Utf.width r = 0
    · go_wp2_with fail
      refine (encode_no r hw _).mono ?_
      rintro e w6 ⟨rfl, rfl⟩
      go_wp2
      go_ret
      exact ⟨rfl, D5.out⟩
    · obtain ⟨T, hT⟩ : ∃ T, strOfNums (Utf.encN r) = T := ⟨_, rfl⟩
      have hts : T.size = (Utf.encN r).length := by rw [← hT, size_strOf]
      have hl4 := Utf.encN_length r
      have hw4 := Utf.width_le r
      have hdd : (Utf.dec (Utf.nums (T ++ s))).1 = r := by
        rw [nums_append, ← hT, nums_strOf _ (Utf.encN_bytes _), Utf.dec_enc r hw]
      have hTs : (T ++ s).size ≤ 4611686018427387904 := by rw [ByteArray.size_append]; omega
      have HEN := Lib.hid (encode_yes r hw)
      rw [hT] at HEN
      obtain ⟨k, hk⟩ : ∃ k : Nat, Utf.width r = k := ⟨(Utf.width r).toNat, by omega⟩
      have htk : T.size = k := by omega
      have hk0 : k ≠ 0 := by omega
      have hk4 : k ≤ 4 := by omega
      by_cases hh : Rg.hasB l r = true
      · have hlr := HI.out.yes (T ++ s) hdd hh hw
        rw [hk] at hlr
        have HLR := Lib.hid hlr
        have HTS := Lib.hid hTs
        have HHR := Lib.hid hh
        clear hT hts hl4 hw4 hdd hTs hlr hh hw hk
        go_wp2_with fail
        refine (HEN.out _).mono ?_
        rintro e w6 ⟨rfl, hb⟩
        have D6 := Lib.hid (D5.out.trans (hb.mono D5.out.size))
        have HQ6 := Lib.hid (HQ5.out.below hb)
        clear hb
        go_wp2_with fail
        refine (long_any _ _ L (T ++ s) HTS.out HQ6.out).mono ?_
        rintro e w7 ⟨rfl, hb⟩
        rw [HLR.out]
        have D7 := Lib.hid (D6.out.trans (hb.mono D6.out.size))
        clear hb
        go_wp2_with fail
        refine (has_any _ _ l r (HR.out.below (Nat.le_refl _) D7.out)).mono ?_
        rintro e w8 ⟨rfl, hb⟩
        rw [HHR.out]
        have D8 := Lib.hid (D7.out.trans (hb.mono D7.out.size))
        clear hb
        go_wp2
        go_ret
        exact ⟨rfl, D8.out⟩
      · have hlr := HI.out.no (T ++ s) hdd (fun e => hh e.1)
        have HLR := Lib.hid hlr
        have HTS := Lib.hid hTs
        have HHR : Hid (Rg.hasB l r = false) := Lib.hid (by simpa using hh)
        have hz : ((0 : Int) == (k : Int)) = false := by rw [beq_eq_false_iff_ne]; omega
        clear hT hts hl4 hw4 hdd hTs hlr hh hw hk
        go_wp2_with fail
        refine (HEN.out _).mono ?_
        rintro e w6 ⟨rfl, hb⟩
        have D6 := Lib.hid (D5.out.trans (hb.mono D5.out.size))
        have HQ6 := Lib.hid (HQ5.out.below hb)
        clear hb
        go_wp2_with fail
        refine (long_any _ _ L (T ++ s) HTS.out HQ6.out).mono ?_
        rintro e w7 ⟨rfl, hb⟩
        rw [HLR.out]
        have D7 := Lib.hid (D6.out.trans (hb.mono D6.out.size))
        clear hb
        go_wp2_with fail
        refine (has_any _ _ l r (HR.out.below (Nat.le_refl _) D7.out)).mono ?_
        rintro e w8 ⟨rfl, hb⟩
        rw [HHR.out]
        have D8 := Lib.hid (D7.out.trans (hb.mono D7.out.size))
        clear hb
        go_wp2
        go_ret
        exact ⟨rfl, D8.out⟩
  · have hln2 := HI.out.no s HX.out hc
    rw [hln2]
    have D5 := D3
    have HQ5 := HQ3
    clear hln2 hc
    by_cases hw : Utf.width r = 0
    · go_wp2_with fail
      refine (encode_no r hw _).mono ?_
      rintro e w6 ⟨rfl, rfl⟩
      go_wp2
      go_ret
      exact ⟨rfl, D5.out⟩
    · obtain ⟨T, hT⟩ : ∃ T, strOfNums (Utf.encN r) = T := ⟨_, rfl⟩
      have hts : T.size = (Utf.encN r).length := by rw [← hT, size_strOf]
      have hl4 := Utf.encN_length r
      have hw4 := Utf.width_le r
      have hdd : (Utf.dec (Utf.nums (T ++ s))).1 = r := by
        rw [nums_append, ← hT, nums_strOf _ (Utf.encN_bytes _), Utf.dec_enc r hw]
      have hTs : (T ++ s).size ≤ 4611686018427387904 := by rw [ByteArray.size_append]; omega
      have HEN := Lib.hid (encode_yes r hw)
      rw [hT] at HEN
      obtain ⟨k, hk⟩ : ∃ k : Nat, Utf.width r = k := ⟨(Utf.width r).toNat, by omega⟩
      have htk : T.size = k := by omega
      have hk0 : k ≠ 0 := by omega
      have hk4 : k ≤ 4 := by omega
      by_cases hh : Rg.hasB l r = true
      · have hlr := HI.out.yes (T ++ s) hdd hh hw
        rw [hk] at hlr
        have HLR := Lib.hid hlr
        have HTS := Lib.hid hTs
        have HHR := Lib.hid hh
        clear hT hts hl4 hw4 hdd hTs hlr hh hw hk
        go_wp2_with fail
        refine (HEN.out _).mono ?_
        rintro e w6 ⟨rfl, hb⟩
        have D6 := Lib.hid (D5.out.trans (hb.mono D5.out.size))
        have HQ6 := Lib.hid (HQ5.out.below hb)
        clear hb
        go_wp2_with fail
        refine (long_any _ _ L (T ++ s) HTS.out HQ6.out).mono ?_
        rintro e w7 ⟨rfl, hb⟩
        rw [HLR.out]
        have D7 := Lib.hid (D6.out.trans (hb.mono D6.out.size))
        clear hb
        go_wp2_with fail
        refine (has_any _ _ l r (HR.out.below (Nat.le_refl _) D7.out)).mono ?_
        rintro e w8 ⟨rfl, hb⟩
        rw [HHR.out]
        have D8 := Lib.hid (D7.out.trans (hb.mono D7.out.size))
        clear hb
        go_wp2
        go_ret
        exact ⟨rfl, D8.out⟩
      · have hlr := HI.out.no (T ++ s) hdd (fun e => hh e.1)
        have HLR := Lib.hid hlr
        have HTS := Lib.hid hTs
        have HHR : Hid (Rg.hasB l r = false) := Lib.hid (by simpa using hh)
        have hz : ((0 : Int) == (k : Int)) = false := by rw [beq_eq_false_iff_ne]; omega
        clear hT hts hl4 hw4 hdd hTs hlr hh hw hk
        go_wp2_with fail
        refine (HEN.out _).mono ?_
        rintro e w6 ⟨rfl, hb⟩
        have D6 := Lib.hid (D5.out.trans (hb.mono D5.out.size))
        have HQ6 := Lib.hid (HQ5.out.below hb)
        clear hb
        go_wp2_with fail
        refine (long_any _ _ L (T ++ s) HTS.out HQ6.out).mono ?_
        rintro e w7 ⟨rfl, hb⟩
        rw [HLR.out]
        have D7 := Lib.hid (D6.out.trans (hb.mono D6.out.size))
        clear hb
        go_wp2_with fail
        refine (has_any _ _ l r (HR.out.below (Nat.le_refl _) D7.out)).mono ?_
        rintro e w8 ⟨rfl, hb⟩
        rw [HHR.out]
        have D8 := Lib.hid (D7.out.trans (hb.mono D7.out.size))
        clear hb
        go_wp2
        go_ret
        exact ⟨rfl, D8.out⟩
end Go.Proofs.Ytfopcgbfbedcjaa
