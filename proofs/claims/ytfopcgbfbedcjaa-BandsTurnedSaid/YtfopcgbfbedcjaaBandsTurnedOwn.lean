/- The law BandsTurned, walked. -/
import Derived.Test.YtfopcgbfbedcjaaGp30
import Derived.Test.YtfopcgbfbedcjaaGp33
import Derived.Test.YtfopcgbfbedcjaaGp8
namespace Go.Proofs.Ytfopcgbfbedcjaa
open Go.RowKit
set_option linter.unusedVariables false
theorem turn_ok {L : List (List (Int × Int))} (h : Bd.SeqOk L) : Bd.SeqOk (Bd.turnL L) := by
  refine ⟨by unfold Bd.turnL; rw [List.length_map]; exact h.len, fun q hq => ?_⟩
  unfold Bd.turnL at hq
  obtain ⟨p, hp, rfl⟩ := List.mem_map.1 hq
  have := h.each p hp
  exact ⟨by rw [List.length_reverse]; exact this.1, fun x hx => this.2 x (List.mem_reverse.1 hx)⟩
/-- One more byte in front. -/
theorem back_step (T bk : ByteArray) (xs : List Int) (i : Nat) (hT : Utf.nums T = xs) (hi : i < xs.length) (hb : Utf.nums bk = (xs.take i).reverse) : Utf.nums (T.extract i (i + 1) ++ bk) = (xs.take (i + 1)).reverse := by
  rw [nums_append, Utf.nums_extract, hT, hb, List.take_succ_eq_append_getElem hi, List.reverse_append, show i + 1 - i = 1 from by omega, List.drop_eq_getElem_cons hi]
  rfl
set_option maxRecDepth 100000 in
set_option maxHeartbeats 8000000 in
theorem walkBandsTurned (W : World) (v : Value) (l : List (Int × Int)) (r : Int) (hr : RRow W v l) (wr1 : (Lit.int .i64 r).wf = true) :
    Calls Try.prog 7 #[v, .int .i64 r] W fun e w' => e = .returned (.bool true) ∧ Below W.heap.size W w' := by
  have HR := Lib.hid hr
  obtain ⟨a, cap, rfl, hl, _⟩ := hr
  obtain ⟨n, hn⟩ : ∃ n, l.length = n := ⟨_, rfl⟩
  rw [hn] at HR hl ⊢
  clear hn wr1
  go_enter Try.func7, Try.ntmps7
  go_wp2_with fail
  refine (works5_any _).mono ?_
  rintro e w1 ⟨rfl, hb⟩
  have D1 := Lib.hid hb
  clear hb
  by_cases h20 : 20 < n
  · go_wp2
    go_ret
    exact ⟨rfl, D1.out⟩
  have hne : ¬ (20 : Int) < (n : Int) := by omega
  go_wp2_with fail
  refine (of_any _ _ l (HR.out.below (Nat.le_refl _) D1.out)).mono ?_
  rintro e w2 ⟨C, hC, v2, us2, rfl, hq, hb⟩
  obtain ⟨I, hI⟩ := Bd.setI hC
  have HOK := Lib.hid (Bd.ofL_ok hC.norm)
  have HQ := Lib.hid (hq.row2 (Bd.ofL_ok hC.norm))
  have HI := Lib.hid hI
  have D2 := Lib.hid (D1.out.trans (hb.mono D1.out.size))
  obtain ⟨L, hL⟩ : ∃ L, Bd.ofL C = L := ⟨_, rfl⟩
  rw [hL] at HQ HI HOK
  obtain ⟨b2, c2, rfl, hln, _⟩ := HQ.out
  have HTK := Lib.hid (turn_ok HOK.out)
  have HLN : Hid (L.length ≤ 1000000000) := Lib.hid (by have := HOK.out.len; omega)
  have HLE : Hid (∀ q ∈ L, q.length ≤ 1000000) := Lib.hid (fun q hq => by have := (HOK.out.each q hq).1; omega)
  have HTN : Hid ((Bd.turnL L).length ≤ 1000000000) := Lib.hid (by have := HTK.out.len; omega)
  have HTE : Hid (∀ q ∈ Bd.turnL L, q.length ≤ 1000000) := Lib.hid (fun q hq => by have := (HTK.out.each q hq).1; omega)
  clear hq hb hC hI hL
  by_cases hw : Utf.width r = 0
  · go_wp2_with fail
    refine (encode_no r hw _).mono ?_
    rintro e w6 ⟨rfl, rfl⟩
    go_wp2
    go_ret
    exact ⟨rfl, D2.out⟩
  · obtain ⟨T, hT⟩ : ∃ T, strOfNums (Utf.encN r) = T := ⟨_, rfl⟩
    have hts : T.size = (Utf.encN r).length := by rw [← hT, size_strOf]
    have hl4 := Utf.encN_length r
    have hw4 := Utf.width_le r
    have hnt : Utf.nums T = Utf.encN r := by rw [← hT, nums_strOf _ (Utf.encN_bytes _)]
    have hdd : (Utf.dec (Utf.nums T)).1 = r := by
      have := Utf.dec_enc r hw []
      rw [List.append_nil] at this
      rw [hnt, this]
    have HEN := Lib.hid (encode_yes r hw)
    rw [hT] at HEN
    obtain ⟨k, hk⟩ : ∃ k : Nat, Utf.width r = k := ⟨(Utf.width r).toNat, by omega⟩
    have htk : T.size = k := by omega
    have hk4 : k ≤ 4 := by omega
    have hkl : (Utf.encN r).length = k := by omega
    have HKL := Lib.hid hkl
    have HNT := Lib.hid hnt
    have HLONG : Hid (∀ bk, Utf.nums bk = (Utf.encN r).reverse → Bd.longN (Bd.turnL L) bk = Bd.longN L T) := Lib.hid (fun bk hbk => by
      by_cases hh : Rg.hasB l r = true
      · rw [HI.out.turnYes hbk hh hw, HI.out.yes T hdd hh hw]
      · rw [HI.out.turnNo hbk hh hw, HI.out.no T hdd (fun e => hh e.1)])
    clear hT hts hl4 hw4 hdd hkl hnt hw hk
    go_wp2_with fail
    refine (HEN.out _).mono ?_
    rintro e w6 ⟨rfl, hb⟩
    have D6 := Lib.hid (D2.out.trans (hb.mono D2.out.size))
    have HQ6 := Lib.hid (HQ.out.below hb)
    clear hb
    go_wp2
    go_loopw [8, 26] (fun B I wr => ∃ (i : Nat) (bk : ByteArray), i ≤ k ∧ I = .int .i64 i ∧ B = .string bk ∧ bk.size = i ∧ Hid (Utf.nums bk = ((Utf.encN r).take i).reverse) ∧ wr = w6) (fun _ I _ => k - (intOf I).toNat)
    case atStart => exact ⟨0, ⟨#[]⟩, Nat.zero_le _, rfl, rfl, rfl, Lib.hid rfl, rfl⟩
    case round =>
      obtain ⟨i, bk, hi, rfl, rfl, hbs, HBK, rfl⟩ := hrel
      by_cases hlt : i < k
      · have k0 : (0 : Int) ≤ (i : Int) := by omega
        have k1 : (i : Int) < (k : Int) := by omega
        have k2 : (i : Int) + 1 ≤ (k : Int) := by omega
        have hes : (T.extract i (i + 1)).size = 1 := by rw [ByteArray.size_extract]; omega
        have HST := Lib.hid (back_step T bk (Utf.encN r) i HNT.out (by rw [HKL.out]; exact hlt) HBK.out)
        have HSZ : Hid ((T.extract i (i + 1) ++ bk).size = i + 1) := Lib.hid (by rw [ByteArray.size_append, hes, hbs]; omega)
        have ht1 : ((i : Int) + 1).toNat = i + 1 := by omega
        go_wp2
        exact ⟨⟨i + 1, _, by omega, by go_num, rfl, HSZ.out, HST, trivial⟩, by simp [intOf]; omega⟩
      · obtain rfl : i = k := by omega
        have hbk := HBK.out
        rw [List.take_of_length_le (by rw [HKL.out]; exact Nat.le_refl _)] at hbk
        have HLO := Lib.hid (HLONG.out bk hbk)
        clear hbk
        go_wp2_with fail
        refine (turn_any _ _ L HQ6.out HLN.out HLE.out).mono ?_
        rintro e w7 ⟨v7, rfl, ⟨us7, hq⟩, hb⟩
        have HQ7 := Lib.hid (hq.row2 HTK.out)
        have D7 := Lib.hid (D6.out.trans (hb.mono D6.out.size))
        have HQS := Lib.hid (HQ6.out.below hb)
        clear hq hb
        go_wp2_with fail
        refine (turn_any _ _ (Bd.turnL L) HQ7.out HTN.out HTE.out).mono ?_
        rintro e w8 ⟨v8, rfl, ⟨us8, hq⟩, hb⟩
        rw [Bd.turnL_turnL] at hq
        have HQ8 := Lib.hid (hq.row2 HOK.out)
        have D8 := Lib.hid (D7.out.trans (hb.mono D7.out.size))
        have HQT := Lib.hid (HQS.out.below hb)
        clear hq hb HQ7 HQS
        go_wp2_with fail
        refine (same_seq_eq _ _ _ _ HQ8.out HQT.out).mono ?_
        rintro e w9 ⟨rfl, hb⟩
        have D9 := Lib.hid (D8.out.trans (hb.mono D8.out.size))
        have HQU := Lib.hid (HQT.out.below hb)
        clear hb HQ8 HQT
        go_wp2_with fail
        refine (turn_any _ _ L HQU.out HLN.out HLE.out).mono ?_
        rintro e w10 ⟨v10, rfl, ⟨us10, hq⟩, hb⟩
        have HQ10 := Lib.hid (hq.row2 HTK.out)
        have D10 := Lib.hid (D9.out.trans (hb.mono D9.out.size))
        have HQV := Lib.hid (HQU.out.below hb)
        clear hq hb HQU
        go_wp2_with fail
        refine (long_any _ _ (Bd.turnL L) bk (by omega) HQ10.out).mono ?_
        rintro e w11 ⟨rfl, hb⟩
        rw [HLO.out]
        have D11 := Lib.hid (D10.out.trans (hb.mono D10.out.size))
        have HQX := Lib.hid (HQV.out.below hb)
        clear hb HQ10 HQV
        go_wp2_with fail
        refine (long_any _ _ L T (by omega) HQX.out).mono ?_
        rintro e w12 ⟨rfl, hb⟩
        have D12 := Lib.hid (D11.out.trans (hb.mono D11.out.size))
        clear hb
        go_wp2
        go_ret
        exact ⟨rfl, D12.out⟩
end Go.Proofs.Ytfopcgbfbedcjaa
