/- The landed bracket: Bracket. -/
import Derived.Test.YtecclhmjmceheaaGreatDoorGp24
import Derived.Test.YtecclhmjmceheaaGreatDoorGp27
import Derived.Test.YtecclhmjmceheaaGreatDoorGp17
import Derived.Test.YtecclhmjmceheaaGreatDoorGp9
namespace Go.Proofs.YtecclhmjmceheaaGreatDoor
open Go.RowKit
set_option linter.unusedVariables false
/-- What Bracket hands back. -/
def BrkPost (s : ByteArray) (fold : Bool) (W : World) (e : Ending) (w' : World) : Prop :=
  Below W.heap.size W w' ∧ ((∃ o c, Br.brack s = .bad o c ∧ e = .returned (.tuple #[.slice none 0 0, .int .i64 o, .int .i64 c])) ∨
    (∃ Xs at_ v out, Br.brack s = .ok Xs at_ ∧ e = .returned (.tuple #[v, .int .i64 ((at_ + 1 : Nat) : Int), .int .i64 0]) ∧ Br.BrIs Xs fold (decide (Br.first (Utf.nums s) = 2)) out ∧ RgOwn w' W.heap.size v out))
set_option maxRecDepth 100000 in
set_option maxHeartbeats 8000000 in
theorem brk_any (W : World) (s : ByteArray) (hs : s.size ≤ 400) (flags : Int) (fo : Bool) (hfo : (bits .and .i64 flags 1 != 0) = fo) (hE : Ev W) :
    Calls Tryz.prog 90 #[.string s, .int .i64 flags] W (BrkPost s fo W) := by
  have hp := hasPre1 W s 91 (by decide)
  rw [show (((91 : UInt8).toNat : Nat) : Int) = 91 from rfl] at hp
  by_cases c0 : ¬ (Utf.nums s)[0]?.getD 0 = 91
  · have HR : Hid (Br.brack s = .bad 0 3) := Lib.hid (Br.brack_no c0)
    rw [decide_eq_false c0] at hp
    have HP := Lib.hid hp
    clear hp c0
    go_enter Tryz.func90, Tryz.ntmps90
    go_wp2_with fail
    refine HP.out.mono ?_
    rintro e w' ⟨rfl, rfl⟩
    go_wp2
    go_ret3
    exact ⟨Below.refl _ _, .inl ⟨_, _, HR.out, rfl⟩⟩
  have c0' : (Utf.nums s)[0]?.getD 0 = 91 := by omega
  have h1 : 1 ≤ s.size := by
    have := Br.getD_lt c0' (by decide)
    rw [Utf.nums_length] at this; exact this
  have h1i : (1 : Int) ≤ (s.size : Int) := by omega
  rw [decide_eq_true c0'] at hp
  have hp2 := fun w => hasPre1 w (s.extract 1 s.size) 94 (by decide)
  rw [show (((94 : UInt8).toNat : Nat) : Int) = 94 from rfl, tail_drop, List.getElem?_drop] at hp2
  have HP := Lib.hid hp
  have HP2 := Lib.hid hp2
  clear hp hp2
  go_enter Tryz.func90, Tryz.ntmps90
  go_wp2_with fail
  refine HP.out.mono ?_
  rintro e w' ⟨rfl, rfl⟩
  by_cases c1 : (Utf.nums s)[1]?.getD 0 = 94
  · have HQ1 := HP2.out
    simp only [Nat.add_zero, c1, decide_true] at HQ1
    have HQ2 := Lib.hid HQ1
    clear HQ1
    have HFS : Hid (decide (Br.first (Utf.nums s) = 2) = true) := Lib.hid (by unfold Br.first; rw [if_pos c1]; rfl)
    have HBK0 : Hid (Br.brack s = Br.rest s 2 2 []) := Lib.hid (by rw [Br.brack_yes c0']; unfold Br.first; rw [if_pos c1])
    obtain ⟨RR, hRR⟩ : ∃ RR, Br.rest s 2 2 [] = RR := ⟨_, rfl⟩
    have HBK : Hid (Br.brack s = RR) := Lib.hid (HBK0.out.trans hRR)
    have HRR := Lib.hid hRR
    have hf2 : 2 ≤ s.size := by
      have := Br.getD_lt c1 (by decide); rw [Utf.nums_length] at this; omega
    have HB0 : Hid (Below W.heap.size W (W.alloc (.cells #[.slice none 0 0] 33))) := Lib.hid ((Below.refl _ W).alloc (Nat.le_refl _) _)
    have HST0 : Hid (St W.heap.size W.heap.size [] (W.alloc (.cells #[.slice none 0 0] 33))) := Lib.hid ⟨_, Boxed.new _ _ _, RgOwn.nil⟩
    have HE := Lib.hid hE
    clear c1 c0 c0' hRR hE
    go_wp2_with fail
    refine (HQ2.out _).mono ?_
    rintro e w' ⟨rfl, rfl⟩
    go_wp2
    go_loopw [7, 6] (fun A E wr => ∃ (k : Nat) (L : List (Int × Int)) (Xs : List Br.It), 2 ≤ k ∧ k ≤ s.size ∧ A = .int .i64 (k : Int) ∧ L.length ≤ k * 1114113 ∧ Hid (Br.rest s 2 k Xs = RR) ∧ Hid (Br.ItsIs Xs L) ∧ Hid (Br.Runes L) ∧ Hid (St W.heap.size W.heap.size L wr) ∧ Hid (Below W.heap.size W wr)) (fun A _ _ => s.size - (intOf A).toNat)
    case atStart => exact ⟨2, [], [], Nat.le_refl _, hf2, rfl, Nat.zero_le _, HRR, Lib.hid .nil, Lib.hid (fun p hp => by cases hp), HST0, HB0⟩
    case round =>
      obtain ⟨k, L, Xs, hk1, hk2', rfl, hLl, HRS, HIT, HRN, HST, HBW⟩ := hrel
      have hki : (k : Int) ≤ (s.size : Int) := by omega
      have HP5 := Lib.hid (fun w => hasPre1 w (s.extract k s.size) 93 (by decide))
      rw [show (((93 : UInt8).toNat : Nat) : Int) = 93 from rfl, tail_drop, List.getElem?_drop, Nat.add_zero] at HP5
      obtain ⟨vu, hbx, hu⟩ := HST.out
      have HU := Lib.hid hu
      have hbc := hbx.cell
      have hE1 := HE.out.below (Nat.le_refl _) HBW.out
      have HIA := Lib.hid (bItem_any wr s (by omega) k W.heap.size W.heap.size L hk2' hE1 HBW.out.size (Nat.le_refl _) HST.out (by omega))
      clear hbx hu hE1
      by_cases hend : k = s.size
      · have HRB : Hid (Br.brack s = .bad (k : Nat) 82) := Lib.hid (HBK.out.trans (HRS.out.symm.trans (by rw [hend]; exact Br.rest_end (Nat.le_refl _))))
        have h82 : ((k : Int) == (s.size : Int)) = true := by simp [hend]
        have HND : Hid (decide ((Utf.nums s)[k]?.getD 0 = 93) = false) := Lib.hid (decide_eq_false (by rw [List.getElem?_eq_none (by rw [Utf.nums_length]; omega)]; decide))
        rw [HND.out] at HP5
        by_cases hf : k = 2
        · have hfb : ((k : Int) == 2) = true := by simp [hf]
          clear hend hf HIA
          go_wp2
          go_ret3
          exact ⟨HBW.out, .inl ⟨_, _, HRB.out, rfl⟩⟩
        · have hfb : ((k : Int) == 2) = false := by simp; omega
          clear hend hf HIA
          go_wp2_with fail
          refine (HP5.out _).mono ?_
          rintro e w' ⟨rfl, rfl⟩
          go_wp2
          go_ret3
          exact ⟨HBW.out, .inl ⟨_, _, HRB.out, rfl⟩⟩
      have hk2 : k < s.size := by omega
      have h82 : ((k : Int) == (s.size : Int)) = false := by simp; omega
      by_cases hf : k = 2
      · have hfb : ((k : Int) == 2) = true := by simp [hf]
        have HNC : Hid (¬ ((Utf.nums s)[k]?.getD 0 = 93 ∧ 2 < k)) := Lib.hid (by omega)
        clear hend hf
        go_wp2_with fail
        refine HIA.out.mono ?_
        intro e w1 hpost
        rcases hpost with ⟨hb1, ⟨o, c, hx, rfl⟩ | ⟨x, nx, l, hx, rfl, hi1, hs1⟩⟩
        · have hc0 : (c != 0) = true := by simpa using Br.item_ne s k o c hx
          have HRB : Hid (Br.brack s = .bad o c) := Lib.hid (HBK.out.trans (HRS.out.symm.trans (Br.rest_bad hk2 HNC.out hx)))
          have HB1 := Lib.hid (HBW.out.trans hb1)
          clear hx hb1 hbc
          go_wp2
          go_ret3
          exact ⟨HB1.out, .inl ⟨_, _, HRB.out, rfl⟩⟩
        · have hbd := Br.item_bd s k x nx hx
          have HRS2 : Hid (Br.rest s 2 nx (Xs ++ [x]) = RR) := Lib.hid ((Br.rest_step hk2 HNC.out hx).symm.trans HRS.out)
          have HIT2 := Lib.hid (Br.ItsIs.snoc HIT.out hi1)
          have HRN2 := Lib.hid (Br.runes_app HRN.out (Br.itIs_runes (Br.item_ok s k x nx hx) hi1))
          have HB1 := Lib.hid (HBW.out.trans hb1)
          have HS1 := Lib.hid hs1
          have hln := Br.itIs_len hi1
          have HLN : Hid ((L ++ l).length ≤ nx * 1114113) := Lib.hid (by rw [List.length_append]; omega)
          clear hx hb1 hbc hs1 hi1 hln
          go_wp2
          go_roundw
          case rel => exact ⟨nx, L ++ l, Xs ++ [x], by omega, by omega, rfl, HLN.out, HRS2, HIT2, HRN2, HS1, HB1⟩
          case measure => simp [intOf]; omega

      have hfb : ((k : Int) == 2) = false := by simp; omega
      by_cases h93 : (Utf.nums s)[k]?.getD 0 = 93
      · rw [decide_eq_true h93] at HP5
        have HRO : Hid (Br.brack s = .ok Xs k) := Lib.hid (HBK.out.trans (HRS.out.symm.trans (Br.rest_close hk2 h93 (by omega))))
        obtain ⟨k1, hk1e⟩ : ∃ k1, k + 1 = k1 := ⟨_, rfl⟩
        have hw : IntKind.i64.wrap ((k : Int) + 1) = (k1 : Int) := by rw [IntKind.wrap_i64]; omega
        have HK1 := Lib.hid hk1e
        clear hend hf h93 HIA hk1e
        cases fo with
        | true =>
          go_wp2_with fail
          refine (HP5.out _).mono ?_
          rintro e w' ⟨rfl, rfl⟩
          go_wp2_with fail
          refine (norm_any _ vu L (RgOwn.row HU.out (by omega) (Br.runes_wide HRN.out))).mono ?_
          rintro e w1 ⟨v1, M1, rfl, hm1, ho1, hb1⟩
          have HM1 := Lib.hid hm1
          have HO1 := Lib.hid (ho1.lower HBW.out.size)
          have HB1 := Lib.hid (HBW.out.trans (hb1.mono HBW.out.size))
          clear hm1 ho1 hb1 hbc
          go_wp2_with fail
          refine (close_any _ v1 M1 (RgOwn.normRow HO1.out HM1.out.norm)).mono ?_
          rintro e w2 ⟨v2, o2, rfl, hn2, hc2, ho2, hb2⟩
          have HI2 := Lib.hid (Br.brIs_fold HIT.out HM1.out hn2 hc2)
          have HO2 := Lib.hid (ho2.lower HB1.out.size)
          have HB2 := Lib.hid (HB1.out.trans (hb2.mono HB1.out.size))
          have HN2 := Lib.hid hn2
          clear hn2 hc2 ho2 hb2
          go_wp2_with fail
          refine (not_any _ v2 _ (RgOwn.normRow HO2.out HN2.out)).mono ?_
          rintro e w3 ⟨v3, o3, rfl, hm3, ho3, hb3⟩
          have HI3 := Lib.hid (Br.brIs_not HI2.out hm3)
          have HO3 := Lib.hid (ho3.lower HB2.out.size)
          have HB3 := Lib.hid (HB2.out.trans (hb3.mono HB2.out.size))
          clear hm3 ho3 hb3
          go_wp2
          go_ret3
          refine ⟨HB3.out, .inr ⟨Xs, k, v3, _, HRO.out, by rw [HK1.out]; rfl, ?_, HO3.out⟩⟩
          rw [HFS.out]
          exact HI3.out
        | false =>
          go_wp2_with fail
          refine (HP5.out _).mono ?_
          rintro e w' ⟨rfl, rfl⟩
          go_wp2_with fail
          refine (norm_any _ vu L (RgOwn.row HU.out (by omega) (Br.runes_wide HRN.out))).mono ?_
          rintro e w1 ⟨v1, M1, rfl, hm1, ho1, hb1⟩
          have HM1 := Lib.hid hm1
          have HO1 := Lib.hid (ho1.lower HBW.out.size)
          have HB1 := Lib.hid (HBW.out.trans (hb1.mono HBW.out.size))
          clear hm1 ho1 hb1 hbc
          have HI1 := Lib.hid (Br.brIs_plain HIT.out HM1.out)
          go_wp2_with fail
          refine (not_any _ v1 _ (RgOwn.normRow HO1.out HM1.out.norm)).mono ?_
          rintro e w3 ⟨v3, o3, rfl, hm3, ho3, hb3⟩
          have HI3 := Lib.hid (Br.brIs_not HI1.out hm3)
          have HO3 := Lib.hid (ho3.lower HB1.out.size)
          have HB3 := Lib.hid (HB1.out.trans (hb3.mono HB1.out.size))
          clear hm3 ho3 hb3
          go_wp2
          go_ret3
          refine ⟨HB3.out, .inr ⟨Xs, k, v3, _, HRO.out, by rw [HK1.out]; rfl, ?_, HO3.out⟩⟩
          rw [HFS.out]
          exact HI3.out
      · rw [decide_eq_false h93] at HP5
        have HNC : Hid (¬ ((Utf.nums s)[k]?.getD 0 = 93 ∧ 2 < k)) := Lib.hid (by omega)
        clear hend hf h93
        go_wp2_with fail
        refine (HP5.out _).mono ?_
        rintro e w' ⟨rfl, rfl⟩
        go_wp2_with fail
        refine HIA.out.mono ?_
        intro e w1 hpost
        rcases hpost with ⟨hb1, ⟨o, c, hx, rfl⟩ | ⟨x, nx, l, hx, rfl, hi1, hs1⟩⟩
        · have hc0 : (c != 0) = true := by simpa using Br.item_ne s k o c hx
          have HRB : Hid (Br.brack s = .bad o c) := Lib.hid (HBK.out.trans (HRS.out.symm.trans (Br.rest_bad hk2 HNC.out hx)))
          have HB1 := Lib.hid (HBW.out.trans hb1)
          clear hx hb1 hbc
          go_wp2
          go_ret3
          exact ⟨HB1.out, .inl ⟨_, _, HRB.out, rfl⟩⟩
        · have hbd := Br.item_bd s k x nx hx
          have HRS2 : Hid (Br.rest s 2 nx (Xs ++ [x]) = RR) := Lib.hid ((Br.rest_step hk2 HNC.out hx).symm.trans HRS.out)
          have HIT2 := Lib.hid (Br.ItsIs.snoc HIT.out hi1)
          have HRN2 := Lib.hid (Br.runes_app HRN.out (Br.itIs_runes (Br.item_ok s k x nx hx) hi1))
          have HB1 := Lib.hid (HBW.out.trans hb1)
          have HS1 := Lib.hid hs1
          have hln := Br.itIs_len hi1
          have HLN : Hid ((L ++ l).length ≤ nx * 1114113) := Lib.hid (by rw [List.length_append]; omega)
          clear hx hb1 hbc hs1 hi1 hln
          go_wp2
          go_roundw
          case rel => exact ⟨nx, L ++ l, Xs ++ [x], by omega, by omega, rfl, HLN.out, HRS2, HIT2, HRN2, HS1, HB1⟩
          case measure => simp [intOf]; omega
  · have HQ1 := HP2.out
    simp only [Nat.add_zero, c1, decide_false] at HQ1
    have HQ2 := Lib.hid HQ1
    clear HQ1
    have HFS : Hid (decide (Br.first (Utf.nums s) = 2) = false) := Lib.hid (by unfold Br.first; rw [if_neg c1]; rfl)
    have HBK0 : Hid (Br.brack s = Br.rest s 1 1 []) := Lib.hid (by rw [Br.brack_yes c0']; unfold Br.first; rw [if_neg c1])
    obtain ⟨RR, hRR⟩ : ∃ RR, Br.rest s 1 1 [] = RR := ⟨_, rfl⟩
    have HBK : Hid (Br.brack s = RR) := Lib.hid (HBK0.out.trans hRR)
    have HRR := Lib.hid hRR
    have hf2 : 1 ≤ s.size := by
      omega
    have HB0 : Hid (Below W.heap.size W (W.alloc (.cells #[.slice none 0 0] 33))) := Lib.hid ((Below.refl _ W).alloc (Nat.le_refl _) _)
    have HST0 : Hid (St W.heap.size W.heap.size [] (W.alloc (.cells #[.slice none 0 0] 33))) := Lib.hid ⟨_, Boxed.new _ _ _, RgOwn.nil⟩
    have HE := Lib.hid hE
    clear c1 c0 c0' hRR hE
    go_wp2_with fail
    refine (HQ2.out _).mono ?_
    rintro e w' ⟨rfl, rfl⟩
    go_wp2
    go_loopw [7, 6] (fun A E wr => ∃ (k : Nat) (L : List (Int × Int)) (Xs : List Br.It), 1 ≤ k ∧ k ≤ s.size ∧ A = .int .i64 (k : Int) ∧ L.length ≤ k * 1114113 ∧ Hid (Br.rest s 1 k Xs = RR) ∧ Hid (Br.ItsIs Xs L) ∧ Hid (Br.Runes L) ∧ Hid (St W.heap.size W.heap.size L wr) ∧ Hid (Below W.heap.size W wr)) (fun A _ _ => s.size - (intOf A).toNat)
    case atStart => exact ⟨1, [], [], Nat.le_refl _, hf2, rfl, Nat.zero_le _, HRR, Lib.hid .nil, Lib.hid (fun p hp => by cases hp), HST0, HB0⟩
    case round =>
      obtain ⟨k, L, Xs, hk1, hk2', rfl, hLl, HRS, HIT, HRN, HST, HBW⟩ := hrel
      have hki : (k : Int) ≤ (s.size : Int) := by omega
      have HP5 := Lib.hid (fun w => hasPre1 w (s.extract k s.size) 93 (by decide))
      rw [show (((93 : UInt8).toNat : Nat) : Int) = 93 from rfl, tail_drop, List.getElem?_drop, Nat.add_zero] at HP5
      obtain ⟨vu, hbx, hu⟩ := HST.out
      have HU := Lib.hid hu
      have hbc := hbx.cell
      have hE1 := HE.out.below (Nat.le_refl _) HBW.out
      have HIA := Lib.hid (bItem_any wr s (by omega) k W.heap.size W.heap.size L hk2' hE1 HBW.out.size (Nat.le_refl _) HST.out (by omega))
      clear hbx hu hE1
      by_cases hend : k = s.size
      · have HRB : Hid (Br.brack s = .bad (k : Nat) 82) := Lib.hid (HBK.out.trans (HRS.out.symm.trans (by rw [hend]; exact Br.rest_end (Nat.le_refl _))))
        have h82 : ((k : Int) == (s.size : Int)) = true := by simp [hend]
        have HND : Hid (decide ((Utf.nums s)[k]?.getD 0 = 93) = false) := Lib.hid (decide_eq_false (by rw [List.getElem?_eq_none (by rw [Utf.nums_length]; omega)]; decide))
        rw [HND.out] at HP5
        by_cases hf : k = 1
        · have hfb : ((k : Int) == 1) = true := by simp [hf]
          clear hend hf HIA
          go_wp2
          go_ret3
          exact ⟨HBW.out, .inl ⟨_, _, HRB.out, rfl⟩⟩
        · have hfb : ((k : Int) == 1) = false := by simp; omega
          clear hend hf HIA
          go_wp2_with fail
          refine (HP5.out _).mono ?_
          rintro e w' ⟨rfl, rfl⟩
          go_wp2
          go_ret3
          exact ⟨HBW.out, .inl ⟨_, _, HRB.out, rfl⟩⟩
      have hk2 : k < s.size := by omega
      have h82 : ((k : Int) == (s.size : Int)) = false := by simp; omega
      by_cases hf : k = 1
      · have hfb : ((k : Int) == 1) = true := by simp [hf]
        have HNC : Hid (¬ ((Utf.nums s)[k]?.getD 0 = 93 ∧ 1 < k)) := Lib.hid (by omega)
        clear hend hf
        go_wp2_with fail
        refine HIA.out.mono ?_
        intro e w1 hpost
        rcases hpost with ⟨hb1, ⟨o, c, hx, rfl⟩ | ⟨x, nx, l, hx, rfl, hi1, hs1⟩⟩
        · have hc0 : (c != 0) = true := by simpa using Br.item_ne s k o c hx
          have HRB : Hid (Br.brack s = .bad o c) := Lib.hid (HBK.out.trans (HRS.out.symm.trans (Br.rest_bad hk2 HNC.out hx)))
          have HB1 := Lib.hid (HBW.out.trans hb1)
          clear hx hb1 hbc
          go_wp2
          go_ret3
          exact ⟨HB1.out, .inl ⟨_, _, HRB.out, rfl⟩⟩
        · have hbd := Br.item_bd s k x nx hx
          have HRS2 : Hid (Br.rest s 1 nx (Xs ++ [x]) = RR) := Lib.hid ((Br.rest_step hk2 HNC.out hx).symm.trans HRS.out)
          have HIT2 := Lib.hid (Br.ItsIs.snoc HIT.out hi1)
          have HRN2 := Lib.hid (Br.runes_app HRN.out (Br.itIs_runes (Br.item_ok s k x nx hx) hi1))
          have HB1 := Lib.hid (HBW.out.trans hb1)
          have HS1 := Lib.hid hs1
          have hln := Br.itIs_len hi1
          have HLN : Hid ((L ++ l).length ≤ nx * 1114113) := Lib.hid (by rw [List.length_append]; omega)
          clear hx hb1 hbc hs1 hi1 hln
          go_wp2
          go_roundw
          case rel => exact ⟨nx, L ++ l, Xs ++ [x], by omega, by omega, rfl, HLN.out, HRS2, HIT2, HRN2, HS1, HB1⟩
          case measure => simp [intOf]; omega

      have hfb : ((k : Int) == 1) = false := by simp; omega
      by_cases h93 : (Utf.nums s)[k]?.getD 0 = 93
      · rw [decide_eq_true h93] at HP5
        have HRO : Hid (Br.brack s = .ok Xs k) := Lib.hid (HBK.out.trans (HRS.out.symm.trans (Br.rest_close hk2 h93 (by omega))))
        obtain ⟨k1, hk1e⟩ : ∃ k1, k + 1 = k1 := ⟨_, rfl⟩
        have hw : IntKind.i64.wrap ((k : Int) + 1) = (k1 : Int) := by rw [IntKind.wrap_i64]; omega
        have HK1 := Lib.hid hk1e
        clear hend hf h93 HIA hk1e
        cases fo with
        | true =>
          go_wp2_with fail
          refine (HP5.out _).mono ?_
          rintro e w' ⟨rfl, rfl⟩
          go_wp2_with fail
          refine (norm_any _ vu L (RgOwn.row HU.out (by omega) (Br.runes_wide HRN.out))).mono ?_
          rintro e w1 ⟨v1, M1, rfl, hm1, ho1, hb1⟩
          have HM1 := Lib.hid hm1
          have HO1 := Lib.hid (ho1.lower HBW.out.size)
          have HB1 := Lib.hid (HBW.out.trans (hb1.mono HBW.out.size))
          clear hm1 ho1 hb1 hbc
          go_wp2_with fail
          refine (close_any _ v1 M1 (RgOwn.normRow HO1.out HM1.out.norm)).mono ?_
          rintro e w2 ⟨v2, o2, rfl, hn2, hc2, ho2, hb2⟩
          have HI2 := Lib.hid (Br.brIs_fold HIT.out HM1.out hn2 hc2)
          have HO2 := Lib.hid (ho2.lower HB1.out.size)
          have HB2 := Lib.hid (HB1.out.trans (hb2.mono HB1.out.size))
          have HN2 := Lib.hid hn2
          clear hn2 hc2 ho2 hb2
          go_wp2
          go_ret3
          refine ⟨HB2.out, .inr ⟨Xs, k, v2, _, HRO.out, by rw [HK1.out]; rfl, ?_, HO2.out⟩⟩
          rw [HFS.out]
          exact HI2.out
        | false =>
          go_wp2_with fail
          refine (HP5.out _).mono ?_
          rintro e w' ⟨rfl, rfl⟩
          go_wp2_with fail
          refine (norm_any _ vu L (RgOwn.row HU.out (by omega) (Br.runes_wide HRN.out))).mono ?_
          rintro e w1 ⟨v1, M1, rfl, hm1, ho1, hb1⟩
          have HM1 := Lib.hid hm1
          have HO1 := Lib.hid (ho1.lower HBW.out.size)
          have HB1 := Lib.hid (HBW.out.trans (hb1.mono HBW.out.size))
          clear hm1 ho1 hb1 hbc
          have HI1 := Lib.hid (Br.brIs_plain HIT.out HM1.out)
          go_wp2
          go_ret3
          refine ⟨HB1.out, .inr ⟨Xs, k, v1, _, HRO.out, by rw [HK1.out]; rfl, ?_, HO1.out⟩⟩
          rw [HFS.out]
          exact HI1.out
      · rw [decide_eq_false h93] at HP5
        have HNC : Hid (¬ ((Utf.nums s)[k]?.getD 0 = 93 ∧ 1 < k)) := Lib.hid (by omega)
        clear hend hf h93
        go_wp2_with fail
        refine (HP5.out _).mono ?_
        rintro e w' ⟨rfl, rfl⟩
        go_wp2_with fail
        refine HIA.out.mono ?_
        intro e w1 hpost
        rcases hpost with ⟨hb1, ⟨o, c, hx, rfl⟩ | ⟨x, nx, l, hx, rfl, hi1, hs1⟩⟩
        · have hc0 : (c != 0) = true := by simpa using Br.item_ne s k o c hx
          have HRB : Hid (Br.brack s = .bad o c) := Lib.hid (HBK.out.trans (HRS.out.symm.trans (Br.rest_bad hk2 HNC.out hx)))
          have HB1 := Lib.hid (HBW.out.trans hb1)
          clear hx hb1 hbc
          go_wp2
          go_ret3
          exact ⟨HB1.out, .inl ⟨_, _, HRB.out, rfl⟩⟩
        · have hbd := Br.item_bd s k x nx hx
          have HRS2 : Hid (Br.rest s 1 nx (Xs ++ [x]) = RR) := Lib.hid ((Br.rest_step hk2 HNC.out hx).symm.trans HRS.out)
          have HIT2 := Lib.hid (Br.ItsIs.snoc HIT.out hi1)
          have HRN2 := Lib.hid (Br.runes_app HRN.out (Br.itIs_runes (Br.item_ok s k x nx hx) hi1))
          have HB1 := Lib.hid (HBW.out.trans hb1)
          have HS1 := Lib.hid hs1
          have hln := Br.itIs_len hi1
          have HLN : Hid ((L ++ l).length ≤ nx * 1114113) := Lib.hid (by rw [List.length_append]; omega)
          clear hx hb1 hbc hs1 hi1 hln
          go_wp2
          go_roundw
          case rel => exact ⟨nx, L ++ l, Xs ++ [x], by omega, by omega, rfl, HLN.out, HRS2, HIT2, HRN2, HS1, HB1⟩
          case measure => simp [intOf]; omega
end Go.Proofs.YtecclhmjmceheaaGreatDoor
