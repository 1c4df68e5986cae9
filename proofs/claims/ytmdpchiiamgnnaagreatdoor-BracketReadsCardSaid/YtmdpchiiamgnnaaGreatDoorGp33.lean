/- The reference's bracket (burinref07), walked: Bracket (no ^). · The reference's bracket (burinref07), walked: Bracket (with ^). · burinbook.SpoilRanges: only the list's own block turns. -/
import Derived.Test.YtmdpchiiamgnnaaGreatDoorGp30
import Derived.Test.YtmdpchiiamgnnaaGreatDoorGp21
import Derived.Test.YtmdpchiiamgnnaaGreatDoorGp32
import Derived.Test.YtmdpchiiamgnnaaGreatDoorGp8
import Derived.Test.YtmdpchiiamgnnaaGreatDoorGp24
import Derived.Test.YtmdpchiiamgnnaaGreatDoorGp22
namespace Go.Proofs.YtmdpchiiamgnnaaGreatDoor
open Go.RowKit
set_option linter.unusedVariables false
set_option maxRecDepth 100000 in
set_option maxHeartbeats 8000000 in
theorem rBrk1 (W : World) (s : ByteArray) (hs : s.size ≤ 400) (flags : Int) (fo : Bool) (hfo : (bits .and .i64 flags 1 != 0) = fo) (c0 : (Utf.nums s)[0]?.getD 0 = 91) (c1 : ¬ (Utf.nums s)[1]?.getD 0 = 94) :
    Calls Tryz.prog 10 #[.string s, .int .i64 flags] W (BrkPost s fo W) := by
  have h0 : 0 < s.size := by
    have := Br.getD_lt c0 (by decide)
    rw [Utf.nums_length] at this; exact this
  obtain ⟨hne, hne2⟩ := toList_ne h0
  have h0i : (0 : Int) < (s.size : Int) := by omega
  have h91 : (((s[0]'h0).toNat : Int) != 91) = false := by
    rw [Utf.nums_at s 0 h0] at c0
    rw [c0]; rfl
  have hcase : (¬ (1 : Int) < (s.size : Int)) ∨ (∃ h : 1 < s.size, (1 : Int) < (s.size : Int) ∧ (((s[1]'h).toNat : Int) == 94) = false) := by
    rcases Nat.lt_or_ge 1 s.size with h | h
    · refine .inr ⟨h, by omega, ?_⟩
      rw [Utf.nums_at s 1 h] at c1
      rw [beq_eq_false_iff_ne]; exact c1
    · exact .inl (by omega)
  have HFS : Hid (decide (Br.first (Utf.nums s) = 2) = false) := Lib.hid (by unfold Br.first; rw [if_neg c1]; rfl)
  have HBK0 : Hid (Br.brack s = Br.rest s 1 1 []) := Lib.hid (by rw [Br.brack_yes c0]; unfold Br.first; rw [if_neg c1])
  obtain ⟨RR, hRR⟩ : ∃ RR, Br.rest s 1 1 [] = RR := ⟨_, rfl⟩
  have HBK : Hid (Br.brack s = RR) := Lib.hid (HBK0.out.trans hRR)
  have HRR := Lib.hid hRR
  have hf2 : 1 ≤ s.size := by
    omega
  clear c0 c1 hRR
  rcases hcase with h94 | ⟨h94a, h94b, h94⟩
  all_goals
    go_enter Tryz.func10, Tryz.ntmps10
    go_wp2
    go_loopw [7, 9] (fun A V wr => ∃ (k : Nat) (L : List (Int × Int)) (Xs : List Br.It) (vu : Value), 1 ≤ k ∧ k ≤ s.size ∧ A = .int .i64 (k : Int) ∧ L.length ≤ k * 1114113 ∧ Hid (Br.rest s 1 k Xs = RR) ∧ Hid (Br.ItsIs Xs L) ∧ Hid (Br.Runes L) ∧ vu = V ∧ Hid (RgOwn wr W.heap.size vu L) ∧ Hid (Below W.heap.size W wr)) (fun A _ _ => s.size - (intOf A).toNat)
    case atStart => exact ⟨1, [], [], _, Nat.le_refl _, hf2, rfl, Nat.zero_le _, HRR, Lib.hid .nil, Lib.hid (fun p hp => by cases hp), rfl, Lib.hid RgOwn.nil, Lib.hid (Below.refl _ _)⟩
    case round =>
      obtain ⟨k, L, Xs, vu, hk1, hk2', rfl, hLl, HRS, HIT, HRN, rfl, HU, HBW⟩ := hrel
      have hki : (k : Int) ≤ (s.size : Int) := by omega
      by_cases hend : k = s.size
      · have HRB : Hid (Br.brack s = .bad (s.size : Nat) 82) := Lib.hid (HBK.out.trans (HRS.out.symm.trans (Br.rest_end (by omega))))
        have h82 : (s.size : Int) ≤ (k : Int) := by omega
        clear hend
        go_wp2
        go_ret3
        exact ⟨HBW.out, .inl ⟨_, _, HRB.out, rfl⟩⟩
      have hk2 : k < s.size := by omega
      have h82 : ¬ (s.size : Int) ≤ (k : Int) := by omega
      have hk2i : (k : Int) < (s.size : Int) := by omega
      have HIA := Lib.hid (rItem_any wr s (by omega) k hk2)
      have hat : (Utf.nums s)[k]?.getD 0 = ((s[k]'hk2).toNat : Int) := Utf.nums_at s k hk2
      by_cases h93 : ((s[k]'hk2).toNat : Int) = 93
      · have h93b : (((s[k]'hk2).toNat : Int) == 93) = true := by simp [h93]
        by_cases hf : 1 < k
        · have hfi : (1 : Int) < (k : Int) := by omega
          have HRO : Hid (Br.brack s = .ok Xs k) := Lib.hid (HBK.out.trans (HRS.out.symm.trans (Br.rest_close hk2 (by omega) hf)))
          obtain ⟨k1, hk1e⟩ : ∃ k1, k + 1 = k1 := ⟨_, rfl⟩
          have hw : IntKind.i64.wrap ((k : Int) + 1) = (k1 : Int) := by rw [IntKind.wrap_i64]; omega
          have HK1 := Lib.hid hk1e
          clear hend hf h93 HIA hk1e hat
          cases fo with
          | true =>
            go_wp2_with fail
            refine (refNorm _ vu L (RgOwn.row HU.out (by omega) (Br.runes_wide HRN.out))).mono ?_
            rintro e w1 ⟨v1, M1, rfl, hm1, ho1, hb1⟩
            have HM1 := Lib.hid hm1
            have HO1 := Lib.hid (ho1.lower HBW.out.size)
            have HB1 := Lib.hid (HBW.out.trans (hb1.mono HBW.out.size))
            clear hm1 ho1 hb1
            go_wp2_with fail
            refine (refClose_any _ v1 M1 (RgOwn.normRow HO1.out HM1.out.norm)).mono ?_
            rintro e w2 ⟨v2, o2, rfl, hn2, hc2, ho2, hb2⟩
            have HI2 := Lib.hid (Br.brIs_fold HIT.out HM1.out hn2 hc2)
            have HO2 := Lib.hid (ho2.lower HB1.out.size)
            have HB2 := Lib.hid (HB1.out.trans (hb2.mono HB1.out.size))
            have HN2 := Lib.hid hn2
            clear hn2 hc2 ho2 hb2
            have HI3 := HI2
            have HO3 := HO2
            have HB3 := HB2
            go_wp2
            go_ret3
            refine ⟨HB3.out, .inr ⟨Xs, k, v2, _, HRO.out, by rw [HK1.out]; rfl, ?_, HO3.out⟩⟩
            rw [HFS.out]
            exact HI3.out
          | false =>
            go_wp2_with fail
            refine (refNorm _ vu L (RgOwn.row HU.out (by omega) (Br.runes_wide HRN.out))).mono ?_
            rintro e w1 ⟨v1, M1, rfl, hm1, ho1, hb1⟩
            have HM1 := Lib.hid hm1
            have HO1 := Lib.hid (ho1.lower HBW.out.size)
            have HB1 := Lib.hid (HBW.out.trans (hb1.mono HBW.out.size))
            clear hm1 ho1 hb1
            have HI2 := Lib.hid (Br.brIs_plain HIT.out HM1.out)
            have HO2 := HO1
            have HB2 := HB1
            have HN2 := Lib.hid HM1.out.norm
            have HI3 := HI2
            have HO3 := HO2
            have HB3 := HB2
            go_wp2
            go_ret3
            refine ⟨HB3.out, .inr ⟨Xs, k, v1, _, HRO.out, by rw [HK1.out]; rfl, ?_, HO3.out⟩⟩
            rw [HFS.out]
            exact HI3.out
        · have hfi : ¬ (1 : Int) < (k : Int) := by omega
          have HNC : Hid (¬ ((Utf.nums s)[k]?.getD 0 = 93 ∧ 1 < k)) := Lib.hid (by omega)
          clear hend hf h93 hat
          go_wp2_with fail
          refine HIA.out.mono ?_
          intro e w1 hpost
          rcases hpost with ⟨hb1, ⟨o, c, hx, rfl⟩ | ⟨x, nx, vl, l, hx, rfl, hi1, hs1⟩⟩
          · have hc0 : (c != 0) = true := by simpa using Br.item_ne s k o c hx
            have HRB : Hid (Br.brack s = .bad o c) := Lib.hid (HBK.out.trans (HRS.out.symm.trans (Br.rest_bad hk2 HNC.out hx)))
            have HB1 := Lib.hid (HBW.out.trans (hb1.mono HBW.out.size))
            clear hx hb1
            go_wp2
            go_ret3
            exact ⟨HB1.out, .inl ⟨_, _, HRB.out, rfl⟩⟩
          · have hbd := Br.item_bd s k x nx hx
            have HRS2 : Hid (Br.rest s 1 nx (Xs ++ [x]) = RR) := Lib.hid ((Br.rest_step hk2 HNC.out hx).symm.trans HRS.out)
            have HIT2 := Lib.hid (Br.ItsIs.snoc HIT.out hi1)
            have HRN2 := Lib.hid (Br.runes_app HRN.out (Br.itIs_runes (Br.item_ok s k x nx hx) hi1))
            have hB1 := HBW.out.trans (hb1.mono HBW.out.size)
            have hln := Br.itIs_len hi1
            have HLN : Hid ((L ++ l).length ≤ nx * 1114113) := Lib.hid (by rw [List.length_append]; omega)
            obtain ⟨v', w2, hrun, hown, hb2⟩ := append_rg w1 W.heap.size vu vl L l hB1.size (HU.out.below hb1) hs1 (by omega)
            have HRUN := Lib.hid hrun
            have HOW := Lib.hid hown
            have HB1 := Lib.hid (hB1.trans hb2)
            clear hx hb1 hs1 hi1 hln hrun hown hb2 hB1
            go_wp2_with (at_builtin; (refine wpList_append_run rfl _ _ 23 rfl _ _ _ w2 rfl rfl HRUN.out ?_))
            go_roundw
            case rel => exact ⟨nx, L ++ l, Xs ++ [x], _, by omega, by omega, rfl, HLN.out, HRS2, HIT2, HRN2, rfl, HOW, HB1⟩
            case measure => simp [intOf]; omega
      · have h93b : (((s[k]'hk2).toNat : Int) == 93) = false := by simpa using h93
        have HNC : Hid (¬ ((Utf.nums s)[k]?.getD 0 = 93 ∧ 1 < k)) := Lib.hid (by omega)
        clear hend h93 hat
        go_wp2_with fail
        refine HIA.out.mono ?_
        intro e w1 hpost
        rcases hpost with ⟨hb1, ⟨o, c, hx, rfl⟩ | ⟨x, nx, vl, l, hx, rfl, hi1, hs1⟩⟩
        · have hc0 : (c != 0) = true := by simpa using Br.item_ne s k o c hx
          have HRB : Hid (Br.brack s = .bad o c) := Lib.hid (HBK.out.trans (HRS.out.symm.trans (Br.rest_bad hk2 HNC.out hx)))
          have HB1 := Lib.hid (HBW.out.trans (hb1.mono HBW.out.size))
          clear hx hb1
          go_wp2
          go_ret3
          exact ⟨HB1.out, .inl ⟨_, _, HRB.out, rfl⟩⟩
        · have hbd := Br.item_bd s k x nx hx
          have HRS2 : Hid (Br.rest s 1 nx (Xs ++ [x]) = RR) := Lib.hid ((Br.rest_step hk2 HNC.out hx).symm.trans HRS.out)
          have HIT2 := Lib.hid (Br.ItsIs.snoc HIT.out hi1)
          have HRN2 := Lib.hid (Br.runes_app HRN.out (Br.itIs_runes (Br.item_ok s k x nx hx) hi1))
          have hB1 := HBW.out.trans (hb1.mono HBW.out.size)
          have hln := Br.itIs_len hi1
          have HLN : Hid ((L ++ l).length ≤ nx * 1114113) := Lib.hid (by rw [List.length_append]; omega)
          obtain ⟨v', w2, hrun, hown, hb2⟩ := append_rg w1 W.heap.size vu vl L l hB1.size (HU.out.below hb1) hs1 (by omega)
          have HRUN := Lib.hid hrun
          have HOW := Lib.hid hown
          have HB1 := Lib.hid (hB1.trans hb2)
          clear hx hb1 hs1 hi1 hln hrun hown hb2 hB1
          go_wp2_with (at_builtin; (refine wpList_append_run rfl _ _ 23 rfl _ _ _ w2 rfl rfl HRUN.out ?_))
          go_roundw
          case rel => exact ⟨nx, L ++ l, Xs ++ [x], _, by omega, by omega, rfl, HLN.out, HRS2, HIT2, HRN2, rfl, HOW, HB1⟩
          case measure => simp [intOf]; omega
end Go.Proofs.YtmdpchiiamgnnaaGreatDoor
namespace Go.Proofs.YtmdpchiiamgnnaaGreatDoor
open Go.RowKit
set_option linter.unusedVariables false
set_option maxRecDepth 100000 in
set_option maxHeartbeats 8000000 in
theorem rBrk2 (W : World) (s : ByteArray) (hs : s.size ≤ 400) (flags : Int) (fo : Bool) (hfo : (bits .and .i64 flags 1 != 0) = fo) (c0 : (Utf.nums s)[0]?.getD 0 = 91) (c1 : (Utf.nums s)[1]?.getD 0 = 94) :
    Calls Tryz.prog 10 #[.string s, .int .i64 flags] W (BrkPost s fo W) := by
  have h0 : 0 < s.size := by
    have := Br.getD_lt c0 (by decide)
    rw [Utf.nums_length] at this; exact this
  obtain ⟨hne, hne2⟩ := toList_ne h0
  have h0i : (0 : Int) < (s.size : Int) := by omega
  have h91 : (((s[0]'h0).toNat : Int) != 91) = false := by
    rw [Utf.nums_at s 0 h0] at c0
    rw [c0]; rfl
  have hcase : (∃ h : 1 < s.size, (1 : Int) < (s.size : Int) ∧ (((s[1]'h).toNat : Int) == 94) = true) := by
    have h := Br.getD_lt c1 (by decide)
    rw [Utf.nums_length] at h
    refine ⟨h, by omega, ?_⟩
    rw [Utf.nums_at s 1 h] at c1
    rw [c1]; rfl
  have HFS : Hid (decide (Br.first (Utf.nums s) = 2) = true) := Lib.hid (by unfold Br.first; rw [if_pos c1]; rfl)
  have HBK0 : Hid (Br.brack s = Br.rest s 2 2 []) := Lib.hid (by rw [Br.brack_yes c0]; unfold Br.first; rw [if_pos c1])
  obtain ⟨RR, hRR⟩ : ∃ RR, Br.rest s 2 2 [] = RR := ⟨_, rfl⟩
  have HBK : Hid (Br.brack s = RR) := Lib.hid (HBK0.out.trans hRR)
  have HRR := Lib.hid hRR
  have hf2 : 2 ≤ s.size := by
    obtain ⟨h, _⟩ := hcase; omega
  clear c0 c1 hRR
  rcases hcase with ⟨h94a, h94b, h94⟩
  all_goals
    go_enter Tryz.func10, Tryz.ntmps10
    go_wp2
    go_loopw [7, 9] (fun A V wr => ∃ (k : Nat) (L : List (Int × Int)) (Xs : List Br.It) (vu : Value), 2 ≤ k ∧ k ≤ s.size ∧ A = .int .i64 (k : Int) ∧ L.length ≤ k * 1114113 ∧ Hid (Br.rest s 2 k Xs = RR) ∧ Hid (Br.ItsIs Xs L) ∧ Hid (Br.Runes L) ∧ vu = V ∧ Hid (RgOwn wr W.heap.size vu L) ∧ Hid (Below W.heap.size W wr)) (fun A _ _ => s.size - (intOf A).toNat)
    case atStart => exact ⟨2, [], [], _, Nat.le_refl _, hf2, rfl, Nat.zero_le _, HRR, Lib.hid .nil, Lib.hid (fun p hp => by cases hp), rfl, Lib.hid RgOwn.nil, Lib.hid (Below.refl _ _)⟩
    case round =>
      obtain ⟨k, L, Xs, vu, hk1, hk2', rfl, hLl, HRS, HIT, HRN, rfl, HU, HBW⟩ := hrel
      have hki : (k : Int) ≤ (s.size : Int) := by omega
      by_cases hend : k = s.size
      · have HRB : Hid (Br.brack s = .bad (s.size : Nat) 82) := Lib.hid (HBK.out.trans (HRS.out.symm.trans (Br.rest_end (by omega))))
        have h82 : (s.size : Int) ≤ (k : Int) := by omega
        clear hend
        go_wp2
        go_ret3
        exact ⟨HBW.out, .inl ⟨_, _, HRB.out, rfl⟩⟩
      have hk2 : k < s.size := by omega
      have h82 : ¬ (s.size : Int) ≤ (k : Int) := by omega
      have hk2i : (k : Int) < (s.size : Int) := by omega
      have HIA := Lib.hid (rItem_any wr s (by omega) k hk2)
      have hat : (Utf.nums s)[k]?.getD 0 = ((s[k]'hk2).toNat : Int) := Utf.nums_at s k hk2
      by_cases h93 : ((s[k]'hk2).toNat : Int) = 93
      · have h93b : (((s[k]'hk2).toNat : Int) == 93) = true := by simp [h93]
        by_cases hf : 2 < k
        · have hfi : (2 : Int) < (k : Int) := by omega
          have HRO : Hid (Br.brack s = .ok Xs k) := Lib.hid (HBK.out.trans (HRS.out.symm.trans (Br.rest_close hk2 (by omega) hf)))
          obtain ⟨k1, hk1e⟩ : ∃ k1, k + 1 = k1 := ⟨_, rfl⟩
          have hw : IntKind.i64.wrap ((k : Int) + 1) = (k1 : Int) := by rw [IntKind.wrap_i64]; omega
          have HK1 := Lib.hid hk1e
          clear hend hf h93 HIA hk1e hat
          cases fo with
          | true =>
            go_wp2_with fail
            refine (refNorm _ vu L (RgOwn.row HU.out (by omega) (Br.runes_wide HRN.out))).mono ?_
            rintro e w1 ⟨v1, M1, rfl, hm1, ho1, hb1⟩
            have HM1 := Lib.hid hm1
            have HO1 := Lib.hid (ho1.lower HBW.out.size)
            have HB1 := Lib.hid (HBW.out.trans (hb1.mono HBW.out.size))
            clear hm1 ho1 hb1
            go_wp2_with fail
            refine (refClose_any _ v1 M1 (RgOwn.normRow HO1.out HM1.out.norm)).mono ?_
            rintro e w2 ⟨v2, o2, rfl, hn2, hc2, ho2, hb2⟩
            have HI2 := Lib.hid (Br.brIs_fold HIT.out HM1.out hn2 hc2)
            have HO2 := Lib.hid (ho2.lower HB1.out.size)
            have HB2 := Lib.hid (HB1.out.trans (hb2.mono HB1.out.size))
            have HN2 := Lib.hid hn2
            clear hn2 hc2 ho2 hb2
            go_wp2_with fail
            refine (refNot _ v2 _ (RgOwn.normRow HO2.out HN2.out)).mono ?_
            rintro e w3 ⟨v3, o3, rfl, hm3, ho3, hb3⟩
            have HI3 := Lib.hid (Br.brIs_not HI2.out hm3)
            have HO3 := Lib.hid (ho3.lower HB2.out.size)
            have HB3 := Lib.hid (HB2.out.trans (hb3.mono HB2.out.size))
            clear hm3 ho3 hb3
            go_wp2
            go_ret3
            refine ⟨HB3.out, .inr ⟨Xs, k, v3, _, HRO.out, by rw [HK1.out]; rfl, ?_, HO3.out⟩⟩
            rw [HFS.out]
            exact HI3.out
          | false =>
            go_wp2_with fail
            refine (refNorm _ vu L (RgOwn.row HU.out (by omega) (Br.runes_wide HRN.out))).mono ?_
            rintro e w1 ⟨v1, M1, rfl, hm1, ho1, hb1⟩
            have HM1 := Lib.hid hm1
            have HO1 := Lib.hid (ho1.lower HBW.out.size)
            have HB1 := Lib.hid (HBW.out.trans (hb1.mono HBW.out.size))
            clear hm1 ho1 hb1
            have HI2 := Lib.hid (Br.brIs_plain HIT.out HM1.out)
            have HO2 := HO1
            have HB2 := HB1
            have HN2 := Lib.hid HM1.out.norm
            go_wp2_with fail
            refine (refNot _ v1 _ (RgOwn.normRow HO2.out HN2.out)).mono ?_
            rintro e w3 ⟨v3, o3, rfl, hm3, ho3, hb3⟩
            have HI3 := Lib.hid (Br.brIs_not HI2.out hm3)
            have HO3 := Lib.hid (ho3.lower HB2.out.size)
            have HB3 := Lib.hid (HB2.out.trans (hb3.mono HB2.out.size))
            clear hm3 ho3 hb3
            go_wp2
            go_ret3
            refine ⟨HB3.out, .inr ⟨Xs, k, v3, _, HRO.out, by rw [HK1.out]; rfl, ?_, HO3.out⟩⟩
            rw [HFS.out]
            exact HI3.out
        · have hfi : ¬ (2 : Int) < (k : Int) := by omega
          have HNC : Hid (¬ ((Utf.nums s)[k]?.getD 0 = 93 ∧ 2 < k)) := Lib.hid (by omega)
          clear hend hf h93 hat
          go_wp2_with fail
          refine HIA.out.mono ?_
          intro e w1 hpost
          rcases hpost with ⟨hb1, ⟨o, c, hx, rfl⟩ | ⟨x, nx, vl, l, hx, rfl, hi1, hs1⟩⟩
          · have hc0 : (c != 0) = true := by simpa using Br.item_ne s k o c hx
            have HRB : Hid (Br.brack s = .bad o c) := Lib.hid (HBK.out.trans (HRS.out.symm.trans (Br.rest_bad hk2 HNC.out hx)))
            have HB1 := Lib.hid (HBW.out.trans (hb1.mono HBW.out.size))
            clear hx hb1
            go_wp2
            go_ret3
            exact ⟨HB1.out, .inl ⟨_, _, HRB.out, rfl⟩⟩
          · have hbd := Br.item_bd s k x nx hx
            have HRS2 : Hid (Br.rest s 2 nx (Xs ++ [x]) = RR) := Lib.hid ((Br.rest_step hk2 HNC.out hx).symm.trans HRS.out)
            have HIT2 := Lib.hid (Br.ItsIs.snoc HIT.out hi1)
            have HRN2 := Lib.hid (Br.runes_app HRN.out (Br.itIs_runes (Br.item_ok s k x nx hx) hi1))
            have hB1 := HBW.out.trans (hb1.mono HBW.out.size)
            have hln := Br.itIs_len hi1
            have HLN : Hid ((L ++ l).length ≤ nx * 1114113) := Lib.hid (by rw [List.length_append]; omega)
            obtain ⟨v', w2, hrun, hown, hb2⟩ := append_rg w1 W.heap.size vu vl L l hB1.size (HU.out.below hb1) hs1 (by omega)
            have HRUN := Lib.hid hrun
            have HOW := Lib.hid hown
            have HB1 := Lib.hid (hB1.trans hb2)
            clear hx hb1 hs1 hi1 hln hrun hown hb2 hB1
            go_wp2_with (at_builtin; (refine wpList_append_run rfl _ _ 23 rfl _ _ _ w2 rfl rfl HRUN.out ?_))
            go_roundw
            case rel => exact ⟨nx, L ++ l, Xs ++ [x], _, by omega, by omega, rfl, HLN.out, HRS2, HIT2, HRN2, rfl, HOW, HB1⟩
            case measure => simp [intOf]; omega
      · have h93b : (((s[k]'hk2).toNat : Int) == 93) = false := by simpa using h93
        have HNC : Hid (¬ ((Utf.nums s)[k]?.getD 0 = 93 ∧ 2 < k)) := Lib.hid (by omega)
        clear hend h93 hat
        go_wp2_with fail
        refine HIA.out.mono ?_
        intro e w1 hpost
        rcases hpost with ⟨hb1, ⟨o, c, hx, rfl⟩ | ⟨x, nx, vl, l, hx, rfl, hi1, hs1⟩⟩
        · have hc0 : (c != 0) = true := by simpa using Br.item_ne s k o c hx
          have HRB : Hid (Br.brack s = .bad o c) := Lib.hid (HBK.out.trans (HRS.out.symm.trans (Br.rest_bad hk2 HNC.out hx)))
          have HB1 := Lib.hid (HBW.out.trans (hb1.mono HBW.out.size))
          clear hx hb1
          go_wp2
          go_ret3
          exact ⟨HB1.out, .inl ⟨_, _, HRB.out, rfl⟩⟩
        · have hbd := Br.item_bd s k x nx hx
          have HRS2 : Hid (Br.rest s 2 nx (Xs ++ [x]) = RR) := Lib.hid ((Br.rest_step hk2 HNC.out hx).symm.trans HRS.out)
          have HIT2 := Lib.hid (Br.ItsIs.snoc HIT.out hi1)
          have HRN2 := Lib.hid (Br.runes_app HRN.out (Br.itIs_runes (Br.item_ok s k x nx hx) hi1))
          have hB1 := HBW.out.trans (hb1.mono HBW.out.size)
          have hln := Br.itIs_len hi1
          have HLN : Hid ((L ++ l).length ≤ nx * 1114113) := Lib.hid (by rw [List.length_append]; omega)
          obtain ⟨v', w2, hrun, hown, hb2⟩ := append_rg w1 W.heap.size vu vl L l hB1.size (HU.out.below hb1) hs1 (by omega)
          have HRUN := Lib.hid hrun
          have HOW := Lib.hid hown
          have HB1 := Lib.hid (hB1.trans hb2)
          clear hx hb1 hs1 hi1 hln hrun hown hb2 hB1
          go_wp2_with (at_builtin; (refine wpList_append_run rfl _ _ 23 rfl _ _ _ w2 rfl rfl HRUN.out ?_))
          go_roundw
          case rel => exact ⟨nx, L ++ l, Xs ++ [x], _, by omega, by omega, rfl, HLN.out, HRS2, HIT2, HRN2, rfl, HOW, HB1⟩
          case measure => simp [intOf]; omega
set_option maxRecDepth 100000 in
set_option maxHeartbeats 8000000 in
theorem refBrk_any (W : World) (s : ByteArray) (hs : s.size ≤ 400) (flags : Int) (fo : Bool) (hfo : (bits .and .i64 flags 1 != 0) = fo) :
    Calls Tryz.prog 10 #[.string s, .int .i64 flags] W (BrkPost s fo W) := by
  by_cases c0 : (Utf.nums s)[0]?.getD 0 = 91
  · by_cases c1 : (Utf.nums s)[1]?.getD 0 = 94
    · exact rBrk2 W s hs flags fo hfo c0 c1
    · exact rBrk1 W s hs flags fo hfo c0 c1
  have HR : Hid (Br.brack s = .bad 0 3) := Lib.hid (Br.brack_no c0)
  by_cases h0 : s.size = 0
  · obtain rfl : s = ⟨#[]⟩ := by
      have := Utf.nums_length s
      exact Br.nums_inj' (by rw [List.length_eq_zero_iff.1 (this.trans h0)]; rfl)
    clear c0 h0
    go_enter Tryz.func10, Tryz.ntmps10
    go_wp2
    go_ret3
    exact ⟨Below.refl _ _, .inl ⟨_, _, HR.out, rfl⟩⟩
  · have h0' : 0 < s.size := by omega
    obtain ⟨hne, hne2⟩ := toList_ne h0'
    have h0i : (0 : Int) < (s.size : Int) := by omega
    have h91 : (((s[0]'h0').toNat : Int) != 91) = true := by
      rw [Utf.nums_at s 0 h0'] at c0
      simpa using c0
    clear c0 h0
    go_enter Tryz.func10, Tryz.ntmps10
    go_wp2
    go_ret3
    exact ⟨Below.refl _ _, .inl ⟨_, _, HR.out, rfl⟩⟩
end Go.Proofs.YtmdpchiiamgnnaaGreatDoor
namespace Go.Proofs.YtmdpchiiamgnnaaGreatDoor
open Go.RowKit
set_option linter.unusedVariables false
theorem grown_set {a w : World} {g : Nat} (h : a.grownBy w (some g)) (i : Nat) (u : Value) : a.grownBy (w.setCell ⟨g, i, none⟩ u) (some g) :=
  ⟨h.os, h.tape, h.output, by simpa [World.setCell] using h.size, fun k hk hne => (Below.heap_setCell w ⟨g, i, none⟩ u k (fun e => hne (by rw [e]))).trans (h.block k hk hne)⟩
theorem grown_refl (w : World) (row : Option Nat) : w.grownBy w row := ⟨rfl, rfl, rfl, Nat.le_refl _, fun _ _ _ => rfl⟩
set_option maxRecDepth 100000 in
set_option maxHeartbeats 1000000 in
theorem spoil_walk2 (W : World) (g n cap : Nat) (cs : Array Value) (hg : W.heap[g]? = some (.cells cs 47 (0, 0))) (hcs : cs.size = cap * 2) (hnc : n ≤ cap) (hcap : cap ≤ 9223372036854775807) :
    Calls Tryz.prog 12 #[.slice (some ⟨g, 0, none⟩) n cap] W fun e w' => e = .returned (.tuple #[]) ∧ W.grownBy w' (some g) := by
  have HG := Lib.hid hg
  have HCS := Lib.hid hcs
  clear hg hcs
  go_enter Tryz.func12, Tryz.ntmps12
  go_wp2
  go_loopw [9] (fun R wr => ∃ (k : Nat) (cs' : Array Value), k ≤ cap ∧ R = .int .i64 k ∧ Hid (wr.heap[g]? = some (.cells cs' 47 (0, 0))) ∧ Hid (cs'.size = cap * 2) ∧ Hid (W.grownBy wr (some g))) (fun R _ => cap - (intOf R).toNat)
  case atStart => exact ⟨0, cs, Nat.zero_le _, rfl, HG, HCS, Lib.hid (grown_refl _ _)⟩
  case round =>
    obtain ⟨k, cs', hk, rfl, HG', HCS', HB⟩ := hrel
    clear HG HCS
    by_cases hlt : k < cap
    · obtain ⟨v1, hv1⟩ := cell_in_row (i := k * 2) HG'.out (by rw [HCS'.out]; omega)
      obtain ⟨v2, hv2⟩ := cell_in_row (i := k * 2 + 1) HG'.out (by rw [HCS'.out]; omega)
      have hf1 := frozen_of_row _ g (k * 2) _ _ HG'.out
      have hf2 := frozen_of_row _ g (k * 2 + 1) _ _ HG'.out
      go_wp2
      refine ⟨⟨k + 1, _, by omega, by go_num, Lib.hid (heap_setCell_same _ g _ _ _ _ (heap_setCell_same _ g _ _ _ _ HG'.out)), Lib.hid (by simp [HCS'.out]), Lib.hid (grown_set (grown_set HB.out _ _) _ _)⟩, by simp [intOf]; omega⟩
    · obtain rfl : k = cap := by omega
      go_wp2
      exact ⟨rfl, .tuple #[], by simp [results, Tryz.func12, go_sem], And.intro rfl (HB.out)⟩
/-- A list of a base is spoilt: what is owned from a greater base stays owned, and nothing older turns. -/
theorem spoil_only (W : World) (base : Nat) (v : Value) (l : List (Int × Int)) (h : RgOwn W base v l) (hb : base ≤ W.heap.size) :
    Calls Tryz.prog 12 #[v] W fun e w' => e = .returned (.tuple #[]) ∧ Below base W w' ∧ W.grownBy w' v.ownBlock := by
  rcases h.2 with ⟨rfl, _⟩ | ⟨g, cap, cur, rfl, hbg, hg, hnc, hcm, hcs, _⟩
  · exact (spoil_nil W).mono fun e w' h => ⟨h.1, h.2.mono hb, ⟨h.2.os, h.2.tape, h.2.output, h.2.size, fun k hk _ => h.2.block k hk⟩⟩
  · refine (spoil_walk2 W g _ cap cur hg hcs hnc (by simpa [maxLen] using hcm)).mono fun e w' h => ⟨h.1, ⟨h.2.os, h.2.tape, h.2.output, h.2.size, fun k hk => h.2.block k (by omega) (fun e => by injection e with e; omega)⟩, h.2⟩
theorem own_apart {W W0 W' : World} {base base2 : Nat} {v v2 : Value} {l l2 : List (Int × Int)} (h : RgOwn W0 base v l) (hs : W0.heap.size ≤ base2) (h2 : RgOwn W base2 v2 l2) (hg : W.grownBy W' v.ownBlock) : RgOwn W' base2 v2 l2 := by
  refine h2.kept hg ?_
  cases e : v2.ownBlock with
  | none => exact .inl rfl
  | some g2 =>
    refine .inr (fun e2 => ?_)
    have a1 := (World.ownsRow.lt h2 g2 e).1
    have a2 := (World.ownsRow.lt h g2 e2.symm).2
    omega
end Go.Proofs.YtmdpchiiamgnnaaGreatDoor
