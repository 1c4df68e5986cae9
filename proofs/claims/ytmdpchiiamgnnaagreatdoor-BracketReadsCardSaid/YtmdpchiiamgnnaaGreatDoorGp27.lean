/- The reference's bracket (burinref07): Set. -/
import Derived.Test.YtmdpchiiamgnnaaGreatDoorGp24
import Derived.Test.YtmdpchiiamgnnaaGreatDoorGp15
import Derived.Test.YtmdpchiiamgnnaaGreatDoorGp26
namespace Go.Proofs.YtmdpchiiamgnnaaGreatDoor
open Go.RowKit
set_option linter.unusedVariables false
theorem data_toList (s : ByteArray) : s.data.toList = s.toList := (ByteArray.toList_eq s).symm
set_option maxRecDepth 100000 in
set_option maxHeartbeats 8000000 in
/-- Behind the name: the property, turned where it is asked. -/
theorem rSet_any (W : World) (s : ByteArray) (hs : s.size ≤ 100000) : Calls Tryz.prog 48 #[.string s] W (SetPost (Br.set s) W) := by
  have hset : Br.set s = (if (Utf.nums s)[0]?.getD 0 ≠ 92 then (none, 0, 3) else if s.size = 1 then (none, 0, 5) else if (Utf.nums s)[1]?.getD 0 = 80 then Br.propX s true else if (Utf.nums s)[1]?.getD 0 = 112 then Br.propX s false else match Cl.letterX ((Utf.nums s)[1]?.getD 0) with | none => (none, 0, 5) | some x => (some x, 2, 0)) := by
    unfold Br.set
    dsimp only
    rw [Utf.nums_length]
    rfl
  obtain ⟨R, hR⟩ : ∃ R, Br.set s = R := ⟨_, rfl⟩
  rw [hR] at hset ⊢
  clear hR
  by_cases h0 : s.size = 0
  · have HE : Hid (R = (none, 0, 3)) := Lib.hid (by rw [hset, if_pos (by rw [List.getElem?_eq_none (by rw [Utf.nums_length]; omega)]; decide)])
    clear hset
    go_enter Tryz.func48, Tryz.ntmps48
    go_wp2
    go_ret3
    rw [HE.out]
    exact ⟨.slice none 0 0, [], rfl, rfl, RgOwn.nil, Below.refl _ _⟩
  have hz0 : 0 < s.size := by omega
  have hz0i : (0 : Int) < (s.size : Int) := by omega
  have hz9 : ((s.size : Int) == 0) = false := by rw [beq_eq_false_iff_ne]; omega
  have hb0 : s[0].toNat < 256 := UInt8.toNat_lt _
  rw [Utf.nums_at s 0 hz0] at hset
  by_cases c0 : ¬ (s[0].toNat : Int) = 92
  · have HE : Hid (R = (none, 0, 3)) := Lib.hid (by rw [hset, if_pos c0])
    have h4 : ((s[0].toNat : Int) != 92) = true := by simpa using c0
    clear hset c0 h0
    go_enter Tryz.func48, Tryz.ntmps48
    go_wp2
    go_ret3
    rw [HE.out]
    exact ⟨.slice none 0 0, [], rfl, rfl, RgOwn.nil, Below.refl _ _⟩
  have h4 : ((s[0].toNat : Int) != 92) = false := by
    have e : (s[0].toNat : Int) = 92 := by omega
    rw [e]; rfl
  rw [if_neg (by omega)] at hset
  by_cases c1 : s.size = 1
  · have HE : Hid (R = (none, 0, 5)) := Lib.hid (by rw [hset, if_pos c1])
    have h1 : ((s.size : Int) == 1) = true := by simp [c1]
    clear hset c0 c1 h0
    go_enter Tryz.func48, Tryz.ntmps48
    go_wp2
    go_ret3
    rw [HE.out]
    exact ⟨.slice none 0 0, [], rfl, rfl, RgOwn.nil, Below.refl _ _⟩
  have h1 : ((s.size : Int) == 1) = false := by simp; omega
  have h2 : 1 < s.size := by omega
  have h2i : (1 : Int) < (s.size : Int) := by omega
  have hb : s[1].toNat < 256 := UInt8.toNat_lt _
  have hat : (Utf.nums s)[1]?.getD 0 = (s[1].toNat : Int) := Utf.nums_at s 1 h2
  rw [if_neg c1, hat] at hset
  clear c0 c1 h0 hat
  by_cases cp : (s[1].toNat : Int) ≠ 112 ∧ (s[1].toNat : Int) ≠ 80
  · obtain ⟨cp1, cp2⟩ := cp
    rw [if_neg cp2, if_neg cp1] at hset
    have m1 : ((s[1].toNat : Int) != 112) = true := by simpa using cp1
    have m2 : ((s[1].toNat : Int) != 80) = true := by simpa using cp2
    have HC := Lib.hid (letter_any W (s[1].toNat : Int))
    obtain ⟨X, hX⟩ : ∃ X, Cl.letterX (s[1].toNat : Int) = X := ⟨_, rfl⟩
    rw [hX] at HC hset
    cases X with
    | none =>
      have HR : Hid (R = (none, 0, 5)) := Lib.hid hset
      clear hset hX cp1 cp2
      go_enter Tryz.func48, Tryz.ntmps48
      go_wp2_with fail
      refine HC.out.mono ?_
      rintro e w2 ⟨v, out, c9, rfl, hc9, ho, hb9⟩
      obtain ⟨rfl, rfl⟩ := hc9
      have HB := Lib.hid hb9
      clear ho hb9
      go_wp2
      go_ret3
      rw [HR.out]
      exact ⟨.slice none 0 0, [], rfl, rfl, RgOwn.nil, HB.out⟩
    | some x =>
      have HR : Hid (R = (some x, 2, 0)) := Lib.hid hset
      clear hset hX cp1 cp2
      go_enter Tryz.func48, Tryz.ntmps48
      go_wp2_with fail
      refine HC.out.mono ?_
      rintro e w2 ⟨v, out, c9, rfl, hc9, ho, hb9⟩
      have HS := Lib.hid (Br.setIs_of hc9)
      obtain rfl : c9 = 0 := hc9.1
      have HB := Lib.hid hb9
      have HO := Lib.hid ho
      clear ho hb9 hc9
      go_wp2
      go_ret3
      rw [HR.out]
      exact ⟨v, out, rfl, HS.out, HO.out, HB.out⟩
  by_cases e80 : (s[1].toNat : Int) = 80
  · have hprop : R = Br.propX s true := by rw [hset]; rw [if_pos e80]
    have hv1 : (s[1].toNat : Int) = 80 := by omega
    have m1 : ((s[1].toNat : Int) != 112) = true := by rw [hv1]; rfl
    have m2 : ((s[1].toNat : Int) != 80) = false := by rw [hv1]; rfl
    have m3 : ((s[1].toNat : Int) == 80) = true := by rw [hv1]; rfl
    have hpx : R = (if (Br.nameX s).2.2 ≠ 0 then (none, 0, (Br.nameX s).2.2) else match Cl.lookC Cl.propT (Br.nameX s).1.data.toList with | none => (none, 0, 70) | some (b, T) => (some (b != true, T), (Br.nameX s).2.1, 0)) := hprop
    clear hprop hset e80 cp hv1
    by_cases z2 : s.size = 2
    · have HE : Hid (R = (none, 0, 82)) := Lib.hid (by
        have hn : Br.nameX s = (⟨#[]⟩, 0, 82) := by unfold Br.nameX; dsimp only; rw [if_pos (by rw [Utf.nums_length]; exact z2)]
        rw [hpx, hn]; rfl)
      have z2b : ((s.size : Int) == 2) = true := by simp [z2]
      clear hpx z2
      go_enter Tryz.func48, Tryz.ntmps48
      go_wp2
      go_ret3
      rw [HE.out]
      exact ⟨.slice none 0 0, [], rfl, rfl, RgOwn.nil, Below.refl _ _⟩
    have z2b : ((s.size : Int) == 2) = false := by simp; omega
    have z3 : 2 < s.size := by omega
    have z3i : (2 : Int) < (s.size : Int) := by omega
    have z4i : (3 : Int) ≤ (s.size : Int) := by omega
    have hb2 : s[2].toNat < 256 := UInt8.toNat_lt _
    have hn : Br.nameX s = (if Br.letB (s[2].toNat : Int) = true then (s.extract 2 3, 3, 0) else if (s[2].toNat : Int) ≠ 123 then (⟨#[]⟩, 0, 70) else if Br.upTo 125 ((Utf.nums s).drop 3) = s.size - 3 then (⟨#[]⟩, 0, 82) else (s.extract 3 (3 + Br.upTo 125 ((Utf.nums s).drop 3)), (Br.upTo 125 ((Utf.nums s).drop 3) : Int) + 4, 0)) := by
      unfold Br.nameX
      dsimp only
      rw [if_neg (by rw [Utf.nums_length]; exact z2), Utf.nums_at s 2 z3, List.length_drop, Utf.nums_length]
    by_cases b3 : (s[2].toNat : Int) = 123
    · have b3b : ((s[2].toNat : Int) == 123) = true := by simp [b3]
      have hnl : Br.letB (s[2].toNat : Int) = false := by rw [b3]; decide
      rw [hnl, if_neg (by decide), if_neg (by omega)] at hn
      have hK := Br.upTo_le 125 ((Utf.nums s).drop 3)
      rw [List.length_drop, Utf.nums_length] at hK
      have hAt := Br.upTo_at 125 ((Utf.nums s).drop 3)
      have hNo := Br.upTo_no 125 ((Utf.nums s).drop 3)
      rw [List.length_drop, Utf.nums_length] at hAt
      obtain ⟨K, hKK⟩ : ∃ K, Br.upTo 125 ((Utf.nums s).drop 3) = K := ⟨_, rfl⟩
      rw [hKK] at hn hK hAt hNo
      have HNO : Hid (∀ e (h : e < s.size), 3 ≤ e → e < 3 + K → ((s[e].toNat : Int) != 125) = true) := Lib.hid (fun e h h3 hk => by
        have := hNo (e - 3) (by omega)
        rw [List.getElem?_drop, show 3 + (e - 3) = e by omega] at this
        have h9 := Utf.nums_at s e h
        obtain ⟨x, hx⟩ : ∃ x, (Utf.nums s)[e]? = some x := ⟨_, List.getElem?_eq_getElem (by rw [Utf.nums_length]; exact h)⟩
        rw [hx] at this h9
        have h8 : x = (s[e].toNat : Int) := h9
        rw [h8] at this
        simpa using this)
      have HAT : Hid (∀ (h : 3 + K < s.size), ((s[3 + K].toNat : Int) != 125) = false) := Lib.hid (fun h => by
        have := hAt (by omega)
        rw [List.getElem?_drop] at this
        have h9 := Utf.nums_at s (3 + K) h
        rw [this] at h9
        have h8 : (s[3 + K].toNat : Int) = 125 := h9.symm
        rw [h8]; rfl)
      have HPN : Hid (R = if K = s.size - 3 then ((none : Br.Cls), (0 : Int), (82 : Int)) else match Cl.lookC Cl.propT (s.extract 3 (3 + K)).data.toList with | none => (none, 0, 70) | some (b, T) => (some (b != true, T), (K : Int) + 4, 0)) := Lib.hid (by
        rw [hpx, hn]
        by_cases hk : K = s.size - 3
        · rw [if_pos hk, if_pos hk]; rfl
        · rw [if_neg hk, if_neg hk]; rfl)
      clear hpx hn hAt hNo hKK z2 b3 hnl
      go_enter Tryz.func48, Tryz.ntmps48
      go_wp2
      go_loop [9] (fun A => ∃ e : Nat, 3 ≤ e ∧ e ≤ 3 + K ∧ A = .int .i64 (e : Int)) (fun A => s.size - (intOf A).toNat)
      case atStart => exact ⟨3, Nat.le_refl _, by omega, rfl⟩
      case round =>
        obtain ⟨e, he, hek, rfl⟩ := hrel
        by_cases h9 : e < 3 + K
        · have h8 : e < s.size := by omega
          have h7 : (e : Int) < (s.size : Int) := by omega
          have h6 := HNO.out e h8 he h9
          have hw : IntKind.i64.wrap ((e : Int) + 1) = ((e + 1 : Nat) : Int) := by rw [IntKind.wrap_i64]; omega
          go_wp2
          go_round
          case rel => exact ⟨e + 1, by omega, by omega, by go_num⟩
          case measure => simp [intOf]; omega
        · obtain rfl : e = 3 + K := by omega
          obtain ⟨E, hE⟩ : ∃ E, 3 + K = E := ⟨_, rfl⟩
          rw [hE] at HPN hek ⊢
          by_cases h8 : K = s.size - 3
          · have HE : Hid (R = (none, 0, 82)) := Lib.hid (by rw [HPN.out, if_pos h8])
            have h7 : ¬ (E : Int) < (s.size : Int) := by omega
            have h6 : ((E : Int) == (s.size : Int)) = true := by simp; omega
            clear hE h8 he h9 hek
            go_wp2
            go_ret3
            rw [HE.out]
            exact ⟨.slice none 0 0, [], rfl, rfl, RgOwn.nil, Below.refl _ _⟩
          · have HPX : Hid (R = match Cl.lookC Cl.propT (s.extract 3 E).data.toList with | none => (none, 0, 70) | some (b, T) => (some (b != true, T), (K : Int) + 4, 0)) := Lib.hid (by rw [HPN.out, if_neg h8])
            have h5 : E < s.size := by omega
            have h7 : (E : Int) < (s.size : Int) := by omega
            have h4 : ((s[E].toNat : Int) != 125) = false := by subst hE; exact HAT.out h5
            have h6 : ((E : Int) == (s.size : Int)) = false := by simp; omega
            have h3 : (3 : Int) ≤ (E : Int) := by omega
            have hw : IntKind.i64.wrap ((E : Int) + 1) = (K : Int) + 4 := by rw [IntKind.wrap_i64]; omega
            clear hE h8 he h9 hek
            go_wp2_with fail
            refine (refProp_any _ (s.extract 3 E) (by first | (rw [ByteArray.size_extract]; omega) | omega)).mono ?_
            rintro e w2 ⟨v, out, c9, rfl, hc9, ho, hb9⟩
            rw [← data_toList] at hc9
            have HB := Lib.hid hb9
            have HO := Lib.hid ho
            cases hl : Cl.lookC Cl.propT (s.extract 3 E).data.toList with
            | none =>
              rw [hl] at hc9
              obtain ⟨rfl, rfl⟩ := hc9
              have HR : Hid (R = (none, 0, 70)) := Lib.hid (by rw [HPX.out, hl])
              clear hl ho hb9
              go_wp2
              go_ret3
              rw [HR.out]
              exact ⟨.slice none 0 0, [], rfl, rfl, RgOwn.nil, HB.out⟩
            | some x =>
              obtain ⟨b, T⟩ := x
              rw [hl] at hc9
              have HS := Lib.hid (Br.setIs_of hc9)
              obtain rfl : c9 = 0 := hc9.1
              have HR : Hid (R = (some (b != true, T), (K : Int) + 4, 0)) := Lib.hid (by rw [HPX.out, hl])
              clear hl ho hb9 hc9
              go_wp2_with fail
              refine (refNot _ v out (setIs_row HS.out HO.out)).mono ?_
              rintro e w3 ⟨v3, out3, rfl, hm3, ho3, hb3⟩
              have HS3 := Lib.hid (Br.setIs_not HS.out hm3)
              have HO3 := Lib.hid (ho3.lower HB.out.size)
              have HB3 := Lib.hid (HB.out.trans (hb3.mono HB.out.size))
              clear hm3 ho3 hb3
              go_wp2
              go_ret3
              rw [HR.out]
              exact ⟨v3, out3, rfl, by simpa using HS3.out, HO3.out, HB3.out⟩

    have b3b : ((s[2].toNat : Int) == 123) = false := by simpa using b3
    have HL := Lib.hid (rLetter_any W (s[2].toNat : Int) (by omega) (by omega))
    cases hl2 : Br.letB (s[2].toNat : Int) with
    | false =>
      rw [hl2] at HL hn
      rw [if_neg (by decide), if_pos b3] at hn
      have HE : Hid (R = (none, 0, 70)) := Lib.hid (by rw [hpx, hn]; rfl)
      clear hpx hn hl2 b3 z2
      go_enter Tryz.func48, Tryz.ntmps48
      go_wp2_with fail
      refine HL.out.mono ?_
      rintro e w' ⟨rfl, rfl⟩
      go_wp2
      go_ret3
      rw [HE.out]
      exact ⟨.slice none 0 0, [], rfl, rfl, RgOwn.nil, Below.refl _ _⟩
    | true =>
      rw [hl2] at HL hn
      rw [if_pos rfl] at hn
      have HPX : Hid (R = match Cl.lookC Cl.propT (s.extract 2 3).data.toList with | none => (none, 0, 70) | some (b, T) => (some (b != true, T), 3, 0)) := Lib.hid (by rw [hpx, hn]; rfl)
      clear hpx hn hl2 b3 z2
      go_enter Tryz.func48, Tryz.ntmps48
      go_wp2_with fail
      refine HL.out.mono ?_
      rintro e w' ⟨rfl, rfl⟩
      go_wp2_with fail
      refine (refProp_any _ (s.extract 2 3) (by first | (rw [ByteArray.size_extract]; omega) | omega)).mono ?_
      rintro e w2 ⟨v, out, c9, rfl, hc9, ho, hb9⟩
      rw [← data_toList] at hc9
      have HB := Lib.hid hb9
      have HO := Lib.hid ho
      cases hl : Cl.lookC Cl.propT (s.extract 2 3).data.toList with
      | none =>
        rw [hl] at hc9
        obtain ⟨rfl, rfl⟩ := hc9
        have HR : Hid (R = (none, 0, 70)) := Lib.hid (by rw [HPX.out, hl])
        clear hl ho hb9
        go_wp2
        go_ret3
        rw [HR.out]
        exact ⟨.slice none 0 0, [], rfl, rfl, RgOwn.nil, HB.out⟩
      | some x =>
        obtain ⟨b, T⟩ := x
        rw [hl] at hc9
        have HS := Lib.hid (Br.setIs_of hc9)
        obtain rfl : c9 = 0 := hc9.1
        have HR : Hid (R = (some (b != true, T), 3, 0)) := Lib.hid (by rw [HPX.out, hl])
        clear hl ho hb9 hc9
        go_wp2_with fail
        refine (refNot _ v out (setIs_row HS.out HO.out)).mono ?_
        rintro e w3 ⟨v3, out3, rfl, hm3, ho3, hb3⟩
        have HS3 := Lib.hid (Br.setIs_not HS.out hm3)
        have HO3 := Lib.hid (ho3.lower HB.out.size)
        have HB3 := Lib.hid (HB.out.trans (hb3.mono HB.out.size))
        clear hm3 ho3 hb3
        go_wp2
        go_ret3
        rw [HR.out]
        exact ⟨v3, out3, rfl, by simpa using HS3.out, HO3.out, HB3.out⟩
  · have hprop : R = Br.propX s false := by rw [hset]; rw [if_neg e80, if_pos (by omega)]
    have hv1 : (s[1].toNat : Int) = 112 := by omega
    have m1 : ((s[1].toNat : Int) != 112) = false := by rw [hv1]; rfl
    have m2 : ((s[1].toNat : Int) != 80) = true := by rw [hv1]; rfl
    have m3 : ((s[1].toNat : Int) == 80) = false := by rw [hv1]; rfl
    have hpx : R = (if (Br.nameX s).2.2 ≠ 0 then (none, 0, (Br.nameX s).2.2) else match Cl.lookC Cl.propT (Br.nameX s).1.data.toList with | none => (none, 0, 70) | some (b, T) => (some (b != false, T), (Br.nameX s).2.1, 0)) := hprop
    clear hprop hset e80 cp hv1
    by_cases z2 : s.size = 2
    · have HE : Hid (R = (none, 0, 82)) := Lib.hid (by
        have hn : Br.nameX s = (⟨#[]⟩, 0, 82) := by unfold Br.nameX; dsimp only; rw [if_pos (by rw [Utf.nums_length]; exact z2)]
        rw [hpx, hn]; rfl)
      have z2b : ((s.size : Int) == 2) = true := by simp [z2]
      clear hpx z2
      go_enter Tryz.func48, Tryz.ntmps48
      go_wp2
      go_ret3
      rw [HE.out]
      exact ⟨.slice none 0 0, [], rfl, rfl, RgOwn.nil, Below.refl _ _⟩
    have z2b : ((s.size : Int) == 2) = false := by simp; omega
    have z3 : 2 < s.size := by omega
    have z3i : (2 : Int) < (s.size : Int) := by omega
    have z4i : (3 : Int) ≤ (s.size : Int) := by omega
    have hb2 : s[2].toNat < 256 := UInt8.toNat_lt _
    have hn : Br.nameX s = (if Br.letB (s[2].toNat : Int) = true then (s.extract 2 3, 3, 0) else if (s[2].toNat : Int) ≠ 123 then (⟨#[]⟩, 0, 70) else if Br.upTo 125 ((Utf.nums s).drop 3) = s.size - 3 then (⟨#[]⟩, 0, 82) else (s.extract 3 (3 + Br.upTo 125 ((Utf.nums s).drop 3)), (Br.upTo 125 ((Utf.nums s).drop 3) : Int) + 4, 0)) := by
      unfold Br.nameX
      dsimp only
      rw [if_neg (by rw [Utf.nums_length]; exact z2), Utf.nums_at s 2 z3, List.length_drop, Utf.nums_length]
    by_cases b3 : (s[2].toNat : Int) = 123
    · have b3b : ((s[2].toNat : Int) == 123) = true := by simp [b3]
      have hnl : Br.letB (s[2].toNat : Int) = false := by rw [b3]; decide
      rw [hnl, if_neg (by decide), if_neg (by omega)] at hn
      have hK := Br.upTo_le 125 ((Utf.nums s).drop 3)
      rw [List.length_drop, Utf.nums_length] at hK
      have hAt := Br.upTo_at 125 ((Utf.nums s).drop 3)
      have hNo := Br.upTo_no 125 ((Utf.nums s).drop 3)
      rw [List.length_drop, Utf.nums_length] at hAt
      obtain ⟨K, hKK⟩ : ∃ K, Br.upTo 125 ((Utf.nums s).drop 3) = K := ⟨_, rfl⟩
      rw [hKK] at hn hK hAt hNo
      have HNO : Hid (∀ e (h : e < s.size), 3 ≤ e → e < 3 + K → ((s[e].toNat : Int) != 125) = true) := Lib.hid (fun e h h3 hk => by
        have := hNo (e - 3) (by omega)
        rw [List.getElem?_drop, show 3 + (e - 3) = e by omega] at this
        have h9 := Utf.nums_at s e h
        obtain ⟨x, hx⟩ : ∃ x, (Utf.nums s)[e]? = some x := ⟨_, List.getElem?_eq_getElem (by rw [Utf.nums_length]; exact h)⟩
        rw [hx] at this h9
        have h8 : x = (s[e].toNat : Int) := h9
        rw [h8] at this
        simpa using this)
      have HAT : Hid (∀ (h : 3 + K < s.size), ((s[3 + K].toNat : Int) != 125) = false) := Lib.hid (fun h => by
        have := hAt (by omega)
        rw [List.getElem?_drop] at this
        have h9 := Utf.nums_at s (3 + K) h
        rw [this] at h9
        have h8 : (s[3 + K].toNat : Int) = 125 := h9.symm
        rw [h8]; rfl)
      have HPN : Hid (R = if K = s.size - 3 then ((none : Br.Cls), (0 : Int), (82 : Int)) else match Cl.lookC Cl.propT (s.extract 3 (3 + K)).data.toList with | none => (none, 0, 70) | some (b, T) => (some (b != false, T), (K : Int) + 4, 0)) := Lib.hid (by
        rw [hpx, hn]
        by_cases hk : K = s.size - 3
        · rw [if_pos hk, if_pos hk]; rfl
        · rw [if_neg hk, if_neg hk]; rfl)
      clear hpx hn hAt hNo hKK z2 b3 hnl
      go_enter Tryz.func48, Tryz.ntmps48
      go_wp2
      go_loop [9] (fun A => ∃ e : Nat, 3 ≤ e ∧ e ≤ 3 + K ∧ A = .int .i64 (e : Int)) (fun A => s.size - (intOf A).toNat)
      case atStart => exact ⟨3, Nat.le_refl _, by omega, rfl⟩
      case round =>
        obtain ⟨e, he, hek, rfl⟩ := hrel
        by_cases h9 : e < 3 + K
        · have h8 : e < s.size := by omega
          have h7 : (e : Int) < (s.size : Int) := by omega
          have h6 := HNO.out e h8 he h9
          have hw : IntKind.i64.wrap ((e : Int) + 1) = ((e + 1 : Nat) : Int) := by rw [IntKind.wrap_i64]; omega
          go_wp2
          go_round
          case rel => exact ⟨e + 1, by omega, by omega, by go_num⟩
          case measure => simp [intOf]; omega
        · obtain rfl : e = 3 + K := by omega
          obtain ⟨E, hE⟩ : ∃ E, 3 + K = E := ⟨_, rfl⟩
          rw [hE] at HPN hek ⊢
          by_cases h8 : K = s.size - 3
          · have HE : Hid (R = (none, 0, 82)) := Lib.hid (by rw [HPN.out, if_pos h8])
            have h7 : ¬ (E : Int) < (s.size : Int) := by omega
            have h6 : ((E : Int) == (s.size : Int)) = true := by simp; omega
            clear hE h8 he h9 hek
            go_wp2
            go_ret3
            rw [HE.out]
            exact ⟨.slice none 0 0, [], rfl, rfl, RgOwn.nil, Below.refl _ _⟩
          · have HPX : Hid (R = match Cl.lookC Cl.propT (s.extract 3 E).data.toList with | none => (none, 0, 70) | some (b, T) => (some (b != false, T), (K : Int) + 4, 0)) := Lib.hid (by rw [HPN.out, if_neg h8])
            have h5 : E < s.size := by omega
            have h7 : (E : Int) < (s.size : Int) := by omega
            have h4 : ((s[E].toNat : Int) != 125) = false := by subst hE; exact HAT.out h5
            have h6 : ((E : Int) == (s.size : Int)) = false := by simp; omega
            have h3 : (3 : Int) ≤ (E : Int) := by omega
            have hw : IntKind.i64.wrap ((E : Int) + 1) = (K : Int) + 4 := by rw [IntKind.wrap_i64]; omega
            clear hE h8 he h9 hek
            go_wp2_with fail
            refine (refProp_any _ (s.extract 3 E) (by first | (rw [ByteArray.size_extract]; omega) | omega)).mono ?_
            rintro e w2 ⟨v, out, c9, rfl, hc9, ho, hb9⟩
            rw [← data_toList] at hc9
            have HB := Lib.hid hb9
            have HO := Lib.hid ho
            cases hl : Cl.lookC Cl.propT (s.extract 3 E).data.toList with
            | none =>
              rw [hl] at hc9
              obtain ⟨rfl, rfl⟩ := hc9
              have HR : Hid (R = (none, 0, 70)) := Lib.hid (by rw [HPX.out, hl])
              clear hl ho hb9
              go_wp2
              go_ret3
              rw [HR.out]
              exact ⟨.slice none 0 0, [], rfl, rfl, RgOwn.nil, HB.out⟩
            | some x =>
              obtain ⟨b, T⟩ := x
              rw [hl] at hc9
              have HS := Lib.hid (Br.setIs_of hc9)
              obtain rfl : c9 = 0 := hc9.1
              have HR : Hid (R = (some (b != false, T), (K : Int) + 4, 0)) := Lib.hid (by rw [HPX.out, hl])
              clear hl ho hb9 hc9
              go_wp2
              go_ret3
              rw [HR.out]
              exact ⟨v, out, rfl, by simpa using HS.out, HO.out, HB.out⟩

    have b3b : ((s[2].toNat : Int) == 123) = false := by simpa using b3
    have HL := Lib.hid (rLetter_any W (s[2].toNat : Int) (by omega) (by omega))
    cases hl2 : Br.letB (s[2].toNat : Int) with
    | false =>
      rw [hl2] at HL hn
      rw [if_neg (by decide), if_pos b3] at hn
      have HE : Hid (R = (none, 0, 70)) := Lib.hid (by rw [hpx, hn]; rfl)
      clear hpx hn hl2 b3 z2
      go_enter Tryz.func48, Tryz.ntmps48
      go_wp2_with fail
      refine HL.out.mono ?_
      rintro e w' ⟨rfl, rfl⟩
      go_wp2
      go_ret3
      rw [HE.out]
      exact ⟨.slice none 0 0, [], rfl, rfl, RgOwn.nil, Below.refl _ _⟩
    | true =>
      rw [hl2] at HL hn
      rw [if_pos rfl] at hn
      have HPX : Hid (R = match Cl.lookC Cl.propT (s.extract 2 3).data.toList with | none => (none, 0, 70) | some (b, T) => (some (b != false, T), 3, 0)) := Lib.hid (by rw [hpx, hn]; rfl)
      clear hpx hn hl2 b3 z2
      go_enter Tryz.func48, Tryz.ntmps48
      go_wp2_with fail
      refine HL.out.mono ?_
      rintro e w' ⟨rfl, rfl⟩
      go_wp2_with fail
      refine (refProp_any _ (s.extract 2 3) (by first | (rw [ByteArray.size_extract]; omega) | omega)).mono ?_
      rintro e w2 ⟨v, out, c9, rfl, hc9, ho, hb9⟩
      rw [← data_toList] at hc9
      have HB := Lib.hid hb9
      have HO := Lib.hid ho
      cases hl : Cl.lookC Cl.propT (s.extract 2 3).data.toList with
      | none =>
        rw [hl] at hc9
        obtain ⟨rfl, rfl⟩ := hc9
        have HR : Hid (R = (none, 0, 70)) := Lib.hid (by rw [HPX.out, hl])
        clear hl ho hb9
        go_wp2
        go_ret3
        rw [HR.out]
        exact ⟨.slice none 0 0, [], rfl, rfl, RgOwn.nil, HB.out⟩
      | some x =>
        obtain ⟨b, T⟩ := x
        rw [hl] at hc9
        have HS := Lib.hid (Br.setIs_of hc9)
        obtain rfl : c9 = 0 := hc9.1
        have HR : Hid (R = (some (b != false, T), 3, 0)) := Lib.hid (by rw [HPX.out, hl])
        clear hl ho hb9 hc9
        go_wp2
        go_ret3
        rw [HR.out]
        exact ⟨v, out, rfl, by simpa using HS.out, HO.out, HB.out⟩
end Go.Proofs.YtmdpchiiamgnnaaGreatDoor
