/- The reference's bracket (burinref07): a span, its ends in order. · The reference's bracket (burinref07): an item that begins like a class between colons. · The reference's bracket (burinref07): an item, whole. · An owned list of ranges, with a list that reads behind it. · The reference's fold (burinref03): the contracts of span, Pairs, joined and with. -/
import Derived.Test.YtmdpchiiamgnnaaGreatDoorGp29
import Derived.Test.YtmdpchiiamgnnaaGreatDoorGp28
import Derived.Test.YtmdpchiiamgnnaaGreatDoorGp8
import Derived.Test.YtmdpchiiamgnnaaGreatDoorGp16
import Derived.Test.YtmdpchiiamgnnaaGreatDoorGp15
namespace Go.Proofs.YtmdpchiiamgnnaaGreatDoor
open Go.RowKit
set_option linter.unusedVariables false
set_option maxRecDepth 100000 in
set_option maxHeartbeats 8000000 in
theorem rSpan_yes (W : World) (s : ByteArray) (hs : s.size ≤ 100000) (a : Nat) (ha : a < s.size) (c0 : ¬ (((Utf.nums s).drop a)[0]? = some 91 ∧ ((Utf.nums s).drop a)[1]? = some 58)) (hc : (Br.set (s.extract a s.size)).2.2 = 3 ∨ (Br.set (s.extract a s.size)).2.2 = 5)
    (hk : (Br.one ((Utf.nums s).drop a)).2.2 = 0) (hg : Br.goesOn ((Utf.nums s).drop (a + (Br.one ((Utf.nums s).drop a)).2.1.toNat)) = true)
    (hq2 : ¬ ((Br.set (s.extract (a + (Br.one ((Utf.nums s).drop a)).2.1.toNat + 1) s.size)).2.2 ≠ 3 ∧ (Br.set (s.extract (a + (Br.one ((Utf.nums s).drop a)).2.1.toNat + 1) s.size)).2.2 ≠ 5) ∧ (Br.one ((Utf.nums s).drop (a + (Br.one ((Utf.nums s).drop a)).2.1.toNat + 1))).2.2 = 0 ∧ ¬ (Br.one ((Utf.nums s).drop (a + (Br.one ((Utf.nums s).drop a)).2.1.toNat + 1))).1 < (Br.one ((Utf.nums s).drop a)).1) :
    Calls Tryz.prog 27 #[.string s, .int .i64 (a : Int)] W (RItPost W (Br.span s a) a) := by
  obtain ⟨X, hX⟩ : ∃ X, Br.span s a = X := ⟨_, rfl⟩
  rw [hX]
  unfold Br.span at hX
  dsimp only at hX
  have hcase := item_head s a c0
  have hzs : (s.extract a s.size).size = s.size - a := by rw [ByteArray.size_extract]; omega
  have HS := Lib.hid (rSet_any W (s.extract a s.size) (by omega))
  obtain ⟨⟨sx, sn, sc⟩, hsx⟩ : ∃ p, Br.set (s.extract a s.size) = p := ⟨_, rfl⟩
  rw [hsx] at HS hc
  dsimp only at hc
  have hai : (a : Int) ≤ (s.size : Int) := by omega
  have hbn := Utf.bytes_drop (Utf.nums_bytes s)
  have HC1 := Lib.hid (fun w => rOne_any w (s.extract a s.size) (by omega) (by omega))
  rw [tail_drop] at HC1
  have o1 := Br.one_cases ((Utf.nums s).drop a) (hbn a)
  rw [List.length_drop, Utf.nums_length] at o1
  obtain ⟨⟨lo, n, c⟩, hp⟩ : ∃ p, Br.one ((Utf.nums s).drop a) = p := ⟨_, rfl⟩
  rw [hp] at HC1 hX o1 hk hg hq2
  dsimp only at HC1 hX o1 hk hg hq2
  clear hsx hp c0
  have k0 : ¬ c ≠ 0 := by omega
  obtain rfl : c = 0 := by omega
  rw [if_neg k0] at hX
  have o1' : 0 ≤ lo ∧ lo ≤ 1114111 ∧ 1 ≤ n ∧ n ≤ (s.size - a : Nat) := by omega
  obtain ⟨k, rfl⟩ : ∃ k : Nat, n = k := ⟨n.toNat, by omega⟩
  rw [Int.toNat_natCast] at hX hg hq2
  obtain ⟨b, hb⟩ : ∃ b, a + k = b := ⟨_, rfl⟩
  obtain ⟨q, hq⟩ : ∃ q, b + 1 = q := ⟨_, rfl⟩
  rw [hb, hq] at hX
  rw [hb] at hg hq2
  rw [hq] at hq2
  have hbs : b ≤ s.size := by omega
  have hw1 : IntKind.i64.wrap ((a : Int) + (k : Int)) = (b : Int) := by rw [IntKind.wrap_i64]; omega
  have hw2 : IntKind.i64.wrap ((b : Int) + 1) = (q : Int) := by rw [IntKind.wrap_i64]; omega
  have hlo : -9223372036854775808 ≤ lo ∧ lo ≤ 9223372036854775807 := by omega
  have hgo := goes_cases s b q hq
  have HK := Lib.hid (And.intro hb hq)
  have HLO := Lib.hid o1'
  clear k0 o1 hb hq o1'
  rcases hgo with ⟨hg', g1⟩ | ⟨gb, gq, hgo⟩
  · rw [hg] at hg'; cases hg'
  have gbi : (b : Int) < (s.size : Int) := by omega
  have gqi : (q : Int) < (s.size : Int) := by omega
  have gn : ¬ (s.size : Int) ≤ (q : Int) := by omega
  have hqs : (q : Int) ≤ (s.size : Int) := by omega
  rcases hgo with ⟨hg', g2⟩ | ⟨g2, ⟨hg', g3⟩ | ⟨_, g3⟩⟩
  · rw [hg] at hg'; cases hg'
  · rw [hg] at hg'; cases hg'
  rw [if_neg (by rw [hg]; decide)] at hX
  have hzq : (s.extract q s.size).size = s.size - q := by rw [ByteArray.size_extract]; omega
  have HS2 := Lib.hid (fun w => rSet_any w (s.extract q s.size) (by omega))
  have HC2 := Lib.hid (fun w => rOne_any w (s.extract q s.size) (by omega) (by omega))
  rw [tail_drop] at HC2
  have o2 := Br.one_cases ((Utf.nums s).drop q) (hbn q)
  rw [List.length_drop, Utf.nums_length] at o2
  obtain ⟨⟨s2x, s2n, s2c⟩, hs2⟩ : ∃ p, Br.set (s.extract q s.size) = p := ⟨_, rfl⟩
  obtain ⟨⟨hi, n2, c2⟩, hp2⟩ : ∃ p, Br.one ((Utf.nums s).drop q) = p := ⟨_, rfl⟩
  rw [hs2] at HS2 hX hq2
  rw [hp2] at HC2 hX o2 hq2
  dsimp only at HC2 HS2 hX o2 hq2
  clear hs2 hp2
  obtain ⟨k1, k2', k3⟩ := hq2
  have k2 : ¬ c2 ≠ 0 := by omega
  rw [if_neg k1] at hX
  have hc2 : s2c = 3 ∨ s2c = 5 := by omega
  obtain rfl : c2 = 0 := by omega
  rw [if_neg k2] at hX
  have o2' : 0 ≤ hi ∧ hi ≤ 1114111 ∧ 1 ≤ n2 ∧ n2 ≤ (s.size - q : Nat) := by omega
  obtain ⟨k, rfl⟩ : ∃ k : Nat, n2 = k := ⟨n2.toNat, by omega⟩
  rw [Int.toNat_natCast] at hX
  have hhi : -9223372036854775808 ≤ hi ∧ hi ≤ 9223372036854775807 := by omega
  clear o2 k2
  rw [if_neg k3] at hX
  obtain ⟨z, hz⟩ : ∃ z, q + k = z := ⟨_, rfl⟩
  rw [hz] at hX
  have hw3 : IntKind.i64.wrap ((q : Int) + (k : Int)) = (z : Int) := by rw [IntKind.wrap_i64]; omega
  have HR := Lib.hid hX.symm
  clear hX o2' hz
  rcases hc2 with rfl | rfl
  all_goals
    rcases hc with rfl | rfl <;> rcases hcase with h1 | ⟨h1, hp9, hp0, h2⟩ | ⟨h1, hp9, hp8, hp0, h2, h3⟩
    all_goals
      go_enter Tryz.func27, Tryz.ntmps27
      go_wp2_with fail
      refine HS.out.mono ?_
      rintro e w1 ⟨v, out, rfl, _, _, hb⟩
      have HB := Lib.hid hb
      clear hb
      go_wp2_with fail
      refine (HC1.out _).mono ?_
      rintro e w2 ⟨rfl, hb⟩
      have HB2 := Lib.hid (HB.out.trans (hb.mono HB.out.size))
      clear hb
      go_wp2_with fail
      refine (HS2.out _).mono ?_
      rintro e w3 ⟨v3, out3, rfl, _, _, hb⟩
      have HB3 := Lib.hid (HB2.out.trans (hb.mono HB2.out.size))
      clear hb
      go_wp2_with fail
      refine (HC2.out _).mono ?_
      rintro e w4 ⟨rfl, hb⟩
      have HB4 := Lib.hid (HB3.out.trans (hb.mono HB3.out.size))
      clear hb
      go_wp2
      go_ret3
      exact ⟨HB4.out.alloc HB4.out.size _, .inr ⟨_, _, _, _, HR.out, rfl, rfl, rrow_one _ lo hi hlo hhi _⟩⟩
end Go.Proofs.YtmdpchiiamgnnaaGreatDoor
namespace Go.Proofs.YtmdpchiiamgnnaaGreatDoor
open Go.RowKit
set_option linter.unusedVariables false
set_option maxRecDepth 100000 in
set_option maxHeartbeats 8000000 in
theorem rItem_colon (W : World) (s : ByteArray) (hs : s.size ≤ 100000) (a : Nat) (ha : a < s.size) (c0 : ((Utf.nums s).drop a)[0]? = some 91 ∧ ((Utf.nums s).drop a)[1]? = some 58) :
    Calls Tryz.prog 27 #[.string s, .int .i64 (a : Int)] W (RItPost W (Br.item s a) a) := by
  obtain ⟨X, hX⟩ : ∃ X, Br.item s a = X := ⟨_, rfl⟩
  rw [hX]
  unfold Br.item at hX
  dsimp only at hX
  rw [if_pos c0] at hX
  unfold Br.colonX at hX
  dsimp only at hX
  have hm : (s.extract a s.size).size = s.size - a := by rw [ByteArray.size_extract]; omega
  have hat : ∀ j (h : j < (s.extract a s.size).size), ((Utf.nums s).drop a)[j]? = some (((s.extract a s.size)[j]'h).toNat : Int) := fun j h => by
    rw [← tail_drop s a]
    have := Utf.nums_at (s.extract a s.size) j h
    rw [List.getElem?_eq_getElem (by rw [Utf.nums_length]; exact h)] at this ⊢
    simpa using this
  have hl2 : 2 ≤ s.size - a := by
    have := (List.getElem?_eq_some_iff.1 c0.2).1
    rw [List.length_drop, Utf.nums_length] at this; omega
  obtain ⟨m, hmm⟩ : ∃ m, s.size - a = m := ⟨_, rfl⟩
  have H0 : ∃ h : 0 < (s.extract a s.size).size, ((((s.extract a s.size)[0]'h).toNat : Int) == 91) = true := ⟨by omega, by
    have := hat 0 (by omega); rw [c0.1] at this; injection this with e; rw [← e]; rfl⟩
  have H1 : ∃ h : 1 < (s.extract a s.size).size, ((((s.extract a s.size)[1]'h).toNat : Int) == 58) = true := ⟨by omega, by
    have := hat 1 (by omega); rw [c0.2] at this; injection this with e; rw [← e]; rfl⟩
  have hlen : ((Utf.nums s).drop (a + 2)).length = s.size - a - 2 := by rw [List.length_drop, Utf.nums_length]; omega
  have hK := Br.upTo2_le 58 93 ((Utf.nums s).drop (a + 2))
  have hAt := Br.upTo2_at 58 93 ((Utf.nums s).drop (a + 2))
  have hNo := Br.upTo2_no 58 93 ((Utf.nums s).drop (a + 2))
  rw [hlen] at hK hAt hX
  obtain ⟨K, hKK⟩ : ∃ K, Br.upTo2 58 93 ((Utf.nums s).drop (a + 2)) = K := ⟨_, rfl⟩
  rw [hKK] at hX hK hAt hNo
  have hsub : (s.extract a s.size).extract 2 (2 + K) = s.extract (a + 2) (a + 2 + K) := by
    rw [ByteArray.extract_extract]
    congr 1; omega
  have HNO : Hid (∀ i q (hq : i + 1 = q) (h : i < (s.extract a s.size).size) (h' : q < (s.extract a s.size).size), 2 ≤ i → i < 2 + K → (((((s.extract a s.size)[i]'h).toNat : Int) == 58) = false) ∨ (((((s.extract a s.size)[i]'h).toNat : Int) == 58) = true ∧ ((((s.extract a s.size)[q]'h').toNat : Int) == 93) = false)) := Lib.hid (fun i q hq h h' hi hk => by
    subst hq
    have h1 := hNo (i - 2) (by omega)
    have e1 := hat i h
    have e2 := hat (i + 1) h'
    rw [List.getElem?_drop] at e1 e2
    rw [List.getElem?_drop, List.getElem?_drop, show a + 2 + (i - 2) = a + i by omega, show a + 2 + (i - 2 + 1) = a + (i + 1) by omega, e1, e2] at h1
    by_cases g : (((s.extract a s.size)[i]'h).toNat : Int) = 58
    · refine .inr ⟨by simp [g], ?_⟩
      rw [beq_eq_false_iff_ne]
      intro g2
      exact h1 ⟨by rw [g], by rw [g2]⟩
    · exact .inl (by rw [beq_eq_false_iff_ne]; exact g))
  have HAT : Hid (K < m - 2 → 2 + K + 1 < m ∧ ∀ i q (hi : i = 2 + K) (hq : i + 1 = q) (h : i < (s.extract a s.size).size) (h' : q < (s.extract a s.size).size), ((((s.extract a s.size)[i]'h).toNat : Int) == 58) = true ∧ ((((s.extract a s.size)[q]'h').toNat : Int) == 93) = true) := Lib.hid (fun hk => by
    have h1 := hAt (by omega)
    have h2 := (List.getElem?_eq_some_iff.1 h1.2).1
    rw [hlen] at h2
    refine ⟨by omega, fun i q hi hq h h' => ?_⟩
    subst hq
    subst hi
    have e1 := hat (2 + K) h
    have e2 := hat (2 + K + 1) h'
    rw [List.getElem?_drop] at e1 e2
    rw [List.getElem?_drop, List.getElem?_drop, show a + 2 + K = a + (2 + K) by omega, show a + 2 + (K + 1) = a + (2 + K + 1) by omega, e1, e2] at h1
    injection h1.1 with g1
    injection h1.2 with g2
    exact ⟨by rw [g1]; rfl, by rw [g2]; rfl⟩)
  rw [hmm] at hX hK
  have HX : Hid (X = if K = m - 2 then .bad a 82 else match Cl.lookC Cl.colonT (s.extract (a + 2) (a + 2 + K)).data.toList with
    | none => .bad a 70
    | some x => .ok (.cls x) (a + 4 + K)) := Lib.hid hX.symm
  have HSUB := Lib.hid hsub
  have hai : (a : Int) ≤ (s.size : Int) := by omega
  have hp9 : (1 : Int) < ((s.size - a : Nat) : Int) := by omega
  have hp8 : 0 < s.size - a := by omega
  have hp7 : 1 < s.size - a := by omega
  obtain ⟨hp0, hp1⟩ := H0
  obtain ⟨hp2, hp3⟩ := H1
  have HMM := Lib.hid hmm
  have HM := Lib.hid hm
  clear hX hat hAt hNo hKK hsub hlen c0 hl2 hmm
  go_enter Tryz.func27, Tryz.ntmps27
  go_wp2
  go_loop [8] (fun A => ∃ e : Nat, 2 ≤ e ∧ e ≤ 2 + K ∧ A = .int .i64 (e : Int)) (fun A => s.size - (intOf A).toNat)
  case atStart => exact ⟨2, Nat.le_refl _, by omega, rfl⟩
  case round =>
    obtain ⟨e, he, hek, rfl⟩ := hrel
    have hmm := HMM.out
    have hm2 := HM.out
    obtain ⟨q, hq⟩ : ∃ q, e + 1 = q := ⟨_, rfl⟩
    have hw : IntKind.i64.wrap ((e : Int) + 1) = (q : Int) := by rw [IntKind.wrap_i64]; omega
    by_cases h9 : q < s.size - a
    · have h9i : (q : Int) < ((s.size - a : Nat) : Int) := by omega
      have h8 : e < (s.extract a s.size).size := by omega
      have h7 : q < (s.extract a s.size).size := by omega
      have h6 : e < s.size - a := by omega
      by_cases hE : e = 2 + K
      · have hcb : ¬ K = m - 2 := by omega
        obtain ⟨g1, g2⟩ := (HAT.out (by omega)).2 e q hE hq h8 h7
        have HPX := HX.out
        rw [if_neg hcb] at HPX
        have HPX2 := Lib.hid HPX
        have hsz : ((s.extract a s.size).extract 2 e).size ≤ 9223372036854775807 := by rw [ByteArray.size_extract]; omega
        have h2e : (2 : Int) ≤ (e : Int) := by omega
        have hee : (e : Int) ≤ ((s.size - a : Nat) : Int) := by omega
        have HRC := Lib.hid (fun w => refColon_any w ((s.extract a s.size).extract 2 e) hsz)
        have HSE : Hid ((s.extract a s.size).extract 2 e = s.extract (a + 2) (a + 2 + K)) := Lib.hid (by rw [hE]; exact HSUB.out)
        have hw2 : IntKind.i64.wrap ((a : Int) + (e : Int)) = ((a + e : Nat) : Int) := by rw [IntKind.wrap_i64]; omega
        have hw3 : IntKind.i64.wrap (((a + e : Nat) : Int) + 2) = ((a + 4 + K : Nat) : Int) := by rw [IntKind.wrap_i64]; omega
        have HE9 := Lib.hid hE
        clear hE hcb HPX hek hmm hm2
        go_wp2_with fail
        refine (HRC.out _).mono ?_
        rintro e' w1 ⟨v, out, code, rfl, hc, ho, hb⟩
        rw [← data_toList, HSE.out] at hc
        have HPX := HPX2.out
        have HB := Lib.hid hb
        cases hl : Cl.lookC Cl.colonT (s.extract (a + 2) (a + 2 + K)).data.toList with
        | none =>
          rw [hl] at hc HPX
          obtain ⟨rfl, rfl⟩ := hc
          have HR := Lib.hid HPX
          clear hl ho hb HPX
          go_wp2
          go_ret3
          exact ⟨HB.out, .inl ⟨_, _, HR.out, rfl⟩⟩
        | some x =>
          rw [hl] at hc HPX
          have HS := Lib.hid (Br.setIs_of hc)
          obtain rfl : code = 0 := hc.1
          have HR := Lib.hid HPX
          have HO := Lib.hid (setIs_row HS.out ho)
          clear hl ho hb hc HPX
          go_wp2
          go_ret3
          refine ⟨HB.out, .inr ⟨_, _, v, out, HR.out, ?_, HS.out, HO.out⟩⟩
          rw [show ((a + 4 + K : Nat) : Int) = (a : Int) + (e : Int) + 2 by have := HE9.out; omega]
          rfl
      · have hlt : e < 2 + K := by omega
        rcases HNO.out e q hq h8 h7 he hlt with g | ⟨g1, g2⟩
        · clear hE hmm hm2
          go_wp2
          go_round
          case rel => exact ⟨q, by omega, by omega, by go_num⟩
          case measure => simp [intOf]; omega
        · clear hE hmm hm2
          go_wp2
          go_round
          case rel => exact ⟨q, by omega, by omega, by go_num⟩
          case measure => simp [intOf]; omega
    · have h9i : ¬ (q : Int) < ((s.size - a : Nat) : Int) := by omega
      have hR : X = .bad a 82 := by
        rw [HX.out, if_pos]
        rcases Nat.lt_or_ge K (m - 2) with hl | hl
        · have := (HAT.out hl).1; omega
        · omega
      have HR := Lib.hid hR
      clear hR h9 hq hmm hm2
      go_wp2
      go_ret3
      exact ⟨Below.refl _ _, .inl ⟨_, _, HR.out, rfl⟩⟩
end Go.Proofs.YtmdpchiiamgnnaaGreatDoor
namespace Go.Proofs.YtmdpchiiamgnnaaGreatDoor
open Go.RowKit
set_option linter.unusedVariables false
theorem item_span {s : ByteArray} {a : Nat} (c0 : ¬ (((Utf.nums s).drop a)[0]? = some 91 ∧ ((Utf.nums s).drop a)[1]? = some 58)) (hc : (Br.set (s.extract a s.size)).2.2 = 3 ∨ (Br.set (s.extract a s.size)).2.2 = 5) : Br.item s a = Br.span s a := by
  unfold Br.item
  dsimp only
  rw [if_neg c0, if_neg (by omega), if_neg (by omega)]
theorem rItem_any (W : World) (s : ByteArray) (hs : s.size ≤ 100000) (a : Nat) (ha : a < s.size) :
    Calls Tryz.prog 27 #[.string s, .int .i64 (a : Int)] W (RItPost W (Br.item s a) a) := by
  by_cases c0 : ((Utf.nums s).drop a)[0]? = some 91 ∧ ((Utf.nums s).drop a)[1]? = some 58
  · exact rItem_colon W s hs a ha c0
  by_cases hc : (Br.set (s.extract a s.size)).2.2 ≠ 3 ∧ (Br.set (s.extract a s.size)).2.2 ≠ 5
  · exact rItem_set W s hs a ha c0 hc
  have hc' : (Br.set (s.extract a s.size)).2.2 = 3 ∨ (Br.set (s.extract a s.size)).2.2 = 5 := by omega
  rw [item_span c0 hc']
  by_cases hk : (Br.one ((Utf.nums s).drop a)).2.2 = 0
  · cases hg : Br.goesOn ((Utf.nums s).drop (a + (Br.one ((Utf.nums s).drop a)).2.1.toNat)) with
    | false => exact rSpan_one W s hs a ha c0 hc' hk hg
    | true =>
      by_cases h2 : (Br.set (s.extract (a + (Br.one ((Utf.nums s).drop a)).2.1.toNat + 1) s.size)).2.2 ≠ 3 ∧ (Br.set (s.extract (a + (Br.one ((Utf.nums s).drop a)).2.1.toNat + 1) s.size)).2.2 ≠ 5
      · exact rSpan_cls W s hs a ha c0 hc' hk hg h2
      · by_cases h3 : (Br.one ((Utf.nums s).drop (a + (Br.one ((Utf.nums s).drop a)).2.1.toNat + 1))).2.2 = 0
        · by_cases h4 : (Br.one ((Utf.nums s).drop (a + (Br.one ((Utf.nums s).drop a)).2.1.toNat + 1))).1 < (Br.one ((Utf.nums s).drop a)).1
          · exact rSpan_less W s hs a ha c0 hc' hk hg ⟨h2, h3, h4⟩
          · exact rSpan_yes W s hs a ha c0 hc' hk hg ⟨h2, h3, h4⟩
        · exact rSpan_bad2 W s hs a ha c0 hc' hk hg ⟨h2, h3⟩
  · exact rSpan_bad W s hs a ha c0 hc' hk
end Go.Proofs.YtmdpchiiamgnnaaGreatDoor
namespace Go.Proofs.YtmdpchiiamgnnaaGreatDoor
open Go.RowKit
set_option linter.unusedVariables false
theorem append_rg (W : World) (n0 : Nat) (vu vl : Value) (L l : List (Int × Int)) (hb0 : n0 ≤ W.heap.size) (hu : RgOwn W n0 vu L) (hl : RRow W vl l) (hlen : L.length + l.length ≤ 1000000000) :
    ∃ v' W', (Builtin.append_ #[23, 23] 23 #[vu, vl]).run Tryz.prog W = .ok v' W' ∧ RgOwn W' n0 v' (L ++ l) ∧ Below n0 W W' := by
  obtain ⟨i0, hi, hz0, hz1, hz2⟩ := info_parts Tryz.infoRange
  obtain ⟨a, cap, rfl, hl1, hl2, hl3⟩ := hl
  obtain ⟨n, hn⟩ : ∃ n, l.length = n := ⟨_, rfl⟩
  rw [hn] at hl1 hl3 hlen ⊢
  have hu' := hu
  unfold RgOwn at hu'
  by_cases hn0 : n = 0
  · subst hn0
    obtain rfl : l = [] := List.length_eq_zero_iff.1 hn
    have hrun := run_append_nothing (P := Tryz.prog) (w := W) n0 23 23 47 i0 2 Tryz.underlying23 hi _ L.length (flat2 L) hu' a cap
    exact ⟨_, _, hrun, by rw [List.append_nil]; exact hu, Below.refl _ _⟩
  · have hpos : 0 < n := by omega
    obtain ⟨b, off, rfl, hbs, _⟩ := hl3 0 hpos
    have hcells : ∀ j, j < l.length → W.cell? ⟨b, off + j * 2, none⟩ = some (.int .i64 (l[j]?.getD (0, 0)).1) ∧ W.cell? ⟨b, off + j * 2 + 1, none⟩ = some (.int .i64 (l[j]?.getD (0, 0)).2) := fun j hj => by
      obtain ⟨b', off', e, _, c1, c2⟩ := hl3 j (by omega)
      cases e
      exact ⟨c1, c2⟩
    obtain ⟨gg, cap2, W2, hrun, hown, hgrow, hat, hlt2⟩ := run_append_lies (P := Tryz.prog) W 23 23 n0 47 i0 (.agg #[.int .i64 0, .int .i64 0]) 2 16 Tryz.underlying23 hi hz0 hz1 hz2 rfl (by omega) _ L.length (flat2 L) hu'
      ⟨b, off, none⟩ n cap (flat2 l) (by rw [flat2_len, hn]) (rg_news hcells) (flat2_one l) hpos (by unfold maxLen; omega) (by omega) hb0 _ rfl
    have hfl : flat2 L ++ flat2 l = flat2 (L ++ l) := by unfold flat2; rw [List.flatMap_append]
    rw [hfl] at hown
    refine ⟨_, _, hrun, ?_, (Below.refl n0 W).grown hgrow hb0 fun j ej => ?_⟩
    · unfold RgOwn
      rw [List.length_append, hn]
      exact hown
    · rcases hu'.2 with ⟨rfl, _⟩ | ⟨g, cap, cur, rfl, hb, _, _⟩
      · simp [Value.ownBlock] at ej
      · obtain rfl : g = j := by simpa [Value.ownBlock] using ej
        exact hb
end Go.Proofs.YtmdpchiiamgnnaaGreatDoor
namespace Go.Proofs.YtmdpchiiamgnnaaGreatDoor
open Go.RowKit
set_option linter.unusedVariables false
theorem Tryz.infoPair : (Tryz.prog.info? 72).map (fun i => (i.zero, i.size, i.bytes)) = some (some (.agg #[.int .i64 0, .int .i64 0]), 2, 16) := by kernel_rfl
/-- A list of pairs that a call owns. -/
def POwn (W : World) (base : Nat) (v : Value) (l : List (Int × Int)) : Prop := W.ownsRow base 72 2 v l.length (flat2 l)
theorem POwn.nil {W : World} {base : Nat} : POwn W base (.slice none 0 0) [] := World.ownsRow_nil _ _ _ _
theorem POwn.below {W W' : World} {base : Nat} {v : Value} {l : List (Int × Int)} (h : POwn W base v l) (hb : Below W.heap.size W W') : POwn W' base v l :=
  h.kept ⟨hb.os, hb.tape, hb.output, hb.size, fun k hk _ => hb.block k hk⟩ (row := none) (by cases hv : v.ownBlock <;> simp)
theorem POwn.lower {W : World} {base base' : Nat} {v : Value} {l : List (Int × Int)} (h : POwn W base v l) (hb : base' ≤ base) : POwn W base' v l :=
  ⟨h.1, h.2.imp id (fun ⟨g, cap, cur, h1, h2, h3⟩ => ⟨g, cap, cur, h1, Nat.le_trans hb h2, h3⟩)⟩
theorem POwn.row {W : World} {base : Nat} {v : Value} {l : List (Int × Int)} (h : POwn W base v l) (hl : l.length ≤ 8796093022208) (hw : Wide64 l) : RRow W v l := by
  rcases h.2 with ⟨hv, h0⟩ | ⟨g, cap, cur, hv, hb, hg, _⟩
  · exact ⟨none, 0, by rw [h0]; exact hv, hl, hw, fun j hj => by omega⟩
  · subst hv
    refine ⟨_, cap, rfl, hl, hw, fun j hj => ?_⟩
    have hf := flat2_get l j hj
    have hln := flat2_len l
    refine ⟨g, 0, rfl, (Array.getElem?_eq_some_iff.1 hg).1, ?_, ?_⟩
    · rw [Nat.zero_add, World.ownsRow.cellAt h _ (by omega)]; exact hf.1
    · rw [Nat.zero_add, World.ownsRow.cellAt h _ (by omega)]; exact hf.2
theorem POwn.some {W : World} {base : Nat} {v : Value} {l : List (Int × Int)} (h : POwn W base v l) (hl : 0 < l.length) : ∃ g cap, v = .slice (some ⟨g, 0, none⟩) l.length cap ∧ base ≤ g ∧ g < W.heap.size ∧ ∀ j u, (flat2 l)[j]? = some u → W.cell? ((⟨g, 0, none⟩ : Addr).add j) = some u := by
  rcases h.2 with ⟨hv, h0⟩ | ⟨g, cap, cur, hv, hb, hg, _⟩
  · omega
  · subst hv
    exact ⟨g, cap, rfl, hb, (Array.getElem?_eq_some_iff.1 hg).1, World.ownsRow.cells h rfl⟩
set_option maxRecDepth 100000 in
set_option maxHeartbeats 2000000 in
theorem span_any (W : World) (lo hi up : Int) (n : Nat) (h0 : 0 ≤ lo) (h1 : lo ≤ 5000) (h2 : 0 ≤ up) (h3 : up ≤ 1000) (h4 : n ≤ 1000) (h5 : hi = lo + n - 1) :
    Calls Tryz.prog 89 #[.int .i64 lo, .int .i64 hi, .int .i64 up] W fun e w' => ∃ v, e = .returned v ∧ POwn w' W.heap.size v (Fd.spanL lo up n) ∧ Below W.heap.size W w' := by
  obtain ⟨i0, hi0, hz0, hz1, hz2⟩ := info_parts Tryz.infoPair
  have h6 : hi < lo + n := by omega
  have h7 : lo + n ≤ hi + 1 := by omega
  clear h5
  go_enter Tryz.func89, Tryz.ntmps89
  go_wp2
  go_loopw [7, 8] (fun V C wr => ∃ k : Nat, k ≤ n ∧ C = .int .i64 (lo + k) ∧ Hid (POwn wr W.heap.size V (Fd.spanL lo up k)) ∧ Hid (Below W.heap.size W wr)) (fun _ C _ => (lo + n - intOf C).toNat)
  case atStart => exact ⟨0, Nat.zero_le _, by simp, Lib.hid POwn.nil, Lib.hid (Below.refl _ _)⟩
  case round =>
    obtain ⟨k, hk, rfl, HO, HB⟩ := hrel
    by_cases hlt : k < n
    · have hown := HO.out
      unfold POwn at hown
      rw [Fd.spanL_len] at hown
      have hsz := HB.out.size
      have HS := Lib.hid (Fd.spanL_snoc k lo up)
      have c1 : lo + (k : Int) ≤ hi := by omega
      obtain ⟨c, hc⟩ : ∃ c, lo + (k : Int) = c := ⟨_, rfl⟩
      rw [hc] at HS c1 ⊢
      have d1 : 0 ≤ c := by omega
      have d2 : c ≤ 6000 := by omega
      have HC := Lib.hid hc
      clear hc
      go_wp2_with (at_builtin; (refine wpList_append_own _ (by rfl) _ _ 69 (by rfl) W.heap.size 72 i0 (.agg #[.int .i64 0, .int .i64 0]) 2 16 Tryz.underlying69 hi0 hz0 hz1 hz2 rfl (by decide) _ k (flat2 (Fd.spanL lo up k)) (by rfl) (hown.alloc _) ⟨wr.heap.size, 0, none⟩ 1 1 [.int .i64 c, .int .i64 (c + up)] (by rfl) rfl (World.news_of_block (cs := #[.int .i64 c, .int .i64 (c + up)]) (heap_alloc_new wr _)) (by simp [Value.oneCell']) (by unfold maxLen; omega) (by omega) (by simp; omega) ?_))
      intro v1 w1 hown1 hgrow _
      have hO2 : POwn w1 W.heap.size v1 (Fd.spanL lo up (k + 1)) := by
        unfold POwn; rw [Fd.spanL_len, HS.out, flat2_snoc]; exact hown1
      have hB2 := (HB.out.alloc hsz _).grown hgrow (by simp; omega) (fun q hq => (hown.lt q hq).1)
      have HO2 := Lib.hid hO2
      have HB2 := Lib.hid hB2
      clear hO2 hown1 hgrow hown hB2
      go_wp2
      go_roundw
      case rel => exact ⟨k + 1, by omega, by rw [show lo + ((k + 1 : Nat) : Int) = c + 1 from by have := HC.out; omega], HO2, HB2⟩
      case measure => have := HC.out; simp [intOf]; omega
    · obtain rfl : k = n := by omega
      have c1 : hi < lo + (k : Int) := by omega
      go_wp2
      go_ret
      exact ⟨_, rfl, HO.out, HB.out⟩
set_option maxRecDepth 100000 in
set_option maxHeartbeats 2000000 in
theorem joined_any (W : World) (v : Value) (l : List Int) (r : Int) (hr : IRow W v l) :
    Calls Tryz.prog 90 #[v, .int .i64 r] W fun e w' => e = .returned (.bool (Fd.joinB l r)) ∧ W = w' := by
  obtain ⟨a, cap, rfl, hnc, hcm, hc⟩ := hr
  have HC := Lib.hid hc
  obtain ⟨n, hn⟩ : ∃ n, l.length = n := ⟨_, rfl⟩
  have HN := Lib.hid hn
  rw [hn] at HC hnc ⊢
  clear hc hn
  go_enter Tryz.func90, Tryz.ntmps90
  go_wp2
  go_loop [4, 5] (fun R i => ∃ k : Nat, k ≤ n ∧ i = .int .i64 k ∧ Hid (Fd.joinB (l.take k) r = false)) (fun _ i => n - (intOf i).toNat)
  case atStart => exact ⟨0, Nat.zero_le _, rfl, Lib.hid rfl⟩
  case round =>
    obtain ⟨k, hk, rfl, HJ⟩ := hrel
    by_cases hlt : k < n
    · obtain ⟨b, rfl, hb, hcell⟩ := HC.out k hlt
      have HT := Lib.hid (Fd.joinB_take_succ l k r (by rw [HN.out]; exact hlt))
      obtain ⟨x, hx⟩ : ∃ x, l[k]?.getD 0 = x := ⟨_, rfl⟩
      have HM : Hid (x = r → Fd.joinB l r = true) := Lib.hid (fun e => (Fd.joinB_iff l r).2 (by
        rw [← e, ← hx, List.getElem?_eq_getElem (by rw [HN.out]; exact hlt)]; exact List.getElem_mem _))
      rw [hx] at hcell HT
      clear hx
      by_cases e : x = r
      · have HR := Lib.hid (HM.out e)
        have hq : (x == r) = true := by rw [e]; simp
        clear e
        go_wp2
        go_ret
        exact ⟨by rw [HR.out]; rfl, rfl⟩
      · have hq : (x == r) = false := beq_eq_false_iff_ne.2 e
        have HJ' : Hid (Fd.joinB (l.take (k + 1)) r = false) := Lib.hid (by rw [HT.out, HJ.out, decide_eq_false e]; rfl)
        clear e
        go_wp2
        go_round
        case rel => exact ⟨k + 1, by omega, by go_num, HJ'⟩
        case measure => simp [intOf]; omega
    · obtain rfl : k = n := by omega
      have hJ := HJ.out
      rw [List.take_of_length_le (by rw [HN.out]; exact Nat.le_refl _)] at hJ
      have HJ' := Lib.hid hJ
      clear hJ
      go_wp2
      go_ret
      exact ⟨by rw [HJ'.out]; rfl, rfl⟩
end Go.Proofs.YtmdpchiiamgnnaaGreatDoor
