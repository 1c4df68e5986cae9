/- The reference's bracket (burinref07): an item that is a rune or a span. · The reference's bracket (burinref07): a span, a set behind the hyphen. · The reference's bracket (burinref07): a span, a number refused behind the hyphen. · The reference's bracket (burinref07): a span, its ends turned. -/
import Derived.Test.YtmdpchiiamgnnaaGreatDoorGp28
namespace Go.Proofs.YtmdpchiiamgnnaaGreatDoor
open Go.RowKit
set_option linter.unusedVariables false
theorem goes_cases (s : ByteArray) (b q : Nat) (hq : b + 1 = q) : (Br.goesOn ((Utf.nums s).drop b) = false ∧ (s.size : Int) ≤ (q : Int)) ∨
    (∃ (h : b < s.size) (h' : q < s.size), ((Br.goesOn ((Utf.nums s).drop b) = false ∧ (((s[b]'h).toNat : Int) != 45) = true) ∨ (((s[b]'h).toNat : Int) != 45) = false ∧ ((Br.goesOn ((Utf.nums s).drop b) = false ∧ (((s[q]'h').toNat : Int) == 93) = true) ∨ (Br.goesOn ((Utf.nums s).drop b) = true ∧ (((s[q]'h').toNat : Int) == 93) = false)))) := by
  subst hq
  rcases Nat.lt_or_ge (b + 1) s.size with h | h
  · refine .inr ⟨by omega, h, ?_⟩
    have l0 : ((Utf.nums s).drop b)[0]? = some (s[b].toNat : Int) := by
      have := Utf.nums_at s b (by omega)
      rw [List.getElem?_drop, Nat.add_zero]
      rw [List.getElem?_eq_getElem (by rw [Utf.nums_length]; omega)] at this ⊢
      simpa using this
    have l1 : ((Utf.nums s).drop b)[1]? = some (s[b + 1].toNat : Int) := by
      have := Utf.nums_at s (b + 1) h
      rw [List.getElem?_drop]
      rw [List.getElem?_eq_getElem (by rw [Utf.nums_length]; omega)] at this ⊢
      simpa using this
    have ll : 2 ≤ ((Utf.nums s).drop b).length := by rw [List.length_drop, Utf.nums_length]; omega
    unfold Br.goesOn
    rw [l0, l1, decide_eq_true ll]
    by_cases e : (s[b].toNat : Int) = 45
    · refine .inr ⟨by simp [e], ?_⟩
      by_cases e2 : (s[b + 1].toNat : Int) = 93
      · exact .inl ⟨by simp [e2], by simp [e2]⟩
      · exact .inr ⟨by simp [e, e2], by rw [beq_eq_false_iff_ne]; exact e2⟩
    · exact .inl ⟨by simp [e], by simpa using e⟩
  · refine .inl ⟨?_, by omega⟩
    unfold Br.goesOn
    rw [decide_eq_false (by rw [List.length_drop, Utf.nums_length]; omega : ¬ 2 ≤ ((Utf.nums s).drop b).length)]
    simp
set_option maxRecDepth 100000 in
set_option maxHeartbeats 8000000 in
theorem rSpan_bad (W : World) (s : ByteArray) (hs : s.size ≤ 100000) (a : Nat) (ha : a < s.size) (c0 : ¬ (((Utf.nums s).drop a)[0]? = some 91 ∧ ((Utf.nums s).drop a)[1]? = some 58)) (hc : (Br.set (s.extract a s.size)).2.2 = 3 ∨ (Br.set (s.extract a s.size)).2.2 = 5)
    (hk : (Br.one ((Utf.nums s).drop a)).2.2 ≠ 0) :
    Calls Tryz.prog 27 #[.string s, .int .i64 (a : Int)] W (RItPost W (Br.span s a) a) := by
  obtain ⟨X, hX⟩ : ∃ X, Br.span s a = X := ⟨_, rfl⟩
  rw [hX]
  unfold Br.span at hX
  dsimp only at hX
  have hcase := item_head s a c0
  have hzs : (s.extract a s.size).size = s.size - a := by rw [ByteArray.size_extract]; omega
  have HS := Lib.hid (rSet_any W (s.extract a s.size) (by omega))
  obtain ⟨⟨sx, sn, sc⟩, hsx⟩ : ∃ p, Br.set (s.extract a s.size) = p := ⟨_, rfl⟩
  rw [hsx] at HS hc
  dsimp only at hc
  have hai : (a : Int) ≤ (s.size : Int) := by omega
  have hbn := Utf.bytes_drop (Utf.nums_bytes s)
  have HC1 := Lib.hid (fun w => rOne_any w (s.extract a s.size) (by omega) (by omega))
  rw [tail_drop] at HC1
  have o1 := Br.one_cases ((Utf.nums s).drop a) (hbn a)
  rw [List.length_drop, Utf.nums_length] at o1
  obtain ⟨⟨lo, n, c⟩, hp⟩ : ∃ p, Br.one ((Utf.nums s).drop a) = p := ⟨_, rfl⟩
  rw [hp] at HC1 hX o1 hk
  dsimp only at HC1 hX o1 hk
  clear hsx hp c0
  have k0 := hk
  have HR : Hid (X = .bad a c) := Lib.hid (by rw [← hX, if_pos k0])
  have m0 : (c != 0) = true := by simpa using k0
  clear hX k0 o1
  rcases hc with rfl | rfl <;> rcases hcase with h1 | ⟨h1, hp9, hp0, h2⟩ | ⟨h1, hp9, hp8, hp0, h2, h3⟩
  all_goals
    go_enter Tryz.func27, Tryz.ntmps27
    go_wp2_with fail
    refine HS.out.mono ?_
    rintro e w1 ⟨v, out, rfl, _, _, hb⟩
    have HB := Lib.hid hb
    clear hb
    go_wp2_with fail
    refine (HC1.out _).mono ?_
    rintro e w2 ⟨rfl, hb⟩
    have HB2 := Lib.hid (HB.out.trans (hb.mono HB.out.size))
    clear hb
    go_wp2
    go_ret3
    exact ⟨HB2.out, .inl ⟨_, _, HR.out, rfl⟩⟩
set_option maxRecDepth 100000 in
set_option maxHeartbeats 8000000 in
theorem rSpan_one (W : World) (s : ByteArray) (hs : s.size ≤ 100000) (a : Nat) (ha : a < s.size) (c0 : ¬ (((Utf.nums s).drop a)[0]? = some 91 ∧ ((Utf.nums s).drop a)[1]? = some 58)) (hc : (Br.set (s.extract a s.size)).2.2 = 3 ∨ (Br.set (s.extract a s.size)).2.2 = 5)
    (hk : (Br.one ((Utf.nums s).drop a)).2.2 = 0) (hg : Br.goesOn ((Utf.nums s).drop (a + (Br.one ((Utf.nums s).drop a)).2.1.toNat)) = false) :
    Calls Tryz.prog 27 #[.string s, .int .i64 (a : Int)] W (RItPost W (Br.span s a) a) := by
  obtain ⟨X, hX⟩ : ∃ X, Br.span s a = X := ⟨_, rfl⟩
  rw [hX]
  unfold Br.span at hX
  dsimp only at hX
  have hcase := item_head s a c0
  have hzs : (s.extract a s.size).size = s.size - a := by rw [ByteArray.size_extract]; omega
  have HS := Lib.hid (rSet_any W (s.extract a s.size) (by omega))
  obtain ⟨⟨sx, sn, sc⟩, hsx⟩ : ∃ p, Br.set (s.extract a s.size) = p := ⟨_, rfl⟩
  rw [hsx] at HS hc
  dsimp only at hc
  have hai : (a : Int) ≤ (s.size : Int) := by omega
  have hbn := Utf.bytes_drop (Utf.nums_bytes s)
  have HC1 := Lib.hid (fun w => rOne_any w (s.extract a s.size) (by omega) (by omega))
  rw [tail_drop] at HC1
  have o1 := Br.one_cases ((Utf.nums s).drop a) (hbn a)
  rw [List.length_drop, Utf.nums_length] at o1
  obtain ⟨⟨lo, n, c⟩, hp⟩ : ∃ p, Br.one ((Utf.nums s).drop a) = p := ⟨_, rfl⟩
  rw [hp] at HC1 hX o1 hk hg
  dsimp only at HC1 hX o1 hk hg
  clear hsx hp c0
  have k0 : ¬ c ≠ 0 := by omega
  obtain rfl : c = 0 := by omega
  rw [if_neg k0] at hX
  have o1' : 0 ≤ lo ∧ lo ≤ 1114111 ∧ 1 ≤ n ∧ n ≤ (s.size - a : Nat) := by omega
  obtain ⟨k, rfl⟩ : ∃ k : Nat, n = k := ⟨n.toNat, by omega⟩
  rw [Int.toNat_natCast] at hX hg
  obtain ⟨b, hb⟩ : ∃ b, a + k = b := ⟨_, rfl⟩
  obtain ⟨q, hq⟩ : ∃ q, b + 1 = q := ⟨_, rfl⟩
  rw [hb, hq] at hX
  rw [hb] at hg
  have hbs : b ≤ s.size := by omega
  have hw1 : IntKind.i64.wrap ((a : Int) + (k : Int)) = (b : Int) := by rw [IntKind.wrap_i64]; omega
  have hw2 : IntKind.i64.wrap ((b : Int) + 1) = (q : Int) := by rw [IntKind.wrap_i64]; omega
  have hlo : -9223372036854775808 ≤ lo ∧ lo ≤ 9223372036854775807 := by omega
  have hgo := goes_cases s b q hq
  have HK := Lib.hid (And.intro hb hq)
  have HLO := Lib.hid o1'
  clear k0 o1 hb hq o1'
  rcases hgo with ⟨_, g1⟩ | ⟨gb, gq, hgo⟩
  · rw [if_pos hg] at hX
    have HR := Lib.hid hX.symm
    clear hX hg
    rcases hc with rfl | rfl <;> rcases hcase with h1 | ⟨h1, hp9, hp0, h2⟩ | ⟨h1, hp9, hp8, hp0, h2, h3⟩
    all_goals
      go_enter Tryz.func27, Tryz.ntmps27
      go_wp2_with fail
      refine HS.out.mono ?_
      rintro e w1 ⟨v, out, rfl, _, _, hb⟩
      have HB := Lib.hid hb
      clear hb
      go_wp2_with fail
      refine (HC1.out _).mono ?_
      rintro e w2 ⟨rfl, hb⟩
      have HB2 := Lib.hid (HB.out.trans (hb.mono HB.out.size))
      clear hb
      go_wp2
      go_ret3
      exact ⟨HB2.out.alloc HB2.out.size _, .inr ⟨_, _, _, _, HR.out, rfl, rfl, rrow_one _ lo lo hlo hlo _⟩⟩
  have gbi : (b : Int) < (s.size : Int) := by omega
  have gqi : (q : Int) < (s.size : Int) := by omega
  have gn : ¬ (s.size : Int) ≤ (q : Int) := by omega
  have hqs : (q : Int) ≤ (s.size : Int) := by omega
  rcases hgo with ⟨_, g2⟩ | ⟨g2, ⟨_, g3⟩ | ⟨hg', g3⟩⟩
  · rw [if_pos hg] at hX
    have HR := Lib.hid hX.symm
    clear hX hg
    rcases hc with rfl | rfl <;> rcases hcase with h1 | ⟨h1, hp9, hp0, h2⟩ | ⟨h1, hp9, hp8, hp0, h2, h3⟩
    all_goals
      go_enter Tryz.func27, Tryz.ntmps27
      go_wp2_with fail
      refine HS.out.mono ?_
      rintro e w1 ⟨v, out, rfl, _, _, hb⟩
      have HB := Lib.hid hb
      clear hb
      go_wp2_with fail
      refine (HC1.out _).mono ?_
      rintro e w2 ⟨rfl, hb⟩
      have HB2 := Lib.hid (HB.out.trans (hb.mono HB.out.size))
      clear hb
      go_wp2
      go_ret3
      exact ⟨HB2.out.alloc HB2.out.size _, .inr ⟨_, _, _, _, HR.out, rfl, rfl, rrow_one _ lo lo hlo hlo _⟩⟩
  · rw [if_pos hg] at hX
    have HR := Lib.hid hX.symm
    clear hX hg
    rcases hc with rfl | rfl <;> rcases hcase with h1 | ⟨h1, hp9, hp0, h2⟩ | ⟨h1, hp9, hp8, hp0, h2, h3⟩
    all_goals
      go_enter Tryz.func27, Tryz.ntmps27
      go_wp2_with fail
      refine HS.out.mono ?_
      rintro e w1 ⟨v, out, rfl, _, _, hb⟩
      have HB := Lib.hid hb
      clear hb
      go_wp2_with fail
      refine (HC1.out _).mono ?_
      rintro e w2 ⟨rfl, hb⟩
      have HB2 := Lib.hid (HB.out.trans (hb.mono HB.out.size))
      clear hb
      go_wp2
      go_ret3
      exact ⟨HB2.out.alloc HB2.out.size _, .inr ⟨_, _, _, _, HR.out, rfl, rfl, rrow_one _ lo lo hlo hlo _⟩⟩
  rw [hg] at hg'; cases hg'
end Go.Proofs.YtmdpchiiamgnnaaGreatDoor
namespace Go.Proofs.YtmdpchiiamgnnaaGreatDoor
open Go.RowKit
set_option linter.unusedVariables false
set_option maxRecDepth 100000 in
set_option maxHeartbeats 8000000 in
theorem rSpan_cls (W : World) (s : ByteArray) (hs : s.size ≤ 100000) (a : Nat) (ha : a < s.size) (c0 : ¬ (((Utf.nums s).drop a)[0]? = some 91 ∧ ((Utf.nums s).drop a)[1]? = some 58)) (hc : (Br.set (s.extract a s.size)).2.2 = 3 ∨ (Br.set (s.extract a s.size)).2.2 = 5)
    (hk : (Br.one ((Utf.nums s).drop a)).2.2 = 0) (hg : Br.goesOn ((Utf.nums s).drop (a + (Br.one ((Utf.nums s).drop a)).2.1.toNat)) = true)
    (hq2 : (Br.set (s.extract (a + (Br.one ((Utf.nums s).drop a)).2.1.toNat + 1) s.size)).2.2 ≠ 3 ∧ (Br.set (s.extract (a + (Br.one ((Utf.nums s).drop a)).2.1.toNat + 1) s.size)).2.2 ≠ 5) :
    Calls Tryz.prog 27 #[.string s, .int .i64 (a : Int)] W (RItPost W (Br.span s a) a) := by
  obtain ⟨X, hX⟩ : ∃ X, Br.span s a = X := ⟨_, rfl⟩
  rw [hX]
  unfold Br.span at hX
  dsimp only at hX
  have hcase := item_head s a c0
  have hzs : (s.extract a s.size).size = s.size - a := by rw [ByteArray.size_extract]; omega
  have HS := Lib.hid (rSet_any W (s.extract a s.size) (by omega))
  obtain ⟨⟨sx, sn, sc⟩, hsx⟩ : ∃ p, Br.set (s.extract a s.size) = p := ⟨_, rfl⟩
  rw [hsx] at HS hc
  dsimp only at hc
  have hai : (a : Int) ≤ (s.size : Int) := by omega
  have hbn := Utf.bytes_drop (Utf.nums_bytes s)
  have HC1 := Lib.hid (fun w => rOne_any w (s.extract a s.size) (by omega) (by omega))
  rw [tail_drop] at HC1
  have o1 := Br.one_cases ((Utf.nums s).drop a) (hbn a)
  rw [List.length_drop, Utf.nums_length] at o1
  obtain ⟨⟨lo, n, c⟩, hp⟩ : ∃ p, Br.one ((Utf.nums s).drop a) = p := ⟨_, rfl⟩
  rw [hp] at HC1 hX o1 hk hg hq2
  dsimp only at HC1 hX o1 hk hg hq2
  clear hsx hp c0
  have k0 : ¬ c ≠ 0 := by omega
  obtain rfl : c = 0 := by omega
  rw [if_neg k0] at hX
  have o1' : 0 ≤ lo ∧ lo ≤ 1114111 ∧ 1 ≤ n ∧ n ≤ (s.size - a : Nat) := by omega
  obtain ⟨k, rfl⟩ : ∃ k : Nat, n = k := ⟨n.toNat, by omega⟩
  rw [Int.toNat_natCast] at hX hg hq2
  obtain ⟨b, hb⟩ : ∃ b, a + k = b := ⟨_, rfl⟩
  obtain ⟨q, hq⟩ : ∃ q, b + 1 = q := ⟨_, rfl⟩
  rw [hb, hq] at hX
  rw [hb] at hg hq2
  rw [hq] at hq2
  have hbs : b ≤ s.size := by omega
  have hw1 : IntKind.i64.wrap ((a : Int) + (k : Int)) = (b : Int) := by rw [IntKind.wrap_i64]; omega
  have hw2 : IntKind.i64.wrap ((b : Int) + 1) = (q : Int) := by rw [IntKind.wrap_i64]; omega
  have hlo : -9223372036854775808 ≤ lo ∧ lo ≤ 9223372036854775807 := by omega
  have hgo := goes_cases s b q hq
  have HK := Lib.hid (And.intro hb hq)
  have HLO := Lib.hid o1'
  clear k0 o1 hb hq o1'
  rcases hgo with ⟨hg', g1⟩ | ⟨gb, gq, hgo⟩
  · rw [hg] at hg'; cases hg'
  have gbi : (b : Int) < (s.size : Int) := by omega
  have gqi : (q : Int) < (s.size : Int) := by omega
  have gn : ¬ (s.size : Int) ≤ (q : Int) := by omega
  have hqs : (q : Int) ≤ (s.size : Int) := by omega
  rcases hgo with ⟨hg', g2⟩ | ⟨g2, ⟨hg', g3⟩ | ⟨_, g3⟩⟩
  · rw [hg] at hg'; cases hg'
  · rw [hg] at hg'; cases hg'
  rw [if_neg (by rw [hg]; decide)] at hX
  have hzq : (s.extract q s.size).size = s.size - q := by rw [ByteArray.size_extract]; omega
  have HS2 := Lib.hid (fun w => rSet_any w (s.extract q s.size) (by omega))
  have HC2 := Lib.hid (fun w => rOne_any w (s.extract q s.size) (by omega) (by omega))
  rw [tail_drop] at HC2
  have o2 := Br.one_cases ((Utf.nums s).drop q) (hbn q)
  rw [List.length_drop, Utf.nums_length] at o2
  obtain ⟨⟨s2x, s2n, s2c⟩, hs2⟩ : ∃ p, Br.set (s.extract q s.size) = p := ⟨_, rfl⟩
  obtain ⟨⟨hi, n2, c2⟩, hp2⟩ : ∃ p, Br.one ((Utf.nums s).drop q) = p := ⟨_, rfl⟩
  rw [hs2] at HS2 hX hq2
  rw [hp2] at HC2 hX o2
  dsimp only at HC2 HS2 hX o2 hq2
  clear hs2 hp2
  have k1 := hq2
  clear hq2
  have HR : Hid (X = .bad q 70) := Lib.hid (by rw [← hX, if_pos k1, show ((b : Int) + 1) = (q : Int) from by have := HK.out.2; omega])
  have m3 : (s2c != 3) = true := by simpa using k1.1
  have m5 : (s2c != 5) = true := by simpa using k1.2
  clear hX k1 o2
  rcases hc with rfl | rfl <;> rcases hcase with h1 | ⟨h1, hp9, hp0, h2⟩ | ⟨h1, hp9, hp8, hp0, h2, h3⟩
  all_goals
    go_enter Tryz.func27, Tryz.ntmps27
    go_wp2_with fail
    refine HS.out.mono ?_
    rintro e w1 ⟨v, out, rfl, _, _, hb⟩
    have HB := Lib.hid hb
    clear hb
    go_wp2_with fail
    refine (HC1.out _).mono ?_
    rintro e w2 ⟨rfl, hb⟩
    have HB2 := Lib.hid (HB.out.trans (hb.mono HB.out.size))
    clear hb
    go_wp2_with fail
    refine (HS2.out _).mono ?_
    rintro e w3 ⟨v3, out3, rfl, _, _, hb⟩
    have HB3 := Lib.hid (HB2.out.trans (hb.mono HB2.out.size))
    clear hb
    go_wp2
    go_ret3
    exact ⟨HB3.out, .inl ⟨_, _, HR.out, rfl⟩⟩
end Go.Proofs.YtmdpchiiamgnnaaGreatDoor
namespace Go.Proofs.YtmdpchiiamgnnaaGreatDoor
open Go.RowKit
set_option linter.unusedVariables false
set_option maxRecDepth 100000 in
set_option maxHeartbeats 8000000 in
theorem rSpan_bad2 (W : World) (s : ByteArray) (hs : s.size ≤ 100000) (a : Nat) (ha : a < s.size) (c0 : ¬ (((Utf.nums s).drop a)[0]? = some 91 ∧ ((Utf.nums s).drop a)[1]? = some 58)) (hc : (Br.set (s.extract a s.size)).2.2 = 3 ∨ (Br.set (s.extract a s.size)).2.2 = 5)
    (hk : (Br.one ((Utf.nums s).drop a)).2.2 = 0) (hg : Br.goesOn ((Utf.nums s).drop (a + (Br.one ((Utf.nums s).drop a)).2.1.toNat)) = true)
    (hq2 : ¬ ((Br.set (s.extract (a + (Br.one ((Utf.nums s).drop a)).2.1.toNat + 1) s.size)).2.2 ≠ 3 ∧ (Br.set (s.extract (a + (Br.one ((Utf.nums s).drop a)).2.1.toNat + 1) s.size)).2.2 ≠ 5) ∧ (Br.one ((Utf.nums s).drop (a + (Br.one ((Utf.nums s).drop a)).2.1.toNat + 1))).2.2 ≠ 0) :
    Calls Tryz.prog 27 #[.string s, .int .i64 (a : Int)] W (RItPost W (Br.span s a) a) := by
  obtain ⟨X, hX⟩ : ∃ X, Br.span s a = X := ⟨_, rfl⟩
  rw [hX]
  unfold Br.span at hX
  dsimp only at hX
  have hcase := item_head s a c0
  have hzs : (s.extract a s.size).size = s.size - a := by rw [ByteArray.size_extract]; omega
  have HS := Lib.hid (rSet_any W (s.extract a s.size) (by omega))
  obtain ⟨⟨sx, sn, sc⟩, hsx⟩ : ∃ p, Br.set (s.extract a s.size) = p := ⟨_, rfl⟩
  rw [hsx] at HS hc
  dsimp only at hc
  have hai : (a : Int) ≤ (s.size : Int) := by omega
  have hbn := Utf.bytes_drop (Utf.nums_bytes s)
  have HC1 := Lib.hid (fun w => rOne_any w (s.extract a s.size) (by omega) (by omega))
  rw [tail_drop] at HC1
  have o1 := Br.one_cases ((Utf.nums s).drop a) (hbn a)
  rw [List.length_drop, Utf.nums_length] at o1
  obtain ⟨⟨lo, n, c⟩, hp⟩ : ∃ p, Br.one ((Utf.nums s).drop a) = p := ⟨_, rfl⟩
  rw [hp] at HC1 hX o1 hk hg hq2
  dsimp only at HC1 hX o1 hk hg hq2
  clear hsx hp c0
  have k0 : ¬ c ≠ 0 := by omega
  obtain rfl : c = 0 := by omega
  rw [if_neg k0] at hX
  have o1' : 0 ≤ lo ∧ lo ≤ 1114111 ∧ 1 ≤ n ∧ n ≤ (s.size - a : Nat) := by omega
  obtain ⟨k, rfl⟩ : ∃ k : Nat, n = k := ⟨n.toNat, by omega⟩
  rw [Int.toNat_natCast] at hX hg hq2
  obtain ⟨b, hb⟩ : ∃ b, a + k = b := ⟨_, rfl⟩
  obtain ⟨q, hq⟩ : ∃ q, b + 1 = q := ⟨_, rfl⟩
  rw [hb, hq] at hX
  rw [hb] at hg hq2
  rw [hq] at hq2
  have hbs : b ≤ s.size := by omega
  have hw1 : IntKind.i64.wrap ((a : Int) + (k : Int)) = (b : Int) := by rw [IntKind.wrap_i64]; omega
  have hw2 : IntKind.i64.wrap ((b : Int) + 1) = (q : Int) := by rw [IntKind.wrap_i64]; omega
  have hlo : -9223372036854775808 ≤ lo ∧ lo ≤ 9223372036854775807 := by omega
  have hgo := goes_cases s b q hq
  have HK := Lib.hid (And.intro hb hq)
  have HLO := Lib.hid o1'
  clear k0 o1 hb hq o1'
  rcases hgo with ⟨hg', g1⟩ | ⟨gb, gq, hgo⟩
  · rw [hg] at hg'; cases hg'
  have gbi : (b : Int) < (s.size : Int) := by omega
  have gqi : (q : Int) < (s.size : Int) := by omega
  have gn : ¬ (s.size : Int) ≤ (q : Int) := by omega
  have hqs : (q : Int) ≤ (s.size : Int) := by omega
  rcases hgo with ⟨hg', g2⟩ | ⟨g2, ⟨hg', g3⟩ | ⟨_, g3⟩⟩
  · rw [hg] at hg'; cases hg'
  · rw [hg] at hg'; cases hg'
  rw [if_neg (by rw [hg]; decide)] at hX
  have hzq : (s.extract q s.size).size = s.size - q := by rw [ByteArray.size_extract]; omega
  have HS2 := Lib.hid (fun w => rSet_any w (s.extract q s.size) (by omega))
  have HC2 := Lib.hid (fun w => rOne_any w (s.extract q s.size) (by omega) (by omega))
  rw [tail_drop] at HC2
  have o2 := Br.one_cases ((Utf.nums s).drop q) (hbn q)
  rw [List.length_drop, Utf.nums_length] at o2
  obtain ⟨⟨s2x, s2n, s2c⟩, hs2⟩ : ∃ p, Br.set (s.extract q s.size) = p := ⟨_, rfl⟩
  obtain ⟨⟨hi, n2, c2⟩, hp2⟩ : ∃ p, Br.one ((Utf.nums s).drop q) = p := ⟨_, rfl⟩
  rw [hs2] at HS2 hX hq2
  rw [hp2] at HC2 hX o2 hq2
  dsimp only at HC2 HS2 hX o2 hq2
  clear hs2 hp2
  obtain ⟨k1, k2⟩ := hq2
  rw [if_neg k1] at hX
  have hc2 : s2c = 3 ∨ s2c = 5 := by omega
  clear k1
  have HR : Hid (X = .bad q c2) := Lib.hid (by rw [← hX, if_pos k2, show ((b : Int) + 1) = (q : Int) from by have := HK.out.2; omega])
  have m2 : (c2 != 0) = true := by simpa using k2
  clear hX k2 o2
  rcases hc2 with rfl | rfl
  all_goals
    rcases hc with rfl | rfl <;> rcases hcase with h1 | ⟨h1, hp9, hp0, h2⟩ | ⟨h1, hp9, hp8, hp0, h2, h3⟩
    all_goals
      go_enter Tryz.func27, Tryz.ntmps27
      go_wp2_with fail
      refine HS.out.mono ?_
      rintro e w1 ⟨v, out, rfl, _, _, hb⟩
      have HB := Lib.hid hb
      clear hb
      go_wp2_with fail
      refine (HC1.out _).mono ?_
      rintro e w2 ⟨rfl, hb⟩
      have HB2 := Lib.hid (HB.out.trans (hb.mono HB.out.size))
      clear hb
      go_wp2_with fail
      refine (HS2.out _).mono ?_
      rintro e w3 ⟨v3, out3, rfl, _, _, hb⟩
      have HB3 := Lib.hid (HB2.out.trans (hb.mono HB2.out.size))
      clear hb
      go_wp2_with fail
      refine (HC2.out _).mono ?_
      rintro e w4 ⟨rfl, hb⟩
      have HB4 := Lib.hid (HB3.out.trans (hb.mono HB3.out.size))
      clear hb
      go_wp2
      go_ret3
      exact ⟨HB4.out, .inl ⟨_, _, HR.out, rfl⟩⟩
end Go.Proofs.YtmdpchiiamgnnaaGreatDoor
namespace Go.Proofs.YtmdpchiiamgnnaaGreatDoor
open Go.RowKit
set_option linter.unusedVariables false
set_option maxRecDepth 100000 in
set_option maxHeartbeats 8000000 in
theorem rSpan_less (W : World) (s : ByteArray) (hs : s.size ≤ 100000) (a : Nat) (ha : a < s.size) (c0 : ¬ (((Utf.nums s).drop a)[0]? = some 91 ∧ ((Utf.nums s).drop a)[1]? = some 58)) (hc : (Br.set (s.extract a s.size)).2.2 = 3 ∨ (Br.set (s.extract a s.size)).2.2 = 5)
    (hk : (Br.one ((Utf.nums s).drop a)).2.2 = 0) (hg : Br.goesOn ((Utf.nums s).drop (a + (Br.one ((Utf.nums s).drop a)).2.1.toNat)) = true)
    (hq2 : ¬ ((Br.set (s.extract (a + (Br.one ((Utf.nums s).drop a)).2.1.toNat + 1) s.size)).2.2 ≠ 3 ∧ (Br.set (s.extract (a + (Br.one ((Utf.nums s).drop a)).2.1.toNat + 1) s.size)).2.2 ≠ 5) ∧ (Br.one ((Utf.nums s).drop (a + (Br.one ((Utf.nums s).drop a)).2.1.toNat + 1))).2.2 = 0 ∧ (Br.one ((Utf.nums s).drop (a + (Br.one ((Utf.nums s).drop a)).2.1.toNat + 1))).1 < (Br.one ((Utf.nums s).drop a)).1) :
    Calls Tryz.prog 27 #[.string s, .int .i64 (a : Int)] W (RItPost W (Br.span s a) a) := by
  obtain ⟨X, hX⟩ : ∃ X, Br.span s a = X := ⟨_, rfl⟩
  rw [hX]
  unfold Br.span at hX
  dsimp only at hX
  have hcase := item_head s a c0
  have hzs : (s.extract a s.size).size = s.size - a := by rw [ByteArray.size_extract]; omega
  have HS := Lib.hid (rSet_any W (s.extract a s.size) (by omega))
  obtain ⟨⟨sx, sn, sc⟩, hsx⟩ : ∃ p, Br.set (s.extract a s.size) = p := ⟨_, rfl⟩
  rw [hsx] at HS hc
  dsimp only at hc
  have hai : (a : Int) ≤ (s.size : Int) := by omega
  have hbn := Utf.bytes_drop (Utf.nums_bytes s)
  have HC1 := Lib.hid (fun w => rOne_any w (s.extract a s.size) (by omega) (by omega))
  rw [tail_drop] at HC1
  have o1 := Br.one_cases ((Utf.nums s).drop a) (hbn a)
  rw [List.length_drop, Utf.nums_length] at o1
  obtain ⟨⟨lo, n, c⟩, hp⟩ : ∃ p, Br.one ((Utf.nums s).drop a) = p := ⟨_, rfl⟩
  rw [hp] at HC1 hX o1 hk hg hq2
  dsimp only at HC1 hX o1 hk hg hq2
  clear hsx hp c0
  have k0 : ¬ c ≠ 0 := by omega
  obtain rfl : c = 0 := by omega
  rw [if_neg k0] at hX
  have o1' : 0 ≤ lo ∧ lo ≤ 1114111 ∧ 1 ≤ n ∧ n ≤ (s.size - a : Nat) := by omega
  obtain ⟨k, rfl⟩ : ∃ k : Nat, n = k := ⟨n.toNat, by omega⟩
  rw [Int.toNat_natCast] at hX hg hq2
  obtain ⟨b, hb⟩ : ∃ b, a + k = b := ⟨_, rfl⟩
  obtain ⟨q, hq⟩ : ∃ q, b + 1 = q := ⟨_, rfl⟩
  rw [hb, hq] at hX
  rw [hb] at hg hq2
  rw [hq] at hq2
  have hbs : b ≤ s.size := by omega
  have hw1 : IntKind.i64.wrap ((a : Int) + (k : Int)) = (b : Int) := by rw [IntKind.wrap_i64]; omega
  have hw2 : IntKind.i64.wrap ((b : Int) + 1) = (q : Int) := by rw [IntKind.wrap_i64]; omega
  have hlo : -9223372036854775808 ≤ lo ∧ lo ≤ 9223372036854775807 := by omega
  have hgo := goes_cases s b q hq
  have HK := Lib.hid (And.intro hb hq)
  have HLO := Lib.hid o1'
  clear k0 o1 hb hq o1'
  rcases hgo with ⟨hg', g1⟩ | ⟨gb, gq, hgo⟩
  · rw [hg] at hg'; cases hg'
  have gbi : (b : Int) < (s.size : Int) := by omega
  have gqi : (q : Int) < (s.size : Int) := by omega
  have gn : ¬ (s.size : Int) ≤ (q : Int) := by omega
  have hqs : (q : Int) ≤ (s.size : Int) := by omega
  rcases hgo with ⟨hg', g2⟩ | ⟨g2, ⟨hg', g3⟩ | ⟨_, g3⟩⟩
  · rw [hg] at hg'; cases hg'
  · rw [hg] at hg'; cases hg'
  rw [if_neg (by rw [hg]; decide)] at hX
  have hzq : (s.extract q s.size).size = s.size - q := by rw [ByteArray.size_extract]; omega
  have HS2 := Lib.hid (fun w => rSet_any w (s.extract q s.size) (by omega))
  have HC2 := Lib.hid (fun w => rOne_any w (s.extract q s.size) (by omega) (by omega))
  rw [tail_drop] at HC2
  have o2 := Br.one_cases ((Utf.nums s).drop q) (hbn q)
  rw [List.length_drop, Utf.nums_length] at o2
  obtain ⟨⟨s2x, s2n, s2c⟩, hs2⟩ : ∃ p, Br.set (s.extract q s.size) = p := ⟨_, rfl⟩
  obtain ⟨⟨hi, n2, c2⟩, hp2⟩ : ∃ p, Br.one ((Utf.nums s).drop q) = p := ⟨_, rfl⟩
  rw [hs2] at HS2 hX hq2
  rw [hp2] at HC2 hX o2 hq2
  dsimp only at HC2 HS2 hX o2 hq2
  clear hs2 hp2
  obtain ⟨k1, k2', k3⟩ := hq2
  have k2 : ¬ c2 ≠ 0 := by omega
  rw [if_neg k1] at hX
  have hc2 : s2c = 3 ∨ s2c = 5 := by omega
  obtain rfl : c2 = 0 := by omega
  rw [if_neg k2] at hX
  have o2' : 0 ≤ hi ∧ hi ≤ 1114111 ∧ 1 ≤ n2 ∧ n2 ≤ (s.size - q : Nat) := by omega
  obtain ⟨k, rfl⟩ : ∃ k : Nat, n2 = k := ⟨n2.toNat, by omega⟩
  rw [Int.toNat_natCast] at hX
  have hhi : -9223372036854775808 ≤ hi ∧ hi ≤ 9223372036854775807 := by omega
  clear o2 k2
  clear k1
  have HR : Hid (X = .bad a 70) := Lib.hid (by rw [← hX, if_pos k3])
  clear hX o2'
  rcases hc2 with rfl | rfl
  all_goals
    rcases hc with rfl | rfl <;> rcases hcase with h1 | ⟨h1, hp9, hp0, h2⟩ | ⟨h1, hp9, hp8, hp0, h2, h3⟩
    all_goals
      go_enter Tryz.func27, Tryz.ntmps27
      go_wp2_with fail
      refine HS.out.mono ?_
      rintro e w1 ⟨v, out, rfl, _, _, hb⟩
      have HB := Lib.hid hb
      clear hb
      go_wp2_with fail
      refine (HC1.out _).mono ?_
      rintro e w2 ⟨rfl, hb⟩
      have HB2 := Lib.hid (HB.out.trans (hb.mono HB.out.size))
      clear hb
      go_wp2_with fail
      refine (HS2.out _).mono ?_
      rintro e w3 ⟨v3, out3, rfl, _, _, hb⟩
      have HB3 := Lib.hid (HB2.out.trans (hb.mono HB2.out.size))
      clear hb
      go_wp2_with fail
      refine (HC2.out _).mono ?_
      rintro e w4 ⟨rfl, hb⟩
      have HB4 := Lib.hid (HB3.out.trans (hb.mono HB3.out.size))
      clear hb
      go_wp2
      go_ret3
      exact ⟨HB4.out, .inl ⟨_, _, HR.out, rfl⟩⟩
end Go.Proofs.YtmdpchiiamgnnaaGreatDoor
