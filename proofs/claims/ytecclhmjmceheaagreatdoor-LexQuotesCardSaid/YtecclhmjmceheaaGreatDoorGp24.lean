/- The landed bracket: span. · The landed bracket: item. · The plain mathematics of the landed fold: blocks, partners, the walk round a family; no program. -/
import Derived.Test.YtecclhmjmceheaaGreatDoorGp23
import Derived.Test.YtecclhmjmceheaaGreatDoorGp4
namespace Go.Proofs.YtecclhmjmceheaaGreatDoor
open Go.RowKit
set_option linter.unusedVariables false
theorem two_runes {lo hi : Int} (h1 : 0 ≤ lo) (h2 : lo ≤ 1114111) (h3 : 0 ≤ hi) (h4 : hi ≤ 1114111) : (-9223372036854775808 ≤ lo ∧ lo ≤ 9223372036854775807) ∧ (-9223372036854775808 ≤ hi ∧ hi ≤ 9223372036854775807) := by omega
set_option maxRecDepth 100000 in
set_option maxHeartbeats 8000000 in
theorem bSpan_any (W : World) (s : ByteArray) (hs : s.size ≤ 100000) (a n0 B : Nat) (L : List (Int × Int)) (ha : a ≤ s.size) (hE : Ev W) (hb0 : n0 ≤ W.heap.size) (hB : n0 ≤ B) (hst : St n0 B L W) (hlen : L.length ≤ 500000000) :
    Calls Tryz.prog 155 #[.string s, .int .i64 (a : Int), addV B] W (ItPost n0 B L W (Br.span s a)) := by
  obtain ⟨X, hX⟩ : ∃ X, Br.span s a = X := ⟨_, rfl⟩
  rw [hX]
  unfold Br.span at hX
  dsimp only at hX
  have hai : (a : Int) ≤ (s.size : Int) := by omega
  have hbn := Utf.bytes_drop (Utf.nums_bytes s)
  have HC1 := Lib.hid (bChar_any W (s.extract a s.size) (by rw [ByteArray.size_extract]; omega))
  rw [tail_drop] at HC1
  have o1 := Br.one_cases ((Utf.nums s).drop a) (hbn a)
  rw [List.length_drop, Utf.nums_length] at o1
  obtain ⟨⟨lo, n, c⟩, hp⟩ : ∃ p, Br.one ((Utf.nums s).drop a) = p := ⟨_, rfl⟩
  rw [hp] at HC1 hX o1
  dsimp only at HC1 hX o1
  have HE := Lib.hid hE
  have HST := Lib.hid hst
  clear hE hst hp
  by_cases c0 : c ≠ 0
  · have HR : Hid (X = .bad a c) := Lib.hid (by rw [← hX, if_pos c0])
    have m0 : (c != 0) = true := by simpa using c0
    clear hX c0 o1
    go_enter Tryz.func155, Tryz.ntmps155
    go_wp2_with fail
    refine HC1.out.mono ?_
    rintro e w' ⟨rfl, dd, rfl⟩
    go_wp2
    go_ret2
    exact ⟨(below_drawn dd).mono hb0, .inl ⟨_, _, HR.out, rfl⟩⟩
  obtain rfl : c = 0 := by omega
  rw [if_neg c0] at hX
  have o1' : 0 ≤ lo ∧ lo ≤ 1114111 ∧ 1 ≤ n ∧ n ≤ (s.size - a : Nat) := by omega
  obtain ⟨b, hb⟩ : ∃ b, a + n.toNat = b := ⟨_, rfl⟩
  rw [hb] at hX
  have hbs : b ≤ s.size := by omega
  have hbi : (b : Int) ≤ (s.size : Int) := by omega
  have hw1 : IntKind.i64.wrap ((a : Int) + n) = (b : Int) := by rw [IntKind.wrap_i64]; omega
  have hlo := two_runes o1'.1 o1'.2.1 o1'.1 o1'.2.1
  have HLO : Hid (0 ≤ lo ∧ lo ≤ 1114111) := Lib.hid ⟨o1'.1, o1'.2.1⟩
  clear o1 o1' c0 hb
  have HG := Lib.hid (fun d => bGoes_any (W.drewN d) (s.extract b s.size) (by rw [ByteArray.size_extract]; omega))
  rw [tail_drop] at HG
  obtain ⟨G, hG⟩ : ∃ G, Br.goesOn ((Utf.nums s).drop b) = G := ⟨_, rfl⟩
  rw [hG] at HG hX
  cases G with
  | false =>
    rw [if_pos rfl] at hX
    have HR := Lib.hid hX.symm
    clear hX hG
    go_enter Tryz.func155, Tryz.ntmps155
    go_wp2_with fail
    refine HC1.out.mono ?_
    rintro e w' ⟨rfl, dd, rfl⟩
    go_wp2_with fail
    refine (HG.out dd).mono ?_
    rintro e w' ⟨rfl, rfl⟩
    have HB1 : Hid (Below W.heap.size W ((W.drewN dd).alloc (.cells #[.int .i64 lo, .int .i64 lo] 103))) := Lib.hid ((below_drawn dd).alloc (Nat.le_refl _) _)
    have HA := Lib.hid (add_st _ n0 B L [(lo, lo)] _ (Nat.le_trans hb0 HB1.out.size) hB (HST.out.below HB1.out) (rrow_one (W.drewN dd) lo lo hlo.1 hlo.1 103) (by simp; omega))
    go_wp2_with fail
    refine HA.out.mono ?_
    rintro e w3 ⟨rfl, hs3, hb3⟩
    have H3 := Lib.hid (And.intro hs3 ((HB1.out.mono hb0).trans hb3))
    clear hs3 hb3
    go_wp2
    go_ret2
    exact ⟨H3.out.2, .inr ⟨_, _, _, HR.out, rfl, rfl, H3.out.1⟩⟩
  | true =>
    rw [if_neg (by decide)] at hX
    have hg1 : b + 1 ≤ s.size := by
      unfold Br.goesOn at hG
      rw [List.length_drop, Utf.nums_length] at hG
      simp at hG
      omega
    obtain ⟨q, hq⟩ : ∃ q, b + 1 = q := ⟨_, rfl⟩
    rw [hq] at hX
    have HQ : Hid ((b : Int) + 1 = (q : Int)) := Lib.hid (by omega)
    have hqs : q ≤ s.size := by omega
    have hqi : (q : Int) ≤ (s.size : Int) := by omega
    have hw2 : IntKind.i64.wrap ((b : Int) + 1) = (q : Int) := by rw [IntKind.wrap_i64]; omega
    have hzq : (s.extract q s.size).size ≤ 100000 := by rw [ByteArray.size_extract]; omega
    have HS2 := Lib.hid (fun w hw => bSet_any w (s.extract q s.size) hzq hw)
    have HC2 := Lib.hid (fun w => bChar_any w (s.extract q s.size) hzq)
    rw [tail_drop] at HC2
    have o2 := Br.one_cases ((Utf.nums s).drop q) (hbn q)
    rw [List.length_drop, Utf.nums_length] at o2
    obtain ⟨⟨sx, sn, sc⟩, hsx⟩ : ∃ p, Br.set (s.extract q s.size) = p := ⟨_, rfl⟩
    obtain ⟨⟨hi, m, c2⟩, hp2⟩ : ∃ p, Br.one ((Utf.nums s).drop q) = p := ⟨_, rfl⟩
    rw [hsx] at HS2 hX
    rw [hp2] at HC2 hX o2
    dsimp only at HC2 hX o2
    clear hsx hp2 hG hg1 hq hzq
    by_cases k1 : sc ≠ 3 ∧ sc ≠ 5
    · have HR : Hid (X = .bad q 70) := Lib.hid (by rw [← hX, if_pos k1]; first | rfl | rw [HQ.out])
      have HCE := Lib.hid (fun w => bClsEsc_any w sc)
      rw [decide_eq_true k1] at HCE
      clear hX k1 o2
      go_enter Tryz.func155, Tryz.ntmps155
      go_wp2_with fail
      refine HC1.out.mono ?_
      rintro e w' ⟨rfl, dd, rfl⟩
      go_wp2_with fail
      refine (HG.out dd).mono ?_
      rintro e w' ⟨rfl, rfl⟩
      go_wp2_with fail
      refine (HS2.out _ (HE.out.drewN dd)).mono ?_
      rintro e w2 ⟨v, out, rfl, _, _, hb2⟩
      have HB2 : Hid (Below W.heap.size W w2) := Lib.hid ((below_drawn (W := W) dd).trans hb2)
      clear hb2
      go_wp2_with fail
      refine (HCE.out _).mono ?_
      rintro e w' ⟨rfl, rfl⟩
      go_wp2
      go_ret2
      exact ⟨HB2.out.mono hb0, .inl ⟨_, _, HR.out, rfl⟩⟩
    rw [if_neg k1] at hX
    have HCE := Lib.hid (fun w => bClsEsc_any w sc)
    rw [decide_eq_false k1] at HCE
    by_cases k2 : c2 ≠ 0
    · have HR : Hid (X = .bad q c2) := Lib.hid (by rw [← hX, if_pos k2]; first | rfl | rw [HQ.out])
      have m2 : (c2 != 0) = true := by simpa using k2
      clear hX k1 k2 o2
      go_enter Tryz.func155, Tryz.ntmps155
      go_wp2_with fail
      refine HC1.out.mono ?_
      rintro e w' ⟨rfl, dd, rfl⟩
      go_wp2_with fail
      refine (HG.out dd).mono ?_
      rintro e w' ⟨rfl, rfl⟩
      go_wp2_with fail
      refine (HS2.out _ (HE.out.drewN dd)).mono ?_
      rintro e w2 ⟨v, out, rfl, _, _, hb2⟩
      have HB2 : Hid (Below W.heap.size W w2) := Lib.hid ((below_drawn (W := W) dd).trans hb2)
      clear hb2
      go_wp2_with fail
      refine (HCE.out _).mono ?_
      rintro e w' ⟨rfl, rfl⟩
      go_wp2_with fail
      refine (HC2.out _).mono ?_
      rintro e w' ⟨rfl, d3, rfl⟩
      have HB3 : Hid (Below n0 W (w2.drewN d3)) := Lib.hid (below_drewN (HB2.out.mono hb0) d3)
      go_wp2
      go_ret2
      exact ⟨HB3.out, .inl ⟨_, _, HR.out, rfl⟩⟩
    obtain rfl : c2 = 0 := by omega
    rw [if_neg k2] at hX
    have o2' : 0 ≤ hi ∧ hi ≤ 1114111 ∧ 1 ≤ m ∧ m ≤ (s.size - q : Nat) := by omega
    by_cases k3 : hi < lo
    · have HR : Hid (X = .bad a 70) := Lib.hid (by rw [← hX, if_pos k3])
      clear hX k1 k2 o2 o2'
      go_enter Tryz.func155, Tryz.ntmps155
      go_wp2_with fail
      refine HC1.out.mono ?_
      rintro e w' ⟨rfl, dd, rfl⟩
      go_wp2_with fail
      refine (HG.out dd).mono ?_
      rintro e w' ⟨rfl, rfl⟩
      go_wp2_with fail
      refine (HS2.out _ (HE.out.drewN dd)).mono ?_
      rintro e w2 ⟨v, out, rfl, _, _, hb2⟩
      have HB2 : Hid (Below W.heap.size W w2) := Lib.hid ((below_drawn (W := W) dd).trans hb2)
      clear hb2
      go_wp2_with fail
      refine (HCE.out _).mono ?_
      rintro e w' ⟨rfl, rfl⟩
      go_wp2_with fail
      refine (HC2.out _).mono ?_
      rintro e w' ⟨rfl, d3, rfl⟩
      have HB3 : Hid (Below n0 W (w2.drewN d3)) := Lib.hid (below_drewN (HB2.out.mono hb0) d3)
      go_wp2
      go_ret2
      exact ⟨HB3.out, .inl ⟨_, _, HR.out, rfl⟩⟩
    · rw [if_neg k3] at hX
      have hr2 := two_runes (lo := lo) (hi := hi) HLO.out.1 HLO.out.2 o2'.1 o2'.2.1
      obtain ⟨nx, hnx⟩ : ∃ nx, q + m.toNat = nx := ⟨_, rfl⟩
      rw [hnx] at hX
      have hw3 : IntKind.i64.wrap ((q : Int) + m) = (nx : Int) := by rw [IntKind.wrap_i64]; omega
      have HR := Lib.hid hX.symm
      clear hX k1 k2 o2 o2' hnx
      go_enter Tryz.func155, Tryz.ntmps155
      go_wp2_with fail
      refine HC1.out.mono ?_
      rintro e w' ⟨rfl, dd, rfl⟩
      go_wp2_with fail
      refine (HG.out dd).mono ?_
      rintro e w' ⟨rfl, rfl⟩
      go_wp2_with fail
      refine (HS2.out _ (HE.out.drewN dd)).mono ?_
      rintro e w2 ⟨v, out, rfl, _, _, hb2⟩
      have HB2 : Hid (Below W.heap.size W w2) := Lib.hid ((below_drawn (W := W) dd).trans hb2)
      clear hb2
      go_wp2_with fail
      refine (HCE.out _).mono ?_
      rintro e w' ⟨rfl, rfl⟩
      go_wp2_with fail
      refine (HC2.out _).mono ?_
      rintro e w' ⟨rfl, d3, rfl⟩
      have HB3 : Hid (Below W.heap.size W ((w2.drewN d3).alloc (.cells #[.int .i64 lo, .int .i64 hi] 103))) := Lib.hid ((below_drewN HB2.out d3).alloc HB2.out.size _)
      have HA := Lib.hid (add_st _ n0 B L [(lo, hi)] _ (Nat.le_trans hb0 HB3.out.size) hB (HST.out.below HB3.out) (rrow_one (w2.drewN d3) lo hi hr2.1 hr2.2 103) (by simp; omega))
      go_wp2_with fail
      refine HA.out.mono ?_
      rintro e w3 ⟨rfl, hs3, hb3⟩
      have H3 := Lib.hid (And.intro hs3 ((HB3.out.mono hb0).trans hb3))
      clear hs3 hb3
      go_wp2
      go_ret2
      exact ⟨H3.out.2, .inr ⟨_, _, _, HR.out, rfl, rfl, H3.out.1⟩⟩
end Go.Proofs.YtecclhmjmceheaaGreatDoor
namespace Go.Proofs.YtecclhmjmceheaaGreatDoor
open Go.RowKit
set_option linter.unusedVariables false
set_option maxRecDepth 100000 in
set_option maxHeartbeats 8000000 in
theorem bItem_any (W : World) (s : ByteArray) (hs : s.size ≤ 100000) (a n0 B : Nat) (L : List (Int × Int)) (ha : a ≤ s.size) (hE : Ev W) (hb0 : n0 ≤ W.heap.size) (hB : n0 ≤ B) (hst : St n0 B L W) (hlen : L.length ≤ 500000000) :
    Calls Tryz.prog 122 #[.string s, .int .i64 (a : Int), addV B] W (ItPost n0 B L W (Br.item s a)) := by
  obtain ⟨X, hX⟩ : ∃ X, Br.item s a = X := ⟨_, rfl⟩
  rw [hX]
  unfold Br.item at hX
  dsimp only at hX
  have hai : (a : Int) ≤ (s.size : Int) := by omega
  have hza : (s.extract a s.size).size ≤ 100000 := by rw [ByteArray.size_extract]; omega
  have hp := hasPre2 W (s.extract a s.size) 91 58
  rw [show (((91 : UInt8).toNat : Nat) : Int) = 91 from rfl, show (((58 : UInt8).toNat : Nat) : Int) = 58 from rfl, tail_drop] at hp
  have HE := Lib.hid hE
  have HST := Lib.hid hst
  by_cases c0 : ((Utf.nums s).drop a)[0]? = some 91 ∧ ((Utf.nums s).drop a)[1]? = some 58
  · rw [if_pos c0] at hX
    have h2 : a + 2 ≤ s.size := by
      have := (List.getElem?_eq_some_iff.1 c0.2).1
      rw [List.length_drop, Utf.nums_length] at this
      omega
    have HC := Lib.hid (bColon_any W s hs a n0 B L h2 hE hb0 hB hst hlen)
    rw [hX] at HC
    rw [decide_eq_true c0] at hp
    have HP := Lib.hid hp
    clear hX hp c0 hE hst hza
    go_enter Tryz.func122, Tryz.ntmps122
    go_wp2_with fail
    refine HP.out.mono ?_
    rintro e w' ⟨rfl, rfl⟩
    go_wp2_with fail
    refine HC.out.mono ?_
    intro e w' hpost
    rcases hpost with ⟨hb, ⟨o, c, hx, rfl⟩ | ⟨x, nx, l, hx, rfl, h3, h4⟩⟩
    · have H := Lib.hid (And.intro hb hx)
      clear hb hx
      go_wp2
      go_ret2
      exact ⟨H.out.1, .inl ⟨o, c, H.out.2, rfl⟩⟩
    · have H := Lib.hid (And.intro hb (And.intro hx (And.intro h3 h4)))
      clear hb hx h3 h4
      go_wp2
      go_ret2
      exact ⟨H.out.1, .inr ⟨x, nx, l, H.out.2.1, rfl, H.out.2.2⟩⟩
  rw [if_neg c0] at hX
  rw [decide_eq_false c0] at hp
  have HP := Lib.hid hp
  have HS := Lib.hid (bSet_any W (s.extract a s.size) hza hE)
  have hsc := Br.set_cases (s.extract a s.size)
  obtain ⟨⟨sx, sn, sc⟩, hsx⟩ : ∃ p, Br.set (s.extract a s.size) = p := ⟨_, rfl⟩
  rw [hsx] at HS hX hsc
  dsimp only at hX hsc
  have hzs : (s.extract a s.size).size = s.size - a := by rw [ByteArray.size_extract]; omega
  rw [hzs] at hsc
  clear hsx hp c0 hza hzs
  by_cases c1 : sc = 0
  · subst c1
    obtain ⟨y, rfl, _, hn2, hn3⟩ := hsc.resolve_left (by rintro ⟨_, _, h | h | h | h⟩ <;> omega)
    rw [if_pos rfl] at hX
    dsimp only at hX
    obtain ⟨nx, hnx⟩ : ∃ nx, a + sn.toNat = nx := ⟨_, rfl⟩
    rw [hnx] at hX
    have hw : IntKind.i64.wrap ((a : Int) + sn) = (nx : Int) := by rw [IntKind.wrap_i64]; omega
    have HR := Lib.hid hX.symm
    clear hX hE hst hsc hnx
    go_enter Tryz.func122, Tryz.ntmps122
    go_wp2_with fail
    refine HP.out.mono ?_
    rintro e w' ⟨rfl, rfl⟩
    go_wp2_with fail
    refine HS.out.mono ?_
    rintro e w2 ⟨v, out, rfl, hi, ho, hb2⟩
    have HB2 := Lib.hid hb2
    have hnl := Rg.norm_len out 0 (show Rg.NormFrom 0 out from hi.1) (by omega)
    have HI : Hid (Br.ItIs (.cls y) out) := Lib.hid hi
    have HA := Lib.hid (add_st w2 n0 B L out v (Nat.le_trans hb0 hb2.size) hB (HST.out.below hb2) (setIs_row hi ho) (by omega))
    clear hi ho hb2 hnl
    go_wp2_with fail
    refine HA.out.mono ?_
    rintro e w3 ⟨rfl, hs3, hb3⟩
    have H3 := Lib.hid (And.intro hs3 ((HB2.out.mono hb0).trans hb3))
    clear hs3 hb3
    go_wp2
    go_ret2
    exact ⟨H3.out.2, .inr ⟨_, _, _, HR.out, rfl, HI.out, H3.out.1⟩⟩
  rw [if_neg c1] at hX
  have m1 : (sc == 0) = false := by simpa using c1
  have HCE := Lib.hid (fun w => bClsEsc_any w sc)
  by_cases c2 : sc ≠ 3 ∧ sc ≠ 5
  · rw [if_pos c2] at hX
    rw [decide_eq_true c2] at HCE
    have HR := Lib.hid hX.symm
    clear hX hE hst hsc c1 c2
    go_enter Tryz.func122, Tryz.ntmps122
    go_wp2_with fail
    refine HP.out.mono ?_
    rintro e w' ⟨rfl, rfl⟩
    go_wp2_with fail
    refine HS.out.mono ?_
    rintro e w2 ⟨v, out, rfl, hi, ho, hb2⟩
    have HB2 := Lib.hid hb2
    clear hi ho hb2
    go_wp2_with fail
    refine (HCE.out _).mono ?_
    rintro e w' ⟨rfl, rfl⟩
    go_wp2
    go_ret2
    exact ⟨HB2.out.mono hb0, .inl ⟨_, _, HR.out, rfl⟩⟩
  rw [if_neg c2] at hX
  rw [decide_eq_false c2] at HCE
  have HR := Lib.hid hX
  clear hX hE hst hsc c1 c2
  go_enter Tryz.func122, Tryz.ntmps122
  go_wp2_with fail
  refine HP.out.mono ?_
  rintro e w' ⟨rfl, rfl⟩
  go_wp2_with fail
  refine HS.out.mono ?_
  rintro e w2 ⟨v, out, rfl, hi, ho, hb2⟩
  have HB2 := Lib.hid hb2
  clear hi ho hb2
  go_wp2_with fail
  refine (HCE.out _).mono ?_
  rintro e w' ⟨rfl, rfl⟩
  have HSP := Lib.hid (bSpan_any w2 s hs a n0 B L ha (HE.out.below (Nat.le_refl _) HB2.out) (Nat.le_trans hb0 HB2.out.size) hB (HST.out.below HB2.out) hlen)
  rw [HR.out] at HSP
  go_wp2_with fail
  refine HSP.out.mono ?_
  intro e w' hpost
  rcases hpost with ⟨hb, ⟨o, c, hx, rfl⟩ | ⟨x, nx, l, hx, rfl, h3, h4⟩⟩
  · have H := Lib.hid (And.intro ((HB2.out.mono hb0).trans hb) hx)
    clear hb hx
    go_wp2
    go_ret2
    exact ⟨H.out.1, .inl ⟨o, c, H.out.2, rfl⟩⟩
  · have H := Lib.hid (And.intro ((HB2.out.mono hb0).trans hb) (And.intro hx (And.intro h3 h4)))
    clear hb hx h3 h4
    go_wp2
    go_ret2
    exact ⟨H.out.1, .inr ⟨x, nx, l, H.out.2.1, rfl, H.out.2.2⟩⟩
end Go.Proofs.YtecclhmjmceheaaGreatDoor
namespace Go.Proofs.YtecclhmjmceheaaGreatDoor.Fd
set_option linter.unusedVariables false
abbrev Blk := Int × Int × Int
def blocksL : List Blk := [(65, 90, 32), (192, 214, 32), (216, 222, 32), (913, 929, 32), (931, 939, 32), (1040, 1071, 32), (1024, 1039, 80), (255, 255, 121), (181, 181, 743), (931, 931, 31), (75, 75, 8415), (197, 197, 8294), (83, 83, 300), (937, 937, 7549)]
theorem blocks_len : blocksL.length = 14 := rfl
def partner (b : Blk) (x : Int) : Int :=
  if b.1 ≤ x ∧ x ≤ b.2.1 then x + b.2.2 else if b.1 + b.2.2 ≤ x ∧ x ≤ b.2.1 + b.2.2 then x - b.2.2 else x
def addB (x : Int) (o : List Int) (b : Blk) : List Int := if joinB o (partner b x) then o else o ++ [partner b x]
def scan (x : Int) (o : List Int) : List Int := blocksL.foldl (addB x) o
def walkL (r : Int) : Nat → List Int
  | 0 => [r]
  | v + 1 => scan ((walkL r v)[v]?.getD 0) (walkL r v)
theorem addB_len (x : Int) (o : List Int) (b : Blk) : o.length ≤ (addB x o b).length ∧ (addB x o b).length ≤ o.length + 1 := by
  unfold addB; split <;> simp
theorem scan_len (x : Int) : ∀ (bs : List Blk) (o : List Int), o.length ≤ (bs.foldl (addB x) o).length ∧ (bs.foldl (addB x) o).length ≤ o.length + bs.length
  | [], o => by simp
  | b :: bs, o => by
    have h1 := addB_len x o b
    have h2 := scan_len x bs (addB x o b)
    rw [List.foldl_cons, List.length_cons]; omega
theorem walk_len (r : Int) : ∀ v, 1 ≤ (walkL r v).length ∧ (walkL r v).length ≤ 1 + v * 14
  | 0 => ⟨Nat.le_refl _, Nat.le_refl _⟩
  | v + 1 => by
    have h1 := walk_len r v
    have h2 := scan_len ((walkL r v)[v]?.getD 0) blocksL (walkL r v)
    rw [blocks_len] at h2
    show 1 ≤ (scan _ _).length ∧ (scan _ _).length ≤ _
    unfold scan; omega
/-- What is in no pair has no partner. -/
theorem partner_none {r : Int} (h : r ∉ members) : ∀ b ∈ blocksL, partner b r = r := by
  have hf : ∀ b ∈ blocksL, ∀ x, b.1 ≤ x → x ≤ b.2.1 → x ∈ membersE ∧ x + b.2.2 ∈ membersE := by
    have hd : (blocksL.all fun b => (List.range (b.2.1 - b.1 + 1).toNat).all fun (i : Nat) => joinB membersE (b.1 + i) && joinB membersE (b.1 + i + b.2.2)) = true := by decide +kernel
    intro b hb x h1 h2
    have h3 := List.all_eq_true.1 (List.all_eq_true.1 hd b hb) (x - b.1).toNat (List.mem_range.2 (by omega))
    simp only [Bool.and_eq_true, joinB_iff] at h3
    rw [show b.1 + (((x - b.1).toNat : Nat) : Int) = x from by omega] at h3
    exact h3
  intro b hb
  unfold partner
  by_cases h1 : b.1 ≤ r ∧ r ≤ b.2.1
  · exact absurd (by rw [← membersE_eq]; exact (hf b hb r h1.1 h1.2).1) h
  · rw [if_neg h1]
    by_cases h2 : b.1 + b.2.2 ≤ r ∧ r ≤ b.2.1 + b.2.2
    · refine absurd ?_ h
      rw [← membersE_eq]
      have := (hf b hb (r - b.2.2) (by omega) (by omega)).2
      rwa [show r - b.2.2 + b.2.2 = r from by omega] at this
    · rw [if_neg h2]
theorem scan_none {r : Int} : ∀ (bs : List Blk), (∀ b ∈ bs, partner b r = r) → bs.foldl (addB r) [r] = [r]
  | [], _ => rfl
  | b :: bs, h => by
    have : addB r [r] b = [r] := by
      unfold addB; rw [h b (by simp), if_pos ((joinB_iff _ _).2 (by simp))]
    rw [List.foldl_cons, this]
    exact scan_none bs fun c hc => h c (by simp [hc])
/-- The same, so written that it reckons fast. -/
def scanF (x : Int) : List Blk → List Int → List Int
  | [], o => o
  | b :: bs, o => force (addB x o b) (scanF x bs)
theorem scanF_eq (x : Int) : ∀ (bs : List Blk) (o : List Int), scanF x bs o = bs.foldl (addB x) o
  | [], _ => rfl
  | b :: bs, o => by rw [scanF, force_eq, List.foldl_cons, scanF_eq x bs]
def walkF (r : Int) : Nat → List Int
  | 0 => [r]
  | v + 1 => force (walkF r v) fun o => scanF (o[v]?.getD 0) blocksL o
theorem walkF_eq (r : Int) : ∀ v, walkF r v = walkL r v
  | 0 => rfl
  | v + 1 => by rw [walkF, force_eq, scanF_eq, walkF_eq r v]; rfl
/-- Where the walk ends, and that it goes on till then. -/
def okW (r : Int) (N : Nat) : Bool := decide (1 ≤ N) && decide (N ≤ 3) && decide ((walkF r N).length = N) && ((List.range N).all fun v => decide (v < (walkF r v).length)) && (walkF r N).isPerm (famF r)
theorem walks_ok : (membersE.all fun r => okW r 2 || okW r 3) = true := by decide +kernel
theorem walk_cases (r : Int) : ∃ N, 1 ≤ N ∧ N ≤ 3 ∧ (walkL r N).length = N ∧ (∀ v, v < N → v < (walkL r v).length) ∧ (walkL r N).Perm (fam r) := by
  have hk : ∀ N, okW r N = true → 1 ≤ N ∧ N ≤ 3 ∧ (walkL r N).length = N ∧ (∀ v, v < N → v < (walkL r v).length) ∧ (walkL r N).Perm (fam r) := by
    intro N h
    simp only [okW, Bool.and_eq_true, decide_eq_true_eq, List.all_eq_true, List.mem_range, walkF_eq, List.isPerm_iff, famF_eq] at h
    exact ⟨h.1.1.1.1, h.1.1.1.2, h.1.1.2, h.1.2, h.2⟩
  by_cases h : r ∈ members
  · have h1 := List.all_eq_true.1 walks_ok r (by rw [membersE_eq]; exact h)
    rw [Bool.or_eq_true] at h1
    rcases h1 with h1 | h1
    · exact ⟨2, hk 2 h1⟩
    · exact ⟨3, hk 3 h1⟩
  · have e : walkL r 1 = [r] := by
      have h0 : walkL r 1 = scan r [r] := rfl
      rw [h0]; unfold scan; exact scan_none blocksL (partner_none h)
    refine ⟨1, Nat.le_refl _, by omega, by rw [e]; rfl, fun v hv => ?_, ?_⟩
    · obtain rfl : v = 0 := by omega
      exact Nat.zero_lt_one
    · rcases fam_cases r with ⟨_, h1⟩ | ⟨h1, _⟩
      · rw [e, h1]
      · exact absurd h1 h
/-- Sorted, what the walk found is the family. -/
theorem sorted_fam {r : Int} {l : List Int} (h : l.Perm (fam r)) : (l.mergeSort fun x y => decide (x ≤ y)) = fam r := by
  have hs : (l.mergeSort fun x y => decide (x ≤ y)).Pairwise (fun a b => a ≤ b) := by
    have := List.pairwise_mergeSort (le := fun (x y : Int) => decide (x ≤ y)) (fun a b c h1 h2 => by simp only [decide_eq_true_eq] at *; omega) (fun a b => by simp only [Bool.or_eq_true, decide_eq_true_eq]; omega) l
    exact this.imp (fun h => by simpa using h)
  have hp : (l.mergeSort fun x y => decide (x ≤ y)).Perm (fam r) := (List.mergeSort_perm _ _).trans h
  exact hp.eq_of_pairwise (le := fun a b => a ≤ b) (fun a b _ _ h1 h2 => by omega) hs ((fam_asc r).imp (fun h => by omega))
end Go.Proofs.YtecclhmjmceheaaGreatDoor.Fd
