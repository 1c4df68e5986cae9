/- burinlaw07.BracketOne, walked. -/
import Derived.Test.YtcomjkoaieeidaaGreatDoorGp31
import Derived.Test.YtcomjkoaieeidaaGreatDoorGp33
import Derived.Test.YtcomjkoaieeidaaGreatDoorGp32
namespace Go.Proofs.YtcomjkoaieeidaaGreatDoor
open Go.RowKit
set_option linter.unusedVariables false
namespace Br
open Go.Proofs.YtcomjkoaieeidaaGreatDoor.Rg
theorem brIs_set {L out : List R} (hn : NormL L) (h : BrIs (L.map fun p => .rng p.1 p.2) false false out) : out = L := by
  obtain ⟨L', M, h1, h2, h3, h4⟩ := h
  have k : ItsIs (L.map fun p => .rng p.1 p.2) L := by simpa using itsIs_rng L [] [] .nil
  obtain rfl := itsIs_unique h1 k
  obtain rfl := listOf_norm hn h2
  exact norm_ext h3 hn (fun q q0 q1 => by rw [h4 q q0 q1, if_neg (by decide)]; cases hasB M q <;> rfl)
end Br
theorem nums_app (s t : ByteArray) : Utf.nums (s ++ t) = Utf.nums s ++ Utf.nums t := by
  unfold Utf.nums; rw [ByteArray.data_append, Array.toList_append, List.map_append]
theorem nums_enc (r : Int) : Utf.nums (strOfNums (Utf.encN r)) = Utf.encN r := nums_strOf _ (Utf.encN_bytes r)
set_option maxRecDepth 100000 in
set_option maxHeartbeats 8000000 in
theorem walkBracketOne (W : World) (a b : Int) (ha : (Lit.int .i64 a).wf = true) (hb : (Lit.int .i64 b).wf = true) (hE : Ev W) : Calls Tryz.prog 7 #[.int .i64 a, .int .i64 b] W fun e w' => e = .returned (.bool true) ∧ Below W.heap.size W w' := by
  have HE := Lib.hid hE
  clear hE
  go_enter Tryz.func7, Tryz.ntmps7
  go_wp2_with fail
  refine (works7_any _ HE.out).mono ?_
  rintro e w1 ⟨rfl, hb1⟩
  have HB1 := Lib.hid hb1
  clear hb1
  by_cases wa : Utf.width a = 0
  · by_cases wb : Utf.width b = 0
    · go_wp2_with fail
      refine (encode_no a (by assumption) _).mono ?_
      rintro e w2 ⟨rfl, rfl⟩
      go_wp2_with fail
      refine (encode_no b (by assumption) _).mono ?_
      rintro e w3 ⟨rfl, rfl⟩
      go_wp2
      go_ret
      exact ⟨rfl, HB1.out⟩
    · go_wp2_with fail
      refine (encode_no a (by assumption) _).mono ?_
      rintro e w2 ⟨rfl, rfl⟩
      go_wp2_with fail
      refine (encode_yes b (by assumption) _).mono ?_
      rintro e w3 ⟨rfl, hb3⟩
      have HB3 := Lib.hid (HB1.out.trans (hb3.mono HB1.out.size))
      clear hb3
      go_wp2
      go_ret
      exact ⟨rfl, HB3.out⟩
  by_cases wb : Utf.width b = 0
  · go_wp2_with fail
    refine (encode_yes a (by assumption) _).mono ?_
    rintro e w2 ⟨rfl, hb2⟩
    have HB2 := Lib.hid (HB1.out.trans (hb2.mono HB1.out.size))
    clear hb2
    go_wp2_with fail
    refine (encode_no b (by assumption) _).mono ?_
    rintro e w3 ⟨rfl, rfl⟩
    go_wp2
    go_ret
    exact ⟨rfl, HB2.out⟩
  by_cases c0 : a = 94
  · have m0 : (a == 94) = true := by simp [c0]
    have WA := Lib.hid wa
    have WB := Lib.hid wb
    clear c0
    go_wp2_with fail
    refine (encode_yes a (by assumption) _).mono ?_
    rintro e w2 ⟨rfl, hb2⟩
    have HB2 := Lib.hid (HB1.out.trans (hb2.mono HB1.out.size))
    clear hb2
    go_wp2_with fail
    refine (encode_yes b (by assumption) _).mono ?_
    rintro e w3 ⟨rfl, hb3⟩
    have HB3 := Lib.hid (HB2.out.trans (hb3.mono HB2.out.size))
    clear hb3
    go_wp2
    go_ret
    exact ⟨rfl, HB3.out⟩
  by_cases c1 : a = 92
  · have m1 : (a == 92) = true := by simp [c1]
    have n0 : (a == 94) = false := by simpa using c0
    have WA := Lib.hid wa
    have WB := Lib.hid wb
    clear c0 c1
    go_wp2_with fail
    refine (encode_yes a (by assumption) _).mono ?_
    rintro e w2 ⟨rfl, hb2⟩
    have HB2 := Lib.hid (HB1.out.trans (hb2.mono HB1.out.size))
    clear hb2
    go_wp2_with fail
    refine (encode_yes b (by assumption) _).mono ?_
    rintro e w3 ⟨rfl, hb3⟩
    have HB3 := Lib.hid (HB2.out.trans (hb3.mono HB2.out.size))
    clear hb3
    go_wp2
    go_ret
    exact ⟨rfl, HB3.out⟩
  by_cases c2 : b = 92
  · have m2 : (b == 92) = true := by simp [c2]
    have n0 : (a == 94) = false := by simpa using c0
    have n1 : (a == 92) = false := by simpa using c1
    have WA := Lib.hid wa
    have WB := Lib.hid wb
    clear c0 c1 c2
    go_wp2_with fail
    refine (encode_yes a (by assumption) _).mono ?_
    rintro e w2 ⟨rfl, hb2⟩
    have HB2 := Lib.hid (HB1.out.trans (hb2.mono HB1.out.size))
    clear hb2
    go_wp2_with fail
    refine (encode_yes b (by assumption) _).mono ?_
    rintro e w3 ⟨rfl, hb3⟩
    have HB3 := Lib.hid (HB2.out.trans (hb3.mono HB2.out.size))
    clear hb3
    go_wp2
    go_ret
    exact ⟨rfl, HB3.out⟩
  by_cases c3 : b = 93
  · have m3 : (b == 93) = true := by simp [c3]
    have n0 : (a == 94) = false := by simpa using c0
    have n1 : (a == 92) = false := by simpa using c1
    have n2 : (b == 92) = false := by simpa using c2
    have WA := Lib.hid wa
    have WB := Lib.hid wb
    clear c0 c1 c2 c3
    go_wp2_with fail
    refine (encode_yes a (by assumption) _).mono ?_
    rintro e w2 ⟨rfl, hb2⟩
    have HB2 := Lib.hid (HB1.out.trans (hb2.mono HB1.out.size))
    clear hb2
    go_wp2_with fail
    refine (encode_yes b (by assumption) _).mono ?_
    rintro e w3 ⟨rfl, hb3⟩
    have HB3 := Lib.hid (HB2.out.trans (hb3.mono HB2.out.size))
    clear hb3
    go_wp2
    go_ret
    exact ⟨rfl, HB3.out⟩
  by_cases c4 : a = 91
  · have m4 : (a == 91) = true := by simp [c4]
    have n0 : (a == 94) = false := by simpa using c0
    have n1 : (a == 92) = false := by simpa using c1
    have n2 : (b == 92) = false := by simpa using c2
    have n3 : (b == 93) = false := by simpa using c3
    have WA := Lib.hid wa
    have WB := Lib.hid wb
    clear c0 c1 c2 c3 c4
    go_wp2_with fail
    refine (encode_yes a (by assumption) _).mono ?_
    rintro e w2 ⟨rfl, hb2⟩
    have HB2 := Lib.hid (HB1.out.trans (hb2.mono HB1.out.size))
    clear hb2
    go_wp2_with fail
    refine (encode_yes b (by assumption) _).mono ?_
    rintro e w3 ⟨rfl, hb3⟩
    have HB3 := Lib.hid (HB2.out.trans (hb3.mono HB2.out.size))
    clear hb3
    go_wp2
    go_ret
    exact ⟨rfl, HB3.out⟩
  have n0 : (a == 94) = false := by simpa using c0
  have n1 : (a == 92) = false := by simpa using c1
  have n2 : (b == 92) = false := by simpa using c2
  have n3 : (b == 93) = false := by simpa using c3
  have n4 : (a == 91) = false := by simpa using c4
  have hla := Utf.encN_length a
  have hlb := Utf.encN_length b
  have hwa := Utf.width_le a
  have hwb := Utf.width_le b
  have hra : 0 ≤ a ∧ a ≤ 1114111 := by rcases Utf.width_cases a with h | h | h | h | h <;> omega
  have hrb : 0 ≤ b ∧ b ≤ 1114111 := by rcases Utf.width_cases b with h | h | h | h | h <;> omega
  have hsa : (strOfNums (Utf.encN a)).size = (Utf.encN a).length := size_strOf _
  have hsb : (strOfNums (Utf.encN b)).size = (Utf.encN b).length := size_strOf _
  have na : Utf.nums (strOfNums (Utf.encN a)) = Utf.encN a := nums_enc a
  have nb : Utf.nums (strOfNums (Utf.encN b)) = Utf.encN b := nums_enc b
  go_wp2_with fail
  refine (encode_yes a (by assumption) _).mono ?_
  rintro e w2 ⟨rfl, hb2⟩
  have HB2 := Lib.hid (HB1.out.trans (hb2.mono HB1.out.size))
  clear hb2
  go_wp2_with fail
  refine (encode_yes b (by assumption) _).mono ?_
  rintro e w3 ⟨rfl, hb3⟩
  have HB3 := Lib.hid (HB2.out.trans (hb3.mono HB2.out.size))
  clear hb3
  obtain ⟨sa, hsa0⟩ : ∃ sa, strOfNums (Utf.encN a) = sa := ⟨_, rfl⟩
  obtain ⟨sb, hsb0⟩ : ∃ sb, strOfNums (Utf.encN b) = sb := ⟨_, rfl⟩
  rw [hsa0] at hsa na ⊢
  rw [hsb0] at hsb nb ⊢
  have hn1 : Utf.nums (⟨#[91]⟩ ++ sa ++ ⟨#[93]⟩) = 91 :: (Utf.encN a ++ [93]) := by rw [nums_app, nums_app, na]; rfl
  have hn2 : Utf.nums (⟨#[91]⟩ ++ sa ++ ⟨#[45]⟩ ++ sb ++ ⟨#[93]⟩) = 91 :: (Utf.encN a ++ 45 :: (Utf.encN b ++ [93])) := by
    rw [nums_app, nums_app, nums_app, nums_app, na, nb, show Utf.nums ⟨#[91]⟩ = [91] from rfl, show Utf.nums ⟨#[45]⟩ = [45] from rfl, show Utf.nums ⟨#[93]⟩ = [93] from rfl]
    simp
  have hz1 : (⟨#[91]⟩ ++ sa ++ ⟨#[93]⟩ : ByteArray).size ≤ 400 := by rw [← Utf.nums_length, hn1]; simp; omega
  have hz2 : (⟨#[91]⟩ ++ sa ++ ⟨#[45]⟩ ++ sb ++ ⟨#[93]⟩ : ByteArray).size ≤ 400 := by rw [← Utf.nums_length, hn2]; simp; omega
  have hb1 := Br.brack_one wa c0 c1 c4 hn1
  have hb2 := Br.brack_two wa wb c0 c1 c4 c2 c3 hn2
  have HZ1 := Lib.hid hz1
  have HZ2 := Lib.hid hz2
  have HK1 := Lib.hid hb1
  have HK2 := Lib.hid hb2
  have HRA := Lib.hid hra
  have HRB := Lib.hid hrb
  have hsai : (sa.size : Int) ≤ 4 := by omega
  have hsbi : (sb.size : Int) ≤ 4 := by omega
  have HSA := Lib.hid hsa
  have HSB := Lib.hid hsb
  clear hz1 hz2 hb1 hb2 hn1 hn2 na nb hsa0 hsb0 hla hlb hwa hwb wa wb c0 c1 c2 c3 c4 hra hrb hsa hsb
  obtain ⟨N1, hN1⟩ : ∃ N1, 1 + (Utf.encN a).length + 1 = N1 := ⟨_, rfl⟩
  obtain ⟨N2, hN2⟩ : ∃ N2, 2 + (Utf.encN a).length + (Utf.encN b).length + 1 = N2 := ⟨_, rfl⟩
  obtain ⟨N3, hN3⟩ : ∃ N3, (Utf.encN a).length + (Utf.encN b).length = N3 := ⟨_, rfl⟩
  have hw1 : IntKind.i64.wrap ((sa.size : Int) + 2) = (N1 : Int) := by rw [IntKind.wrap_i64]; have := HSA.out; omega
  have hw2 : IntKind.i64.wrap ((sa.size : Int) + (sb.size : Int)) = (N3 : Int) := by rw [IntKind.wrap_i64]; have := HSA.out; have := HSB.out; omega
  have hw3 : IntKind.i64.wrap ((N3 : Int) + 3) = (N2 : Int) := by rw [IntKind.wrap_i64]; have := HSA.out; have := HSB.out; omega
  have HN1 := Lib.hid hN1
  have HN2 := Lib.hid hN2
  clear hN1 hN2 hN3
  go_wp2_with fail
  refine (brk_any _ _ HZ1.out 0 false (by decide) (HE.out.below (Nat.le_refl _) HB3.out)).mono ?_
  intro e w4 hpost
  rcases hpost with ⟨hb4, ⟨o, c, hx, _⟩ | ⟨Xs, at_, v4, out4, hx, rfl, hi, ho⟩⟩
  · rw [HK1.out.1] at hx; cases hx
  rw [HK1.out.1] at hx
  obtain ⟨hXs, hat⟩ : [Br.It.rng a a] = Xs ∧ 1 + (Utf.encN a).length = at_ := by cases hx; exact ⟨rfl, rfl⟩
  subst hXs
  subst hat
  have hi' : Br.BrIs ([(a, a)].map fun p => .rng p.1 p.2) false false out4 := by rw [HK1.out.2] at hi; exact hi
  have hn4 : Rg.NormL [(a, a)] := ⟨HRA.out.1, Int.le_refl _, HRA.out.2, trivial⟩
  have HO4 : Hid (out4 = [(a, a)]) := Lib.hid (Br.brIs_set hn4 hi')
  have HB4 := Lib.hid (HB3.out.trans (hb4.mono HB3.out.size))
  have hb5 : Below w4.heap.size w4 (w4.alloc (.cells #[.int .i64 a, .int .i64 a] 36)) := (Below.refl _ _).alloc (Nat.le_refl _) _
  have HR4 := Lib.hid ((ho.below hb5).normRow (by rw [HO4.out]; exact hn4))
  have HR5 := Lib.hid (rrow_one w4 a a (two_runes HRA.out.1 HRA.out.2 HRA.out.1 HRA.out.2).1 (two_runes HRA.out.1 HRA.out.2 HRA.out.1 HRA.out.2).1 36)
  have HB5 := Lib.hid (HB4.out.trans (hb5.mono HB4.out.size))
  rw [HN1.out]
  clear hb4 hx hi ho hi' hn4 hb5
  go_wp2_with fail
  refine (same_refl_row _ _ _ _ _ HR4.out HR5.out HO4.out).mono ?_
  rintro e w6 ⟨rfl, hb6⟩
  have HB6 := Lib.hid (HB5.out.trans (hb6.mono HB5.out.size))
  clear hb6
  go_wp2_with fail
  refine (brk_any _ _ HZ2.out 0 false (by decide) (HE.out.below (Nat.le_refl _) HB6.out)).mono ?_
  intro e w7 hpost
  by_cases hlt : b < a
  · rcases hpost with ⟨hb7, ⟨o, c, hx, rfl⟩ | ⟨Xs, at_, v4, out4, hx, _, _, _⟩⟩
    · rw [HK2.out.2.1 hlt] at hx
      obtain ⟨ho, hc⟩ : (1 : Int) = o ∧ (70 : Int) = c := by cases hx; exact ⟨rfl, rfl⟩
      subst ho
      subst hc
      have HB7 := Lib.hid (HB6.out.trans (hb7.mono HB6.out.size))
      clear hx hb7
      go_wp2
      go_ret
      exact ⟨rfl, HB7.out⟩
    · rw [HK2.out.2.1 hlt] at hx; cases hx
  · rcases hpost with ⟨hb7, ⟨o, c, hx, _⟩ | ⟨Xs, at_, v7, out7, hx, rfl, hi, ho⟩⟩
    · rw [HK2.out.2.2 (by omega)] at hx; cases hx
    rw [HK2.out.2.2 (by omega)] at hx
    obtain ⟨hXs, hat⟩ : [Br.It.rng a b] = Xs ∧ 2 + (Utf.encN a).length + (Utf.encN b).length = at_ := by cases hx; exact ⟨rfl, rfl⟩
    subst hXs
    subst hat
    have hi' : Br.BrIs ([(a, b)].map fun p => .rng p.1 p.2) false false out7 := by rw [HK2.out.1] at hi; exact hi
    have hn7 : Rg.NormL [(a, b)] := ⟨HRA.out.1, by show a ≤ b; omega, HRB.out.2, trivial⟩
    have HO7 : Hid (out7 = [(a, b)]) := Lib.hid (Br.brIs_set hn7 hi')
    have HB7 := Lib.hid (HB6.out.trans (hb7.mono HB6.out.size))
    have hb8 : Below w7.heap.size w7 (w7.alloc (.cells #[.int .i64 a, .int .i64 b] 36)) := (Below.refl _ _).alloc (Nat.le_refl _) _
    have HR7 := Lib.hid ((ho.below hb8).normRow (by rw [HO7.out]; exact hn7))
    have HR8 := Lib.hid (rrow_one w7 a b (two_runes HRA.out.1 HRA.out.2 HRB.out.1 HRB.out.2).1 (two_runes HRA.out.1 HRA.out.2 HRB.out.1 HRB.out.2).2 36)
    have HB8 := Lib.hid (HB7.out.trans (hb8.mono HB7.out.size))
    rw [HN2.out]
    clear hb7 hx hi ho hi' hn7 hb8
    go_wp2_with fail
    refine (same_refl_row _ _ _ _ _ HR7.out HR8.out HO7.out).mono ?_
    rintro e w9 ⟨rfl, hb9⟩
    have HB9 := Lib.hid (HB8.out.trans (hb9.mono HB8.out.size))
    clear hb9
    go_wp2
    go_ret
    exact ⟨rfl, HB9.out⟩
end Go.Proofs.YtcomjkoaieeidaaGreatDoor
