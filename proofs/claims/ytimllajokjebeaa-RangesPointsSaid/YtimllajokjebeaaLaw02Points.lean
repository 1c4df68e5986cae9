/- The law RangesPoints, walked. -/
import Derived.Test.YtimllajokjebeaaRnX
import Derived.Test.YtimllajokjebeaaRgSets
namespace Go.Proofs.Ytimllajokjebeaa
open Go.RowKit
set_option linter.unusedVariables false
set_option maxRecDepth 100000 in
set_option maxHeartbeats 4000000 in
/-- The body behind the tests of lengths, the memberships known. -/
theorem points_core (W : World) (a b : List (Int × Int)) (r : Int) (sa sb : Option Addr) (n m ca cb : Nat) (hn : n ≤ 60) (hm : m ≤ 60) (ha : RRow W (.slice sa n ca) a) (hb : RRow W (.slice sb m cb) b)
    (X Y : Bool) (hX : Rg.hasB a r = X) (hY : Rg.hasB b r = Y) (hI : (0 ≤ r ∧ r ≤ 1114111) ∨ ((r < 0 ∨ 1114111 < r) ∧ X = false ∧ Y = false)) :
    Calls Try.prog 5 #[.slice sa n ca, .slice sb m cb, .int .i64 r] W fun e w' => e = .returned (.bool true) ∧ Below W.heap.size W w' := by
  have HA := Lib.hid ha
  have HB := Lib.hid hb
  have HX := Lib.hid hX
  have HY := Lib.hid hY
  clear ha hb hX hY
  rcases hI with ⟨i1, i2⟩ | ⟨i1 | i1, rfl, rfl⟩
  all_goals try cases X
  all_goals try cases Y
  all_goals
    go_enter Try.func5, Try.ntmps5
    go_wp2_with fail
    refine (works_any _).mono ?_
    rintro e w1 ⟨rfl, hb⟩
    have D1 := Lib.hid hb
    clear hb
    go_wp2_with fail
    refine (has_any _ _ a r (HA.out.below (Nat.le_refl _) D1.out)).mono ?_
    rintro e w2 ⟨rfl, hb⟩
    have D2 := Lib.hid (D1.out.trans (hb.mono D1.out.size))
    clear hb
    rw [HX.out]
    go_wp2_with fail
    refine (has_any _ _ b r (HB.out.below (Nat.le_refl _) D2.out)).mono ?_
    rintro e w3 ⟨rfl, hb⟩
    have D3 := Lib.hid (D2.out.trans (hb.mono D2.out.size))
    clear hb
    rw [HY.out]
    go_wp2_with fail
    refine (union_any _ _ _ a b (HA.out.below (Nat.le_refl _) D3.out) (HB.out.below (Nat.le_refl _) D3.out)).mono ?_
    rintro e w4 ⟨v4, o4, rfl, hm4, ho4, hb⟩
    have D4 := Lib.hid (D3.out.trans (hb.mono D3.out.size))
    have R4 := Lib.hid (ho4.normRow hm4.norm)
    have H4 := Lib.hid (hm4.or r)
    clear hb hm4 ho4
    go_wp2_with fail
    refine (has_any _ _ o4 r R4.out).mono ?_
    rintro e w5 ⟨rfl, hb⟩
    have D5 := Lib.hid (D4.out.trans (hb.mono D4.out.size))
    clear hb
    rw [H4.out, HX.out, HY.out]
    go_wp2_with fail
    refine (both_any _ _ _ a b (HA.out.below (Nat.le_refl _) D5.out) (HB.out.below (Nat.le_refl _) D5.out)).mono ?_
    rintro e w6 ⟨v6, o6, rfl, hm6, ho6, hb⟩
    have D6 := Lib.hid (D5.out.trans (hb.mono D5.out.size))
    have R6 := Lib.hid (ho6.normRow hm6.norm)
    have H6 := Lib.hid (hm6.and r)
    clear hb hm6 ho6
    go_wp2_with fail
    refine (has_any _ _ o6 r R6.out).mono ?_
    rintro e w7 ⟨rfl, hb⟩
    have D7 := Lib.hid (D6.out.trans (hb.mono D6.out.size))
    clear hb
    rw [H6.out, HX.out, HY.out]
    go_wp2_with fail
    refine (minus_any _ _ _ a b (HA.out.below (Nat.le_refl _) D7.out) (HB.out.below (Nat.le_refl _) D7.out)).mono ?_
    rintro e w8 ⟨v8, o8, rfl, hm8, ho8, hb⟩
    have D8 := Lib.hid (D7.out.trans (hb.mono D7.out.size))
    have R8 := Lib.hid (ho8.normRow hm8.norm)
    have H8 := Lib.hid (hm8.sub r)
    clear hb hm8 ho8
    go_wp2_with fail
    refine (has_any _ _ o8 r R8.out).mono ?_
    rintro e w9 ⟨rfl, hb⟩
    have D9 := Lib.hid (D8.out.trans (hb.mono D8.out.size))
    clear hb
    rw [H8.out, HX.out, HY.out]
    go_wp2_with fail
    refine (not_any _ _ a (HA.out.below (Nat.le_refl _) D9.out)).mono ?_
    rintro e w10 ⟨v10, o10, rfl, hm10, ho10, hb⟩
    have D10 := Lib.hid (D9.out.trans (hb.mono D9.out.size))
    have R10 := Lib.hid (ho10.normRow hm10.norm)
    have H10 := Lib.hid (hm10.sub r)
    clear hb hm10 ho10
    go_wp2_with fail
    refine (has_any _ _ o10 r R10.out).mono ?_
    rintro e w11 ⟨rfl, hb⟩
    have D11 := Lib.hid (D10.out.trans (hb.mono D10.out.size))
    clear hb
    first
      | rw [H10.out, HX.out, Rg.hasB_all ⟨i1, i2⟩]
      | rw [H10.out, HX.out, Rg.hasB_out (l := [(0, 1114111)]) (by omega)]
    go_wp2
    go_ret
    exact ⟨rfl, D11.out⟩
set_option maxRecDepth 100000 in
set_option maxHeartbeats 4000000 in
theorem walkRangesPoints (W : World) (v : Value) (l : List (Int × Int)) (v' : Value) (l' : List (Int × Int)) (r : Int) (hr : RRow W v l) (hr' : RRow W v' l') (wr : (Lit.int .i64 r).wf = true) :
    Calls Try.prog 5 #[v, v', .int .i64 r] W fun e w' => e = .returned (.bool true) ∧ Below W.heap.size W w' := by
  have HR := Lib.hid hr
  have HR' := Lib.hid hr'
  obtain ⟨a, ca, rfl, hl, _⟩ := hr
  obtain ⟨b, cb, rfl, hl', _⟩ := hr'
  clear wr
  obtain ⟨n, hn⟩ : ∃ n, l.length = n := ⟨_, rfl⟩
  obtain ⟨m, hm⟩ : ∃ m, l'.length = m := ⟨_, rfl⟩
  rw [hn] at HR hl ⊢
  rw [hm] at HR' hl' ⊢
  clear hn hm
  by_cases h1 : 60 < n
  · go_enter Try.func5, Try.ntmps5
    go_wp2_with fail
    refine (works_any _).mono ?_
    rintro e w1 ⟨rfl, hb⟩
    have D1 := Lib.hid hb
    clear hb
    go_wp2
    go_ret
    exact ⟨rfl, D1.out⟩
  · by_cases h2 : 60 < m
    · go_enter Try.func5, Try.ntmps5
      go_wp2_with fail
      refine (works_any _).mono ?_
      rintro e w1 ⟨rfl, hb⟩
      have D1 := Lib.hid hb
      clear hb
      go_wp2
      go_ret
      exact ⟨rfl, D1.out⟩
    · refine points_core W l l' r a b n m ca cb (by omega) (by omega) HR.out HR'.out _ _ rfl rfl ?_
      by_cases hq : 0 ≤ r ∧ r ≤ 1114111
      · exact .inl hq
      · exact .inr ⟨by omega, Rg.hasB_out hq, Rg.hasB_out hq⟩
end Go.Proofs.Ytimllajokjebeaa
