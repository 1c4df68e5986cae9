/- Mathematics of the landed fits: what is left of a node, held against an empty one. -/
import Derived.Test.YthhdlcckboiecaaGp10
import Derived.Test.YthhdlcckboiecaaGp12
import Derived.Test.YthhdlcckboiecaaGp3
namespace Go.Proofs.Ythhdlcckboiecaa
open Go.RowKit
set_option linter.unusedVariables false
namespace Td
def zeroN (K : Int) : Nd := .mk K [] 0 ⟨#[]⟩ 0 0 false []
theorem nil_dec (l : List (Int × Int)) : decide (l = []) = ((l.length : Int) == 0) := by
  cases l with
  | nil => rfl
  | cons a l =>
    rw [decide_eq_false (by simp)]
    symm; rw [beq_eq_false_iff_ne]; simp; omega
theorem same_zero (k : Nat) (K num : Int) (set : List (Int × Int)) (name : ByteArray) (mn mx : Int) (lz : Bool) (subs : List Nd) :
    sameB (k + 1) (.mk K set num name mn mx lz subs) (zeroN K) = ((num == 0) && (name.toList.isEmpty && ((mn == 0) && ((mx == 0) && (!lz && (((set.length : Int) == 0) && ((subs.length : Int) == 0))))))) := by
  have e : (name.toList == ([] : List UInt8)) = name.toList.isEmpty := by cases name.toList <;> rfl
  rw [sameB, same1]
  show (((K == K) && ((num == 0) && ((name.toList == (⟨#[]⟩ : ByteArray).toList) && ((mn == 0) && ((mx == 0) && ((lz == false) && (decide (set = []) && ((subs.length : Int) == 0)))))))) && _) = _
  rw [show (⟨#[]⟩ : ByteArray).toList = [] from by simp [ByteArray.toList_eq], e, nil_dec, show ((Td.subs (.mk K set num name mn mx lz subs)).zip (Td.subs (zeroN K))) = [] from by simp [Td.subs, zeroN], List.all_nil]
  cases lz <;> simp
/-- What is told of a node by its kind's own test, and by what is left of it. -/
def leftB (n : Nd) : Bool :=
  if kind n = 1 ∨ kind n = 2 ∨ kind n = 4 then sameB 1000 n (zeroN (kind n))
  else if kind n = 3 then sameB 1000 (.mk (kind n) [] (num n) (name n) (mn n) (mx n) (lazy n) (subs n)) (zeroN (kind n))
  else if kind n = 5 then sameB 1000 (.mk (kind n) (set n) 0 (name n) (mn n) (mx n) (lazy n) (subs n)) (zeroN (kind n))
  else if kind n = 6 then sameB 1000 (.mk (kind n) (set n) 0 ⟨#[]⟩ (mn n) (mx n) (lazy n) []) (zeroN (kind n))
  else if kind n = 7 ∨ kind n = 8 then sameB 1000 (.mk (kind n) (set n) (num n) (name n) (mn n) (mx n) (lazy n) []) (zeroN (kind n))
  else sameB 1000 (.mk (kind n) (set n) (num n) (name n) 0 0 false []) (zeroN (kind n))
def testB (K num mn mx L : Int) (S M C NB : Bool) : Bool :=
  if K = 1 ∨ K = 2 ∨ K = 4 then true
  else if K = 3 then !S && C
  else if K = 5 then decide (1 ≤ num) && decide (num ≤ 6)
  else if K = 6 then decide (1 ≤ num) && ((M || NB) && (L == 1))
  else if K = 7 ∨ K = 8 then decide (2 ≤ L)
  else if K = 9 then decide (0 ≤ mn ∧ mn ≤ 1000) && ((mx == -1 || (decide (0 ≤ mx ∧ mx ≤ 1000) && decide (mn ≤ mx))) && (L == 1))
  else false
def testN (n : Nd) : Bool := testB (kind n) (num n) (mn n) (mx n) (subs n).length (((set n).length : Int) == 0) (name n).toList.isEmpty (Rg.checkF none (set n) == 0) (nameB (name n))
theorem fits_eq (n : Nd) : fitsB n = (testN n && leftB n) := by
  cases n with
  | mk K set num name mn mx lz subs =>
    have e0 : (⟨#[]⟩ : ByteArray).toList.isEmpty = true := by simp [ByteArray.toList_eq]
    have z0 : ((0 : Int) == 0) = true := rfl
    have zl : (((([] : List (Int × Int)).length : Nat) : Int) == 0) = true := rfl
    have zs : (((([] : List Nd).length : Nat) : Int) == 0) = true := rfl
    unfold fitsB fitsV testN testB leftB
    show (if K = 1 ∨ K = 2 ∨ K = 4 then _ else _) = _
    simp only [show Td.kind (.mk K set num name mn mx lz subs) = K from rfl, show Td.set (.mk K set num name mn mx lz subs) = set from rfl, show Td.num (.mk K set num name mn mx lz subs) = num from rfl, show Td.name (.mk K set num name mn mx lz subs) = name from rfl, show Td.mn (.mk K set num name mn mx lz subs) = mn from rfl, show Td.mx (.mk K set num name mn mx lz subs) = mx from rfl, show Td.lazy (.mk K set num name mn mx lz subs) = lz from rfl, show Td.subs (.mk K set num name mn mx lz subs) = subs from rfl, same_zero]
    simp only [e0, z0, zl, zs, Bool.true_and, Bool.and_true, Bool.not_false]
    generalize name.toList.isEmpty = M
    generalize (Rg.checkF none set == 0) = C
    generalize nameB name = NB
    generalize ((set.length : Int) == 0) = S
    obtain ⟨L, hL⟩ : ∃ L : Int, (subs.length : Int) = L := ⟨_, rfl⟩
    rw [hL]
    generalize (num == 0) = U
    by_cases k1 : K = 1 ∨ K = 2 ∨ K = 4
    · rw [if_pos k1, if_pos k1, if_pos k1]
      cases S <;> cases U <;> cases M <;> cases (mn == 0) <;> cases (mx == 0) <;> cases lz <;> simp
    rw [if_neg k1, if_neg k1, if_neg k1]
    by_cases k3 : K = 3
    · rw [if_pos k3, if_pos k3, if_pos k3]
      cases S <;> cases U <;> cases M <;> cases (mn == 0) <;> cases (mx == 0) <;> cases lz <;> cases C <;> simp
    rw [if_neg k3, if_neg k3, if_neg k3]
    by_cases k5 : K = 5
    · rw [if_pos k5, if_pos k5, if_pos k5]
      cases S <;> cases M <;> cases (mn == 0) <;> cases (mx == 0) <;> cases lz <;> cases decide (1 ≤ num) <;> cases decide (num ≤ 6) <;> simp
    rw [if_neg k5, if_neg k5, if_neg k5]
    by_cases k6 : K = 6
    · rw [if_pos k6, if_pos k6, if_pos k6]
      cases S <;> cases M <;> cases (mn == 0) <;> cases (mx == 0) <;> cases lz <;> cases decide (1 ≤ num) <;> cases NB <;> cases (L == 1) <;> simp
    rw [if_neg k6, if_neg k6, if_neg k6]
    by_cases k7 : K = 7 ∨ K = 8
    · rw [if_pos k7, if_pos k7, if_pos k7]
      cases S <;> cases U <;> cases M <;> cases (mn == 0) <;> cases (mx == 0) <;> cases lz <;> cases decide (2 ≤ L) <;> simp
    rw [if_neg k7, if_neg k7, if_neg k7]
    by_cases k9 : K = 9
    · rw [if_pos k9, if_pos k9]
      have d1 : decide (0 ≤ mn ∧ mn ≤ 1000) = (decide (0 ≤ mn) && decide (mn ≤ 1000)) := by simp
      have d2 : (decide (0 ≤ mn) && (decide (0 ≤ mx ∧ mx ≤ 1000) && decide (mn ≤ mx))) = (decide (0 ≤ mn) && (decide (mn ≤ mx) && decide (mx ≤ 1000))) := by
        by_cases a : 0 ≤ mn
        · by_cases b : mn ≤ mx
          · have : 0 ≤ mx := by omega
            simp [a, b, this]
          · simp [b]
        · simp [a]
      rw [d1]
      cases S <;> cases U <;> cases M <;> cases (L == 1) <;> simp at d2 ⊢
      all_goals (by_cases a : 0 ≤ mn <;> by_cases b : mn ≤ mx <;> by_cases c : mx ≤ 1000 <;> by_cases d : mx = -1 <;> simp [a, b, c, d] <;> omega)
    rw [if_neg k9, if_neg k9]
    rfl
theorem told1 {n : Nd} (h : kind n = 1 ∨ kind n = 2 ∨ kind n = 4) : fitsB n = sameB 1000 n (zeroN (kind n)) := by
  rw [fits_eq, testN, testB, leftB, if_pos h, if_pos h]; rfl
theorem told3 {n : Nd} (h : kind n = 3) : fitsB n = ((!(((set n).length : Int) == 0) && (Rg.checkF none (set n) == 0)) && sameB 1000 (.mk 3 [] (num n) (name n) (mn n) (mx n) (lazy n) (subs n)) (zeroN 3)) := by
  rw [fits_eq, testN, testB, leftB, h]; rfl
theorem told5 {n : Nd} (h : kind n = 5) : fitsB n = ((decide (1 ≤ num n) && decide (num n ≤ 6)) && sameB 1000 (.mk 5 (set n) 0 (name n) (mn n) (mx n) (lazy n) (subs n)) (zeroN 5)) := by
  rw [fits_eq, testN, testB, leftB, h]; rfl
theorem told6 {n : Nd} (h : kind n = 6) : fitsB n = ((decide (1 ≤ num n) && (((name n).toList.isEmpty || nameB (name n)) && (((subs n).length : Int) == 1))) && sameB 1000 (.mk 6 (set n) 0 ⟨#[]⟩ (mn n) (mx n) (lazy n) []) (zeroN 6)) := by
  rw [fits_eq, testN, testB, leftB, h]; rfl
theorem told7 {n : Nd} (h : kind n = 7 ∨ kind n = 8) : fitsB n = (decide (2 ≤ ((subs n).length : Int)) && sameB 1000 (.mk (kind n) (set n) (num n) (name n) (mn n) (mx n) (lazy n) []) (zeroN (kind n))) := by
  rcases h with h | h
  · rw [fits_eq, testN, testB, leftB, h]; rfl
  · rw [fits_eq, testN, testB, leftB, h]; rfl
theorem told9 {n : Nd} (h : kind n = 9) : fitsB n = ((decide (0 ≤ mn n ∧ mn n ≤ 1000) && ((mx n == -1 || (decide (0 ≤ mx n ∧ mx n ≤ 1000) && decide (mn n ≤ mx n))) && (((subs n).length : Int) == 1))) && sameB 1000 (.mk 9 (set n) (num n) (name n) 0 0 false []) (zeroN 9)) := by
  rw [fits_eq, testN, testB, leftB, h]; rfl
theorem told0 {n : Nd} (h : ¬ (kind n = 1 ∨ kind n = 2 ∨ kind n = 4)) (h3 : ¬ kind n = 3) (h5 : ¬ kind n = 5) (h6 : ¬ kind n = 6) (h7 : ¬ (kind n = 7 ∨ kind n = 8)) (h9 : ¬ kind n = 9) : fitsB n = false := by
  rw [fits_eq, testN, testB, if_neg h, if_neg h3, if_neg h5, if_neg h6, if_neg h7, if_neg h9]; rfl
end Td
theorem NdIs.noSet {W : World} {k num mn mx : Int} {set : List (Int × Int)} {name : ByteArray} {lz : Bool} {subs : List Nd} {vs : Value} {a : Option Addr} {cap : Nat}
    (h : NdIs W (.mk k set num name mn mx lz subs) [.int .i64 k, vs, .int .i64 num, .string name, .int .i64 mn, .int .i64 mx, .bool lz, .slice a subs.length cap]) :
    NdIs W (.mk k [] num name mn mx lz subs) [.int .i64 k, .slice none 0 0, .int .i64 num, .string name, .int .i64 mn, .int .i64 mx, .bool lz, .slice a subs.length cap] := by
  cases h with
  | mk C hk hset hname hlen hrow hsub => exact .mk C hk ⟨none, 0, rfl, by simp, by simp, fun j hj => absurd hj (by simp)⟩ hname hlen hrow hsub
theorem NdIs.noSubs {W : World} {k num mn mx : Int} {set : List (Int × Int)} {name : ByteArray} {lz : Bool} {subs : List Nd} {vs : Value} {a : Option Addr} {cap : Nat}
    (h : NdIs W (.mk k set num name mn mx lz subs) [.int .i64 k, vs, .int .i64 num, .string name, .int .i64 mn, .int .i64 mx, .bool lz, .slice a subs.length cap]) :
    NdIs W (.mk k set num name mn mx lz []) [.int .i64 k, vs, .int .i64 num, .string name, .int .i64 mn, .int .i64 mx, .bool lz, .slice none 0 0] := by
  cases h with
  | mk C hk hset hname hlen hrow hsub => exact .mk (fun _ => []) hk hset hname (by simp) (fun j hj => absurd hj (by simp)) (fun j hj => absurd hj (by simp))
theorem NdIs.noNum {W : World} {k num mn mx : Int} {set : List (Int × Int)} {name : ByteArray} {lz : Bool} {subs : List Nd} {vs : Value} {a : Option Addr} {cap : Nat}
    (h : NdIs W (.mk k set num name mn mx lz subs) [.int .i64 k, vs, .int .i64 num, .string name, .int .i64 mn, .int .i64 mx, .bool lz, .slice a subs.length cap]) :
    NdIs W (.mk k set 0 name mn mx lz subs) [.int .i64 k, vs, .int .i64 0, .string name, .int .i64 mn, .int .i64 mx, .bool lz, .slice a subs.length cap] := by
  cases h with
  | mk C hk hset hname hlen hrow hsub => exact .mk C ⟨hk.1, by unfold I64; omega, hk.2.2⟩ hset hname hlen hrow hsub
theorem NdIs.noName {W : World} {k num mn mx : Int} {set : List (Int × Int)} {name : ByteArray} {lz : Bool} {subs : List Nd} {vs : Value} {a : Option Addr} {cap : Nat}
    (h : NdIs W (.mk k set num name mn mx lz subs) [.int .i64 k, vs, .int .i64 num, .string name, .int .i64 mn, .int .i64 mx, .bool lz, .slice a subs.length cap]) :
    NdIs W (.mk k set num ⟨#[]⟩ mn mx lz subs) [.int .i64 k, vs, .int .i64 num, .string ⟨#[]⟩, .int .i64 mn, .int .i64 mx, .bool lz, .slice a subs.length cap] := by
  cases h with
  | mk C hk hset hname hlen hrow hsub => exact .mk C hk hset (Nat.zero_le _) hlen hrow hsub
theorem NdIs.noRep {W : World} {k num mn mx : Int} {set : List (Int × Int)} {name : ByteArray} {lz : Bool} {subs : List Nd} {vs : Value} {a : Option Addr} {cap : Nat}
    (h : NdIs W (.mk k set num name mn mx lz subs) [.int .i64 k, vs, .int .i64 num, .string name, .int .i64 mn, .int .i64 mx, .bool lz, .slice a subs.length cap]) :
    NdIs W (.mk k set num name 0 0 false subs) [.int .i64 k, vs, .int .i64 num, .string name, .int .i64 0, .int .i64 0, .bool false, .slice a subs.length cap] := by
  cases h with
  | mk C hk hset hname hlen hrow hsub => exact .mk C ⟨hk.1, hk.2.1, by unfold I64; omega, by unfold I64; omega⟩ hset hname hlen hrow hsub
theorem NdIs.zero (W : World) (K : Int) (h : I64 K) : NdIs W (Td.zeroN K) [.int .i64 K, .slice none 0 0, .int .i64 0, .string ⟨#[]⟩, .int .i64 0, .int .i64 0, .bool false, .slice none 0 0] :=
  .mk (fun _ => []) ⟨h, by unfold I64; omega, by unfold I64; omega, by unfold I64; omega⟩ ⟨none, 0, rfl, by simp, by simp, fun j hj => absurd hj (by simp)⟩ (Nat.zero_le _) (by simp) (fun j hj => absurd hj (by simp)) (fun j hj => absurd hj (by simp))
end Go.Proofs.Ythhdlcckboiecaa
