/- Mathematics of the landed fits: what is left of a node, held against an empty one. · The landed ranges: the contracts of inside, Has (with its closure) and Check. · The landed ranges: Check. -/
import Derived.Test.YtecmeeobabadeaaDoorGp14
import Derived.Test.YtecmeeobabadeaaDoorGp23
import Derived.Test.YtecmeeobabadeaaDoorGp4
import Derived.Test.YtecmeeobabadeaaDoorGp1
import Derived.Test.YtecmeeobabadeaaDoorGp3
import Derived.IntWalk
namespace Go.Proofs.YtecmeeobabadeaaDoor
open Go.RowKit
set_option linter.unusedVariables false
namespace Td
def zeroN (K : Int) : Nd := .mk K [] 0 ⟨#[]⟩ 0 0 false []
theorem nil_dec (l : List (Int × Int)) : decide (l = []) = ((l.length : Int) == 0) := by
  cases l with
  | nil => rfl
  | cons a l =>
    rw [decide_eq_false (by simp)]
    symm; rw [beq_eq_false_iff_ne]; simp; omega
theorem same_zero (k : Nat) (K num : Int) (set : List (Int × Int)) (name : ByteArray) (mn mx : Int) (lz : Bool) (subs : List Nd) :
    sameB (k + 1) (.mk K set num name mn mx lz subs) (zeroN K) = ((num == 0) && (name.toList.isEmpty && ((mn == 0) && ((mx == 0) && (!lz && (((set.length : Int) == 0) && ((subs.length : Int) == 0))))))) := by
  have e : (name.toList == ([] : List UInt8)) = name.toList.isEmpty := by cases name.toList <;> rfl
  rw [sameB, same1]
  show (((K == K) && ((num == 0) && ((name.toList == (⟨#[]⟩ : ByteArray).toList) && ((mn == 0) && ((mx == 0) && ((lz == false) && (decide (set = []) && ((subs.length : Int) == 0)))))))) && _) = _
  rw [show (⟨#[]⟩ : ByteArray).toList = [] from by simp [ByteArray.toList_eq], e, nil_dec, show ((Td.subs (.mk K set num name mn mx lz subs)).zip (Td.subs (zeroN K))) = [] from by simp [Td.subs, zeroN], List.all_nil]
  cases lz <;> simp
/-- What is told of a node by its kind's own test, and by what is left of it. -/
def leftB (n : Nd) : Bool :=
  if kind n = 1 ∨ kind n = 2 ∨ kind n = 4 then sameB 1000 n (zeroN (kind n))
  else if kind n = 3 then sameB 1000 (.mk (kind n) [] (num n) (name n) (mn n) (mx n) (lazy n) (subs n)) (zeroN (kind n))
  else if kind n = 5 then sameB 1000 (.mk (kind n) (set n) 0 (name n) (mn n) (mx n) (lazy n) (subs n)) (zeroN (kind n))
  else if kind n = 6 then sameB 1000 (.mk (kind n) (set n) 0 ⟨#[]⟩ (mn n) (mx n) (lazy n) []) (zeroN (kind n))
  else if kind n = 7 ∨ kind n = 8 then sameB 1000 (.mk (kind n) (set n) (num n) (name n) (mn n) (mx n) (lazy n) []) (zeroN (kind n))
  else sameB 1000 (.mk (kind n) (set n) (num n) (name n) 0 0 false []) (zeroN (kind n))
def testB (K num mn mx L : Int) (S M C NB : Bool) : Bool :=
  if K = 1 ∨ K = 2 ∨ K = 4 then true
  else if K = 3 then !S && C
  else if K = 5 then decide (1 ≤ num) && decide (num ≤ 6)
  else if K = 6 then decide (1 ≤ num) && ((M || NB) && (L == 1))
  else if K = 7 ∨ K = 8 then decide (2 ≤ L)
  else if K = 9 then decide (0 ≤ mn ∧ mn ≤ 1000) && ((mx == -1 || (decide (0 ≤ mx ∧ mx ≤ 1000) && decide (mn ≤ mx))) && (L == 1))
  else false
def testN (n : Nd) : Bool := testB (kind n) (num n) (mn n) (mx n) (subs n).length (((set n).length : Int) == 0) (name n).toList.isEmpty (Rg.checkF none (set n) == 0) (nameB (name n))
theorem fits_eq (n : Nd) : fitsB n = (testN n && leftB n) := by
  cases n with
  | mk K set num name mn mx lz subs =>
    have e0 : (⟨#[]⟩ : ByteArray).toList.isEmpty = true := by simp [ByteArray.toList_eq]
    have z0 : ((0 : Int) == 0) = true := rfl
    have zl : (((([] : List (Int × Int)).length : Nat) : Int) == 0) = true := rfl
    have zs : (((([] : List Nd).length : Nat) : Int) == 0) = true := rfl
    unfold fitsB fitsV testN testB leftB
    show (if K = 1 ∨ K = 2 ∨ K = 4 then _ else _) = _
    simp only [show Td.kind (.mk K set num name mn mx lz subs) = K from rfl, show Td.set (.mk K set num name mn mx lz subs) = set from rfl, show Td.num (.mk K set num name mn mx lz subs) = num from rfl, show Td.name (.mk K set num name mn mx lz subs) = name from rfl, show Td.mn (.mk K set num name mn mx lz subs) = mn from rfl, show Td.mx (.mk K set num name mn mx lz subs) = mx from rfl, show Td.lazy (.mk K set num name mn mx lz subs) = lz from rfl, show Td.subs (.mk K set num name mn mx lz subs) = subs from rfl, same_zero]
    simp only [e0, z0, zl, zs, Bool.true_and, Bool.and_true, Bool.not_false]
    generalize name.toList.isEmpty = M
    generalize (Rg.checkF none set == 0) = C
    generalize nameB name = NB
    generalize ((set.length : Int) == 0) = S
    obtain ⟨L, hL⟩ : ∃ L : Int, (subs.length : Int) = L := ⟨_, rfl⟩
    rw [hL]
    generalize (num == 0) = U
    by_cases k1 : K = 1 ∨ K = 2 ∨ K = 4
    · rw [if_pos k1, if_pos k1, if_pos k1]
      cases S <;> cases U <;> cases M <;> cases (mn == 0) <;> cases (mx == 0) <;> cases lz <;> simp
    rw [if_neg k1, if_neg k1, if_neg k1]
    by_cases k3 : K = 3
    · rw [if_pos k3, if_pos k3, if_pos k3]
      cases S <;> cases U <;> cases M <;> cases (mn == 0) <;> cases (mx == 0) <;> cases lz <;> cases C <;> simp
    rw [if_neg k3, if_neg k3, if_neg k3]
    by_cases k5 : K = 5
    · rw [if_pos k5, if_pos k5, if_pos k5]
      cases S <;> cases M <;> cases (mn == 0) <;> cases (mx == 0) <;> cases lz <;> cases decide (1 ≤ num) <;> cases decide (num ≤ 6) <;> simp
    rw [if_neg k5, if_neg k5, if_neg k5]
    by_cases k6 : K = 6
    · rw [if_pos k6, if_pos k6, if_pos k6]
      cases S <;> cases M <;> cases (mn == 0) <;> cases (mx == 0) <;> cases lz <;> cases decide (1 ≤ num) <;> cases NB <;> cases (L == 1) <;> simp
    rw [if_neg k6, if_neg k6, if_neg k6]
    by_cases k7 : K = 7 ∨ K = 8
    · rw [if_pos k7, if_pos k7, if_pos k7]
      cases S <;> cases U <;> cases M <;> cases (mn == 0) <;> cases (mx == 0) <;> cases lz <;> cases decide (2 ≤ L) <;> simp
    rw [if_neg k7, if_neg k7, if_neg k7]
    by_cases k9 : K = 9
    · rw [if_pos k9, if_pos k9]
      have d1 : decide (0 ≤ mn ∧ mn ≤ 1000) = (decide (0 ≤ mn) && decide (mn ≤ 1000)) := by simp
      have d2 : (decide (0 ≤ mn) && (decide (0 ≤ mx ∧ mx ≤ 1000) && decide (mn ≤ mx))) = (decide (0 ≤ mn) && (decide (mn ≤ mx) && decide (mx ≤ 1000))) := by
        by_cases a : 0 ≤ mn
        · by_cases b : mn ≤ mx
          · have : 0 ≤ mx := by omega
            simp [a, b, this]
          · simp [b]
        · simp [a]
      rw [d1]
      cases S <;> cases U <;> cases M <;> cases (L == 1) <;> simp at d2 ⊢
      all_goals (by_cases a : 0 ≤ mn <;> by_cases b : mn ≤ mx <;> by_cases c : mx ≤ 1000 <;> by_cases d : mx = -1 <;> simp [a, b, c, d] <;> omega)
    rw [if_neg k9, if_neg k9]
    rfl
theorem told1 {n : Nd} (h : kind n = 1 ∨ kind n = 2 ∨ kind n = 4) : fitsB n = sameB 1000 n (zeroN (kind n)) := by
  rw [fits_eq, testN, testB, leftB, if_pos h, if_pos h]; rfl
theorem told3 {n : Nd} (h : kind n = 3) : fitsB n = ((!(((set n).length : Int) == 0) && (Rg.checkF none (set n) == 0)) && sameB 1000 (.mk 3 [] (num n) (name n) (mn n) (mx n) (lazy n) (subs n)) (zeroN 3)) := by
  rw [fits_eq, testN, testB, leftB, h]; rfl
theorem told5 {n : Nd} (h : kind n = 5) : fitsB n = ((decide (1 ≤ num n) && decide (num n ≤ 6)) && sameB 1000 (.mk 5 (set n) 0 (name n) (mn n) (mx n) (lazy n) (subs n)) (zeroN 5)) := by
  rw [fits_eq, testN, testB, leftB, h]; rfl
theorem told6 {n : Nd} (h : kind n = 6) : fitsB n = ((decide (1 ≤ num n) && (((name n).toList.isEmpty || nameB (name n)) && (((subs n).length : Int) == 1))) && sameB 1000 (.mk 6 (set n) 0 ⟨#[]⟩ (mn n) (mx n) (lazy n) []) (zeroN 6)) := by
  rw [fits_eq, testN, testB, leftB, h]; rfl
theorem told7 {n : Nd} (h : kind n = 7 ∨ kind n = 8) : fitsB n = (decide (2 ≤ ((subs n).length : Int)) && sameB 1000 (.mk (kind n) (set n) (num n) (name n) (mn n) (mx n) (lazy n) []) (zeroN (kind n))) := by
  rcases h with h | h
  · rw [fits_eq, testN, testB, leftB, h]; rfl
  · rw [fits_eq, testN, testB, leftB, h]; rfl
theorem told9 {n : Nd} (h : kind n = 9) : fitsB n = ((decide (0 ≤ mn n ∧ mn n ≤ 1000) && ((mx n == -1 || (decide (0 ≤ mx n ∧ mx n ≤ 1000) && decide (mn n ≤ mx n))) && (((subs n).length : Int) == 1))) && sameB 1000 (.mk 9 (set n) (num n) (name n) 0 0 false []) (zeroN 9)) := by
  rw [fits_eq, testN, testB, leftB, h]; rfl
theorem told0 {n : Nd} (h : ¬ (kind n = 1 ∨ kind n = 2 ∨ kind n = 4)) (h3 : ¬ kind n = 3) (h5 : ¬ kind n = 5) (h6 : ¬ kind n = 6) (h7 : ¬ (kind n = 7 ∨ kind n = 8)) (h9 : ¬ kind n = 9) : fitsB n = false := by
  rw [fits_eq, testN, testB, if_neg h, if_neg h3, if_neg h5, if_neg h6, if_neg h7, if_neg h9]; rfl
end Td
theorem NdIs.noSet {W : World} {k num mn mx : Int} {set : List (Int × Int)} {name : ByteArray} {lz : Bool} {subs : List Nd} {vs : Value} {a : Option Addr} {cap : Nat}
    (h : NdIs W (.mk k set num name mn mx lz subs) [.int .i64 k, vs, .int .i64 num, .string name, .int .i64 mn, .int .i64 mx, .bool lz, .slice a subs.length cap]) :
    NdIs W (.mk k [] num name mn mx lz subs) [.int .i64 k, .slice none 0 0, .int .i64 num, .string name, .int .i64 mn, .int .i64 mx, .bool lz, .slice a subs.length cap] := by
  cases h with
  | mk C hk hset hname hlen hrow hsub => exact .mk C hk ⟨none, 0, rfl, by simp, by simp, fun j hj => absurd hj (by simp)⟩ hname hlen hrow hsub
theorem NdIs.noSubs {W : World} {k num mn mx : Int} {set : List (Int × Int)} {name : ByteArray} {lz : Bool} {subs : List Nd} {vs : Value} {a : Option Addr} {cap : Nat}
    (h : NdIs W (.mk k set num name mn mx lz subs) [.int .i64 k, vs, .int .i64 num, .string name, .int .i64 mn, .int .i64 mx, .bool lz, .slice a subs.length cap]) :
    NdIs W (.mk k set num name mn mx lz []) [.int .i64 k, vs, .int .i64 num, .string name, .int .i64 mn, .int .i64 mx, .bool lz, .slice none 0 0] := by
  cases h with
  | mk C hk hset hname hlen hrow hsub => exact .mk (fun _ => []) hk hset hname (by simp) (fun j hj => absurd hj (by simp)) (fun j hj => absurd hj (by simp))
theorem NdIs.noNum {W : World} {k num mn mx : Int} {set : List (Int × Int)} {name : ByteArray} {lz : Bool} {subs : List Nd} {vs : Value} {a : Option Addr} {cap : Nat}
    (h : NdIs W (.mk k set num name mn mx lz subs) [.int .i64 k, vs, .int .i64 num, .string name, .int .i64 mn, .int .i64 mx, .bool lz, .slice a subs.length cap]) :
    NdIs W (.mk k set 0 name mn mx lz subs) [.int .i64 k, vs, .int .i64 0, .string name, .int .i64 mn, .int .i64 mx, .bool lz, .slice a subs.length cap] := by
  cases h with
  | mk C hk hset hname hlen hrow hsub => exact .mk C ⟨hk.1, by unfold I64; omega, hk.2.2⟩ hset hname hlen hrow hsub
theorem NdIs.noName {W : World} {k num mn mx : Int} {set : List (Int × Int)} {name : ByteArray} {lz : Bool} {subs : List Nd} {vs : Value} {a : Option Addr} {cap : Nat}
    (h : NdIs W (.mk k set num name mn mx lz subs) [.int .i64 k, vs, .int .i64 num, .string name, .int .i64 mn, .int .i64 mx, .bool lz, .slice a subs.length cap]) :
    NdIs W (.mk k set num ⟨#[]⟩ mn mx lz subs) [.int .i64 k, vs, .int .i64 num, .string ⟨#[]⟩, .int .i64 mn, .int .i64 mx, .bool lz, .slice a subs.length cap] := by
  cases h with
  | mk C hk hset hname hlen hrow hsub => exact .mk C hk hset (Nat.zero_le _) hlen hrow hsub
theorem NdIs.noRep {W : World} {k num mn mx : Int} {set : List (Int × Int)} {name : ByteArray} {lz : Bool} {subs : List Nd} {vs : Value} {a : Option Addr} {cap : Nat}
    (h : NdIs W (.mk k set num name mn mx lz subs) [.int .i64 k, vs, .int .i64 num, .string name, .int .i64 mn, .int .i64 mx, .bool lz, .slice a subs.length cap]) :
    NdIs W (.mk k set num name 0 0 false subs) [.int .i64 k, vs, .int .i64 num, .string name, .int .i64 0, .int .i64 0, .bool false, .slice a subs.length cap] := by
  cases h with
  | mk C hk hset hname hlen hrow hsub => exact .mk C ⟨hk.1, hk.2.1, by unfold I64; omega, by unfold I64; omega⟩ hset hname hlen hrow hsub
theorem NdIs.zero (W : World) (K : Int) (h : I64 K) : NdIs W (Td.zeroN K) [.int .i64 K, .slice none 0 0, .int .i64 0, .string ⟨#[]⟩, .int .i64 0, .int .i64 0, .bool false, .slice none 0 0] :=
  .mk (fun _ => []) ⟨h, by unfold I64; omega, by unfold I64; omega, by unfold I64; omega⟩ ⟨none, 0, rfl, by simp, by simp, fun j hj => absurd hj (by simp)⟩ (Nat.zero_le _) (by simp) (fun j hj => absurd hj (by simp)) (fun j hj => absurd hj (by simp))
end Go.Proofs.YtecmeeobabadeaaDoor
namespace Go.Proofs.YtecmeeobabadeaaDoor
open Go.RowKit
set_option linter.unusedVariables false
set_option maxRecDepth 100000 in
set_option maxHeartbeats 1000000 in
theorem inside_yes (r : Int) (w : World) (h0 : 0 ≤ r) (h1 : r ≤ 1114111) : Calls Tryd.prog 44 #[.int .i64 r] w fun e w' => e = .returned (.bool true) ∧ w = w' := by
  go_enter Tryd.func44, Tryd.ntmps44
  go_wp2
  go_ret
  exact ⟨rfl, rfl⟩
set_option maxRecDepth 100000 in
set_option maxHeartbeats 1000000 in
theorem inside_no (r : Int) (w : World) (h : ¬ (0 ≤ r ∧ r ≤ 1114111)) : Calls Tryd.prog 44 #[.int .i64 r] w fun e w' => e = .returned (.bool false) ∧ w = w' := by
  by_cases h0 : 0 ≤ r
  · have h1 : 1114111 < r := by omega
    clear h
    go_enter Tryd.func44, Tryd.ntmps44
    go_wp2
    go_ret
    exact ⟨rg_ret_bool (by simp; omega), rfl⟩
  · have h1 : r < 0 := by omega
    clear h
    go_enter Tryd.func44, Tryd.ntmps44
    go_wp2
    go_ret
    exact ⟨rfl, rfl⟩



















end Go.Proofs.YtecmeeobabadeaaDoor
namespace Go.Proofs.YtecmeeobabadeaaDoor
open Go.RowKit
set_option linter.unusedVariables false
set_option maxRecDepth 100000 in
set_option maxHeartbeats 4000000 in
theorem check_walk (W : World) (a : Option Addr) (n cap : Nat) (l : List (Int × Int)) (hn : l.length = n) (hn2 : n ≤ 8796093022208)
    (hc : ∀ j, j < n → ∃ b off, a = some ⟨b, off, none⟩ ∧ b < W.heap.size ∧ W.cell? ⟨b, off + j * 2, none⟩ = some (.int .i64 (l[j]?.getD (0, 0)).1) ∧ W.cell? ⟨b, off + j * 2 + 1, none⟩ = some (.int .i64 (l[j]?.getD (0, 0)).2)) :
    Calls Tryd.prog 28 #[.slice a n cap] W fun e w' => e = .returned (.int .i64 (Rg.checkF none l)) ∧ Below W.heap.size W w' := by
  have HN := Lib.hid hn
  have HC := Lib.hid hc
  clear hn hc
  go_enter Tryd.func28, Tryd.ntmps28
  go_wp2
  go_loopw [2, 7] (fun R i wr => ∃ k : Nat, k ≤ n ∧ i = .int .i64 k ∧ Hid (Rg.checkF none l = Rg.checkF (Rg.prevAt l k) (l.drop k)) ∧ Hid (∀ j, j < k → 0 ≤ (l[j]?.getD (0, 0)).2 ∧ (l[j]?.getD (0, 0)).2 ≤ 1114111) ∧ Hid (Below W.heap.size W wr)) (fun _ i _ => n - (intOf i).toNat)
  case atStart => exact ⟨0, Nat.zero_le _, rfl, Lib.hid rfl, Lib.hid (fun j hj => absurd hj (Nat.not_lt_zero _)), Lib.hid (Below.refl _ _)⟩
  case round =>
    obtain ⟨k, hk, rfl, HF, HP, HB⟩ := hrel
    by_cases hlt : k < n
    · have HS := Lib.hid (Rg.checkF_step l k (by rw [HN.out]; exact hlt))
      obtain ⟨b, off, rfl, hb, hc1, hc2⟩ := HC.out k hlt
      rw [← HB.out.cell (p := ⟨b, off + k * 2, none⟩) hb] at hc1
      rw [← HB.out.cell (p := ⟨b, off + k * 2 + 1, none⟩) hb] at hc2
      obtain ⟨p, hp⟩ : ∃ p, l[k]?.getD (0, 0) = p := ⟨_, rfl⟩
      have HP2 : Hid (0 ≤ p.2 ∧ p.2 ≤ 1114111 → ∀ j, j < k + 1 → 0 ≤ (l[j]?.getD (0, 0)).2 ∧ (l[j]?.getD (0, 0)).2 ≤ 1114111) := Lib.hid (fun h j hj => by
        by_cases e : j = k
        · rw [e, hp]; exact h
        · exact HP.out j (by omega))
      rw [hp] at hc1 hc2
      rw [hp] at HS
      have hsz := HB.out.size
      clear hp
      obtain ⟨p1, p2⟩ := p
      dsimp only at hc1 hc2
      have HB1 := Lib.hid (HB.out.alloc hsz (.cells #[.int .i64 p1, .int .i64 p2] 40))
      by_cases a1 : p1 < 0 ∨ p2 < 0 ∨ p1 > 1114111 ∨ p2 > 1114111
      · have HE : Hid (Rg.checkF none l = 1) := Lib.hid (by rw [HF.out, HS.out, show Rg.check1 (Rg.prevAt l k) (p1, p2) = 1 from if_pos a1, if_neg (by decide)])
        have HA := Lib.hid a1
        clear a1
        by_cases i1 : 0 ≤ p1 ∧ p1 ≤ 1114111
        · have i2 : ¬ (0 ≤ p2 ∧ p2 ≤ 1114111) := by have := HA.out; omega
          have HI := Lib.hid i2
          obtain ⟨q1, q2⟩ := i1
          clear i2
          go_wp2_with fail
          refine (inside_yes p1 _ q1 q2).mono ?_
          rintro e w1 ⟨rfl, rfl⟩
          go_wp2_with fail
          refine (inside_no p2 _ HI.out).mono ?_
          rintro e w1 ⟨rfl, rfl⟩
          go_wp2
          go_ret
          exact ⟨by rw [HE.out]; rfl, HB1.out⟩
        · have HI := Lib.hid i1
          clear i1
          go_wp2_with fail
          refine (inside_no p1 _ HI.out).mono ?_
          rintro e w1 ⟨rfl, rfl⟩
          go_wp2
          go_ret
          exact ⟨by rw [HE.out]; rfl, HB1.out⟩
      · obtain ⟨q1, q2, q3, q4⟩ : 0 ≤ p1 ∧ 0 ≤ p2 ∧ p1 ≤ 1114111 ∧ p2 ≤ 1114111 := by omega
        have HP3 := Lib.hid (HP2.out ⟨q2, q4⟩)
        by_cases a2 : p1 > p2
        · have HE : Hid (Rg.checkF none l = 4) := Lib.hid (by rw [HF.out, HS.out, show Rg.check1 (Rg.prevAt l k) (p1, p2) = 4 from (if_neg a1).trans (if_pos (.inl a2)), if_neg (by decide)])
          clear a1
          go_wp2_with fail
          refine (inside_yes p1 _ q1 q3).mono ?_
          rintro e w1 ⟨rfl, rfl⟩
          go_wp2_with fail
          refine (inside_yes p2 _ q2 q4).mono ?_
          rintro e w1 ⟨rfl, rfl⟩
          go_wp2
          go_quiet (fail)
          go_wp2
          go_ret
          exact ⟨by rw [HE.out]; rfl, below_drewNr HB1.out _⟩
        · by_cases hkp : 0 < k; rotate_left
          · have hz : Rg.check1 (Rg.prevAt l k) (p1, p2) = 0 := (if_neg a1).trans (if_neg (by rintro (h | ⟨h, h1, h2⟩); exact a2 h; exact absurd h1 (by simp [Rg.prevAt, show k = 0 by omega])))
            have HE : Hid (Rg.checkF none l = Rg.checkF (Rg.prevAt l (k + 1)) (l.drop (k + 1))) := Lib.hid (by rw [HF.out, HS.out, hz, if_pos rfl])
            clear a1 hz
            go_wp2_with fail
            refine (inside_yes p1 _ q1 q3).mono ?_
            rintro e w1 ⟨rfl, rfl⟩
            go_wp2_with fail
            refine (inside_yes p2 _ q2 q4).mono ?_
            rintro e w1 ⟨rfl, rfl⟩
            go_wp2
            have a2' : ¬ p2 < p1 := by omega
            have hkz : ¬ (0 : Int) < (k : Int) := by omega
            go_quiet (fail)
            go_wp2
            go_roundw
            case rel => exact ⟨k + 1, by omega, by go_num, HE, HP3, Lib.hid (below_drewNr HB1.out _)⟩
            case measure => simp [intOf]; omega
          · obtain ⟨j, rfl⟩ : ∃ j, k = j + 1 := ⟨k - 1, by omega⟩
            obtain ⟨b', off', hbb, hb', _, hc4⟩ := HC.out j (by omega)
            injection hbb with hbb; injection hbb with hb1 hb2; subst hb1; subst hb2
            rw [← HB.out.cell (p := ⟨b, off + j * 2 + 1, none⟩) hb] at hc4
            obtain ⟨g1, g2⟩ := HP.out j (by omega)
            obtain ⟨h, hh⟩ : ∃ h, (l[j]?.getD (0, 0)).2 = h := ⟨_, rfl⟩
            have hprev : Rg.prevAt l (j + 1) = some h := by simp only [Rg.prevAt, Nat.add_one_ne_zero, if_false, Nat.add_sub_cancel]; rw [hh]
            rw [hh] at hc4 g1 g2
            rw [hprev] at HS
            clear hh
            by_cases a3 : p1 ≤ h + 1
            · have HE : Hid (Rg.checkF none l = 4) := Lib.hid (by rw [HF.out, hprev, HS.out, show Rg.check1 (some h) (p1, p2) = 4 from (if_neg a1).trans (if_pos (.inr ⟨h, rfl, by show p1 - 1 ≤ h; omega⟩)), if_neg (by decide)])
              clear a1 hprev
              go_wp2_with fail
              refine (inside_yes p1 _ q1 q3).mono ?_
              rintro e w1 ⟨rfl, rfl⟩
              go_wp2_with fail
              refine (inside_yes p2 _ q2 q4).mono ?_
              rintro e w1 ⟨rfl, rfl⟩
              go_wp2
              have a2' : ¬ p2 < p1 := by omega
              have hkz : (0 : Int) < ((j + 1 : Nat) : Int) := by omega
              have hbw : b < wr.heap.size := by omega
              have hj0 : (0 : Int) ≤ (j : Int) := by omega
              have hjn : (j : Int) < (n : Int) := by omega
              have hjN : j < n := by omega
              have hwj : IntKind.i64.wrap (j : Int) = (j : Int) := IntWalk.i64_in _ (by omega)
              have hwh : IntKind.i64.wrap (h + 1) = h + 1 := IntWalk.i64_in _ (by omega)
              go_quiet (fail)
              clear hwj hwh
              go_wp2
              go_ret
              exact ⟨by rw [HE.out]; rfl, below_drewNr HB1.out _⟩
            · have hz : Rg.check1 (some h) (p1, p2) = 0 := (if_neg a1).trans (if_neg (by rintro (h | ⟨h, h1, h2⟩); exact a2 h; injection h1 with h1; subst h1; exact a3 (by simp only at h2; omega)))
              have HE : Hid (Rg.checkF none l = Rg.checkF (Rg.prevAt l (j + 1 + 1)) (l.drop (j + 1 + 1))) := Lib.hid (by rw [HF.out, hprev, HS.out, hz, if_pos rfl])
              clear a1 hz hprev
              go_wp2_with fail
              refine (inside_yes p1 _ q1 q3).mono ?_
              rintro e w1 ⟨rfl, rfl⟩
              go_wp2_with fail
              refine (inside_yes p2 _ q2 q4).mono ?_
              rintro e w1 ⟨rfl, rfl⟩
              go_wp2
              have a2' : ¬ p2 < p1 := by omega
              have hkz : (0 : Int) < ((j + 1 : Nat) : Int) := by omega
              have a3' : ¬ p1 ≤ h + 1 := by omega
              have hbw : b < wr.heap.size := by omega
              have hj0 : (0 : Int) ≤ (j : Int) := by omega
              have hjn : (j : Int) < (n : Int) := by omega
              have hjN : j < n := by omega
              have hwj : IntKind.i64.wrap (j : Int) = (j : Int) := IntWalk.i64_in _ (by omega)
              have hwh : IntKind.i64.wrap (h + 1) = h + 1 := IntWalk.i64_in _ (by omega)
              go_quiet (fail)
              clear hwj hwh
              go_wp2
              go_roundw
              case rel => exact ⟨j + 1 + 1, by omega, by go_num, HE, HP3, Lib.hid (below_drewNr HB1.out _)⟩
              case measure => simp [intOf]; omega
    · obtain rfl : k = n := by omega
      have HE : Hid (Rg.checkF none l = 0) := Lib.hid (by rw [HF.out, List.drop_eq_nil_of_le (by rw [HN.out]; exact Nat.le_refl _)]; rfl)
      go_wp2
      go_ret
      exact ⟨by rw [HE.out]; rfl, HB.out⟩
theorem check_any (W : World) (v : Value) (l : List (Int × Int)) (h : RRow W v l) :
    Calls Tryd.prog 28 #[v] W fun e w' => e = .returned (.int .i64 (Rg.checkF none l)) ∧ Below W.heap.size W w' := by
  obtain ⟨a, cap, rfl, hl, hw, hc⟩ := h
  exact check_walk W a _ cap l rfl hl hc
end Go.Proofs.YtecmeeobabadeaaDoor
