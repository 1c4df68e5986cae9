/- burinlaw12.EdgeNear. -/
import Derived.Test.YtanffablfgnioaaDoorGp3
import Derived.ProofKit
namespace Go.Proofs.YtanffablfgnioaaDoor
open Go.RowKit
set_option linter.unusedVariables false
namespace Eg
theorem at_mid (P Q : List Int) (x y : Int) : atL (P ++ x :: y :: Q) ((P.length : Int) + 1) = betN x y := by
  have hl : (P ++ x :: y :: Q).length = P.length + 2 + Q.length := by simp; omega
  unfold atL
  rw [if_neg (by rw [hl]; omega)]
  have e1 : byteL (P ++ x :: y :: Q) ((P.length : Int) + 1 - 1) = x := by
    unfold byteL
    rw [if_neg (by rw [hl]; omega), show ((P.length : Int) + 1 - 1).toNat = P.length by omega, List.getElem?_append_right (Nat.le_refl _), Nat.sub_self]; rfl
  have e2 : byteL (P ++ x :: y :: Q) ((P.length : Int) + 1) = y := by
    unfold byteL
    rw [if_neg (by rw [hl]; omega), show ((P.length : Int) + 1).toNat = P.length + 1 by omega, List.getElem?_append_right (by omega), show P.length + 1 - P.length = 1 by omega]; rfl
  rw [e1, e2]
theorem last_of {a : ByteArray} (m : Nat) (h : a.size = m + 1) : Utf.nums a = (Utf.nums a).take m ++ [(a[m].toNat : Int)] := by
  have hl := Utf.nums_length a
  have h1 := Utf.nums_at a m (by omega)
  rw [List.getElem?_eq_getElem (by omega), Option.getD_some] at h1
  rw [← h1]
  conv => lhs; rw [← List.take_append_drop m (Utf.nums a)]
  rw [List.drop_eq_getElem_cons (by omega), List.drop_eq_nil_of_le (by omega)]
theorem first_of {b : ByteArray} (h : 0 < b.size) : Utf.nums b = (b[0].toNat : Int) :: (Utf.nums b).drop 1 := by
  have hl := Utf.nums_length b
  have h1 := Utf.nums_at b 0 h
  rw [List.getElem?_eq_getElem (by omega), Option.getD_some] at h1
  rw [← h1]
  conv => lhs; rw [← List.drop_zero (l := Utf.nums b)]
  rw [List.drop_eq_getElem_cons (by omega)]
theorem near1 {a b c : ByteArray} (m : Nat) (h : a.size = m + 1) (hb : 0 < b.size) : atL (Utf.nums (c ++ a ++ b ++ c)) ((c.size : Int) + (a.size : Int)) = betN (a[m].toNat) (b[0].toNat) := by
  have hl := Utf.nums_length a
  have e : Utf.nums (c ++ a ++ b ++ c) = (Utf.nums c ++ (Utf.nums a).take m) ++ (a[m].toNat : Int) :: (b[0].toNat : Int) :: ((Utf.nums b).drop 1 ++ Utf.nums c) := by
    rw [nums_append, nums_append, nums_append]
    conv => lhs; rw [last_of m h, first_of hb]
    simp
  have hP : (Utf.nums c ++ (Utf.nums a).take m).length = c.size + m := by rw [List.length_append, Utf.nums_length, List.length_take, hl]; omega
  have := at_mid (Utf.nums c ++ (Utf.nums a).take m) ((Utf.nums b).drop 1 ++ Utf.nums c) (a[m].toNat) (b[0].toNat)
  rw [← e, hP] at this
  rw [← this]
  congr 1
  omega
theorem near2 {a b : ByteArray} (m : Nat) (h : a.size = m + 1) (hb : 0 < b.size) : atL (Utf.nums (a ++ b)) (a.size : Int) = betN (a[m].toNat) (b[0].toNat) := by
  have hl := Utf.nums_length a
  have e : Utf.nums (a ++ b) = (Utf.nums a).take m ++ (a[m].toNat : Int) :: (b[0].toNat : Int) :: (Utf.nums b).drop 1 := by
    rw [nums_append]
    conv => lhs; rw [last_of m h, first_of hb]
    simp
  have hP : ((Utf.nums a).take m).length = m := by rw [List.length_take, hl]; omega
  have := at_mid ((Utf.nums a).take m) ((Utf.nums b).drop 1) (a[m].toNat) (b[0].toNat)
  rw [← e, hP] at this
  rw [← this]
  congr 1
  omega
theorem near3 {a b : ByteArray} (m : Nat) (h : a.size = m + 1) (hb : 0 < b.size) : atL (Utf.nums (a.extract m a.size ++ b.extract 0 1)) 1 = betN (a[m].toNat) (b[0].toNat) := by
  have hl := Utf.nums_length a
  have e : Utf.nums (a.extract m a.size ++ b.extract 0 1) = [] ++ (a[m].toNat : Int) :: (b[0].toNat : Int) :: [] := by
    rw [nums_append, Utf.nums_extract, Utf.nums_extract]
    have h1 : ((Utf.nums a).drop m).take (a.size - m) = [(a[m].toNat : Int)] := by
      conv => lhs; rw [last_of m h]
      rw [List.drop_append, List.drop_eq_nil_of_le (by rw [List.length_take]; omega), List.length_take, hl, show m - min m a.size = 0 by omega, show a.size - m = 1 by omega]; rfl
    have h2 : ((Utf.nums b).drop 0).take (1 - 0) = [(b[0].toNat : Int)] := by
      conv => lhs; rw [first_of hb]
      rfl
    rw [h1, h2]; rfl
  have := at_mid [] [] (a[m].toNat) (b[0].toNat)
  rw [← e] at this
  exact this
end Eg
set_option maxRecDepth 100000 in
set_option maxHeartbeats 4000000 in
theorem near_walk (W : World) (a b c : ByteArray) (ha : 0 < a.size) (hb : 0 < b.size) (ha3 : a.size ≤ 300) (hb3 : b.size ≤ 300) (hc3 : c.size ≤ 300) (h : EvE W) :
    Calls Tryd.prog 6 #[.string a, .string b, .string c] W fun e w' => e = .returned (.bool true) ∧ Below W.heap.size W w' := by
  have HE := Lib.hid h
  have na : a.toList.isEmpty = false ∧ ¬ a.toList = [] := toList_ne ha
  have nb : b.toList.isEmpty = false ∧ ¬ b.toList = [] := toList_ne hb
  obtain ⟨na1, na2⟩ := na
  obtain ⟨nb1, nb2⟩ := nb
  have a3 : ¬ (300 : Int) < (a.size : Int) := by omega
  have b3 : ¬ (300 : Int) < (b.size : Int) := by omega
  have c3 : ¬ (300 : Int) < (c.size : Int) := by omega
  obtain ⟨m, hm⟩ : ∃ m, a.size = m + 1 := ⟨a.size - 1, by omega⟩
  have N1 := Eg.near1 (c := c) m hm hb
  have N2 := Eg.near2 (b := b) m hm hb
  have N3 := Eg.near3 (b := b) m hm hb
  have hma : m < a.size := by omega
  have m0 : (0 : Int) ≤ (m : Int) := by omega
  have m1 : (m : Int) < (a.size : Int) := by omega
  have m2 : (m : Int) ≤ (a.size : Int) := by omega
  have m3 : (m : Int).toNat = m := by omega
  have b1 : (1 : Int) ≤ (b.size : Int) := by omega
  have b0 : (0 : Int) < (b.size : Int) := by omega
  have wm : IntKind.i64.wrap ((a.size : Int) - 1) = (m : Int) := by rw [IntKind.wrap_i64]; omega
  have wc : IntKind.i64.wrap ((c.size : Int) + (a.size : Int)) = (c.size : Int) + (a.size : Int) := by rw [IntKind.wrap_i64]; omega
  have s1 : ¬ 9223372036854775807 < c.size + a.size := by omega
  have s2 : ¬ 9223372036854775807 < c.size + a.size + b.size := by omega
  have s3 : ¬ 9223372036854775807 < c.size + a.size + b.size + c.size := by omega
  have s4 : ¬ 9223372036854775807 < a.size + b.size := by omega
  have S1 : Hid ((c ++ a ++ b ++ c).size ≤ 140737488351232) := Lib.hid (by simp only [ByteArray.size_append]; omega)
  have S2 : Hid ((a ++ b).size ≤ 140737488351232) := Lib.hid (by simp only [ByteArray.size_append]; omega)
  have S3 : Hid ((a.extract m a.size ++ b.extract 0 1).size ≤ 140737488351232) := Lib.hid (by simp only [ByteArray.size_append, ByteArray.size_extract]; omega)
  have g1 : (Eg.atL (Utf.nums (c ++ a ++ b ++ c)) ((c.size : Int) + (a.size : Int)) == Eg.betN (a[m].toNat : Int) (b[0].toNat : Int)) = true := by rw [N1]; exact beq_self_eq_true _
  have g2 : (Eg.atL (Utf.nums (a ++ b)) (a.size : Int) == Eg.atL (Utf.nums (a.extract m a.size ++ b.extract 0 1)) 1) = true := by rw [N2, N3]; exact beq_self_eq_true _
  clear N1 N2 N3 hm
  have hx9 : a[m].toNat < 256 := UInt8.toNat_lt _
  have hy9 : b[0].toNat < 256 := UInt8.toNat_lt _
  have mixed : Tryd.prog.follows .mixedOrders = true := by kernel_rfl
  clear h
  go_enter Tryd.func6, Tryd.ntmps6
  go_wp2_with fail
  refine (works12_any W HE.out).mono ?_
  rintro e w1 ⟨rfl, n1, rfl⟩
  have B1 : Hid (Below W.heap.size W (W.drewN n1)) := Lib.hid (below_drewE (Below.refl _ _) n1)
  have E1 := HE.out.drew n1
  obtain ⟨W1, hW1⟩ : ∃ W1, W.drewN n1 = W1 := ⟨_, rfl⟩
  rw [hW1] at B1 E1 ⊢
  clear hW1
  have HA := Lib.hid (fun (S : ByteArray) (hS : Hid (S.size ≤ 140737488351232)) (i : Int) (n : Nat) => atE_any S hS.out i (W1.drewN n) (E1.drew n))
  have HBT := Lib.hid (fun (x y : Int) (n : Nat) => between_edge x y (W1.drewN n) (E1.drew n))
  clear E1
  go_wp2
  go_quiet (first | (go_at_call 11; exact Calls.quiet_of (HA.out _ (by assumption) _ _)) | (go_at_call 7; exact Calls.quiet_of (HBT.out _ _ _)))
  go_wp2
  go_ret
  exact ⟨rfl, below_drewE B1.out _⟩
set_option maxRecDepth 100000 in
set_option maxHeartbeats 4000000 in
theorem walkEdgeNear (W : World) (a b c : ByteArray) (ha : a.size ≤ 140737488351232) (hb : b.size ≤ 140737488351232) (hc : c.size ≤ 140737488351232) (h : EvE W) :
    Calls Tryd.prog 6 #[.string a, .string b, .string c] W fun e w' => e = .returned (.bool true) ∧ Below W.heap.size W w' := by
  by_cases z1 : a.size = 0
  · obtain ⟨t1, t2⟩ := toList_e z1
    have HE := Lib.hid h
    clear h
    go_enter Tryd.func6, Tryd.ntmps6
    go_wp2_with fail
    refine (works12_any W HE.out).mono ?_
    rintro e w1 ⟨rfl, n1, rfl⟩
    go_wp2
    go_ret
    exact ⟨rfl, below_drewE (Below.refl _ _) _⟩
  obtain ⟨na1, na2⟩ := toList_ne (s := a) (by omega)
  by_cases z2 : b.size = 0
  · obtain ⟨t1, t2⟩ := toList_e z2
    have HE := Lib.hid h
    clear h
    go_enter Tryd.func6, Tryd.ntmps6
    go_wp2_with fail
    refine (works12_any W HE.out).mono ?_
    rintro e w1 ⟨rfl, n1, rfl⟩
    go_wp2
    go_ret
    exact ⟨rfl, below_drewE (Below.refl _ _) _⟩
  obtain ⟨nb1, nb2⟩ := toList_ne (s := b) (by omega)
  by_cases z3 : 300 < a.size
  · have z3' : (300 : Int) < (a.size : Int) := by omega
    have HE := Lib.hid h
    clear h
    go_enter Tryd.func6, Tryd.ntmps6
    go_wp2_with fail
    refine (works12_any W HE.out).mono ?_
    rintro e w1 ⟨rfl, n1, rfl⟩
    go_wp2
    go_ret
    exact ⟨rfl, below_drewE (Below.refl _ _) _⟩
  by_cases z4 : 300 < b.size
  · have z3' : ¬ (300 : Int) < (a.size : Int) := by omega
    have z4' : (300 : Int) < (b.size : Int) := by omega
    have HE := Lib.hid h
    clear h
    go_enter Tryd.func6, Tryd.ntmps6
    go_wp2_with fail
    refine (works12_any W HE.out).mono ?_
    rintro e w1 ⟨rfl, n1, rfl⟩
    go_wp2
    go_ret
    exact ⟨rfl, below_drewE (Below.refl _ _) _⟩
  by_cases z5 : 300 < c.size
  · have z3' : ¬ (300 : Int) < (a.size : Int) := by omega
    have z4' : ¬ (300 : Int) < (b.size : Int) := by omega
    have z5' : (300 : Int) < (c.size : Int) := by omega
    have HE := Lib.hid h
    clear h
    go_enter Tryd.func6, Tryd.ntmps6
    go_wp2_with fail
    refine (works12_any W HE.out).mono ?_
    rintro e w1 ⟨rfl, n1, rfl⟩
    go_wp2
    go_ret
    exact ⟨rfl, below_drewE (Below.refl _ _) _⟩
  exact near_walk W a b c (by omega) (by omega) (by omega) (by omega) (by omega) h
end Go.Proofs.YtanffablfgnioaaDoor
