/- The walk of burinlaw01.UtfOrder. -/
import Derived.Test.YtjeebamllahgkaaLaw01A
namespace Go.Proofs.Ytjeebamllahgkaa
open Go.RowKit
set_option linter.unusedVariables false
namespace Utf
def lexI : List Int → List Int → Bool
  | _, [] => false
  | [], _ :: _ => true
  | a :: x, b :: y => decide (a < b) || (decide (a = b) && lexI x y)
theorem lexI_asymm : ∀ (x y : List Int), lexI x y = true → lexI y x = false
  | _, [], h => by simp [lexI] at h
  | [], _ :: _, _ => rfl
  | a :: x, b :: y, h => by
    have ih := lexI_asymm x y
    simp only [lexI, Bool.or_eq_true, Bool.and_eq_true, decide_eq_true_eq] at h
    simp only [lexI, Bool.or_eq_false_iff, Bool.and_eq_false_iff, decide_eq_false_iff_not]
    rcases h with h | ⟨rfl, h⟩
    · exact ⟨by omega, .inl (by omega)⟩
    · exact ⟨by omega, .inr (ih h)⟩
theorem lex_lt (a b : Int) (ha : width a ≠ 0) (hb : width b ≠ 0) (h : a < b) : lexI (encN a) (encN b) = true := by
  rcases width_cases a with p | p | p | p | p <;> rcases width_cases b with q | q | q | q | q <;>
    first
    | exact absurd p.1 ha
    | exact absurd q.1 hb
    | (exfalso; omega)
    | (simp [encN, p.1, q.1, lexI]; omega)
theorem take_ne (a b : Int) (ha : width a ≠ 0) (hb : width b ≠ 0) (h : a ≠ b) (n : Nat) (hn : n = (encN a).length ∨ n = (encN b).length) (h1 : n ≤ (encN a).length) (h2 : n ≤ (encN b).length) : (encN a).take n ≠ (encN b).take n := by
  intro e
  apply h
  rcases hn with hn | hn
  · have e1 : encN b = encN a ++ (encN b).drop n := by rw [hn, List.take_length] at e; rw [hn]; conv => lhs; rw [← List.take_append_drop (encN a).length (encN b)]; rw [← e]
    have d1 := dec_enc a ha ((encN b).drop n)
    have d2 := dec_enc b hb []
    rw [List.append_nil] at d2
    rw [← e1, d2] at d1
    exact (congrArg Prod.fst d1).symm
  · have e1 : encN a = encN b ++ (encN a).drop n := by rw [hn, List.take_length] at e; rw [hn]; conv => lhs; rw [← List.take_append_drop (encN b).length (encN a)]; rw [e]
    have d1 := dec_enc b hb ((encN a).drop n)
    have d2 := dec_enc a ha []
    rw [List.append_nil] at d2
    rw [← e1, d2] at d1
    exact congrArg Prod.fst d1
end Utf
theorem bytesLess_of : ∀ (x y : List Int), Utf.Bytes x → Utf.Bytes y → Op.bytesLess (x.map fun n => UInt8.ofNat n.toNat) (y.map fun n => UInt8.ofNat n.toNat) = Utf.lexI x y
  | _, [], _, _ => by simp [Op.bytesLess, Utf.lexI]
  | [], _ :: _, _, _ => rfl
  | a :: x, b :: y, hx, hy => by
    have ih := bytesLess_of x y (fun z hz => hx z (by simp [hz])) (fun z hz => hy z (by simp [hz]))
    have ha := hx a (by simp)
    have hb := hy b (by simp)
    simp only [List.map_cons, Op.bytesLess, Utf.lexI, ih]
    have e1 : (decide (UInt8.ofNat a.toNat < UInt8.ofNat b.toNat)) = decide (a < b) := by
      rw [decide_eq_decide, UInt8.lt_iff_toNat_lt, UInt8.toNat_ofNat', UInt8.toNat_ofNat']; omega
    have e2 : (UInt8.ofNat a.toNat == UInt8.ofNat b.toNat) = decide (a = b) := by
      rw [Bool.eq_iff_iff, beq_iff_eq, decide_eq_true_eq, ← UInt8.toNat_inj, UInt8.toNat_ofNat', UInt8.toNat_ofNat']; omega
    rw [e1, e2]
theorem toList_strOf (xs : List Int) : (strOfNums xs).toList = xs.map fun n => UInt8.ofNat n.toNat := by
  rw [ByteArray.toList_eq]; unfold strOfNums; simp
set_option maxRecDepth 100000 in
set_option maxHeartbeats 1000000 in
theorem orderNoA (a b : Int) (w : World) (ha : Utf.width a = 0) (hb : Utf.width b = 0) :
    Calls Try.prog 6 #[.int .i64 a, .int .i64 b] w fun e w' => e = .returned (.bool true) ∧ Below w.heap.size w w' := by
  have HA := Lib.hid ha
  have HB := Lib.hid hb
  clear ha hb
  go_enter Try.func6, Try.ntmps6
  go_wp2_with fail
  refine (works_any _).mono ?_
  rintro e wa ⟨rfl, hba⟩
  go_wp2_with fail
  refine (encode_no _ HA.out _).mono ?_
  rintro e wb ⟨rfl, rfl⟩
  go_wp2_with fail
  refine (encode_no _ HB.out _).mono ?_
  rintro e wb ⟨rfl, rfl⟩
  go_wp2
  go_ret
  exact ⟨rfl, hba⟩
set_option maxRecDepth 100000 in
set_option maxHeartbeats 1000000 in
theorem orderNoB (a b : Int) (w : World) (ha : Utf.width a = 0) (hb : Utf.width b ≠ 0) :
    Calls Try.prog 6 #[.int .i64 a, .int .i64 b] w fun e w' => e = .returned (.bool true) ∧ Below w.heap.size w w' := by
  have HA := Lib.hid ha
  have HB := Lib.hid hb
  clear ha hb
  go_enter Try.func6, Try.ntmps6
  go_wp2_with fail
  refine (works_any _).mono ?_
  rintro e wa ⟨rfl, hba⟩
  go_wp2_with fail
  refine (encode_no _ HA.out _).mono ?_
  rintro e wb ⟨rfl, rfl⟩
  go_wp2_with fail
  refine (enc_at HB.out rfl _).mono ?_
  rintro e wb ⟨rfl, hbb⟩
  go_wp2
  go_ret
  exact ⟨rfl, hba.trans (hbb.mono hba.size)⟩
set_option maxRecDepth 100000 in
set_option maxHeartbeats 1000000 in
theorem orderNoC (a b : Int) (w : World) (ha : Utf.width a ≠ 0) (hb : Utf.width b = 0) :
    Calls Try.prog 6 #[.int .i64 a, .int .i64 b] w fun e w' => e = .returned (.bool true) ∧ Below w.heap.size w w' := by
  have HA := Lib.hid ha
  have HB := Lib.hid hb
  clear ha hb
  go_enter Try.func6, Try.ntmps6
  go_wp2_with fail
  refine (works_any _).mono ?_
  rintro e wa ⟨rfl, hba⟩
  go_wp2_with fail
  refine (enc_at HA.out rfl _).mono ?_
  rintro e wb ⟨rfl, hbb⟩
  go_wp2_with fail
  refine (encode_no _ HB.out _).mono ?_
  rintro e wb ⟨rfl, rfl⟩
  go_wp2
  go_ret
  exact ⟨rfl, hba.trans (hbb.mono hba.size)⟩
set_option maxRecDepth 100000 in
set_option maxHeartbeats 1000000 in
theorem orderSame (a : Int) (w : World) (ha : Utf.width a ≠ 0) :
    Calls Try.prog 6 #[.int .i64 a, .int .i64 a] w fun e w' => e = .returned (.bool true) ∧ Below w.heap.size w w' := by
  have HA := Lib.hid ha
  clear ha
  go_enter Try.func6, Try.ntmps6
  go_wp2_with fail
  refine (works_any _).mono ?_
  rintro e wa ⟨rfl, hba⟩
  go_wp2_with fail
  refine (enc_at HA.out rfl _).mono ?_
  rintro e wb ⟨rfl, hbb⟩
  go_wp2_with fail
  refine (enc_at HA.out rfl _).mono ?_
  rintro e wc ⟨rfl, hbc⟩
  go_wp2
  go_ret
  exact ⟨rfl, (hba.trans (hbb.mono hba.size)).trans (hbc.mono (Nat.le_trans hba.size hbb.size))⟩
set_option maxRecDepth 100000 in
set_option maxHeartbeats 1000000 in
theorem orderLtT (a b : Int) (w : World) (S T : ByteArray) (ha : Utf.width a ≠ 0) (hb : Utf.width b ≠ 0) (hS : strOfNums (Utf.encN a) = S) (hT : strOfNums (Utf.encN b) = T) (hne : (a == b) = false)
    (hmn : (T.size : Int) < (S.size : Int)) (hn : 0 < T.size) (hab : a < b) (hlt : Op.bytesLess S.toList T.toList = true) (hcut : ((S.extract 0 T.size).toList == T.toList) = false) :
    Calls Try.prog 6 #[.int .i64 a, .int .i64 b] w fun e w' => e = .returned (.bool true) ∧ Below w.heap.size w w' := by
  have HA := Lib.hid ha
  have HB := Lib.hid hb
  have HS := Lib.hid hS
  have HT := Lib.hid hT
  clear ha hb hS hT
  go_enter Try.func6, Try.ntmps6
  go_wp2_with fail
  refine (works_any _).mono ?_
  rintro e wa ⟨rfl, hba⟩
  go_wp2_with fail
  refine (enc_at HA.out HS.out _).mono ?_
  rintro e wb ⟨rfl, hbb⟩
  go_wp2_with fail
  refine (enc_at HB.out HT.out _).mono ?_
  rintro e wc ⟨rfl, hbc⟩
  go_wp2
  go_quiet (fail)
  go_wp2
  go_ret
  exact ⟨rfl, ((hba.trans (hbb.mono hba.size)).trans (hbc.mono (Nat.le_trans hba.size hbb.size))).trans (below_drewN _ _ _)⟩
set_option maxRecDepth 100000 in
set_option maxHeartbeats 1000000 in
theorem orderLtS (a b : Int) (w : World) (S T : ByteArray) (ha : Utf.width a ≠ 0) (hb : Utf.width b ≠ 0) (hS : strOfNums (Utf.encN a) = S) (hT : strOfNums (Utf.encN b) = T) (hne : (a == b) = false)
    (hmn : ¬ (T.size : Int) < (S.size : Int)) (hmn2 : (S.size : Int) ≤ (T.size : Int)) (hn : 0 < S.size) (hab : a < b) (hlt : Op.bytesLess S.toList T.toList = true) (hcut : (S.toList == (T.extract 0 S.size).toList) = false) :
    Calls Try.prog 6 #[.int .i64 a, .int .i64 b] w fun e w' => e = .returned (.bool true) ∧ Below w.heap.size w w' := by
  have HA := Lib.hid ha
  have HB := Lib.hid hb
  have HS := Lib.hid hS
  have HT := Lib.hid hT
  clear ha hb hS hT
  go_enter Try.func6, Try.ntmps6
  go_wp2_with fail
  refine (works_any _).mono ?_
  rintro e wa ⟨rfl, hba⟩
  go_wp2_with fail
  refine (enc_at HA.out HS.out _).mono ?_
  rintro e wb ⟨rfl, hbb⟩
  go_wp2_with fail
  refine (enc_at HB.out HT.out _).mono ?_
  rintro e wc ⟨rfl, hbc⟩
  go_wp2
  go_quiet (fail)
  go_wp2
  go_ret
  exact ⟨rfl, ((hba.trans (hbb.mono hba.size)).trans (hbc.mono (Nat.le_trans hba.size hbb.size))).trans (below_drewN _ _ _)⟩
set_option maxRecDepth 100000 in
set_option maxHeartbeats 1000000 in
theorem orderGtT (a b : Int) (w : World) (S T : ByteArray) (ha : Utf.width a ≠ 0) (hb : Utf.width b ≠ 0) (hS : strOfNums (Utf.encN a) = S) (hT : strOfNums (Utf.encN b) = T) (hne : (a == b) = false)
    (hmn : (T.size : Int) < (S.size : Int)) (hn : 0 < T.size) (hab : ¬ a < b) (hab2 : decide (a < b) = false) (hlt : Op.bytesLess S.toList T.toList = false) (hcut : ((S.extract 0 T.size).toList == T.toList) = false) :
    Calls Try.prog 6 #[.int .i64 a, .int .i64 b] w fun e w' => e = .returned (.bool true) ∧ Below w.heap.size w w' := by
  have HA := Lib.hid ha
  have HB := Lib.hid hb
  have HS := Lib.hid hS
  have HT := Lib.hid hT
  clear ha hb hS hT
  go_enter Try.func6, Try.ntmps6
  go_wp2_with fail
  refine (works_any _).mono ?_
  rintro e wa ⟨rfl, hba⟩
  go_wp2_with fail
  refine (enc_at HA.out HS.out _).mono ?_
  rintro e wb ⟨rfl, hbb⟩
  go_wp2_with fail
  refine (enc_at HB.out HT.out _).mono ?_
  rintro e wc ⟨rfl, hbc⟩
  go_wp2
  go_quiet (fail)
  go_wp2
  go_ret
  exact ⟨rfl, ((hba.trans (hbb.mono hba.size)).trans (hbc.mono (Nat.le_trans hba.size hbb.size))).trans (below_drewN _ _ _)⟩
set_option maxRecDepth 100000 in
set_option maxHeartbeats 1000000 in
theorem orderGtS (a b : Int) (w : World) (S T : ByteArray) (ha : Utf.width a ≠ 0) (hb : Utf.width b ≠ 0) (hS : strOfNums (Utf.encN a) = S) (hT : strOfNums (Utf.encN b) = T) (hne : (a == b) = false)
    (hmn : ¬ (T.size : Int) < (S.size : Int)) (hmn2 : (S.size : Int) ≤ (T.size : Int)) (hn : 0 < S.size) (hab : ¬ a < b) (hab2 : decide (a < b) = false) (hlt : Op.bytesLess S.toList T.toList = false) (hcut : (S.toList == (T.extract 0 S.size).toList) = false) :
    Calls Try.prog 6 #[.int .i64 a, .int .i64 b] w fun e w' => e = .returned (.bool true) ∧ Below w.heap.size w w' := by
  have HA := Lib.hid ha
  have HB := Lib.hid hb
  have HS := Lib.hid hS
  have HT := Lib.hid hT
  clear ha hb hS hT
  go_enter Try.func6, Try.ntmps6
  go_wp2_with fail
  refine (works_any _).mono ?_
  rintro e wa ⟨rfl, hba⟩
  go_wp2_with fail
  refine (enc_at HA.out HS.out _).mono ?_
  rintro e wb ⟨rfl, hbb⟩
  go_wp2_with fail
  refine (enc_at HB.out HT.out _).mono ?_
  rintro e wc ⟨rfl, hbc⟩
  go_wp2
  go_quiet (fail)
  go_wp2
  go_ret
  exact ⟨rfl, ((hba.trans (hbb.mono hba.size)).trans (hbc.mono (Nat.le_trans hba.size hbb.size))).trans (below_drewN _ _ _)⟩

theorem cut_ne (a b : Int) (ha : Utf.width a ≠ 0) (hb : Utf.width b ≠ 0) (h : a ≠ b) (n : Nat) (hn : n = (Utf.encN a).length ∨ n = (Utf.encN b).length) (h1 : n ≤ (Utf.encN a).length) (h2 : n ≤ (Utf.encN b).length) :
    (strOfNums (Utf.encN a)).extract 0 n ≠ (strOfNums (Utf.encN b)).extract 0 n := by
  intro e
  have := congrArg Utf.nums e
  rw [Utf.nums_extract, Utf.nums_extract, nums_strOf _ (Utf.encN_bytes _), nums_strOf _ (Utf.encN_bytes _), List.drop_zero, List.drop_zero, Nat.sub_zero] at this
  exact Utf.take_ne a b ha hb h n hn h1 h2 this
theorem toList_beq_false {s t : ByteArray} (h : s ≠ t) : (s.toList == t.toList) = false := by
  rw [beq_eq_false_iff_ne]
  intro e
  apply h
  apply ByteArray.ext
  rw [ByteArray.toList_eq, ByteArray.toList_eq] at e
  exact Array.toList_inj.1 e
theorem extract_self (s : ByteArray) : s.extract 0 s.size = s := by
  apply nums_inj
  rw [Utf.nums_extract, List.drop_zero, List.take_of_length_le (by rw [Utf.nums_length]; omega)]
theorem walkUtfOrder (a0 a1 : Int) (w0 : (Lit.int .i64 a0).wf = true) (w1 : (Lit.int .i64 a1).wf = true) (w : World) :
    Calls Try.prog 6 #[.int .i64 a0, .int .i64 a1] w fun e w' => e = .returned (.bool true) ∧ Below w.heap.size w w' := by
  by_cases ha : Utf.width a0 = 0
  · by_cases hb : Utf.width a1 = 0
    · exact orderNoA a0 a1 w ha hb
    · exact orderNoB a0 a1 w ha hb
  · by_cases hb : Utf.width a1 = 0
    · exact orderNoC a0 a1 w ha hb
    · by_cases e : a0 = a1
      · subst e
        exact orderSame a0 w ha
      · have la := Utf.encN_length a0
        have lb := Utf.encN_length a1
        have wa := Utf.width_le a0
        have wb := Utf.width_le a1
        have sa := size_strOf (Utf.encN a0)
        have sb := size_strOf (Utf.encN a1)
        have hne : (a0 == a1) = false := beq_eq_false_iff_ne.2 e
        have hl : Op.bytesLess (strOfNums (Utf.encN a0)).toList (strOfNums (Utf.encN a1)).toList = Utf.lexI (Utf.encN a0) (Utf.encN a1) := by
          rw [toList_strOf, toList_strOf]; exact bytesLess_of _ _ (Utf.encN_bytes _) (Utf.encN_bytes _)
        by_cases hs : (strOfNums (Utf.encN a1)).size < (strOfNums (Utf.encN a0)).size
        · have hc := toList_beq_false (cut_ne a0 a1 ha hb e (strOfNums (Utf.encN a1)).size (.inr sb) (by omega) (by omega))
          rw [extract_self] at hc
          by_cases hab : a0 < a1
          · exact orderLtT a0 a1 w _ _ ha hb rfl rfl hne (by omega) (by omega) hab (by rw [hl]; exact Utf.lex_lt _ _ ha hb hab) hc
          · exact orderGtT a0 a1 w _ _ ha hb rfl rfl hne (by omega) (by omega) hab (by simp [hab]) (by rw [hl]; exact Utf.lexI_asymm _ _ (Utf.lex_lt _ _ hb ha (by omega))) hc
        · have hc := toList_beq_false (cut_ne a0 a1 ha hb e (strOfNums (Utf.encN a0)).size (.inl sa) (by omega) (by omega))
          rw [extract_self] at hc
          by_cases hab : a0 < a1
          · exact orderLtS a0 a1 w _ _ ha hb rfl rfl hne (by omega) (by omega) (by omega) hab (by rw [hl]; exact Utf.lex_lt _ _ ha hb hab) hc
          · exact orderGtS a0 a1 w _ _ ha hb rfl rfl hne (by omega) (by omega) (by omega) hab (by simp [hab]) (by rw [hl]; exact Utf.lexI_asymm _ _ (Utf.lex_lt _ _ hb ha (by omega))) hc
end Go.Proofs.Ytjeebamllahgkaa
