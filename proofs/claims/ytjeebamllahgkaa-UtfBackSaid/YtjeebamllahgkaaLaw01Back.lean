/- The walk of burinlaw01.UtfBack. -/
import Derived.Test.YtjeebamllahgkaaLaw01A
namespace Go.Proofs.Ytjeebamllahgkaa
open Go.RowKit
set_option maxRecDepth 100000 in
set_option maxHeartbeats 1000000 in
theorem backNilNo (a0 : Int) (a1 : ByteArray) (hm : a1.size ≤ maxLen) (w1 : a1.size ≤ 140737488351232) (w : World) (hd : Utf.dec (Utf.nums a1) = (-1, 0)) (hmn : (if 1 < (a1.size : Int) then (1 : Int) else (a1.size : Int)) = 0) (hw : Utf.width a0 = 0) :
    Calls Try.prog 5 #[.int .i64 a0, .string a1] w fun e w' => e = .returned (.bool true) ∧ Below w.heap.size w w' := by
  have HD := Lib.hid hd
  have HM := Lib.hid hm
  have HW := Lib.hid hw
  clear hd hm hw
  go_enter Try.func5, Try.ntmps5
  go_wp2_with fail
  refine (works_any _).mono ?_
  rintro e wa ⟨rfl, hba⟩
  go_wp2_with fail
  refine (dec_at HD.out HM.out _).mono ?_
  rintro e wb ⟨rfl, nq, rfl⟩
  go_wp2_with fail
  refine (encode_no _ HW.out _).mono ?_
  rintro e wd ⟨rfl, rfl⟩
  go_wp2_with fail
  refine (width_any _ _).mono ?_
  rintro e we ⟨rfl, rfl⟩
  rw [HW.out]
  go_wp2
  go_ret
  exact ⟨rfl, hba.trans ((below_drewN _ _ _).mono hba.size)⟩
set_option maxRecDepth 100000 in
set_option maxHeartbeats 1000000 in
theorem backNilYes (a0 : Int) (a1 : ByteArray) (hm : a1.size ≤ maxLen) (w1 : a1.size ≤ 140737488351232) (w : World) (hd : Utf.dec (Utf.nums a1) = (-1, 0)) (hmn : (if 1 < (a1.size : Int) then (1 : Int) else (a1.size : Int)) = 0) (hw : Utf.width a0 ≠ 0) :
    Calls Try.prog 5 #[.int .i64 a0, .string a1] w fun e w' => e = .returned (.bool true) ∧ Below w.heap.size w w' := by
  obtain ⟨j, hj⟩ : ∃ j : Nat, Utf.width a0 = j := ⟨(Utf.width a0).toNat, by have := Utf.width_le a0; omega⟩
  have hl : (Utf.encN a0).length = j := by have := Utf.encN_length a0; omega
  have hj4 : j ≤ 4 := by have := Utf.width_le a0; omega
  obtain ⟨T, hT⟩ : ∃ T, strOfNums (Utf.encN a0) = T := ⟨_, rfl⟩
  have hts : T.size = j := by rw [← hT, size_strOf, hl]
  have hdd : Utf.dec (Utf.nums (T ++ a1)) = (a0, (j : Int)) := by
    rw [nums_append, ← hT, nums_strOf _ (Utf.encN_bytes _), Utf.dec_enc a0 hw, hj]
  have hmm : (T ++ a1).size ≤ maxLen := by rw [ByteArray.size_append]; unfold maxLen; omega
  have HD := Lib.hid hd
  have HM := Lib.hid hm
  have HW := Lib.hid hw
  have HJ := Lib.hid hj
  have HE := Lib.hid hT
  have HDD := Lib.hid hdd
  have HMM := Lib.hid hmm
  clear hd hm hw hj hT hdd hmm hl
  go_enter Try.func5, Try.ntmps5
  go_wp2_with fail
  refine (works_any _).mono ?_
  rintro e wa ⟨rfl, hba⟩
  go_wp2_with fail
  refine (dec_at HD.out HM.out _).mono ?_
  rintro e wb ⟨rfl, nq, rfl⟩
  go_wp2_with fail
  refine (enc_at HW.out HE.out _).mono ?_
  rintro e wd ⟨rfl, hbd⟩
  go_wp2_with fail
  refine (dec_at HDD.out HMM.out _).mono ?_
  rintro e wf ⟨rfl, nq2, rfl⟩
  go_wp2_with fail
  refine (width_any _ _).mono ?_
  rintro e we ⟨rfl, rfl⟩
  rw [HJ.out]
  go_wp2
  go_ret
  exact ⟨rfl, ((hba.trans ((below_drewN _ _ _).mono hba.size)).trans (hbd.mono (Below.size (hba.trans ((below_drewN _ _ _).mono hba.size))))).trans ((below_drewN _ _ _).mono (Nat.le_trans (Below.size (hba.trans ((below_drewN _ _ _).mono hba.size))) hbd.size))⟩
set_option maxRecDepth 100000 in
set_option maxHeartbeats 1000000 in
theorem backBadNo (a0 : Int) (a1 : ByteArray) (hm : a1.size ≤ maxLen) (w1 : a1.size ≤ 140737488351232) (w : World) (hd : Utf.dec (Utf.nums a1) = (-1, 1)) (hmn : (if 1 < (a1.size : Int) then (1 : Int) else (a1.size : Int)) = 1) (hw : Utf.width a0 = 0) :
    Calls Try.prog 5 #[.int .i64 a0, .string a1] w fun e w' => e = .returned (.bool true) ∧ Below w.heap.size w w' := by
  have HD := Lib.hid hd
  have HM := Lib.hid hm
  have HW := Lib.hid hw
  clear hd hm hw
  go_enter Try.func5, Try.ntmps5
  go_wp2_with fail
  refine (works_any _).mono ?_
  rintro e wa ⟨rfl, hba⟩
  go_wp2_with fail
  refine (dec_at HD.out HM.out _).mono ?_
  rintro e wb ⟨rfl, nq, rfl⟩
  go_wp2_with fail
  refine (encode_no _ HW.out _).mono ?_
  rintro e wd ⟨rfl, rfl⟩
  go_wp2_with fail
  refine (width_any _ _).mono ?_
  rintro e we ⟨rfl, rfl⟩
  rw [HW.out]
  go_wp2
  go_ret
  exact ⟨rfl, hba.trans ((below_drewN _ _ _).mono hba.size)⟩
set_option maxRecDepth 100000 in
set_option maxHeartbeats 1000000 in
theorem backBadYes (a0 : Int) (a1 : ByteArray) (hm : a1.size ≤ maxLen) (w1 : a1.size ≤ 140737488351232) (w : World) (hd : Utf.dec (Utf.nums a1) = (-1, 1)) (hmn : (if 1 < (a1.size : Int) then (1 : Int) else (a1.size : Int)) = 1) (hw : Utf.width a0 ≠ 0) :
    Calls Try.prog 5 #[.int .i64 a0, .string a1] w fun e w' => e = .returned (.bool true) ∧ Below w.heap.size w w' := by
  obtain ⟨j, hj⟩ : ∃ j : Nat, Utf.width a0 = j := ⟨(Utf.width a0).toNat, by have := Utf.width_le a0; omega⟩
  have hl : (Utf.encN a0).length = j := by have := Utf.encN_length a0; omega
  have hj4 : j ≤ 4 := by have := Utf.width_le a0; omega
  obtain ⟨T, hT⟩ : ∃ T, strOfNums (Utf.encN a0) = T := ⟨_, rfl⟩
  have hts : T.size = j := by rw [← hT, size_strOf, hl]
  have hdd : Utf.dec (Utf.nums (T ++ a1)) = (a0, (j : Int)) := by
    rw [nums_append, ← hT, nums_strOf _ (Utf.encN_bytes _), Utf.dec_enc a0 hw, hj]
  have hmm : (T ++ a1).size ≤ maxLen := by rw [ByteArray.size_append]; unfold maxLen; omega
  have HD := Lib.hid hd
  have HM := Lib.hid hm
  have HW := Lib.hid hw
  have HJ := Lib.hid hj
  have HE := Lib.hid hT
  have HDD := Lib.hid hdd
  have HMM := Lib.hid hmm
  clear hd hm hw hj hT hdd hmm hl
  go_enter Try.func5, Try.ntmps5
  go_wp2_with fail
  refine (works_any _).mono ?_
  rintro e wa ⟨rfl, hba⟩
  go_wp2_with fail
  refine (dec_at HD.out HM.out _).mono ?_
  rintro e wb ⟨rfl, nq, rfl⟩
  go_wp2_with fail
  refine (enc_at HW.out HE.out _).mono ?_
  rintro e wd ⟨rfl, hbd⟩
  go_wp2_with fail
  refine (dec_at HDD.out HMM.out _).mono ?_
  rintro e wf ⟨rfl, nq2, rfl⟩
  go_wp2_with fail
  refine (width_any _ _).mono ?_
  rintro e we ⟨rfl, rfl⟩
  rw [HJ.out]
  go_wp2
  go_ret
  exact ⟨rfl, ((hba.trans ((below_drewN _ _ _).mono hba.size)).trans (hbd.mono (Below.size (hba.trans ((below_drewN _ _ _).mono hba.size))))).trans ((below_drewN _ _ _).mono (Nat.le_trans (Below.size (hba.trans ((below_drewN _ _ _).mono hba.size))) hbd.size))⟩
set_option maxRecDepth 100000 in
set_option maxHeartbeats 1000000 in
theorem backYesNo (a0 : Int) (a1 : ByteArray) (hm : a1.size ≤ maxLen) (w1 : a1.size ≤ 140737488351232) (w : World) (x : Int) (m : Nat) (hd : Utf.dec (Utf.nums a1) = (x, (m : Int))) (hx0 : 0 ≤ x) (hm1 : 1 ≤ m) (hma : m ≤ a1.size) (hx : Utf.width x ≠ 0) (hT : strOfNums (Utf.encN x) = a1.extract 0 m) (hw : Utf.width a0 = 0) :
    Calls Try.prog 5 #[.int .i64 a0, .string a1] w fun e w' => e = .returned (.bool true) ∧ Below w.heap.size w w' := by
  have HD := Lib.hid hd
  have HM := Lib.hid hm
  have HW := Lib.hid hw
  clear hd hm hw
  have HX := Lib.hid hx
  have HT := Lib.hid hT
  clear hx hT
  go_enter Try.func5, Try.ntmps5
  go_wp2_with fail
  refine (works_any _).mono ?_
  rintro e wa ⟨rfl, hba⟩
  go_wp2_with fail
  refine (dec_at HD.out HM.out _).mono ?_
  rintro e wb ⟨rfl, nq, rfl⟩
  go_wp2_with fail
  refine (enc_at HX.out HT.out _).mono ?_
  rintro e wc ⟨rfl, hbc⟩
  go_wp2_with fail
  refine (encode_no _ HW.out _).mono ?_
  rintro e wd ⟨rfl, rfl⟩
  go_wp2_with fail
  refine (width_any _ _).mono ?_
  rintro e we ⟨rfl, rfl⟩
  rw [HW.out]
  go_wp2
  go_ret
  exact ⟨rfl, (hba.trans ((below_drewN _ _ _).mono hba.size)).trans (hbc.mono hba.size)⟩
set_option maxRecDepth 100000 in
set_option maxHeartbeats 1000000 in
theorem backYesYes (a0 : Int) (a1 : ByteArray) (hm : a1.size ≤ maxLen) (w1 : a1.size ≤ 140737488351232) (w : World) (x : Int) (m : Nat) (hd : Utf.dec (Utf.nums a1) = (x, (m : Int))) (hx0 : 0 ≤ x) (hm1 : 1 ≤ m) (hma : m ≤ a1.size) (hx : Utf.width x ≠ 0) (hT : strOfNums (Utf.encN x) = a1.extract 0 m) (hw : Utf.width a0 ≠ 0) :
    Calls Try.prog 5 #[.int .i64 a0, .string a1] w fun e w' => e = .returned (.bool true) ∧ Below w.heap.size w w' := by
  obtain ⟨j, hj⟩ : ∃ j : Nat, Utf.width a0 = j := ⟨(Utf.width a0).toNat, by have := Utf.width_le a0; omega⟩
  have hl : (Utf.encN a0).length = j := by have := Utf.encN_length a0; omega
  have hj4 : j ≤ 4 := by have := Utf.width_le a0; omega
  obtain ⟨T, hT⟩ : ∃ T, strOfNums (Utf.encN a0) = T := ⟨_, rfl⟩
  have hts : T.size = j := by rw [← hT, size_strOf, hl]
  have hdd : Utf.dec (Utf.nums (T ++ a1)) = (a0, (j : Int)) := by
    rw [nums_append, ← hT, nums_strOf _ (Utf.encN_bytes _), Utf.dec_enc a0 hw, hj]
  have hmm : (T ++ a1).size ≤ maxLen := by rw [ByteArray.size_append]; unfold maxLen; omega
  have HD := Lib.hid hd
  have HM := Lib.hid hm
  have HW := Lib.hid hw
  have HJ := Lib.hid hj
  have HE := Lib.hid hT
  have HDD := Lib.hid hdd
  have HMM := Lib.hid hmm
  clear hd hm hw hj hT hdd hmm hl
  have HX := Lib.hid hx
  have HT := Lib.hid hT
  clear hx hT
  go_enter Try.func5, Try.ntmps5
  go_wp2_with fail
  refine (works_any _).mono ?_
  rintro e wa ⟨rfl, hba⟩
  go_wp2_with fail
  refine (dec_at HD.out HM.out _).mono ?_
  rintro e wb ⟨rfl, nq, rfl⟩
  go_wp2_with fail
  refine (enc_at HX.out HT.out _).mono ?_
  rintro e wc ⟨rfl, hbc⟩
  go_wp2_with fail
  refine (enc_at HW.out HE.out _).mono ?_
  rintro e wd ⟨rfl, hbd⟩
  go_wp2_with fail
  refine (dec_at HDD.out HMM.out _).mono ?_
  rintro e wf ⟨rfl, nq2, rfl⟩
  go_wp2_with fail
  refine (width_any _ _).mono ?_
  rintro e we ⟨rfl, rfl⟩
  rw [HJ.out]
  go_wp2
  go_ret
  exact ⟨rfl, (((hba.trans ((below_drewN _ _ _).mono hba.size)).trans (hbc.mono hba.size)).trans (hbd.mono (Below.size ((hba.trans ((below_drewN _ _ _).mono hba.size)).trans (hbc.mono hba.size))))).trans ((below_drewN _ _ _).mono (Nat.le_trans (Below.size ((hba.trans ((below_drewN _ _ _).mono hba.size)).trans (hbc.mono hba.size))) hbd.size))⟩

theorem walkUtfBack (a0 : Int) (a1 : ByteArray) (w0 : (Lit.int .i64 a0).wf = true) (w1 : a1.size ≤ 140737488351232) (w : World) :
    Calls Try.prog 5 #[.int .i64 a0, .string a1] w fun e w' => e = .returned (.bool true) ∧ Below w.heap.size w w' := by
  have hm : a1.size ≤ maxLen := by unfold maxLen; omega
  rcases Utf.dec_some (Utf.nums a1) (Utf.nums_bytes a1) with ⟨h1, h2⟩ | ⟨h1, h2⟩ | ⟨h1, h2, t, ht⟩
  · have hz : a1.size = 0 := (Utf.nums_nil a1).1 h1
    have hmn : (if 1 < (a1.size : Int) then (1 : Int) else (a1.size : Int)) = 0 := by rw [hz]; rfl
    by_cases hw : Utf.width a0 = 0
    · exact backNilNo a0 a1 hm w1 w h2 hmn hw
    · exact backNilYes a0 a1 hm w1 w h2 hmn hw
  · have hz : a1.size ≠ 0 := fun e => h1 ((Utf.nums_nil a1).2 e)
    have hmn : (if 1 < (a1.size : Int) then (1 : Int) else (a1.size : Int)) = 1 := by split <;> omega
    by_cases hw : Utf.width a0 = 0
    · exact backBadNo a0 a1 hm w1 w h2 hmn hw
    · exact backBadYes a0 a1 hm w1 w h2 hmn hw
  · obtain ⟨x, n, hd⟩ : ∃ x n, Utf.dec (Utf.nums a1) = (x, n) := ⟨_, _, rfl⟩
    rw [hd] at h1 h2 ht
    have ht' : Utf.nums a1 = Utf.encN x ++ t := ht
    have hwl := Utf.width_le x
    obtain ⟨m, rfl⟩ : ∃ m : Nat, n = m := ⟨n.toNat, by have : n = Utf.width x := h2; omega⟩
    have h2' : (m : Int) = Utf.width x := h2
    have h1' : Utf.width x ≠ 0 := h1
    have hl : (Utf.encN x).length = m := by have := Utf.encN_length x; omega
    have hma : m ≤ a1.size := by
      have := congrArg List.length ht'
      rw [List.length_append, Utf.nums_length] at this
      omega
    have hx0 : 0 ≤ x := by rcases Utf.width_cases x with h | h | h | h | h <;> omega
    have hT : strOfNums (Utf.encN x) = a1.extract 0 m := by
      apply nums_inj
      rw [nums_strOf _ (Utf.encN_bytes _), Utf.nums_extract, ht', List.drop_zero, Nat.sub_zero, List.take_append_of_le_length (by omega), List.take_of_length_le (by omega)]
    by_cases hw : Utf.width a0 = 0
    · exact backYesNo a0 a1 hm w1 w x m hd hx0 (by omega) hma h1' hT hw
    · exact backYesYes a0 a1 hm w1 w x m hd hx0 (by omega) hma h1' hT hw
end Go.Proofs.Ytjeebamllahgkaa
