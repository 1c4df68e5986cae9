/- The walk of burinlaw01.UtfTells. -/
import Derived.Test.YtjeebamllahgkaaRef01B
namespace Go.Proofs.Ytjeebamllahgkaa
open Go.RowKit
set_option linter.unusedVariables false
theorem refDec_at {s : ByteArray} {x n : Int} (h : Utf.dec (Utf.nums s) = (x, n)) (hs : s.size ≤ 140737488351232) (w : World) :
    Calls Try.prog 12 #[.string s] w fun e w' => e = .returned (.tuple #[.int .i64 x, .int .i64 n]) ∧ Below w.heap.size w w' := by
  refine (refDecode_any s hs w).mono fun e w' ⟨h1, h2⟩ => ⟨h1.trans ?_, h2⟩
  rw [h]
theorem refEnc_at {r : Int} {T : ByteArray} (h : Utf.width r ≠ 0) (hT : strOfNums (Utf.encN r) = T) (w : World) :
    Calls Try.prog 10 #[.int .i64 r] w fun e w' => e = .returned (.tuple #[.string T, .int .i64 0]) ∧ Below w.heap.size w w' := by
  rw [← hT]; exact refEncode_yes r h w
set_option maxRecDepth 100000 in
set_option maxHeartbeats 1000000 in
theorem tellsYes (r : Int) (s : ByteArray) (w1 : s.size ≤ 140737488351232) (hm : s.size ≤ maxLen) (T : ByteArray) (hT : strOfNums (Utf.encN r) = T) (hw : Utf.width r ≠ 0) (x n : Int) (hd : Utf.dec (Utf.nums s) = (x, n)) (w : World) :
    Calls Try.prog 3 #[.int .i64 r, .string s] w fun e w' => e = .returned (.bool true) ∧ Below w.heap.size w w' := by
  have HM := Lib.hid hm
  have HT := Lib.hid hT
  have HW := Lib.hid hw
  have HD := Lib.hid hd
  have H1 := Lib.hid w1
  clear hm hT hw hd w1
  go_enter Try.func3, Try.ntmps3
  go_wp2_with fail
  refine (enc_at HW.out HT.out _).mono ?_
  rintro e wa ⟨rfl, hba⟩
  go_wp2_with fail
  refine (refEnc_at HW.out HT.out _).mono ?_
  rintro e wb ⟨rfl, hbb⟩
  have hB := hba.trans (hbb.mono hba.size)
  go_wp2_with fail
  refine (dec_at HD.out HM.out _).mono ?_
  rintro e wc ⟨rfl, nq, rfl⟩
  have hB := hB.trans ((below_drewN _ nq _).mono hB.size)
  go_wp2_with fail
  refine (refDec_at HD.out H1.out _).mono ?_
  rintro e wd ⟨rfl, hbd⟩
  have hB2 := hB.trans (hbd.mono hB.size)
  go_wp2_with fail
  refine (width_any _ _).mono ?_
  rintro e we ⟨rfl, rfl⟩
  go_wp2_with fail
  refine (refWidth_any _ _).mono ?_
  rintro e wf ⟨rfl, rfl⟩
  go_wp2_with fail
  refine (works_any _).mono ?_
  rintro e wg ⟨rfl, hbg⟩
  have hB3 := hB2.trans (hbg.mono hB2.size)
  go_wp2
  go_ret
  exact ⟨rfl, hB3⟩
set_option maxRecDepth 100000 in
set_option maxHeartbeats 1000000 in
theorem tellsNo (r : Int) (s : ByteArray) (w1 : s.size ≤ 140737488351232) (hm : s.size ≤ maxLen) (hw : Utf.width r = 0) (x n : Int) (hd : Utf.dec (Utf.nums s) = (x, n)) (w : World) :
    Calls Try.prog 3 #[.int .i64 r, .string s] w fun e w' => e = .returned (.bool true) ∧ Below w.heap.size w w' := by
  have HM := Lib.hid hm
  have HW := Lib.hid hw
  have HD := Lib.hid hd
  have H1 := Lib.hid w1
  clear hm hw hd w1
  go_enter Try.func3, Try.ntmps3
  go_wp2_with fail
  refine (encode_no _ HW.out _).mono ?_
  rintro e wa ⟨rfl, rfl⟩
  go_wp2_with fail
  refine (refEncode_no _ HW.out _).mono ?_
  rintro e wb ⟨rfl, rfl⟩
  go_wp2_with fail
  refine (dec_at HD.out HM.out _).mono ?_
  rintro e wc ⟨rfl, nq, rfl⟩
  have hB := below_drewN w nq w.heap.size
  go_wp2_with fail
  refine (refDec_at HD.out H1.out _).mono ?_
  rintro e wd ⟨rfl, hbd⟩
  have hB2 := hB.trans (hbd.mono hB.size)
  go_wp2_with fail
  refine (width_any _ _).mono ?_
  rintro e we ⟨rfl, rfl⟩
  go_wp2_with fail
  refine (refWidth_any _ _).mono ?_
  rintro e wf ⟨rfl, rfl⟩
  go_wp2_with fail
  refine (works_any _).mono ?_
  rintro e wg ⟨rfl, hbg⟩
  have hB3 := hB2.trans (hbg.mono hB2.size)
  go_wp2
  go_ret
  exact ⟨rfl, hB3⟩
theorem walkUtfTells (a0 : Int) (a1 : ByteArray) (w0 : (Lit.int .i64 a0).wf = true) (w1 : a1.size ≤ 140737488351232) (w : World) :
    Calls Try.prog 3 #[.int .i64 a0, .string a1] w fun e w' => e = .returned (.bool true) ∧ Below w.heap.size w w' := by
  have hm : a1.size ≤ maxLen := by unfold maxLen; omega
  by_cases hw : Utf.width a0 = 0
  · exact tellsNo a0 a1 w1 hm hw _ _ rfl w
  · exact tellsYes a0 a1 w1 hm _ rfl hw _ _ rfl w
end Go.Proofs.Ytjeebamllahgkaa
