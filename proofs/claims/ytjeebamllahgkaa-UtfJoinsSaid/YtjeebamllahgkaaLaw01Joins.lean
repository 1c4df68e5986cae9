/- The walk of burinlaw01.UtfJoins. -/
import Derived.Test.YtjeebamllahgkaaLaw01A
import Derived.Test.YtjeebamllahgkaaUtfMathB
namespace Go.Proofs.Ytjeebamllahgkaa
open Go.RowKit
set_option linter.unusedVariables false
theorem okB_runes (l : List Int) : okB (Utf.pieces l) = (Utf.runes l).all fun r => decide (0 ≤ r) := by
  rw [← Utf.pieces_rn, List.all_map]; rfl
theorem len_runes (l : List Int) : (Utf.pieces l).length = (Utf.runes l).length := by
  rw [← Utf.pieces_rn, List.length_map]
theorem valid_at {s : ByteArray} {b : Bool} (h : okB (Utf.pieces (Utf.nums s)) = b) (hs : s.size ≤ maxLen) (w : World) :
    Calls Try.prog 20 #[.string s] w fun e W' => e = .returned (.bool b) ∧ Below w.heap.size w W' := by
  rw [← h]; exact valid_any s hs w
theorem count_at {s : ByteArray} {n : Nat} (h : (Utf.pieces (Utf.nums s)).length = n) (hs : s.size ≤ maxLen) (w : World) :
    Calls Try.prog 19 #[.string s] w fun e W' => e = .returned (.int .i64 n) ∧ Below w.heap.size w W' := by
  rw [← h]; exact count_any s hs w
set_option maxRecDepth 100000 in
set_option maxHeartbeats 1000000 in
theorem joinsLong (s t : ByteArray) (w : World) (h : 300 < s.size ∨ 300 < t.size) :
    Calls Try.prog 8 #[.string s, .string t] w fun e w' => e = .returned (.bool true) ∧ Below w.heap.size w w' := by
  by_cases hs : 300 < s.size
  · clear h
    go_enter Try.func8, Try.ntmps8
    go_wp2_with fail
    refine (works_any _).mono ?_
    rintro e wa ⟨rfl, hba⟩
    go_wp2
    go_ret
    exact ⟨rfl, hba⟩
  · have ht : 300 < t.size := by omega
    clear h
    go_enter Try.func8, Try.ntmps8
    go_wp2_with fail
    refine (works_any _).mono ?_
    rintro e wa ⟨rfl, hba⟩
    go_wp2
    go_ret
    exact ⟨rfl, hba⟩
set_option maxRecDepth 100000 in
set_option maxHeartbeats 1000000 in
theorem joinsBadS (s t : ByteArray) (w : World) (hs : s.size ≤ 300) (ht : t.size ≤ 300) (hv : okB (Utf.pieces (Utf.nums s)) = false) :
    Calls Try.prog 8 #[.string s, .string t] w fun e w' => e = .returned (.bool true) ∧ Below w.heap.size w w' := by
  have hm : s.size ≤ maxLen := by unfold maxLen; omega
  have HM := Lib.hid hm
  have HV := Lib.hid hv
  clear hm hv
  go_enter Try.func8, Try.ntmps8
  go_wp2_with fail
  refine (works_any _).mono ?_
  rintro e wa ⟨rfl, hba⟩
  go_wp2_with fail
  refine (valid_at HV.out HM.out _).mono ?_
  rintro e wb ⟨rfl, hbb⟩
  go_wp2
  go_ret
  exact ⟨rfl, hba.trans (hbb.mono hba.size)⟩
set_option maxRecDepth 100000 in
set_option maxHeartbeats 1000000 in
theorem joinsBadT (s t : ByteArray) (w : World) (hs : s.size ≤ 300) (ht : t.size ≤ 300) (hv : okB (Utf.pieces (Utf.nums s)) = true) (hv' : okB (Utf.pieces (Utf.nums t)) = false) :
    Calls Try.prog 8 #[.string s, .string t] w fun e w' => e = .returned (.bool true) ∧ Below w.heap.size w w' := by
  have hm : s.size ≤ maxLen := by unfold maxLen; omega
  have hm' : t.size ≤ maxLen := by unfold maxLen; omega
  have HM := Lib.hid hm
  have HV := Lib.hid hv
  have HM' := Lib.hid hm'
  have HV' := Lib.hid hv'
  clear hm hv hm' hv'
  go_enter Try.func8, Try.ntmps8
  go_wp2_with fail
  refine (works_any _).mono ?_
  rintro e wa ⟨rfl, hba⟩
  go_wp2_with fail
  refine (valid_at HV.out HM.out _).mono ?_
  rintro e wb ⟨rfl, hbb⟩
  go_wp2_with fail
  refine (valid_at HV'.out HM'.out _).mono ?_
  rintro e wc ⟨rfl, hbc⟩
  go_wp2
  go_ret
  exact ⟨rfl, (hba.trans (hbb.mono hba.size)).trans (hbc.mono (Nat.le_trans hba.size hbb.size))⟩
set_option maxRecDepth 100000 in
set_option maxHeartbeats 1000000 in
theorem joinsGood (s t : ByteArray) (w : World) (hs : s.size ≤ 300) (ht : t.size ≤ 300) (i j : Nat) (hi : i ≤ 300) (hj : j ≤ 300) (hv : okB (Utf.pieces (Utf.nums s)) = true) (hv' : okB (Utf.pieces (Utf.nums t)) = true)
    (hc : (Utf.pieces (Utf.nums s)).length = i) (hc' : (Utf.pieces (Utf.nums t)).length = j) (hst : okB (Utf.pieces (Utf.nums (s ++ t))) = true) (hcc : (Utf.pieces (Utf.nums (s ++ t))).length = i + j) :
    Calls Try.prog 8 #[.string s, .string t] w fun e w' => e = .returned (.bool true) ∧ Below w.heap.size w w' := by
  have hm : s.size ≤ maxLen := by unfold maxLen; omega
  have hm' : t.size ≤ maxLen := by unfold maxLen; omega
  have hm2 : (s ++ t).size ≤ maxLen := by rw [ByteArray.size_append]; unfold maxLen; omega
  have HM := Lib.hid hm
  have HV := Lib.hid hv
  have HM' := Lib.hid hm'
  have HV' := Lib.hid hv'
  have HM2 := Lib.hid hm2
  have HST := Lib.hid hst
  have HC := Lib.hid hc
  have HC' := Lib.hid hc'
  have HCC := Lib.hid hcc
  clear hm hv hm' hv' hm2 hst hc hc' hcc
  go_enter Try.func8, Try.ntmps8
  go_wp2_with fail
  refine (works_any _).mono ?_
  rintro e wa ⟨rfl, hba⟩
  go_wp2_with fail
  refine (valid_at HV.out HM.out _).mono ?_
  rintro e wb ⟨rfl, hbb⟩
  go_wp2_with fail
  refine (valid_at HV'.out HM'.out _).mono ?_
  rintro e wc ⟨rfl, hbc⟩
  have s1 := Nat.le_trans hba.size hbb.size
  have s2 := Nat.le_trans s1 hbc.size
  have hB : Below w.heap.size w wc := (hba.trans (hbb.mono hba.size)).trans (hbc.mono s1)
  go_wp2_with fail
  refine (valid_at HST.out HM2.out _).mono ?_
  rintro e wd ⟨rfl, hbd⟩
  have hB := hB.trans (hbd.mono s2)
  have s3 := Nat.le_trans s2 hbd.size
  go_wp2_with fail
  refine (count_at HCC.out HM2.out _).mono ?_
  rintro e we ⟨rfl, hbe⟩
  have hB := hB.trans (hbe.mono s3)
  have s4 := Nat.le_trans s3 hbe.size
  go_wp2_with fail
  refine (count_at HC.out HM.out _).mono ?_
  rintro e wf ⟨rfl, hbf⟩
  have hB := hB.trans (hbf.mono s4)
  have s5 := Nat.le_trans s4 hbf.size
  go_wp2_with fail
  refine (count_at HC'.out HM'.out _).mono ?_
  rintro e wg ⟨rfl, hbg⟩
  have hB := hB.trans (hbg.mono s5)
  go_wp2
  go_ret
  exact ⟨by simp, hB⟩
theorem walkUtfJoins (a0 a1 : ByteArray) (w0 : a0.size ≤ 140737488351232) (w1 : a1.size ≤ 140737488351232) (w : World) :
    Calls Try.prog 8 #[.string a0, .string a1] w fun e w' => e = .returned (.bool true) ∧ Below w.heap.size w w' := by
  by_cases h : 300 < a0.size ∨ 300 < a1.size
  · exact joinsLong a0 a1 w h
  · cases hv : okB (Utf.pieces (Utf.nums a0)) with
    | false => exact joinsBadS a0 a1 w (by omega) (by omega) hv
    | true =>
      cases hv' : okB (Utf.pieces (Utf.nums a1)) with
      | false => exact joinsBadT a0 a1 w (by omega) (by omega) hv hv'
      | true =>
        have hb := Utf.nums_bytes a0
        have hb' := Utf.nums_bytes a1
        have e := Utf.runes_join _ (Utf.nums a0) (Utf.nums a1) (Nat.le_refl _) hb hb' (fun r hr => by
          rw [okB_runes, List.all_eq_true] at hv; simpa using hv r hr)
        have l0 := Utf.pieces_length _ hb
        have l1 := Utf.pieces_length _ hb'
        rw [Utf.nums_length] at l0 l1
        refine joinsGood a0 a1 w (by omega) (by omega) _ _ (by omega) (by omega) hv hv' rfl rfl ?_ ?_
        · rw [okB_runes, nums_append, e, List.all_append, ← okB_runes, ← okB_runes, hv, hv']; rfl
        · rw [len_runes, nums_append, e, List.length_append, ← len_runes, ← len_runes]
end Go.Proofs.Ytjeebamllahgkaa
