/- The walk of burinlaw01.UtfPieces. -/
import Derived.Test.YtjeebamllahgkaaLaw01P
import Derived.Test.YtjeebamllahgkaaRef01C
namespace Go.Proofs.Ytjeebamllahgkaa
open Go.RowKit
set_option linter.unusedVariables false
theorem TwoRows.ints {W : World} {b n : Nat} {v1 v2 : Value} {l : List (Int × Int)} (h : TwoRows W b v1 l.length (ints1 l) v2 l.length (ints2 l)) : IntRow W v1 (l.map Prod.fst) ∧ IntRow W v2 (l.map Prod.snd) :=
  ⟨intRow_of (List.length_map ..) (by have := h.1; rw [List.map_map]; exact this), intRow_of (List.length_map ..) (by have := h.2.1; rw [List.map_map]; exact this)⟩
/-- 'Before' and its reference answer alike. -/
theorem before_both (s : ByteArray) (hs : s.size ≤ 300) (a : Int) : ∃ z, (∀ w, Calls Try.prog 22 #[.string s, .int .i64 a] w fun e w' => e = .returned (.int .i64 z) ∧ ∃ n, w' = w.drewN n) ∧
    (∀ w, Calls Try.prog 23 #[.string s, .int .i64 a] w fun e w' => e = .returned (.int .i64 z) ∧ Below w.heap.size w w') := by
  by_cases h : a < 1 ∨ (s.size : Int) < a
  · exact ⟨0, fun w => (before_out s a h w).mono fun e w' ⟨h1, h2⟩ => ⟨h1, 0, h2.symm⟩, fun w => (refBefore_out s a h w).mono fun e w' ⟨h1, h2⟩ => ⟨h1, h2 ▸ Below.refl _ _⟩⟩
  · obtain ⟨k, rfl⟩ : ∃ k : Nat, a = k := ⟨a.toNat, by omega⟩
    exact ⟨_, fun w => before_in s (by unfold maxLen; omega) k (by omega) (by omega) w, fun w => refBefore_in s (by omega) k (by omega) (by omega) w⟩
set_option maxRecDepth 100000 in
set_option maxHeartbeats 1000000 in
theorem piecesLong (s : ByteArray) (most at_ : Int) (h : 300 < s.size) (w : World) :
    Calls Try.prog 4 #[.string s, .int .i64 most, .int .i64 at_] w fun e w' => e = .returned (.bool true) ∧ Below w.heap.size w w' := by
  go_enter Try.func4, Try.ntmps4
  go_wp2_with fail
  refine (works_any _).mono ?_
  rintro e wa ⟨rfl, hba⟩
  go_wp2
  go_ret
  exact ⟨rfl, hba⟩
set_option maxRecDepth 100000 in
set_option maxHeartbeats 2000000 in
theorem piecesShort (s : ByteArray) (hs : s.size ≤ 300) (most at_ z : Int) (m : Nat) (hm : most.toNat = m) (hmm : (m = 0 ∧ most < 0) ∨ most = (m : Int)) (w : World)
    (hb1 : ∀ w, Calls Try.prog 22 #[.string s, .int .i64 at_] w fun e w' => e = .returned (.int .i64 z) ∧ ∃ n, w' = w.drewN n)
    (hb2 : ∀ w, Calls Try.prog 23 #[.string s, .int .i64 at_] w fun e w' => e = .returned (.int .i64 z) ∧ Below w.heap.size w w') :
    Calls Try.prog 4 #[.string s, .int .i64 most, .int .i64 at_] w fun e w' => e = .returned (.bool true) ∧ Below w.heap.size w w' := by
  have hmx : s.size ≤ maxLen := by unfold maxLen; omega
  have hpl := Utf.pieces_length (Utf.nums s) (Utf.nums_bytes s)
  rw [Utf.nums_length] at hpl
  have hrp := refPieces_any s hs
  have hp := pieces_any s hs most
  have hct := fun w => count_any s hmx w
  have hv := fun w => valid_any s hmx w
  have hrv := fun w => refValid_any s hs w
  rw [hm] at hp
  obtain ⟨l, hl⟩ : ∃ l, Utf.pieces (Utf.nums s) = l := ⟨_, rfl⟩
  rw [hl] at hrp hpl hp hct hv hrv
  obtain ⟨c, hc⟩ : ∃ c, l.length = c := ⟨_, rfl⟩
  obtain ⟨ok, hok⟩ : ∃ ok, okB l = ok := ⟨_, rfl⟩
  rw [hok] at hv hrv
  rw [hc] at hct hpl
  have HRP := Lib.hid hrp
  have HP := Lib.hid hp
  have HCT := Lib.hid hct
  have HV := Lib.hid hv
  have HRV := Lib.hid hrv
  have HB1 := Lib.hid hb1
  have HB2 := Lib.hid hb2
  have HC := Lib.hid hc
  clear hrp hp hct hv hrv hb1 hb2 hl hm hok hc
  rcases hmm with ⟨rfl, hneg⟩ | rfl
  all_goals
    go_enter Try.func4, Try.ntmps4
    go_wp2_with fail
    refine (HP.out _).mono ?_
    rintro e wa ⟨p1, p2, rfl, hTa, hBa⟩
    have hIa := hTa.ints (n := 0)
    clear hTa
    go_wp2_with fail
    refine (HRP.out _).mono ?_
    rintro e wb ⟨q1, q2, rfl, hTb, hBb⟩
    have hBb' := hBa.trans (hBb.mono hBa.size)
    have hIb := hTb.ints (n := 0)
    obtain ⟨qa, qc, hq1⟩ := ownsRow_slice hTb.1
    have hIa1 := hIa.1.below (Nat.le_refl _) hBb
    have hIa2 := hIa.2.below (Nat.le_refl _) hBb
    rw [List.map_take] at hIa1 hIa2
    have hl1 : (l.map Prod.fst).length ≤ 300 := by rw [List.length_map, HC.out]; omega
    have hl2 : (l.map Prod.snd).length ≤ 300 := by rw [List.length_map, HC.out]; omega
    have HS1 := Lib.hid (same_true wb p1 q1 (l.map Prod.fst) _ hl1 hIa1 hIb.1)
    have HS2 := Lib.hid (fun nq => same_true (wb.drewN nq) p2 q2 (l.map Prod.snd) _ hl2 (hIa2.below (Nat.le_refl _) (below_drewN wb nq _)) (hIb.2.below (Nat.le_refl _) (below_drewN wb nq _)))
    rw [HC.out] at hq1
    subst hq1
    clear hIa hIb hTb hIa1 hIa2 hl1 hl2
    go_wp2_with fail
    refine HS1.out.mono ?_
    rintro e wc ⟨rfl, nq, rfl⟩
    go_wp2_with fail
    refine (HS2.out nq).mono ?_
    rintro e wd ⟨rfl, nq2, rfl⟩
    go_wp2_with fail
    refine (HCT.out _).mono ?_
    rintro e we ⟨rfl, hbe⟩
    have hBe := (hBb'.trans (below_drewN wb (nq + nq2) _)).trans (hbe.mono hBb'.size)
    go_wp2_with fail
    refine (HV.out _).mono ?_
    rintro e wf ⟨rfl, hbf⟩
    have hBf := hBe.trans (hbf.mono hBe.size)
    go_wp2_with fail
    refine (HRV.out _).mono ?_
    rintro e wg ⟨rfl, hbg⟩
    have hBg := hBf.trans (hbg.mono hBf.size)
    go_wp2_with fail
    refine (HB1.out _).mono ?_
    rintro e wh ⟨rfl, nq3, rfl⟩
    have hBh := hBg.trans ((below_drewN wg nq3 _).mono hBg.size)
    go_wp2_with fail
    refine (HB2.out _).mono ?_
    rintro e wi ⟨rfl, hbi⟩
    have hBi := hBh.trans (hbi.mono hBh.size)
    go_wp2_with fail
    refine (works_any _).mono ?_
    rintro e wj ⟨rfl, hbj⟩
    have hBj := hBi.trans (hbj.mono hBi.size)
    go_wp2
    go_ret
    exact ⟨rfl, hBj⟩
theorem walkUtfPieces (a0 : ByteArray) (a1 a2 : Int) (c0 : a0.size ≤ 140737488351232) (w1 : (Lit.int .i64 a1).wf = true) (w2 : (Lit.int .i64 a2).wf = true) (w : World) :
    Calls Try.prog 4 #[.string a0, .int .i64 a1, .int .i64 a2] w fun e w' => e = .returned (.bool true) ∧ Below w.heap.size w w' := by
  by_cases h : 300 < a0.size
  · exact piecesLong a0 a1 a2 h w
  · obtain ⟨z, hb1, hb2⟩ := before_both a0 (by omega) a2
    exact piecesShort a0 (by omega) a1 a2 z a1.toNat rfl (by omega) w hb1 hb2
end Go.Proofs.Ytjeebamllahgkaa
