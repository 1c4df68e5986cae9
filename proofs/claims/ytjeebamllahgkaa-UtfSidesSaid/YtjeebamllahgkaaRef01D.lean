/- The contracts of the reference's Pieces and Valid (burinref01). -/
import Derived.Test.YtjeebamllahgkaaLaw01Tells
import Derived.Test.YtjeebamllahgkaaRows2
namespace Go.Proofs.Ytjeebamllahgkaa
open Go.RowKit
set_option linter.unusedVariables false
theorem Try.infoInt : (Try.prog.info? 3).map (fun i => (i.zero, i.size, i.bytes)) = some (some (.int .i64 0), 1, 8) := by kernel_rfl
abbrev ints1 (l : List (Int × Int)) : List Value := l.map fun p => Value.int .i64 p.1
abbrev ints2 (l : List (Int × Int)) : List Value := l.map fun p => Value.int .i64 p.2
set_option maxRecDepth 100000 in
set_option maxHeartbeats 2000000 in
theorem refPieces_any (s : ByteArray) (hs : s.size ≤ 300) (w : World) : Calls Try.prog 17 #[.string s] w fun e W' =>
    ∃ v1 v2, e = .returned (.tuple #[v1, v2]) ∧ TwoRows W' w.heap.size v1 (Utf.pieces (Utf.nums s)).length (ints1 (Utf.pieces (Utf.nums s))) v2 (Utf.pieces (Utf.nums s)).length (ints2 (Utf.pieces (Utf.nums s))) ∧ Below w.heap.size w W' := by
  obtain ⟨i0, hi, hz0, hz1, hz2⟩ := info_parts Try.infoInt
  have hmx : (1000 : Nat) ≤ maxLen := by unfold maxLen; omega
  go_enter Try.func17, Try.ntmps17
  go_wp2
  go_loopw [4, 5, 6, 7, 8] (fun V1 V2 A r n wr => ∃ (k : Nat) (pre : List (Int × Int)), k ≤ s.size ∧ pre.length ≤ k ∧ A = .int .i64 k ∧ Hid (Utf.pieces (Utf.nums s) = pre ++ Utf.rest (Utf.nums s) k) ∧ TwoRows wr w.heap.size V1 pre.length (ints1 pre) V2 pre.length (ints2 pre) ∧ Below w.heap.size w wr) (fun _ _ A _ _ _ => s.size - (intOf A).toNat)
  case atStart => exact ⟨0, [], Nat.zero_le _, Nat.le_refl _, rfl, Lib.hid rfl, TwoRows.nil _ _, Below.refl _ _⟩
  case round =>
    obtain ⟨k, pre, hk, hpk, rfl, HP, hT, hB⟩ := hrel
    by_cases hlt : k < s.size
    · have hb := Utf.nums_bytes s
      have hdr := Utf.nums_drop s k hk
      have hst := Utf.step_bd ((Utf.nums s).drop k) (Utf.bytes_drop hb k) (by intro e; have := congrArg List.length e; rw [List.length_drop, Utf.nums_length] at this; simp at this; omega)
      rw [List.length_drop, Utf.nums_length] at hst
      have hrs := Utf.rest_step (Utf.nums s) hb k (by rw [Utf.nums_length]; exact hlt)
      obtain ⟨x, m, hd⟩ : ∃ x m, Utf.dec ((Utf.nums s).drop k) = (x, m) := ⟨_, _, rfl⟩
      obtain ⟨j, hj⟩ : ∃ j, Utf.step ((Utf.nums s).drop k) = j := ⟨_, rfl⟩
      rw [hj, hd] at hst hrs
      have hm : m = (j : Int) := hst.2.2.symm
      subst hm
      have hj1 := hst.1
      have hj2 := hst.2.1
      have HR := Lib.hid hrs
      have HD : Hid (Utf.dec (Utf.nums (s.extract k s.size)) = (x, (j : Int))) := Lib.hid (by rw [hdr]; exact hd)
      have hsz : (s.extract k s.size).size ≤ 140737488351232 := by rw [ByteArray.size_extract]; omega
      have HZ := Lib.hid hsz
      have HT := Lib.hid hT
      clear hdr hrs hst hj hd hsz hT
      go_wp2_with fail
      refine (refDec_at HD.out HZ.out _).mono ?_
      rintro e wa ⟨rfl, hba⟩
      have hTa := HT.out.below hba
      have hBa := hB.trans (hba.mono hB.size)
      have HTa := Lib.hid hTa
      have hsza := hBa.size
      have hown := hTa.1
      go_wp2_with (at_builtin; refine wpList_append_lies _ (by rfl) _ _ 30 (by rfl) w.heap.size 3 i0 (.int .i64 0) 1 8 Try.underlying30 hi hz0 hz1 hz2 rfl (by decide) _ pre.length (ints1 pre) (by rfl) (hown.alloc _) ⟨wa.heap.size, 0, none⟩ 1 1 [.int .i64 (k : Int)] (by rfl) rfl (cell_one_new _ _ _) (by simp [Value.oneCell']) (by omega) (by omega) (by omega) (by simp; omega) (wa.heap.size + 1) (by simp) ?_)
      intro g1 cap1 wb hob hgb hatb hltb
      have hTb := TwoRows.first (HTa.out.grew (World.grownBy_alloc wa _ none)) hob hgb rfl hatb (by simp)
      have hBb : Below w.heap.size w wb := ((hBa.alloc hsza _).grown hgb (by simp; omega) (fun q hq => (hown.lt q hq).1))
      have HTb := Lib.hid hTb
      have hown2 := hTb.2.1
      have hszb := hBb.size
      clear hTb hob hgb hatb hown HTa
      go_wp2_with (at_builtin; refine wpList_append_lies _ (by rfl) _ _ 30 (by rfl) w.heap.size 3 i0 (.int .i64 0) 1 8 Try.underlying30 hi hz0 hz1 hz2 rfl (by decide) _ pre.length (ints2 pre) (by rfl) (hown2.alloc _) ⟨wb.heap.size, 0, none⟩ 1 1 [.int .i64 x] (by rfl) rfl (cell_one_new _ _ _) (by simp [Value.oneCell']) (by omega) (by omega) (by omega) (by simp; omega) (wb.heap.size + 1) (by simp) ?_)
      intro g2 cap2 wc hoc hgc hatc hltc
      have hTc := (TwoRows.first (HTb.out.grew (World.grownBy_alloc wb _ none)).swap hoc hgc rfl hatc (by simp)).swap
      have hBc : Below w.heap.size w wc := ((hBb.alloc hszb _).grown hgc (by simp; omega) (fun q hq => (hown2.lt q hq).1))
      clear hoc hgc hatc hown2 HTb
      have HTc := Lib.hid hTc
      clear hTc
      go_wp2
      go_roundw
      case rel => exact ⟨k + j, pre ++ [((k : Int), x)], by omega, by simp; omega, by go_num, Lib.hid (by rw [HP.out, HR.out]; simp), by simpa [ints1, ints2] using HTc.out, hBc⟩
      case measure => simp [intOf]; omega
    · obtain rfl : k = s.size := by omega
      have hpe : Utf.pieces (Utf.nums s) = pre := by rw [HP.out, Utf.rest_done _ _ (by rw [Utf.nums_length]; exact Nat.le_refl _), List.append_nil]
      have HE := Lib.hid hpe
      have HT := Lib.hid hT
      clear hpe hT
      go_wp2
      go_ret2
      rw [HE.out]
      exact ⟨_, _, rfl, HT.out, hB⟩
end Go.Proofs.Ytjeebamllahgkaa
