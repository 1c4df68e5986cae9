/- The landed prog: the iterator of lines. -/
import Derived.Test.YtfnimmbmcjgdpaaDoorGp26
namespace Go.Proofs.YtfnimmbmcjgdpaaDoor
open Go.RowKit Go.Shelf
attribute [local go_sem] Oper.semAt_some
set_option linter.unusedVariables false
namespace Pgm
theorem linesFn (w : World) (s : ByteArray) : Calls Tryd.prog 83 #[.string s] w fun e w' => e = .returned (.func (.func 106) #[] #[.pointer (some ⟨w.heap.size, 0, none⟩)]) ∧ w.alloc (.cells #[.string s] 9) = w' := by
  go_enter Tryd.func83, Tryd.ntmps83
  go_wp2
  go_ret
  exact ⟨rfl, rfl⟩
theorem idxB14 (w : World) (s : ByteArray) : Calls Tryd.prog 107 #[.string s, .int .u8 10] w fun e w' => e = .returned (.int .i64 (if (10 : UInt8) ∈ s.data.toList then ((cutA 10 s.data.toList).length : Int) else -1)) ∧ w = w' := by
  have h9 := Any.strings_IndexByte (P := Tryd.prog) Tryd.layIdxByte s 10 w
  change Calls Tryd.prog 107 _ _ _ at h9
  refine h9.mono ?_
  rintro e w' ⟨he, rfl⟩
  rw [show ((10 : Int).toNat.toUInt8) = (10 : UInt8) from rfl, indexB1] at he
  exact ⟨he, rfl⟩
/-- Both parts of a text at its first line feed. -/
theorem cut_pieces (L : List UInt8) (h : (10 : UInt8) ∈ L) : (txB L).extract 0 ((cutA 10 L).length + 1) = txB (headL L) ∧ (txB L).extract ((cutA 10 L).length + 1) L.length = txB (cutB 10 L) ∧ (cutA 10 L).length < L.length := by
  rcases cut_join 10 L with ⟨h1, h2, h3⟩ | ⟨h1, _⟩
  · have hl := congrArg List.length h2
    simp only [List.length_append, List.length_cons] at hl
    refine ⟨?_, ?_, by omega⟩
    · apply ByteArray.ext
      rw [ByteArray.data_extract]
      apply Array.toList_inj.1
      rw [Array.toList_extract, List.extract_eq_take_drop]
      simp only [txB_list, List.drop_zero, Nat.sub_zero]
      unfold headL
      rw [if_pos h]
      have e : L.take ((cutA 10 L).length + 1) = (cutA 10 L ++ 10 :: cutB 10 L).take ((cutA 10 L).length + 1) := by rw [← h2]
      rw [e, List.take_append, List.take_of_length_le (Nat.le_succ _)]
      simp
    · apply ByteArray.ext
      rw [ByteArray.data_extract]
      apply Array.toList_inj.1
      rw [Array.toList_extract, List.extract_eq_take_drop]
      have e : L.drop ((cutA 10 L).length + 1) = cutB 10 L := by
        have h4 : L.drop ((cutA 10 L).length + 1) = (cutA 10 L ++ 10 :: cutB 10 L).drop ((cutA 10 L).length + 1) := by rw [← h2]
        rw [h4, List.drop_append]
        simp
      rw [txB_list, txB_list, e, List.take_of_length_le (by omega)]
  · exact absurd h h1
set_option maxRecDepth 100000 in
set_option maxHeartbeats 8000000 in
theorem lines1_in (n : Nat) (hn : 1 ≤ n) (l B : Nat) (s : List UInt8) (hs : s.length ≤ 1000000000) (J Jx : List (List UInt8) → World → Prop) (hJ : ∀ p A B', J p A → LnFr B A B' → J p B')
    (hY : ∀ pre x W, J pre W → (x.length ≤ 1000000000 ∧ Lib.trimSuffix x [10] = cutA 10 x) → pre.length < (linesL s).length → YieldAt Fence.wide (n - 1) Tryd.prog l (encT x) W fun e W' =>
      (e = .returned (.bool true) ∧ J (pre ++ [x]) W' ∧ LnKp B W W') ∨ (e = .returned (.bool false) ∧ Jx (pre ++ [x]) W' ∧ True))
    (W : World) (hc : Boxed W B 9 (.string (txB s))) (h0 : J [] W) :
    CallsIn Fence.wide n Tryd.prog 106 #[.func (.yield l) #[] #[], .pointer (some ⟨B, 0, none⟩)] W fun e W' => (∃ v, e = .returned v) ∧
      ((∃ ys, ys = linesL s ∧ J ys W') ∨ (∃ pre, (pre <+: linesL s) ∧ Jx pre W')) := by
  refine callsIn_of_wp Tryd.func106 rfl trivial ?_ rfl
  simp only [Tryd.ntmps106, List.size_toArray, List.length_cons, List.length_nil, Nat.reduceAdd, Nat.reduceSub, Array.replicate_succ, Array.replicate_zero, List.push_toArray, List.append_toArray, List.nil_append, List.cons_append]
  gi_wp2
  gi_loopw [3] (fun _ wr => ∃ (r : List UInt8) (pre : List (List UInt8)), r.length ≤ 1000000000 ∧ Hid (linesL s = pre ++ linesL r) ∧ Hid (J pre wr) ∧ Hid (Boxed wr B 9 (.string (txB r)))) (fun _ wr => match wr.cell? ⟨B, 0, none⟩ with | some (.string x) => x.size | _ => 0)
  case atStart => exact ⟨s, [], hs, Lib.hid rfl, Lib.hid h0, Lib.hid hc⟩
  case round =>
    obtain ⟨r, pre, hr, HP, HJ, HC⟩ := hrel
    have hcx := HC.out.cell
    have hfx := HC.out.frozen
    have hsz : (txB r).size = r.length := txB_size r
    by_cases hnil : r = []
    · subst hnil
      have HE : Hid (pre = linesL s) := Lib.hid (by rw [HP.out, linesL_nil, List.append_nil])
      have h0 : (txB []).size = 0 := hsz
      gi_wp2
      go_end0
      exact ⟨⟨_, rfl⟩, .inl ⟨pre, HE.out, HJ.out⟩⟩
    · have hpos : 0 < r.length := List.length_pos_iff.2 hnil
      have hlt2 := cutB_lt 10 r hnil
      have HL : Hid (linesL s = (pre ++ [headL r]) ++ linesL (cutB 10 r)) := Lib.hid (by rw [HP.out, linesL_cons hnil]; simp)
      have hlen : pre.length < (linesL s).length := by
        have := congrArg List.length HL.out
        simp at this; omega
      have HI := Lib.hid (fun w => idxB14 w (txB r))
      rw [txB_list] at HI
      by_cases hm : (10 : UInt8) ∈ r
      · rw [if_pos hm] at HI
        obtain ⟨e1, e2, e3⟩ := cut_pieces r hm
        obtain ⟨m, hm2⟩ : ∃ m, (cutA 10 r).length = m := ⟨_, rfl⟩
        rw [hm2] at HI e1 e2 e3
        obtain ⟨X, hX⟩ : ∃ X, txB r = X := ⟨_, rfl⟩
        obtain ⟨Y, hY2⟩ : ∃ Y, txB (cutB 10 r) = Y := ⟨_, rfl⟩
        obtain ⟨Z, hZ⟩ : ∃ Z, txB (headL r) = Z := ⟨_, rfl⟩
        rw [hX] at HI e1 e2 hcx hsz
        rw [hY2] at e2
        rw [hZ] at e1
        have hcut : (X.extract (m + 1) X.size) = Y := by rw [hsz]; exact e2
        have hm0 : (0 : Int) ≤ (m : Int) := by omega
        have hwr : IntKind.i64.wrap ((m : Int) + 1) = ((m + 1 : Nat) : Int) := by rw [IntKind.wrap_i64]; omega
        have hm1 : (0 : Int) ≤ (m : Int) + 1 := by omega
        have ht1 : ((m : Int) + 1).toNat = m + 1 := by omega
        have hle : m + 1 ≤ X.size := by omega
        have hbx2 : Boxed ((wr.setCell ⟨B, 0, none⟩ (.string Y)).drew) B 9 (.string Y) := HC.out.set (.string Y)
        have HBX := Lib.hid hbx2
        have HX := Lib.hid hX
        have HY2 := Lib.hid hY2
        have HZ := Lib.hid hZ
        have HCB := Lib.hid (cutB_le 10 r)
        have hg2 : wr.grownBy ((wr.setCell ⟨B, 0, none⟩ (.string Y)).drew) (some B) := by
          have h := grownBy_setCell' wr B (.string Y)
          exact ⟨h.os, h.tape, h.output, h.size, h.block⟩
        have hj2 := hJ pre wr _ HJ.out ⟨hg2, _, _, _, HC.out⟩
        have E1 := Lib.hid e1
        have HLT := Lib.hid hlt2
        have E2 := Lib.hid e2
        have hy := hY pre (headL r) _ hj2 ⟨by have := head_len r; omega, (head_cut r).2.trans (head_cut r).1.symm⟩ hlen
        unfold encT at hy
        rw [hZ] at hy
        obtain ⟨fn, tmps, assign, body, hyy, hR⟩ := hy
        clear hX hY2 hZ hbx2 hj2 hg2 hm e1 e2 hcut hcx
        have hcx := HC.out.cell
        rw [HX.out] at hcx
        gi_wp2_with fail
        refine ⟨trivial, ?_⟩
        refine (callsIn_wide.2 (HI.out _)).mono ?_
        rintro e w' ⟨rfl, rfl⟩
        gi_wp2
        gi_region
        rw [E1.out, E2.out]
        clear hcx hfx
        gi_wp2
        refine hR.mono ?_
        clear hR hyy
        rintro e W3 (⟨rfl, hJ3, hk3⟩ | ⟨rfl, hJx3, _⟩)
        · have HJ3 := Lib.hid hJ3
          have HB3 := Lib.hid (hk3 _ HBX.out)
          have hb3 := HB3.out.cell
          have hb0 := HC.out.cell
          clear hJ3 hk3
          gi_wp2
          go_roundw
          case rel => exact ⟨cutB 10 r, pre ++ [headL r], by have := HCB.out; omega, HL, HJ3, Lib.hid (by rw [HY2.out]; exact HB3.out)⟩
          case measure =>
            rw [HB3.out.cell, HC.out.cell]
            show Y.size < (txB r).size
            rw [← HY2.out, txB_size, txB_size]
            exact HLT.out
        · have HQ : Hid (pre ++ [headL r] <+: linesL s) := Lib.hid ⟨_, HL.out.symm⟩
          gi_wp2
          exact ⟨rfl, .tuple #[], by simp [results, Tryd.f106, go_sem], ⟨_, rfl⟩, .inr ⟨_, HQ.out, hJx3⟩⟩
      · rw [if_neg hm] at HI
        have hh : headL r = r := by unfold headL; rw [if_neg hm]
        have hcb : cutB 10 r = [] := cutB_no 10 r hm
        obtain ⟨X, hX⟩ : ∃ X, txB r = X := ⟨_, rfl⟩
        rw [hX] at HI hcx hsz
        have hbx2 : Boxed (wr.setCell ⟨B, 0, none⟩ (.string ⟨#[]⟩)) B 9 (.string ⟨#[]⟩) := HC.out.set (.string ⟨#[]⟩)
        have HBX := Lib.hid hbx2
        have HX := Lib.hid hX
        have hj2 := hJ pre wr _ HJ.out ⟨grownBy_setCell' wr B (.string ⟨#[]⟩), _, _, _, HC.out⟩
        have hy := hY pre (headL r) _ hj2 ⟨by have := head_len r; omega, (head_cut r).2.trans (head_cut r).1.symm⟩ hlen
        unfold encT at hy
        rw [hh, hX] at hy
        have HLT := Lib.hid hpos
        have HHH := Lib.hid hh
        rw [hcb] at HL
        obtain ⟨fn, tmps, assign, body, hyy, hR⟩ := hy
        clear hX hbx2 hj2 hm hcx hh hcb hlt2
        have hcx := HC.out.cell
        rw [HX.out] at hcx
        gi_wp2_with fail
        refine ⟨trivial, ?_⟩
        refine (callsIn_wide.2 (HI.out _)).mono ?_
        rintro e w' ⟨rfl, rfl⟩
        gi_wp2
        refine hR.mono ?_
        clear hR hyy hcx hfx
        rintro e W3 (⟨rfl, hJ3, hk3⟩ | ⟨rfl, hJx3, _⟩)
        · have HJ3 : Hid (J (pre ++ [headL r]) W3) := Lib.hid (by rw [HHH.out]; exact hJ3)
          have HB3 := Lib.hid (hk3 _ HBX.out)
          have hb3 := HB3.out.cell
          clear hJ3 hk3
          gi_wp2
          go_roundw
          case rel => exact ⟨[], pre ++ [headL r], by simp, HL, HJ3, Lib.hid HB3.out⟩
          case measure =>
            rw [HB3.out.cell, HC.out.cell]
            show (⟨#[]⟩ : ByteArray).size < (txB r).size
            rw [txB_size]
            exact HLT.out
        · have HQ : Hid (pre ++ [r] <+: linesL s) := Lib.hid (by rw [← HHH.out]; exact ⟨_, HL.out.symm⟩)
          gi_wp2
          exact ⟨rfl, .tuple #[], by simp [results, Tryd.f106, go_sem], ⟨_, rfl⟩, .inr ⟨_, HQ.out, by simpa [HHH.out] using hJx3⟩⟩
/-- The iterator of lines, in any world in which the box holds the text. -/
theorem lines_seq (n B : Nat) (hn : 1 ≤ n) (s : List UInt8) (hs : s.length ≤ 1000000000) (w0 : World) (hc : w0.heap[B]? = some (.cells #[.string (txB s)] 9 (0, 0))) :
    SeqFr Fence.wide n Tryd.prog 106 #[.pointer (some ⟨B, 0, none⟩)] encT (LnFr B) (LnKp B) (fun _ _ => True) (fun x _ => x.length ≤ 1000000000 ∧ Lib.trimSuffix x [10] = cutA 10 x) (fun xs _ => xs = linesL s) (fun pre => pre <+: linesL s) (linesL s).length w0 := fun l J Jx W hW _ hJ _ hY h0 =>
  lines1_in n hn l B s hs J Jx hJ (fun pre x W1 hj hx hl => hY pre x W1 hj hx hl) W ((hW.block _ (Array.getElem?_eq_some_iff.1 hc).1).trans hc) h0
end Pgm
end Go.Proofs.YtfnimmbmcjgdpaaDoor
