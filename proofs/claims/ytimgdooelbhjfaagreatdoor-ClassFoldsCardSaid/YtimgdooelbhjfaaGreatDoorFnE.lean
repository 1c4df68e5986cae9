/- The landed fold: the ranges of all numbers that are in a pair. -/
import Derived.Test.YtimgdooelbhjfaaGreatDoorFnB
import Derived.Test.YtimgdooelbhjfaaGreatDoorFnD
import Derived.Test.YtimgdooelbhjfaaGreatDoorRgD
namespace Go.Proofs.YtimgdooelbhjfaaGreatDoor
open Go.RowKit
set_option linter.unusedVariables false
theorem flat2_two (l : List (Int × Int)) (a b c d : Int) : flat2 (l ++ [(a, b), (c, d)]) = flat2 l ++ [Value.int .i64 a, .int .i64 b, .int .i64 c, .int .i64 d] := by
  rw [show l ++ [(a, b), (c, d)] = (l ++ [(a, b)]) ++ [(c, d)] by simp, flat2_snoc, flat2_snoc]; simp
structure PairSt (i : Nat) (b : Fd.Blk) : Prop where
  eq : Fd.pairedOf (Fd.blocksL.take (i + 1)) = Fd.pairedOf (Fd.blocksL.take i) ++ [(b.1, b.2.1), (b.1 + b.2.2, b.2.1 + b.2.2)]
  len : (Fd.pairedOf (Fd.blocksL.take i)).length = i * 2
theorem pairSt (i : Nat) (hi : i < 14) (b : Fd.Blk) (h : Fd.blocksL[i]?.getD (0, 0, 0) = b) : PairSt i b := by
  subst h
  exact ⟨Fd.pairedOf_succ i hi, by rw [Fd.pairedOf_len, List.length_take, Fd.blocks_len]; omega⟩
def pairT (i : Nat) : List (Int × Int) := Fd.pairedOf (Fd.blocksL.take i)
set_option maxRecDepth 100000 in
set_option maxHeartbeats 4000000 in
theorem paired_any (W : World) :
    Calls Tryz.prog 43 #[] W fun e w' => ∃ v, e = .returned v ∧ RgOwn w' W.heap.size v Fd.pairedL ∧ Below W.heap.size W w' := by
  obtain ⟨i0, hi0, hz0, hz1, hz2⟩ := info_parts Tryz.infoRange
  go_enter Tryz.func43, Tryz.ntmps43
  go_wp2_with fail
  refine (blocks_ok _).mono ?_
  rintro e w1 ⟨A, rfl, HIX, hb⟩
  have HB1 := Lib.hid hb
  clear hb
  go_wp2
  go_loopw [1, 5] (fun O I wr => ∃ i : Nat, i ≤ 14 ∧ I = .int .i64 i ∧ Hid (RgOwn wr W.heap.size O (pairT i)) ∧ Hid (Below W.heap.size W wr)) (fun _ I _ => 14 - (intOf I).toNat)
  case atStart => exact ⟨0, by omega, rfl, Lib.hid RgOwn.nil, HB1⟩
  case round =>
    obtain ⟨i, hi, rfl, HOi, HBi⟩ := hrel
    have hsz := HBi.out.size
    by_cases hlt : i < 14
    · have hbm := blk_idx i hlt
      have hix := HIX.out i hlt
      obtain ⟨b, hbb⟩ : ∃ b, Fd.blocksL[i]?.getD (0, 0, 0) = b := ⟨_, rfl⟩
      have HP := pairSt i hlt b hbb
      rw [hbb] at hbm hix
      have hbd := blk_bd b hbm
      clear hbb hbm
      obtain ⟨p, q, s⟩ := b
      dsimp only at hix hbd
      obtain ⟨a1, a2, a3, a4, a5, a6⟩ := hbd
      have hown := HOi.out
      unfold RgOwn pairT at hown
      rw [HP.len] at hown
      have q1 : (p + s + 9223372036854775808) % 18446744073709551616 - 9223372036854775808 = p + s := by omega
      have q2 : (q + s + 9223372036854775808) % 18446744073709551616 - 9223372036854775808 = q + s := by omega
      go_wp2_with (at_builtin; (refine wpList_append_own _ (by rfl) _ _ 22 (by rfl) W.heap.size 42 i0 (.agg #[.int .i64 0, .int .i64 0]) 2 16 Tryz.underlying22 hi0 hz0 hz1 hz2 rfl (by decide) _ (i * 2) (flat2 (Fd.pairedOf (Fd.blocksL.take i))) (by rfl) ((hown.alloc _).alloc _) ⟨wr.heap.size + 1, 0, none⟩ 2 2 [.int .i64 p, .int .i64 q, .int .i64 (p + s), .int .i64 (q + s)] (by rfl) rfl ?c1 (by simp [Value.oneCell']) (by unfold maxLen; omega) (by omega) (by simp; omega) ?_))
      case c1 => exact World.news_of_block (cs := #[.int .i64 p, .int .i64 q, .int .i64 (p + s), .int .i64 (q + s)]) (heap_new2 _ _ _)
      intro v1 w3 hown1 hgrow _
      have hO2 : RgOwn w3 W.heap.size v1 (pairT (i + 1)) := by
        unfold RgOwn pairT; rw [HP.eq, List.length_append, HP.len, flat2_two]; exact hown1
      have hB2 := ((HBi.out.alloc hsz _).alloc (by simp; omega) _).grown hgrow (by simp; omega) (fun q hq => (hown.lt q hq).1)
      have HO2 := Lib.hid hO2
      have HB2 := Lib.hid hB2
      clear hO2 hown1 hgrow hown hB2 HP
      go_wp2
      go_roundw
      case rel => exact ⟨i + 1, by omega, by go_num, HO2, HB2⟩
      case measure => simp [intOf]; omega
    · obtain rfl : i = 14 := by omega
      have hO := HOi.out
      unfold pairT at hO
      rw [List.take_of_length_le (by rw [Fd.blocks_len]; exact Nat.le_refl _)] at hO
      have HO2 : Hid (RgOwn wr W.heap.size u1 Fd.pairedL) := Lib.hid hO
      clear hO
      go_wp2
      go_ret
      exact ⟨_, rfl, HO2.out, HBi.out⟩
end Go.Proofs.YtimgdooelbhjfaaGreatDoor
