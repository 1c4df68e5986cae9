/- The landed fold: the table of blocks, and a number's partner in a block. -/
import Derived.Test.YtimgdooelbhjfaaGreatDoorRgI
import Derived.Test.YtimgdooelbhjfaaGreatDoorFnM
import Derived.Shelf.SlSortCmp.QuietGrown
namespace Go.Proofs.YtimgdooelbhjfaaGreatDoor
open Go.RowKit
set_option linter.unusedVariables false
def blkV (b : Fd.Blk) : Value := .agg #[.int .i64 b.1, .int .i64 b.2.1, .int .i64 b.2.2]
def blksA : Array Value := #[.int .i64 65, .int .i64 90, .int .i64 32, .int .i64 192, .int .i64 214, .int .i64 32, .int .i64 216, .int .i64 222, .int .i64 32, .int .i64 913, .int .i64 929, .int .i64 32, .int .i64 931, .int .i64 939, .int .i64 32, .int .i64 1040, .int .i64 1071, .int .i64 32, .int .i64 1024, .int .i64 1039, .int .i64 80, .int .i64 255, .int .i64 255, .int .i64 121, .int .i64 181, .int .i64 181, .int .i64 743, .int .i64 931, .int .i64 931, .int .i64 31, .int .i64 75, .int .i64 75, .int .i64 8415, .int .i64 197, .int .i64 197, .int .i64 8294, .int .i64 83, .int .i64 83, .int .i64 300, .int .i64 937, .int .i64 937, .int .i64 7549]
def blksV : Value := .agg blksA
theorem below_setRow {w w' : World} {B g : Nat} {cs : Array Value} (h : Below B w w') (hg : B ≤ g) : Below B w (w'.setRow g cs) :=
  ⟨h.os, h.tape, h.output, by have := h.size; simp [World.setRow]; omega, fun k hk => by rw [setRow_other _ _ _ _ (by omega)]; exact h.block k hk⟩
theorem wpList_buildTo {P : Program} {ops : Array Oper} {rest : List Oper} {o : Oper} {a : Act} {w : World} {Q : Exit → Act → World → Prop} (hg : o.guard = none) (t : TypeId) (parts : Array (Nat × Operand)) (ho : o.op = .build t parts) (cells : Array Value)
    (hf : P.built t (parts.map fun (i, x) => (i, a.eval x)).toList = some cells)
    (h : wpList P ops Q rest (a.put o.dst (.agg cells)) w) : wpList P ops Q (o :: rest) a w :=
  wpList_build hg t parts ho (by rw [hf]; rfl) (by rw [hf]; exact h)
set_option maxRecDepth 100000 in
set_option maxHeartbeats 2000000 in
theorem blocks_any (W : World) :
    Calls Tryz.prog 63 #[] W fun e w' => e = .returned blksV ∧ Below W.heap.size W w' := by
  go_enter Tryz.func63, Tryz.ntmps63
  iterate 11 go_step
  refine wpList_buildTo rfl 76 _ rfl #[.int .i64 65, .int .i64 90, .int .i64 32] (by kernel_rfl) ?_
  refine wpList_buildTo rfl 76 _ rfl #[.int .i64 192, .int .i64 214, .int .i64 32] (by kernel_rfl) ?_
  refine wpList_buildTo rfl 76 _ rfl #[.int .i64 216, .int .i64 222, .int .i64 32] (by kernel_rfl) ?_
  refine wpList_buildTo rfl 76 _ rfl #[.int .i64 913, .int .i64 929, .int .i64 32] (by kernel_rfl) ?_
  refine wpList_buildTo rfl 76 _ rfl #[.int .i64 931, .int .i64 939, .int .i64 32] (by kernel_rfl) ?_
  refine wpList_buildTo rfl 76 _ rfl #[.int .i64 1040, .int .i64 1071, .int .i64 32] (by kernel_rfl) ?_
  refine wpList_buildTo rfl 76 _ rfl #[.int .i64 1024, .int .i64 1039, .int .i64 80] (by kernel_rfl) ?_
  refine wpList_buildTo rfl 76 _ rfl #[.int .i64 255, .int .i64 255, .int .i64 121] (by kernel_rfl) ?_
  refine wpList_buildTo rfl 76 _ rfl #[.int .i64 181, .int .i64 181, .int .i64 743] (by kernel_rfl) ?_
  refine wpList_buildTo rfl 76 _ rfl #[.int .i64 931, .int .i64 931, .int .i64 31] (by kernel_rfl) ?_
  refine wpList_buildTo rfl 76 _ rfl #[.int .i64 75, .int .i64 75, .int .i64 8415] (by kernel_rfl) ?_
  refine wpList_buildTo rfl 76 _ rfl #[.int .i64 197, .int .i64 197, .int .i64 8294] (by kernel_rfl) ?_
  refine wpList_buildTo rfl 76 _ rfl #[.int .i64 83, .int .i64 83, .int .i64 300] (by kernel_rfl) ?_
  refine wpList_buildTo rfl 76 _ rfl #[.int .i64 937, .int .i64 937, .int .i64 7549] (by kernel_rfl) ?_
  refine wpList_buildTo rfl 77 _ rfl blksA (by kernel_rfl) ?_
  refine wpList_store_row rfl 77 _ _ rfl W.heap.size blksA (by kernel_rfl) (by kernel_rfl) 77 _ (heap_alloc_new _ _) (by kernel_rfl) (by kernel_rfl) (by kernel_rfl) ?_
  refine wpList_nil ?_
  iterate 2 go_step
  go_step
  refine bodyPost_ret (results_cell_row rfl _ _ W.heap.size 77 blksA _ _ (by kernel_rfl) (setRow_heap _ _ _ _ _ _ (heap_alloc_new _ _)) Tryz.underlying77 rfl (by kernel_rfl)) rfl ?_
  exact ⟨rfl, below_setRow ((Below.refl W.heap.size W).alloc (Nat.le_refl _) _) (Nat.le_refl _)⟩
theorem blk_idx (i : Nat) (h : i < 14) : (Fd.blocksL[i]?.getD (0, 0, 0)) ∈ Fd.blocksL := by
  rw [List.getElem?_eq_getElem (by rw [Fd.blocks_len]; exact h)]; exact List.getElem_mem _
theorem blk_bd : ∀ b ∈ Fd.blocksL, 0 ≤ b.1 ∧ b.1 ≤ 10000 ∧ 0 ≤ b.2.1 ∧ b.2.1 ≤ 10000 ∧ 0 ≤ b.2.2 ∧ b.2.2 ≤ 10000 := by decide +kernel
set_option maxRecDepth 100000 in
set_option maxHeartbeats 2000000 in
theorem partner_any (W : World) (b : Fd.Blk) (x : Int) (hb : b ∈ Fd.blocksL) :
    Calls Tryz.prog 64 #[blkV b, .int .i64 x] W fun e w' => e = .returned (.int .i64 (Fd.partner b x)) ∧ ∃ q os', w' = Go.Sort.grow (W.drewN q) os' := by
  have hbd := blk_bd b hb
  have HP : Hid (∀ r, Fd.partner b x = r → Fd.partner b x = r) := Lib.hid (fun _ h => h)
  have H1 : Hid (b.1 ≤ x → x ≤ b.2.1 → Fd.partner b x = x + b.2.2) := Lib.hid (fun h1 h2 => by unfold Fd.partner; rw [if_pos ⟨h1, h2⟩])
  have H2 : Hid (¬ (b.1 ≤ x ∧ x ≤ b.2.1) → b.1 + b.2.2 ≤ x → x ≤ b.2.1 + b.2.2 → Fd.partner b x = x - b.2.2) := Lib.hid (fun h0 h1 h2 => by unfold Fd.partner; rw [if_neg h0, if_pos ⟨h1, h2⟩])
  have H3 : Hid (¬ (b.1 ≤ x ∧ x ≤ b.2.1) → ¬ (b.1 + b.2.2 ≤ x ∧ x ≤ b.2.1 + b.2.2) → Fd.partner b x = x) := Lib.hid (fun h0 h1 => by unfold Fd.partner; rw [if_neg h0, if_neg h1])
  have HG : Hid (∀ o : Obj, W.alloc o = Go.Sort.grow (W.drewN 0) #[o]) := Lib.hid (fun o => by rw [Go.Sort.alloc_eq_grow]; rfl)
  obtain ⟨p, q, s⟩ := b
  unfold blkV
  generalize Fd.partner (p, q, s) x = r at *
  dsimp only at hbd H1 H2 H3 ⊢
  obtain ⟨a1, a2, a3, a4, a5, a6⟩ := hbd
  clear hb HP
  have q1 : (p + s + 9223372036854775808) % 18446744073709551616 - 9223372036854775808 = p + s := by omega
  have q2 : (q + s + 9223372036854775808) % 18446744073709551616 - 9223372036854775808 = q + s := by omega
  by_cases c1 : p ≤ x
  · by_cases c2 : x ≤ q
    · have HE := Lib.hid (H1.out c1 c2)
      go_enter Tryz.func64, Tryz.ntmps64
      go_wp2
      go_ret
      exact ⟨rg_ret_int (by rw [HE.out]), 0, _, HG.out _⟩
    · by_cases c3 : p + s ≤ x
      · by_cases c4 : x ≤ q + s
        · have HE := Lib.hid (H2.out (fun h => c2 h.2) c3 c4)
          go_enter Tryz.func64, Tryz.ntmps64
          go_wp2
          go_ret
          exact ⟨rg_ret_int (by rw [HE.out]), 0, _, HG.out _⟩
        · have HE := Lib.hid (H3.out (fun h => c2 h.2) (fun h => c4 h.2))
          go_enter Tryz.func64, Tryz.ntmps64
          go_wp2
          go_ret
          exact ⟨rg_ret_int (by rw [HE.out]), 0, _, HG.out _⟩
      · have HE := Lib.hid (H3.out (fun h => c2 h.2) (fun h => c3 h.1))
        go_enter Tryz.func64, Tryz.ntmps64
        go_wp2
        go_ret
        exact ⟨rg_ret_int (by rw [HE.out]), 0, _, HG.out _⟩
  · have HE := Lib.hid (H3.out (fun h => c1 h.1) (fun h => c1 (by omega)))
    have c3 : ¬ p + s ≤ x := by omega
    go_enter Tryz.func64, Tryz.ntmps64
    go_wp2
    go_ret
    exact ⟨rg_ret_int (by rw [HE.out]), 0, _, HG.out _⟩
end Go.Proofs.YtimgdooelbhjfaaGreatDoor
