/- The plain mathematics of the landed fold: blocks, partners, the walk round a family; no program. · The landed fold: the table of blocks, and a number's partner in a block. · slices.Sort, slices.Contains, slices.Index at lists of integers: the library's contracts, laid over this translation. -/
import Derived.Test.YtcomjkoaieeidaaGreatDoorGp20
import Derived.Test.YtcomjkoaieeidaaGreatDoorGp12
import Derived.Shelf.SlSortCmp.QuietGrown
import Derived.Shelf.Sort.Plain
import Derived.Shelf.Slices.Turned
import Derived.Test.YtcomjkoaieeidaaGreatDoorProg
namespace Go.Proofs.YtcomjkoaieeidaaGreatDoor.Fd
set_option linter.unusedVariables false
abbrev Blk := Int × Int × Int
def blocksL : List Blk := [(65, 90, 32), (192, 214, 32), (216, 222, 32), (913, 929, 32), (931, 939, 32), (1040, 1071, 32), (1024, 1039, 80), (255, 255, 121), (181, 181, 743), (931, 931, 31), (75, 75, 8415), (197, 197, 8294), (83, 83, 300), (937, 937, 7549)]
theorem blocks_len : blocksL.length = 14 := rfl
def partner (b : Blk) (x : Int) : Int :=
  if b.1 ≤ x ∧ x ≤ b.2.1 then x + b.2.2 else if b.1 + b.2.2 ≤ x ∧ x ≤ b.2.1 + b.2.2 then x - b.2.2 else x
def addB (x : Int) (o : List Int) (b : Blk) : List Int := if joinB o (partner b x) then o else o ++ [partner b x]
def scan (x : Int) (o : List Int) : List Int := blocksL.foldl (addB x) o
def walkL (r : Int) : Nat → List Int
  | 0 => [r]
  | v + 1 => scan ((walkL r v)[v]?.getD 0) (walkL r v)
theorem addB_len (x : Int) (o : List Int) (b : Blk) : o.length ≤ (addB x o b).length ∧ (addB x o b).length ≤ o.length + 1 := by
  unfold addB; split <;> simp
theorem scan_len (x : Int) : ∀ (bs : List Blk) (o : List Int), o.length ≤ (bs.foldl (addB x) o).length ∧ (bs.foldl (addB x) o).length ≤ o.length + bs.length
  | [], o => by simp
  | b :: bs, o => by
    have h1 := addB_len x o b
    have h2 := scan_len x bs (addB x o b)
    rw [List.foldl_cons, List.length_cons]; omega
theorem walk_len (r : Int) : ∀ v, 1 ≤ (walkL r v).length ∧ (walkL r v).length ≤ 1 + v * 14
  | 0 => ⟨Nat.le_refl _, Nat.le_refl _⟩
  | v + 1 => by
    have h1 := walk_len r v
    have h2 := scan_len ((walkL r v)[v]?.getD 0) blocksL (walkL r v)
    rw [blocks_len] at h2
    show 1 ≤ (scan _ _).length ∧ (scan _ _).length ≤ _
    unfold scan; omega
/-- What is in no pair has no partner. -/
theorem partner_none {r : Int} (h : r ∉ members) : ∀ b ∈ blocksL, partner b r = r := by
  have hf : ∀ b ∈ blocksL, ∀ x, b.1 ≤ x → x ≤ b.2.1 → x ∈ membersE ∧ x + b.2.2 ∈ membersE := by
    have hd : (blocksL.all fun b => (List.range (b.2.1 - b.1 + 1).toNat).all fun (i : Nat) => joinB membersE (b.1 + i) && joinB membersE (b.1 + i + b.2.2)) = true := by decide +kernel
    intro b hb x h1 h2
    have h3 := List.all_eq_true.1 (List.all_eq_true.1 hd b hb) (x - b.1).toNat (List.mem_range.2 (by omega))
    simp only [Bool.and_eq_true, joinB_iff] at h3
    rw [show b.1 + (((x - b.1).toNat : Nat) : Int) = x from by omega] at h3
    exact h3
  intro b hb
  unfold partner
  by_cases h1 : b.1 ≤ r ∧ r ≤ b.2.1
  · exact absurd (by rw [← membersE_eq]; exact (hf b hb r h1.1 h1.2).1) h
  · rw [if_neg h1]
    by_cases h2 : b.1 + b.2.2 ≤ r ∧ r ≤ b.2.1 + b.2.2
    · refine absurd ?_ h
      rw [← membersE_eq]
      have := (hf b hb (r - b.2.2) (by omega) (by omega)).2
      rwa [show r - b.2.2 + b.2.2 = r from by omega] at this
    · rw [if_neg h2]
theorem scan_none {r : Int} : ∀ (bs : List Blk), (∀ b ∈ bs, partner b r = r) → bs.foldl (addB r) [r] = [r]
  | [], _ => rfl
  | b :: bs, h => by
    have : addB r [r] b = [r] := by
      unfold addB; rw [h b (by simp), if_pos ((joinB_iff _ _).2 (by simp))]
    rw [List.foldl_cons, this]
    exact scan_none bs fun c hc => h c (by simp [hc])
/-- The same, so written that it reckons fast. -/
def scanF (x : Int) : List Blk → List Int → List Int
  | [], o => o
  | b :: bs, o => force (addB x o b) (scanF x bs)
theorem scanF_eq (x : Int) : ∀ (bs : List Blk) (o : List Int), scanF x bs o = bs.foldl (addB x) o
  | [], _ => rfl
  | b :: bs, o => by rw [scanF, force_eq, List.foldl_cons, scanF_eq x bs]
def walkF (r : Int) : Nat → List Int
  | 0 => [r]
  | v + 1 => force (walkF r v) fun o => scanF (o[v]?.getD 0) blocksL o
theorem walkF_eq (r : Int) : ∀ v, walkF r v = walkL r v
  | 0 => rfl
  | v + 1 => by rw [walkF, force_eq, scanF_eq, walkF_eq r v]; rfl
/-- Where the walk ends, and that it goes on till then. -/
def okW (r : Int) (N : Nat) : Bool := decide (1 ≤ N) && decide (N ≤ 3) && decide ((walkF r N).length = N) && ((List.range N).all fun v => decide (v < (walkF r v).length)) && (walkF r N).isPerm (famF r)
theorem walks_ok : (membersE.all fun r => okW r 2 || okW r 3) = true := by decide +kernel
theorem walk_cases (r : Int) : ∃ N, 1 ≤ N ∧ N ≤ 3 ∧ (walkL r N).length = N ∧ (∀ v, v < N → v < (walkL r v).length) ∧ (walkL r N).Perm (fam r) := by
  have hk : ∀ N, okW r N = true → 1 ≤ N ∧ N ≤ 3 ∧ (walkL r N).length = N ∧ (∀ v, v < N → v < (walkL r v).length) ∧ (walkL r N).Perm (fam r) := by
    intro N h
    simp only [okW, Bool.and_eq_true, decide_eq_true_eq, List.all_eq_true, List.mem_range, walkF_eq, List.isPerm_iff, famF_eq] at h
    exact ⟨h.1.1.1.1, h.1.1.1.2, h.1.1.2, h.1.2, h.2⟩
  by_cases h : r ∈ members
  · have h1 := List.all_eq_true.1 walks_ok r (by rw [membersE_eq]; exact h)
    rw [Bool.or_eq_true] at h1
    rcases h1 with h1 | h1
    · exact ⟨2, hk 2 h1⟩
    · exact ⟨3, hk 3 h1⟩
  · have e : walkL r 1 = [r] := by
      have h0 : walkL r 1 = scan r [r] := rfl
      rw [h0]; unfold scan; exact scan_none blocksL (partner_none h)
    refine ⟨1, Nat.le_refl _, by omega, by rw [e]; rfl, fun v hv => ?_, ?_⟩
    · obtain rfl : v = 0 := by omega
      exact Nat.zero_lt_one
    · rcases fam_cases r with ⟨_, h1⟩ | ⟨h1, _⟩
      · rw [e, h1]
      · exact absurd h1 h
/-- Sorted, what the walk found is the family. -/
theorem sorted_fam {r : Int} {l : List Int} (h : l.Perm (fam r)) : (l.mergeSort fun x y => decide (x ≤ y)) = fam r := by
  have hs : (l.mergeSort fun x y => decide (x ≤ y)).Pairwise (fun a b => a ≤ b) := by
    have := List.pairwise_mergeSort (le := fun (x y : Int) => decide (x ≤ y)) (fun a b c h1 h2 => by simp only [decide_eq_true_eq] at *; omega) (fun a b => by simp only [Bool.or_eq_true, decide_eq_true_eq]; omega) l
    exact this.imp (fun h => by simpa using h)
  have hp : (l.mergeSort fun x y => decide (x ≤ y)).Perm (fam r) := (List.mergeSort_perm _ _).trans h
  exact hp.eq_of_pairwise (le := fun a b => a ≤ b) (fun a b _ _ h1 h2 => by omega) hs ((fam_asc r).imp (fun h => by omega))
end Go.Proofs.YtcomjkoaieeidaaGreatDoor.Fd
namespace Go.Proofs.YtcomjkoaieeidaaGreatDoor
open Go.RowKit
set_option linter.unusedVariables false
def blkV (b : Fd.Blk) : Value := .agg #[.int .i64 b.1, .int .i64 b.2.1, .int .i64 b.2.2]
def blksA : Array Value := #[.int .i64 65, .int .i64 90, .int .i64 32, .int .i64 192, .int .i64 214, .int .i64 32, .int .i64 216, .int .i64 222, .int .i64 32, .int .i64 913, .int .i64 929, .int .i64 32, .int .i64 931, .int .i64 939, .int .i64 32, .int .i64 1040, .int .i64 1071, .int .i64 32, .int .i64 1024, .int .i64 1039, .int .i64 80, .int .i64 255, .int .i64 255, .int .i64 121, .int .i64 181, .int .i64 181, .int .i64 743, .int .i64 931, .int .i64 931, .int .i64 31, .int .i64 75, .int .i64 75, .int .i64 8415, .int .i64 197, .int .i64 197, .int .i64 8294, .int .i64 83, .int .i64 83, .int .i64 300, .int .i64 937, .int .i64 937, .int .i64 7549]
def blksV : Value := .agg blksA
theorem below_setRow {w w' : World} {B g : Nat} {cs : Array Value} (h : Below B w w') (hg : B ≤ g) : Below B w (w'.setRow g cs) :=
  ⟨h.os, h.tape, h.output, by have := h.size; simp [World.setRow]; omega, fun k hk => by rw [setRow_other _ _ _ _ (by omega)]; exact h.block k hk⟩
theorem wpList_buildTo {P : Program} {ops : Array Oper} {rest : List Oper} {o : Oper} {a : Act} {w : World} {Q : Exit → Act → World → Prop} (hg : o.guard = none) (t : TypeId) (parts : Array (Nat × Operand)) (ho : o.op = .build t parts) (cells : Array Value)
    (hf : P.built t (parts.map fun (i, x) => (i, a.eval x)).toList = some cells)
    (h : wpList P ops Q rest (a.put o.dst (.agg cells)) w) : wpList P ops Q (o :: rest) a w :=
  wpList_build hg t parts ho (by rw [hf]; rfl) (by rw [hf]; exact h)
set_option maxRecDepth 100000 in
set_option maxHeartbeats 2000000 in
theorem blocks_any (W : World) :
    Calls Tryz.prog 75 #[] W fun e w' => e = .returned blksV ∧ Below W.heap.size W w' := by
  go_enter Tryz.func75, Tryz.ntmps75
  iterate 11 go_step
  refine wpList_buildTo rfl 88 _ rfl #[.int .i64 65, .int .i64 90, .int .i64 32] (by kernel_rfl) ?_
  refine wpList_buildTo rfl 88 _ rfl #[.int .i64 192, .int .i64 214, .int .i64 32] (by kernel_rfl) ?_
  refine wpList_buildTo rfl 88 _ rfl #[.int .i64 216, .int .i64 222, .int .i64 32] (by kernel_rfl) ?_
  refine wpList_buildTo rfl 88 _ rfl #[.int .i64 913, .int .i64 929, .int .i64 32] (by kernel_rfl) ?_
  refine wpList_buildTo rfl 88 _ rfl #[.int .i64 931, .int .i64 939, .int .i64 32] (by kernel_rfl) ?_
  refine wpList_buildTo rfl 88 _ rfl #[.int .i64 1040, .int .i64 1071, .int .i64 32] (by kernel_rfl) ?_
  refine wpList_buildTo rfl 88 _ rfl #[.int .i64 1024, .int .i64 1039, .int .i64 80] (by kernel_rfl) ?_
  refine wpList_buildTo rfl 88 _ rfl #[.int .i64 255, .int .i64 255, .int .i64 121] (by kernel_rfl) ?_
  refine wpList_buildTo rfl 88 _ rfl #[.int .i64 181, .int .i64 181, .int .i64 743] (by kernel_rfl) ?_
  refine wpList_buildTo rfl 88 _ rfl #[.int .i64 931, .int .i64 931, .int .i64 31] (by kernel_rfl) ?_
  refine wpList_buildTo rfl 88 _ rfl #[.int .i64 75, .int .i64 75, .int .i64 8415] (by kernel_rfl) ?_
  refine wpList_buildTo rfl 88 _ rfl #[.int .i64 197, .int .i64 197, .int .i64 8294] (by kernel_rfl) ?_
  refine wpList_buildTo rfl 88 _ rfl #[.int .i64 83, .int .i64 83, .int .i64 300] (by kernel_rfl) ?_
  refine wpList_buildTo rfl 88 _ rfl #[.int .i64 937, .int .i64 937, .int .i64 7549] (by kernel_rfl) ?_
  refine wpList_buildTo rfl 89 _ rfl blksA (by kernel_rfl) ?_
  refine wpList_store_row rfl 89 _ _ rfl W.heap.size blksA (by kernel_rfl) (by kernel_rfl) 89 _ (heap_alloc_new _ _) (by kernel_rfl) (by kernel_rfl) (by kernel_rfl) ?_
  refine wpList_nil ?_
  iterate 2 go_step
  go_step
  refine bodyPost_ret (results_cell_row rfl _ _ W.heap.size 89 blksA _ _ (by kernel_rfl) (setRow_heap _ _ _ _ _ _ (heap_alloc_new _ _)) Tryz.underlying89 rfl (by kernel_rfl)) rfl ?_
  exact ⟨rfl, below_setRow ((Below.refl W.heap.size W).alloc (Nat.le_refl _) _) (Nat.le_refl _)⟩
theorem blk_idx (i : Nat) (h : i < 14) : (Fd.blocksL[i]?.getD (0, 0, 0)) ∈ Fd.blocksL := by
  rw [List.getElem?_eq_getElem (by rw [Fd.blocks_len]; exact h)]; exact List.getElem_mem _
theorem blk_bd : ∀ b ∈ Fd.blocksL, 0 ≤ b.1 ∧ b.1 ≤ 10000 ∧ 0 ≤ b.2.1 ∧ b.2.1 ≤ 10000 ∧ 0 ≤ b.2.2 ∧ b.2.2 ≤ 10000 := by decide +kernel
set_option maxRecDepth 100000 in
set_option maxHeartbeats 2000000 in
theorem partner_any (W : World) (b : Fd.Blk) (x : Int) (hb : b ∈ Fd.blocksL) :
    Calls Tryz.prog 76 #[blkV b, .int .i64 x] W fun e w' => e = .returned (.int .i64 (Fd.partner b x)) ∧ ∃ q os', w' = Go.Sort.grow (W.drewN q) os' := by
  have hbd := blk_bd b hb
  have HP : Hid (∀ r, Fd.partner b x = r → Fd.partner b x = r) := Lib.hid (fun _ h => h)
  have H1 : Hid (b.1 ≤ x → x ≤ b.2.1 → Fd.partner b x = x + b.2.2) := Lib.hid (fun h1 h2 => by unfold Fd.partner; rw [if_pos ⟨h1, h2⟩])
  have H2 : Hid (¬ (b.1 ≤ x ∧ x ≤ b.2.1) → b.1 + b.2.2 ≤ x → x ≤ b.2.1 + b.2.2 → Fd.partner b x = x - b.2.2) := Lib.hid (fun h0 h1 h2 => by unfold Fd.partner; rw [if_neg h0, if_pos ⟨h1, h2⟩])
  have H3 : Hid (¬ (b.1 ≤ x ∧ x ≤ b.2.1) → ¬ (b.1 + b.2.2 ≤ x ∧ x ≤ b.2.1 + b.2.2) → Fd.partner b x = x) := Lib.hid (fun h0 h1 => by unfold Fd.partner; rw [if_neg h0, if_neg h1])
  have HG : Hid (∀ o : Obj, W.alloc o = Go.Sort.grow (W.drewN 0) #[o]) := Lib.hid (fun o => by rw [Go.Sort.alloc_eq_grow]; rfl)
  obtain ⟨p, q, s⟩ := b
  unfold blkV
  generalize Fd.partner (p, q, s) x = r at *
  dsimp only at hbd H1 H2 H3 ⊢
  obtain ⟨a1, a2, a3, a4, a5, a6⟩ := hbd
  clear hb HP
  have q1 : (p + s + 9223372036854775808) % 18446744073709551616 - 9223372036854775808 = p + s := by omega
  have q2 : (q + s + 9223372036854775808) % 18446744073709551616 - 9223372036854775808 = q + s := by omega
  by_cases c1 : p ≤ x
  · by_cases c2 : x ≤ q
    · have HE := Lib.hid (H1.out c1 c2)
      go_enter Tryz.func76, Tryz.ntmps76
      go_wp2
      go_ret
      exact ⟨rg_ret_int (by rw [HE.out]), 0, _, HG.out _⟩
    · by_cases c3 : p + s ≤ x
      · by_cases c4 : x ≤ q + s
        · have HE := Lib.hid (H2.out (fun h => c2 h.2) c3 c4)
          go_enter Tryz.func76, Tryz.ntmps76
          go_wp2
          go_ret
          exact ⟨rg_ret_int (by rw [HE.out]), 0, _, HG.out _⟩
        · have HE := Lib.hid (H3.out (fun h => c2 h.2) (fun h => c4 h.2))
          go_enter Tryz.func76, Tryz.ntmps76
          go_wp2
          go_ret
          exact ⟨rg_ret_int (by rw [HE.out]), 0, _, HG.out _⟩
      · have HE := Lib.hid (H3.out (fun h => c2 h.2) (fun h => c3 h.1))
        go_enter Tryz.func76, Tryz.ntmps76
        go_wp2
        go_ret
        exact ⟨rg_ret_int (by rw [HE.out]), 0, _, HG.out _⟩
  · have HE := Lib.hid (H3.out (fun h => c1 h.1) (fun h => c1 (by omega)))
    have c3 : ¬ p + s ≤ x := by omega
    go_enter Tryz.func76, Tryz.ntmps76
    go_wp2
    go_ret
    exact ⟨rg_ret_int (by rw [HE.out]), 0, _, HG.out _⟩
end Go.Proofs.YtcomjkoaieeidaaGreatDoor
namespace Go.Proofs
open Go.Shelf
def Tryz.sortInts_ren : Go.Shelf.Ren := ⟨fun | 189 => 78 | 125 => 101 | 257 => 107 | 128 => 125 | 129 => 126 | 294 => 128 | 295 => 129 | 296 => 130 | 297 => 131 | 298 => 132 | 299 => 133 | 216 => 134 | 300 => 135 | 301 => 136 | 328 => 149 | 329 => 145 | 330 => 146 | 331 => 150 | 332 => 151 | 215 => 102 | 343 => 160 | n => n, fun | 28 => 58 | 3 => 3 | 46 => 93 | 0 => 0 | 51 => 128 | 53 => 130 | 4 => 4 | 183 => 121 | 182 => 120 | 131 => 125 | 5 => 5 | 9 => 9 | 218 => 145 | 222 => 149 | 228 => 160 | 229 => 46 | n => n, fun | n => n⟩
theorem Tryz.sortInts : Go.Proofs.Lays.n189 Tryz.prog Tryz.sortInts_ren := {
  mixed := by kernel_rfl
  f125 := Tryz.func101.trans (congrArg some (by kernel_rfl))
  f128 := Tryz.func125.trans (congrArg some (by kernel_rfl))
  f129 := Tryz.func126.trans (congrArg some (by kernel_rfl))
  f189 := Tryz.func78.trans (congrArg some (by kernel_rfl))
  f215 := Tryz.func102.trans (congrArg some (by kernel_rfl))
  f216 := Tryz.func134.trans (congrArg some (by kernel_rfl))
  f257 := Tryz.func107.trans (congrArg some (by kernel_rfl))
  f294 := Tryz.func128.trans (congrArg some (by kernel_rfl))
  f295 := Tryz.func129.trans (congrArg some (by kernel_rfl))
  f296 := Tryz.func130.trans (congrArg some (by kernel_rfl))
  f297 := Tryz.func131.trans (congrArg some (by kernel_rfl))
  f298 := Tryz.func132.trans (congrArg some (by kernel_rfl))
  f299 := Tryz.func133.trans (congrArg some (by kernel_rfl))
  f300 := Tryz.func135.trans (congrArg some (by kernel_rfl))
  f301 := Tryz.func136.trans (congrArg some (by kernel_rfl))
  f328 := Tryz.func149.trans (congrArg some (by kernel_rfl))
  f329 := Tryz.func145.trans (congrArg some (by kernel_rfl))
  f330 := Tryz.func146.trans (congrArg some (by kernel_rfl))
  f331 := Tryz.func150.trans (congrArg some (by kernel_rfl))
  f332 := Tryz.func151.trans (congrArg some (by kernel_rfl))
  f343 := Tryz.func160.trans (congrArg some (by kernel_rfl))
  t0 := Tryz.underlying0
  a0 := Tryz.isAgg0
  z0 := Tryz.sizeOf0
  v0 := Tryz.zeroValue0
  t3 := Tryz.underlying3
  a3 := Tryz.isAgg3
  z3 := Tryz.sizeOf3
  v3 := Tryz.zeroValue3
  t4 := Tryz.underlying4
  a4 := Tryz.isAgg4
  z4 := Tryz.sizeOf4
  v4 := Tryz.zeroValue4
  t5 := Tryz.underlying5
  a5 := Tryz.isAgg5
  z5 := Tryz.sizeOf5
  v5 := Tryz.zeroValue5
  t9 := Tryz.underlying9
  a9 := Tryz.isAgg9
  z9 := Tryz.sizeOf9
  v9 := Tryz.zeroValue9
  t28 := Tryz.underlying58
  a28 := Tryz.isAgg58
  z28 := Tryz.sizeOf58
  v28 := Tryz.zeroValue58
  t46 := Tryz.underlying93
  a46 := Tryz.isAgg93
  z46 := Tryz.sizeOf93
  v46 := Tryz.zeroValue93
  t51 := Tryz.underlying128
  a51 := Tryz.isAgg128
  z51 := Tryz.sizeOf128
  v51 := Tryz.zeroValue128
  t53 := Tryz.underlying130
  a53 := Tryz.isAgg130
  z53 := Tryz.sizeOf130
  v53 := Tryz.zeroValue130
  t131 := Tryz.underlying125
  a131 := Tryz.isAgg125
  z131 := Tryz.sizeOf125
  v131 := Tryz.zeroValue125
  t182 := Tryz.underlying120
  a182 := Tryz.isAgg120
  z182 := Tryz.sizeOf120
  v182 := Tryz.zeroValue120
  t183 := Tryz.underlying121
  a183 := Tryz.isAgg121
  z183 := Tryz.sizeOf121
  v183 := Tryz.zeroValue121
  t218 := Tryz.underlying145
  a218 := Tryz.isAgg145
  z218 := Tryz.sizeOf145
  v218 := Tryz.zeroValue145
  t222 := Tryz.underlying149
  a222 := Tryz.isAgg149
  z222 := Tryz.sizeOf149
  v222 := Tryz.zeroValue149
  t228 := Tryz.underlying160
  a228 := Tryz.isAgg160
  z228 := Tryz.sizeOf160
  v228 := Tryz.zeroValue160
  t229 := Tryz.underlying46
  a229 := Tryz.isAgg46
  z229 := Tryz.sizeOf46
  v229 := Tryz.zeroValue46 }
def Tryz.hasInts_ren : Go.Shelf.Ren := ⟨fun | 107 => 77 | 108 => 106 | n => n, fun | 28 => 58 | 3 => 3 | 4 => 4 | 0 => 0 | n => n, fun | n => n⟩
theorem Tryz.hasInts : Go.Proofs.Lays.n107 Tryz.prog Tryz.hasInts_ren := {
  mixed := by kernel_rfl
  f107 := Tryz.func77.trans (congrArg some (by kernel_rfl))
  f108 := Tryz.func106.trans (congrArg some (by kernel_rfl))
  t0 := Tryz.underlying0
  a0 := Tryz.isAgg0
  z0 := Tryz.sizeOf0
  v0 := Tryz.zeroValue0
  t3 := Tryz.underlying3
  a3 := Tryz.isAgg3
  z3 := Tryz.sizeOf3
  v3 := Tryz.zeroValue3
  t4 := Tryz.underlying4
  a4 := Tryz.isAgg4
  z4 := Tryz.sizeOf4
  v4 := Tryz.zeroValue4
  t28 := Tryz.underlying58
  a28 := Tryz.isAgg58
  z28 := Tryz.sizeOf58
  v28 := Tryz.zeroValue58 }
def Tryz.idxInts_ren : Go.Shelf.Ren := ⟨fun | 108 => 106 | n => n, fun | 28 => 58 | 3 => 3 | 0 => 0 | 4 => 4 | n => n, fun | n => n⟩
theorem Tryz.idxInts : Go.Proofs.Lays.n108 Tryz.prog Tryz.idxInts_ren := {
  mixed := by kernel_rfl
  f108 := Tryz.func106.trans (congrArg some (by kernel_rfl))
  t0 := Tryz.underlying0
  a0 := Tryz.isAgg0
  z0 := Tryz.sizeOf0
  v0 := Tryz.zeroValue0
  t3 := Tryz.underlying3
  a3 := Tryz.isAgg3
  z3 := Tryz.sizeOf3
  v3 := Tryz.zeroValue3
  t4 := Tryz.underlying4
  a4 := Tryz.isAgg4
  z4 := Tryz.sizeOf4
  v4 := Tryz.zeroValue4
  t28 := Tryz.underlying58
  a28 := Tryz.isAgg58
  z28 := Tryz.sizeOf58
  v28 := Tryz.zeroValue58 }
end Go.Proofs
