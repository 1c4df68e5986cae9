/- The landed fold: the table of blocks, and a number's partner in a block. · slices.Sort, slices.Contains, slices.Index at lists of integers: the library's contracts, laid over this translation. · slices.Sort, slices.Contains, slices.Index at lists of integers, on rows that are owned or read. -/
import Derived.Test.YtecclhmjmceheaaGreatDoorGp10
import Derived.Test.YtecclhmjmceheaaGreatDoorGp24
import Derived.Shelf.SlSortCmp.QuietGrown
import Derived.Shelf.Sort.Plain
import Derived.Shelf.Slices.Turned
import Derived.Test.YtecclhmjmceheaaGreatDoorProg
import Derived.Sort.OwnSortedInts
namespace Go.Proofs.YtecclhmjmceheaaGreatDoor
open Go.RowKit
set_option linter.unusedVariables false
def blkV (b : Fd.Blk) : Value := .agg #[.int .i64 b.1, .int .i64 b.2.1, .int .i64 b.2.2]
def blksA : Array Value := #[.int .i64 65, .int .i64 90, .int .i64 32, .int .i64 192, .int .i64 214, .int .i64 32, .int .i64 216, .int .i64 222, .int .i64 32, .int .i64 913, .int .i64 929, .int .i64 32, .int .i64 931, .int .i64 939, .int .i64 32, .int .i64 1040, .int .i64 1071, .int .i64 32, .int .i64 1024, .int .i64 1039, .int .i64 80, .int .i64 255, .int .i64 255, .int .i64 121, .int .i64 181, .int .i64 181, .int .i64 743, .int .i64 931, .int .i64 931, .int .i64 31, .int .i64 75, .int .i64 75, .int .i64 8415, .int .i64 197, .int .i64 197, .int .i64 8294, .int .i64 83, .int .i64 83, .int .i64 300, .int .i64 937, .int .i64 937, .int .i64 7549]
def blksV : Value := .agg blksA
theorem below_setRow {w w' : World} {B g : Nat} {cs : Array Value} (h : Below B w w') (hg : B ≤ g) : Below B w (w'.setRow g cs) :=
  ⟨h.os, h.tape, h.output, by have := h.size; simp [World.setRow]; omega, fun k hk => by rw [setRow_other _ _ _ _ (by omega)]; exact h.block k hk⟩
theorem wpList_buildTo {P : Program} {ops : Array Oper} {rest : List Oper} {o : Oper} {a : Act} {w : World} {Q : Exit → Act → World → Prop} (hg : o.guard = none) (t : TypeId) (parts : Array (Nat × Operand)) (ho : o.op = .build t parts) (cells : Array Value)
    (hf : P.built t (parts.map fun (i, x) => (i, a.eval x)).toList = some cells)
    (h : wpList P ops Q rest (a.put o.dst (.agg cells)) w) : wpList P ops Q (o :: rest) a w :=
  wpList_build hg t parts ho (by rw [hf]; rfl) (by rw [hf]; exact h)
set_option maxRecDepth 100000 in
set_option maxHeartbeats 2000000 in
theorem blocks_any (W : World) :
    Calls Tryz.prog 209 #[] W fun e w' => e = .returned blksV ∧ Below W.heap.size W w' := by
  go_enter Tryz.func209, Tryz.ntmps209
  iterate 11 go_step
  refine wpList_buildTo rfl 205 _ rfl #[.int .i64 65, .int .i64 90, .int .i64 32] (by kernel_rfl) ?_
  refine wpList_buildTo rfl 205 _ rfl #[.int .i64 192, .int .i64 214, .int .i64 32] (by kernel_rfl) ?_
  refine wpList_buildTo rfl 205 _ rfl #[.int .i64 216, .int .i64 222, .int .i64 32] (by kernel_rfl) ?_
  refine wpList_buildTo rfl 205 _ rfl #[.int .i64 913, .int .i64 929, .int .i64 32] (by kernel_rfl) ?_
  refine wpList_buildTo rfl 205 _ rfl #[.int .i64 931, .int .i64 939, .int .i64 32] (by kernel_rfl) ?_
  refine wpList_buildTo rfl 205 _ rfl #[.int .i64 1040, .int .i64 1071, .int .i64 32] (by kernel_rfl) ?_
  refine wpList_buildTo rfl 205 _ rfl #[.int .i64 1024, .int .i64 1039, .int .i64 80] (by kernel_rfl) ?_
  refine wpList_buildTo rfl 205 _ rfl #[.int .i64 255, .int .i64 255, .int .i64 121] (by kernel_rfl) ?_
  refine wpList_buildTo rfl 205 _ rfl #[.int .i64 181, .int .i64 181, .int .i64 743] (by kernel_rfl) ?_
  refine wpList_buildTo rfl 205 _ rfl #[.int .i64 931, .int .i64 931, .int .i64 31] (by kernel_rfl) ?_
  refine wpList_buildTo rfl 205 _ rfl #[.int .i64 75, .int .i64 75, .int .i64 8415] (by kernel_rfl) ?_
  refine wpList_buildTo rfl 205 _ rfl #[.int .i64 197, .int .i64 197, .int .i64 8294] (by kernel_rfl) ?_
  refine wpList_buildTo rfl 205 _ rfl #[.int .i64 83, .int .i64 83, .int .i64 300] (by kernel_rfl) ?_
  refine wpList_buildTo rfl 205 _ rfl #[.int .i64 937, .int .i64 937, .int .i64 7549] (by kernel_rfl) ?_
  refine wpList_buildTo rfl 206 _ rfl blksA (by kernel_rfl) ?_
  refine wpList_store_row rfl 206 _ _ rfl W.heap.size blksA (by kernel_rfl) (by kernel_rfl) 206 _ (heap_alloc_new _ _) (by kernel_rfl) (by kernel_rfl) (by kernel_rfl) ?_
  refine wpList_nil ?_
  iterate 2 go_step
  go_step
  refine bodyPost_ret (results_cell_row rfl _ _ W.heap.size 206 blksA _ _ (by kernel_rfl) (setRow_heap _ _ _ _ _ _ (heap_alloc_new _ _)) Tryz.underlying206 rfl (by kernel_rfl)) rfl ?_
  exact ⟨rfl, below_setRow ((Below.refl W.heap.size W).alloc (Nat.le_refl _) _) (Nat.le_refl _)⟩
theorem blk_idx (i : Nat) (h : i < 14) : (Fd.blocksL[i]?.getD (0, 0, 0)) ∈ Fd.blocksL := by
  rw [List.getElem?_eq_getElem (by rw [Fd.blocks_len]; exact h)]; exact List.getElem_mem _
theorem blk_bd : ∀ b ∈ Fd.blocksL, 0 ≤ b.1 ∧ b.1 ≤ 10000 ∧ 0 ≤ b.2.1 ∧ b.2.1 ≤ 10000 ∧ 0 ≤ b.2.2 ∧ b.2.2 ≤ 10000 := by decide +kernel
set_option maxRecDepth 100000 in
set_option maxHeartbeats 2000000 in
theorem partner_any (W : World) (b : Fd.Blk) (x : Int) (hb : b ∈ Fd.blocksL) :
    Calls Tryz.prog 210 #[blkV b, .int .i64 x] W fun e w' => e = .returned (.int .i64 (Fd.partner b x)) ∧ ∃ q os', w' = Go.Sort.grow (W.drewN q) os' := by
  have hbd := blk_bd b hb
  have HP : Hid (∀ r, Fd.partner b x = r → Fd.partner b x = r) := Lib.hid (fun _ h => h)
  have H1 : Hid (b.1 ≤ x → x ≤ b.2.1 → Fd.partner b x = x + b.2.2) := Lib.hid (fun h1 h2 => by unfold Fd.partner; rw [if_pos ⟨h1, h2⟩])
  have H2 : Hid (¬ (b.1 ≤ x ∧ x ≤ b.2.1) → b.1 + b.2.2 ≤ x → x ≤ b.2.1 + b.2.2 → Fd.partner b x = x - b.2.2) := Lib.hid (fun h0 h1 h2 => by unfold Fd.partner; rw [if_neg h0, if_pos ⟨h1, h2⟩])
  have H3 : Hid (¬ (b.1 ≤ x ∧ x ≤ b.2.1) → ¬ (b.1 + b.2.2 ≤ x ∧ x ≤ b.2.1 + b.2.2) → Fd.partner b x = x) := Lib.hid (fun h0 h1 => by unfold Fd.partner; rw [if_neg h0, if_neg h1])
  have HG : Hid (∀ o : Obj, W.alloc o = Go.Sort.grow (W.drewN 0) #[o]) := Lib.hid (fun o => by rw [Go.Sort.alloc_eq_grow]; rfl)
  obtain ⟨p, q, s⟩ := b
  unfold blkV
  generalize Fd.partner (p, q, s) x = r at *
  dsimp only at hbd H1 H2 H3 ⊢
  obtain ⟨a1, a2, a3, a4, a5, a6⟩ := hbd
  clear hb HP
  have q1 : (p + s + 9223372036854775808) % 18446744073709551616 - 9223372036854775808 = p + s := by omega
  have q2 : (q + s + 9223372036854775808) % 18446744073709551616 - 9223372036854775808 = q + s := by omega
  by_cases c1 : p ≤ x
  · by_cases c2 : x ≤ q
    · have HE := Lib.hid (H1.out c1 c2)
      go_enter Tryz.func210, Tryz.ntmps210
      go_wp2
      go_ret
      exact ⟨rg_ret_int (by rw [HE.out]), 0, _, HG.out _⟩
    · by_cases c3 : p + s ≤ x
      · by_cases c4 : x ≤ q + s
        · have HE := Lib.hid (H2.out (fun h => c2 h.2) c3 c4)
          go_enter Tryz.func210, Tryz.ntmps210
          go_wp2
          go_ret
          exact ⟨rg_ret_int (by rw [HE.out]), 0, _, HG.out _⟩
        · have HE := Lib.hid (H3.out (fun h => c2 h.2) (fun h => c4 h.2))
          go_enter Tryz.func210, Tryz.ntmps210
          go_wp2
          go_ret
          exact ⟨rg_ret_int (by rw [HE.out]), 0, _, HG.out _⟩
      · have HE := Lib.hid (H3.out (fun h => c2 h.2) (fun h => c3 h.1))
        go_enter Tryz.func210, Tryz.ntmps210
        go_wp2
        go_ret
        exact ⟨rg_ret_int (by rw [HE.out]), 0, _, HG.out _⟩
  · have HE := Lib.hid (H3.out (fun h => c1 h.1) (fun h => c1 (by omega)))
    have c3 : ¬ p + s ≤ x := by omega
    go_enter Tryz.func210, Tryz.ntmps210
    go_wp2
    go_ret
    exact ⟨rg_ret_int (by rw [HE.out]), 0, _, HG.out _⟩
end Go.Proofs.YtecclhmjmceheaaGreatDoor
namespace Go.Proofs
open Go.Shelf
def Tryz.sortInts_ren : Go.Shelf.Ren := ⟨fun | 189 => 212 | 125 => 237 | 257 => 243 | 128 => 268 | 129 => 269 | 294 => 271 | 295 => 272 | 296 => 273 | 297 => 274 | 298 => 275 | 299 => 276 | 216 => 277 | 300 => 278 | 301 => 279 | 328 => 289 | 329 => 285 | 330 => 286 | 331 => 290 | 332 => 291 | 215 => 238 | 343 => 296 | n => n, fun | 28 => 164 | 3 => 3 | 46 => 53 | 0 => 0 | 51 => 116 | 53 => 119 | 4 => 4 | 183 => 241 | 182 => 240 | 131 => 132 | 5 => 5 | 9 => 9 | 218 => 266 | 222 => 270 | 228 => 286 | 229 => 61 | n => n, fun | n => n⟩
theorem Tryz.sortInts : Go.Proofs.Lays.n189 Tryz.prog Tryz.sortInts_ren := {
  mixed := by kernel_rfl
  f125 := Tryz.func237.trans (congrArg some (by kernel_rfl))
  f128 := Tryz.func268.trans (congrArg some (by kernel_rfl))
  f129 := Tryz.func269.trans (congrArg some (by kernel_rfl))
  f189 := Tryz.func212.trans (congrArg some (by kernel_rfl))
  f215 := Tryz.func238.trans (congrArg some (by kernel_rfl))
  f216 := Tryz.func277.trans (congrArg some (by kernel_rfl))
  f257 := Tryz.func243.trans (congrArg some (by kernel_rfl))
  f294 := Tryz.func271.trans (congrArg some (by kernel_rfl))
  f295 := Tryz.func272.trans (congrArg some (by kernel_rfl))
  f296 := Tryz.func273.trans (congrArg some (by kernel_rfl))
  f297 := Tryz.func274.trans (congrArg some (by kernel_rfl))
  f298 := Tryz.func275.trans (congrArg some (by kernel_rfl))
  f299 := Tryz.func276.trans (congrArg some (by kernel_rfl))
  f300 := Tryz.func278.trans (congrArg some (by kernel_rfl))
  f301 := Tryz.func279.trans (congrArg some (by kernel_rfl))
  f328 := Tryz.func289.trans (congrArg some (by kernel_rfl))
  f329 := Tryz.func285.trans (congrArg some (by kernel_rfl))
  f330 := Tryz.func286.trans (congrArg some (by kernel_rfl))
  f331 := Tryz.func290.trans (congrArg some (by kernel_rfl))
  f332 := Tryz.func291.trans (congrArg some (by kernel_rfl))
  f343 := Tryz.func296.trans (congrArg some (by kernel_rfl))
  t0 := Tryz.underlying0
  a0 := Tryz.isAgg0
  z0 := Tryz.sizeOf0
  v0 := Tryz.zeroValue0
  t3 := Tryz.underlying3
  a3 := Tryz.isAgg3
  z3 := Tryz.sizeOf3
  v3 := Tryz.zeroValue3
  t4 := Tryz.underlying4
  a4 := Tryz.isAgg4
  z4 := Tryz.sizeOf4
  v4 := Tryz.zeroValue4
  t5 := Tryz.underlying5
  a5 := Tryz.isAgg5
  z5 := Tryz.sizeOf5
  v5 := Tryz.zeroValue5
  t9 := Tryz.underlying9
  a9 := Tryz.isAgg9
  z9 := Tryz.sizeOf9
  v9 := Tryz.zeroValue9
  t28 := Tryz.underlying164
  a28 := Tryz.isAgg164
  z28 := Tryz.sizeOf164
  v28 := Tryz.zeroValue164
  t46 := Tryz.underlying53
  a46 := Tryz.isAgg53
  z46 := Tryz.sizeOf53
  v46 := Tryz.zeroValue53
  t51 := Tryz.underlying116
  a51 := Tryz.isAgg116
  z51 := Tryz.sizeOf116
  v51 := Tryz.zeroValue116
  t53 := Tryz.underlying119
  a53 := Tryz.isAgg119
  z53 := Tryz.sizeOf119
  v53 := Tryz.zeroValue119
  t131 := Tryz.underlying132
  a131 := Tryz.isAgg132
  z131 := Tryz.sizeOf132
  v131 := Tryz.zeroValue132
  t182 := Tryz.underlying240
  a182 := Tryz.isAgg240
  z182 := Tryz.sizeOf240
  v182 := Tryz.zeroValue240
  t183 := Tryz.underlying241
  a183 := Tryz.isAgg241
  z183 := Tryz.sizeOf241
  v183 := Tryz.zeroValue241
  t218 := Tryz.underlying266
  a218 := Tryz.isAgg266
  z218 := Tryz.sizeOf266
  v218 := Tryz.zeroValue266
  t222 := Tryz.underlying270
  a222 := Tryz.isAgg270
  z222 := Tryz.sizeOf270
  v222 := Tryz.zeroValue270
  t228 := Tryz.underlying286
  a228 := Tryz.isAgg286
  z228 := Tryz.sizeOf286
  v228 := Tryz.zeroValue286
  t229 := Tryz.underlying61
  a229 := Tryz.isAgg61
  z229 := Tryz.sizeOf61
  v229 := Tryz.zeroValue61 }
def Tryz.hasInts_ren : Go.Shelf.Ren := ⟨fun | 107 => 211 | 108 => 242 | n => n, fun | 28 => 164 | 3 => 3 | 4 => 4 | 0 => 0 | n => n, fun | n => n⟩
theorem Tryz.hasInts : Go.Proofs.Lays.n107 Tryz.prog Tryz.hasInts_ren := {
  mixed := by kernel_rfl
  f107 := Tryz.func211.trans (congrArg some (by kernel_rfl))
  f108 := Tryz.func242.trans (congrArg some (by kernel_rfl))
  t0 := Tryz.underlying0
  a0 := Tryz.isAgg0
  z0 := Tryz.sizeOf0
  v0 := Tryz.zeroValue0
  t3 := Tryz.underlying3
  a3 := Tryz.isAgg3
  z3 := Tryz.sizeOf3
  v3 := Tryz.zeroValue3
  t4 := Tryz.underlying4
  a4 := Tryz.isAgg4
  z4 := Tryz.sizeOf4
  v4 := Tryz.zeroValue4
  t28 := Tryz.underlying164
  a28 := Tryz.isAgg164
  z28 := Tryz.sizeOf164
  v28 := Tryz.zeroValue164 }
def Tryz.idxInts_ren : Go.Shelf.Ren := ⟨fun | 108 => 242 | n => n, fun | 28 => 164 | 3 => 3 | 0 => 0 | 4 => 4 | n => n, fun | n => n⟩
theorem Tryz.idxInts : Go.Proofs.Lays.n108 Tryz.prog Tryz.idxInts_ren := {
  mixed := by kernel_rfl
  f108 := Tryz.func242.trans (congrArg some (by kernel_rfl))
  t0 := Tryz.underlying0
  a0 := Tryz.isAgg0
  z0 := Tryz.sizeOf0
  v0 := Tryz.zeroValue0
  t3 := Tryz.underlying3
  a3 := Tryz.isAgg3
  z3 := Tryz.sizeOf3
  v3 := Tryz.zeroValue3
  t4 := Tryz.underlying4
  a4 := Tryz.isAgg4
  z4 := Tryz.sizeOf4
  v4 := Tryz.zeroValue4
  t28 := Tryz.underlying164
  a28 := Tryz.isAgg164
  z28 := Tryz.sizeOf164
  v28 := Tryz.zeroValue164 }
end Go.Proofs
namespace Go.Proofs.YtecclhmjmceheaaGreatDoor
open Go.RowKit
set_option linter.unusedVariables false
theorem below_grownBy {w w' : World} {base g : Nat} (h : w.grownBy w' (some g)) (hb : base ≤ g) (hg : g < w.heap.size) : Below base w w' :=
  ⟨h.os, h.tape, h.output, h.size, fun k hk => h.block k (by omega) (by intro e; injection e with e; omega)⟩
theorem sort_ints (W : World) (base : Nat) (v : Value) (l s : List Int) (h : IOwn W base v l) (hp : 0 < l.length) (hl : l.length ≤ 8796093022208) (hs : (l.mergeSort fun x y => decide (x ≤ y)) = s) :
    Calls Tryz.prog 212 #[v] W fun e w' => e = .returned (.tuple #[]) ∧ IOwn w' base v s ∧ Below base W w' := by
  have hown := h
  rcases hown.2 with ⟨_, hz⟩ | ⟨g, cap, cur, rfl, hbg, hg, hnc, hcm, hcs, ht⟩
  · omega
  · have hlt : g < W.heap.size := (Array.getElem?_eq_some_iff.1 hg).1
    rw [Nat.mul_one] at ht
    have hcon := Any.slices_Sort_int (P := Tryz.prog) Tryz.sortInts g 0 cap l W (holds_of_blockI hg ht) hlt (by omega)
    change Calls Tryz.prog 212 _ _ _ at hcon
    refine hcon.mono ?_
    rintro e w' ⟨rfl, n, os, rfl⟩
    rw [hs]
    have hsl : s.length = l.length := by rw [← hs]; simp
    refine ⟨rfl, ?_, below_grownBy (grownBy_sortedI _) hbg hlt⟩
    have := ownsRow_sortedI (n := n) (os := os) hsl hbg hg hnc hcm hcs
    unfold IOwn flat1
    rw [hsl]
    exact this
theorem has_ints (W : World) (v : Value) (l : List Int) (x : Int) (h : IRow W v l) (hl : l.length ≤ 8796093022208) :
    Calls Tryz.prog 211 #[v, .int .i64 x] W fun e w' => e = .returned (.bool (l.contains x)) ∧ w' = W := by
  obtain ⟨a, cap, rfl, h1, h2, hc⟩ := h
  rcases Nat.eq_zero_or_pos l.length with h0 | hp
  · have e0 : l = [] := List.eq_nil_of_length_eq_zero h0
    subst e0
    have hcon := Any.slices_Contains_int_empty (P := Tryz.prog) Tryz.hasInts a cap x W
    change Calls Tryz.prog 211 _ _ _ at hcon
    exact hcon
  · obtain ⟨b, rfl, _, _⟩ := hc 0 hp
    have hcon := Any.slices_Contains_int (P := Tryz.prog) Tryz.hasInts b 0 l.length cap l x W (Nat.le_refl _) (by omega) (fun j hj => by
      obtain ⟨b', e, _, h3⟩ := hc j hj
      injection e with e; injection e with e; subst e
      rw [Nat.zero_add]; simpa [List.getD] using h3)
    change Calls Tryz.prog 211 _ _ _ at hcon
    rwa [List.take_length] at hcon
theorem idx_ints (W : World) (v : Value) (l : List Int) (x : Int) (h : IRow W v l) (hl : l.length ≤ 8796093022208) :
    Calls Tryz.prog 242 #[v, .int .i64 x] W fun e w' => e = .returned (.int .i64 (Lib.idxOf l x)) ∧ w' = W := by
  obtain ⟨a, cap, rfl, h1, h2, hc⟩ := h
  rcases Nat.eq_zero_or_pos l.length with h0 | hp
  · have e0 : l = [] := List.eq_nil_of_length_eq_zero h0
    subst e0
    have hcon := Any.slices_Index_int_empty (P := Tryz.prog) Tryz.idxInts a cap x W
    change Calls Tryz.prog 242 _ _ _ at hcon
    exact hcon
  · obtain ⟨b, rfl, _, _⟩ := hc 0 hp
    have hcon := Any.slices_Index_int (P := Tryz.prog) Tryz.idxInts b 0 l.length cap l x W (Nat.le_refl _) (by omega) (fun j hj => by
      obtain ⟨b', e, _, h3⟩ := hc j hj
      injection e with e; injection e with e; subst e
      rw [Nat.zero_add]; simpa [List.getD] using h3)
    change Calls Tryz.prog 242 _ _ _ at hcon
    rwa [List.take_length] at hcon
end Go.Proofs.YtecclhmjmceheaaGreatDoor
