/- slices.Sort, slices.Contains, slices.Index at lists of integers: the library's contracts, laid over this translation. · slices.Sort, slices.Contains, slices.Index at lists of integers, on rows that are owned or read. -/
import Derived.Shelf.Sort.Plain
import Derived.Shelf.Slices.Turned
import Derived.Test.YtcomjkoaieeidaaGreatDoorProg
import Derived.Test.YtcomjkoaieeidaaGreatDoorGp13
import Derived.Sort.OwnSortedInts
namespace Go.Proofs
open Go.Shelf
def Tryz.sortInts_ren : Go.Shelf.Ren := ⟨fun | 189 => 78 | 125 => 101 | 257 => 107 | 128 => 125 | 129 => 126 | 294 => 128 | 295 => 129 | 296 => 130 | 297 => 131 | 298 => 132 | 299 => 133 | 216 => 134 | 300 => 135 | 301 => 136 | 328 => 149 | 329 => 145 | 330 => 146 | 331 => 150 | 332 => 151 | 215 => 102 | 343 => 160 | n => n, fun | 28 => 58 | 3 => 3 | 46 => 93 | 0 => 0 | 51 => 128 | 53 => 130 | 4 => 4 | 183 => 121 | 182 => 120 | 131 => 125 | 5 => 5 | 9 => 9 | 218 => 145 | 222 => 149 | 228 => 160 | 229 => 46 | n => n, fun | n => n⟩
theorem Tryz.sortInts : Go.Proofs.Lays.n189 Tryz.prog Tryz.sortInts_ren := {
  mixed := by kernel_rfl
  f125 := Tryz.func101.trans (congrArg some (by kernel_rfl))
  f128 := Tryz.func125.trans (congrArg some (by kernel_rfl))
  f129 := Tryz.func126.trans (congrArg some (by kernel_rfl))
  f189 := Tryz.func78.trans (congrArg some (by kernel_rfl))
  f215 := Tryz.func102.trans (congrArg some (by kernel_rfl))
  f216 := Tryz.func134.trans (congrArg some (by kernel_rfl))
  f257 := Tryz.func107.trans (congrArg some (by kernel_rfl))
  f294 := Tryz.func128.trans (congrArg some (by kernel_rfl))
  f295 := Tryz.func129.trans (congrArg some (by kernel_rfl))
  f296 := Tryz.func130.trans (congrArg some (by kernel_rfl))
  f297 := Tryz.func131.trans (congrArg some (by kernel_rfl))
  f298 := Tryz.func132.trans (congrArg some (by kernel_rfl))
  f299 := Tryz.func133.trans (congrArg some (by kernel_rfl))
  f300 := Tryz.func135.trans (congrArg some (by kernel_rfl))
  f301 := Tryz.func136.trans (congrArg some (by kernel_rfl))
  f328 := Tryz.func149.trans (congrArg some (by kernel_rfl))
  f329 := Tryz.func145.trans (congrArg some (by kernel_rfl))
  f330 := Tryz.func146.trans (congrArg some (by kernel_rfl))
  f331 := Tryz.func150.trans (congrArg some (by kernel_rfl))
  f332 := Tryz.func151.trans (congrArg some (by kernel_rfl))
  f343 := Tryz.func160.trans (congrArg some (by kernel_rfl))
  t0 := Tryz.underlying0
  a0 := Tryz.isAgg0
  z0 := Tryz.sizeOf0
  v0 := Tryz.zeroValue0
  t3 := Tryz.underlying3
  a3 := Tryz.isAgg3
  z3 := Tryz.sizeOf3
  v3 := Tryz.zeroValue3
  t4 := Tryz.underlying4
  a4 := Tryz.isAgg4
  z4 := Tryz.sizeOf4
  v4 := Tryz.zeroValue4
  t5 := Tryz.underlying5
  a5 := Tryz.isAgg5
  z5 := Tryz.sizeOf5
  v5 := Tryz.zeroValue5
  t9 := Tryz.underlying9
  a9 := Tryz.isAgg9
  z9 := Tryz.sizeOf9
  v9 := Tryz.zeroValue9
  t28 := Tryz.underlying58
  a28 := Tryz.isAgg58
  z28 := Tryz.sizeOf58
  v28 := Tryz.zeroValue58
  t46 := Tryz.underlying93
  a46 := Tryz.isAgg93
  z46 := Tryz.sizeOf93
  v46 := Tryz.zeroValue93
  t51 := Tryz.underlying128
  a51 := Tryz.isAgg128
  z51 := Tryz.sizeOf128
  v51 := Tryz.zeroValue128
  t53 := Tryz.underlying130
  a53 := Tryz.isAgg130
  z53 := Tryz.sizeOf130
  v53 := Tryz.zeroValue130
  t131 := Tryz.underlying125
  a131 := Tryz.isAgg125
  z131 := Tryz.sizeOf125
  v131 := Tryz.zeroValue125
  t182 := Tryz.underlying120
  a182 := Tryz.isAgg120
  z182 := Tryz.sizeOf120
  v182 := Tryz.zeroValue120
  t183 := Tryz.underlying121
  a183 := Tryz.isAgg121
  z183 := Tryz.sizeOf121
  v183 := Tryz.zeroValue121
  t218 := Tryz.underlying145
  a218 := Tryz.isAgg145
  z218 := Tryz.sizeOf145
  v218 := Tryz.zeroValue145
  t222 := Tryz.underlying149
  a222 := Tryz.isAgg149
  z222 := Tryz.sizeOf149
  v222 := Tryz.zeroValue149
  t228 := Tryz.underlying160
  a228 := Tryz.isAgg160
  z228 := Tryz.sizeOf160
  v228 := Tryz.zeroValue160
  t229 := Tryz.underlying46
  a229 := Tryz.isAgg46
  z229 := Tryz.sizeOf46
  v229 := Tryz.zeroValue46 }
def Tryz.hasInts_ren : Go.Shelf.Ren := ⟨fun | 107 => 77 | 108 => 106 | n => n, fun | 28 => 58 | 3 => 3 | 4 => 4 | 0 => 0 | n => n, fun | n => n⟩
theorem Tryz.hasInts : Go.Proofs.Lays.n107 Tryz.prog Tryz.hasInts_ren := {
  mixed := by kernel_rfl
  f107 := Tryz.func77.trans (congrArg some (by kernel_rfl))
  f108 := Tryz.func106.trans (congrArg some (by kernel_rfl))
  t0 := Tryz.underlying0
  a0 := Tryz.isAgg0
  z0 := Tryz.sizeOf0
  v0 := Tryz.zeroValue0
  t3 := Tryz.underlying3
  a3 := Tryz.isAgg3
  z3 := Tryz.sizeOf3
  v3 := Tryz.zeroValue3
  t4 := Tryz.underlying4
  a4 := Tryz.isAgg4
  z4 := Tryz.sizeOf4
  v4 := Tryz.zeroValue4
  t28 := Tryz.underlying58
  a28 := Tryz.isAgg58
  z28 := Tryz.sizeOf58
  v28 := Tryz.zeroValue58 }
def Tryz.idxInts_ren : Go.Shelf.Ren := ⟨fun | 108 => 106 | n => n, fun | 28 => 58 | 3 => 3 | 0 => 0 | 4 => 4 | n => n, fun | n => n⟩
theorem Tryz.idxInts : Go.Proofs.Lays.n108 Tryz.prog Tryz.idxInts_ren := {
  mixed := by kernel_rfl
  f108 := Tryz.func106.trans (congrArg some (by kernel_rfl))
  t0 := Tryz.underlying0
  a0 := Tryz.isAgg0
  z0 := Tryz.sizeOf0
  v0 := Tryz.zeroValue0
  t3 := Tryz.underlying3
  a3 := Tryz.isAgg3
  z3 := Tryz.sizeOf3
  v3 := Tryz.zeroValue3
  t4 := Tryz.underlying4
  a4 := Tryz.isAgg4
  z4 := Tryz.sizeOf4
  v4 := Tryz.zeroValue4
  t28 := Tryz.underlying58
  a28 := Tryz.isAgg58
  z28 := Tryz.sizeOf58
  v28 := Tryz.zeroValue58 }
end Go.Proofs
namespace Go.Proofs.YtcomjkoaieeidaaGreatDoor
open Go.RowKit
set_option linter.unusedVariables false
theorem below_grownBy {w w' : World} {base g : Nat} (h : w.grownBy w' (some g)) (hb : base ≤ g) (hg : g < w.heap.size) : Below base w w' :=
  ⟨h.os, h.tape, h.output, h.size, fun k hk => h.block k (by omega) (by intro e; injection e with e; omega)⟩
theorem sort_ints (W : World) (base : Nat) (v : Value) (l s : List Int) (h : IOwn W base v l) (hp : 0 < l.length) (hl : l.length ≤ 8796093022208) (hs : (l.mergeSort fun x y => decide (x ≤ y)) = s) :
    Calls Tryz.prog 78 #[v] W fun e w' => e = .returned (.tuple #[]) ∧ IOwn w' base v s ∧ Below base W w' := by
  have hown := h
  rcases hown.2 with ⟨_, hz⟩ | ⟨g, cap, cur, rfl, hbg, hg, hnc, hcm, hcs, ht⟩
  · omega
  · have hlt : g < W.heap.size := (Array.getElem?_eq_some_iff.1 hg).1
    rw [Nat.mul_one] at ht
    have hcon := Any.slices_Sort_int (P := Tryz.prog) Tryz.sortInts g 0 cap l W (holds_of_blockI hg ht) hlt (by omega)
    change Calls Tryz.prog 78 _ _ _ at hcon
    refine hcon.mono ?_
    rintro e w' ⟨rfl, n, os, rfl⟩
    rw [hs]
    have hsl : s.length = l.length := by rw [← hs]; simp
    refine ⟨rfl, ?_, below_grownBy (grownBy_sortedI _) hbg hlt⟩
    have := ownsRow_sortedI (n := n) (os := os) hsl hbg hg hnc hcm hcs
    unfold IOwn flat1
    rw [hsl]
    exact this
theorem has_ints (W : World) (v : Value) (l : List Int) (x : Int) (h : IRow W v l) (hl : l.length ≤ 8796093022208) :
    Calls Tryz.prog 77 #[v, .int .i64 x] W fun e w' => e = .returned (.bool (l.contains x)) ∧ w' = W := by
  obtain ⟨a, cap, rfl, h1, h2, hc⟩ := h
  rcases Nat.eq_zero_or_pos l.length with h0 | hp
  · have e0 : l = [] := List.eq_nil_of_length_eq_zero h0
    subst e0
    have hcon := Any.slices_Contains_int_empty (P := Tryz.prog) Tryz.hasInts a cap x W
    change Calls Tryz.prog 77 _ _ _ at hcon
    exact hcon
  · obtain ⟨b, rfl, _, _⟩ := hc 0 hp
    have hcon := Any.slices_Contains_int (P := Tryz.prog) Tryz.hasInts b 0 l.length cap l x W (Nat.le_refl _) (by omega) (fun j hj => by
      obtain ⟨b', e, _, h3⟩ := hc j hj
      injection e with e; injection e with e; subst e
      rw [Nat.zero_add]; simpa [List.getD] using h3)
    change Calls Tryz.prog 77 _ _ _ at hcon
    rwa [List.take_length] at hcon
theorem idx_ints (W : World) (v : Value) (l : List Int) (x : Int) (h : IRow W v l) (hl : l.length ≤ 8796093022208) :
    Calls Tryz.prog 106 #[v, .int .i64 x] W fun e w' => e = .returned (.int .i64 (Lib.idxOf l x)) ∧ w' = W := by
  obtain ⟨a, cap, rfl, h1, h2, hc⟩ := h
  rcases Nat.eq_zero_or_pos l.length with h0 | hp
  · have e0 : l = [] := List.eq_nil_of_length_eq_zero h0
    subst e0
    have hcon := Any.slices_Index_int_empty (P := Tryz.prog) Tryz.idxInts a cap x W
    change Calls Tryz.prog 106 _ _ _ at hcon
    exact hcon
  · obtain ⟨b, rfl, _, _⟩ := hc 0 hp
    have hcon := Any.slices_Index_int (P := Tryz.prog) Tryz.idxInts b 0 l.length cap l x W (Nat.le_refl _) (by omega) (fun j hj => by
      obtain ⟨b', e, _, h3⟩ := hc j hj
      injection e with e; injection e with e; subst e
      rw [Nat.zero_add]; simpa [List.getD] using h3)
    change Calls Tryz.prog 106 _ _ _ at hcon
    rwa [List.take_length] at hcon
end Go.Proofs.YtcomjkoaieeidaaGreatDoor
