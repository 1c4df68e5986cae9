/- slices.Sort, slices.Contains, slices.Index at lists of integers, on rows that are owned or read. -/
import Derived.Test.YtimgdooelbhjfaaGreatDoorInts
import Derived.Test.YtimgdooelbhjfaaGreatDoorRgI
import Derived.Sort.OwnSortedInts
namespace Go.Proofs.YtimgdooelbhjfaaGreatDoor
open Go.RowKit
set_option linter.unusedVariables false
theorem below_grownBy {w w' : World} {base g : Nat} (h : w.grownBy w' (some g)) (hb : base ≤ g) (hg : g < w.heap.size) : Below base w w' :=
  ⟨h.os, h.tape, h.output, h.size, fun k hk => h.block k (by omega) (by intro e; injection e with e; omega)⟩
theorem sort_ints (W : World) (base : Nat) (v : Value) (l s : List Int) (h : IOwn W base v l) (hp : 0 < l.length) (hl : l.length ≤ 8796093022208) (hs : (l.mergeSort fun x y => decide (x ≤ y)) = s) :
    Calls Tryz.prog 66 #[v] W fun e w' => e = .returned (.tuple #[]) ∧ IOwn w' base v s ∧ Below base W w' := by
  have hown := h
  rcases hown.2 with ⟨_, hz⟩ | ⟨g, cap, cur, rfl, hbg, hg, hnc, hcm, hcs, ht⟩
  · omega
  · have hlt : g < W.heap.size := (Array.getElem?_eq_some_iff.1 hg).1
    rw [Nat.mul_one] at ht
    have hcon := Any.slices_Sort_int (P := Tryz.prog) Tryz.sortInts g 0 cap l W (holds_of_blockI hg ht) hlt (by omega)
    change Calls Tryz.prog 66 _ _ _ at hcon
    refine hcon.mono ?_
    rintro e w' ⟨rfl, n, os, rfl⟩
    rw [hs]
    have hsl : s.length = l.length := by rw [← hs]; simp
    refine ⟨rfl, ?_, below_grownBy (grownBy_sortedI _) hbg hlt⟩
    have := ownsRow_sortedI (n := n) (os := os) hsl hbg hg hnc hcm hcs
    unfold IOwn flat1
    rw [hsl]
    exact this
theorem has_ints (W : World) (v : Value) (l : List Int) (x : Int) (h : IRow W v l) (hl : l.length ≤ 8796093022208) :
    Calls Tryz.prog 65 #[v, .int .i64 x] W fun e w' => e = .returned (.bool (l.contains x)) ∧ w' = W := by
  obtain ⟨a, cap, rfl, h1, h2, hc⟩ := h
  rcases Nat.eq_zero_or_pos l.length with h0 | hp
  · have e0 : l = [] := List.eq_nil_of_length_eq_zero h0
    subst e0
    have hcon := Any.slices_Contains_int_empty (P := Tryz.prog) Tryz.hasInts a cap x W
    change Calls Tryz.prog 65 _ _ _ at hcon
    exact hcon
  · obtain ⟨b, rfl, _, _⟩ := hc 0 hp
    have hcon := Any.slices_Contains_int (P := Tryz.prog) Tryz.hasInts b 0 l.length cap l x W (Nat.le_refl _) (by omega) (fun j hj => by
      obtain ⟨b', e, _, h3⟩ := hc j hj
      injection e with e; injection e with e; subst e
      rw [Nat.zero_add]; simpa [List.getD] using h3)
    change Calls Tryz.prog 65 _ _ _ at hcon
    rwa [List.take_length] at hcon
theorem idx_ints (W : World) (v : Value) (l : List Int) (x : Int) (h : IRow W v l) (hl : l.length ≤ 8796093022208) :
    Calls Tryz.prog 87 #[v, .int .i64 x] W fun e w' => e = .returned (.int .i64 (Lib.idxOf l x)) ∧ w' = W := by
  obtain ⟨a, cap, rfl, h1, h2, hc⟩ := h
  rcases Nat.eq_zero_or_pos l.length with h0 | hp
  · have e0 : l = [] := List.eq_nil_of_length_eq_zero h0
    subst e0
    have hcon := Any.slices_Index_int_empty (P := Tryz.prog) Tryz.idxInts a cap x W
    change Calls Tryz.prog 87 _ _ _ at hcon
    exact hcon
  · obtain ⟨b, rfl, _, _⟩ := hc 0 hp
    have hcon := Any.slices_Index_int (P := Tryz.prog) Tryz.idxInts b 0 l.length cap l x W (Nat.le_refl _) (by omega) (fun j hj => by
      obtain ⟨b', e, _, h3⟩ := hc j hj
      injection e with e; injection e with e; subst e
      rw [Nat.zero_add]; simpa [List.getD] using h3)
    change Calls Tryz.prog 87 _ _ _ at hcon
    rwa [List.take_length] at hcon
end Go.Proofs.YtimgdooelbhjfaaGreatDoor
