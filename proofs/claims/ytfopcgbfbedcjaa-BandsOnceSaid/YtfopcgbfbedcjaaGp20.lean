/- The plain mathematics of the landed Of: a set without what is no rune is translated as the set; no program. · slices.SortFunc at lists of ranges: the library's contract, laid over this translation. -/
import Derived.Test.YtfopcgbfbedcjaaGp12
import Derived.Shelf.SlSortCmp.NoneTotal
import Derived.Test.YtfopcgbfbedcjaaProg
namespace Go.Proofs.Ytfopcgbfbedcjaa.Bd
open Go.Proofs.Ytfopcgbfbedcjaa.Rg
set_option linter.unusedVariables false
def runesT : List R := [(0, 55295), (57344, 1114111)]
/-- A range without what is no rune. -/
def pieces (p : R) : List R := (if p.1 ≤ min p.2 55295 then [(p.1, min p.2 55295)] else []) ++ (if max p.1 57344 ≤ p.2 then [(max p.1 57344, p.2)] else [])
theorem splitL_nil {lo hi : Int} (h : hi < lo) : splitL lo hi = [] := by
  rw [splitL_parts, part_nil (by dsimp only; omega), part_nil (by dsimp only; omega), part_nil (by dsimp only; omega), part_nil (by dsimp only; omega), part_nil (by dsimp only; omega)]; rfl
theorem part_min {lo hi : Int} {c : Int × Int × Nat} (h : c.2.1 ≤ 55295) : part lo hi c = part lo (min hi 55295) c ∧ part (max lo 57344) hi c = [] := by
  constructor
  · unfold part
    have e : min hi c.2.1 = min (min hi 55295) c.2.1 := by omega
    rw [e]
  · exact part_nil (by omega)
theorem part_max {lo hi : Int} {c : Int × Int × Nat} (h : 57344 ≤ c.1) : part lo hi c = part (max lo 57344) hi c ∧ part lo (min hi 55295) c = [] := by
  constructor
  · unfold part
    have e : max lo c.1 = max (max lo 57344) c.1 := by omega
    rw [e]
  · exact part_nil (by omega)
theorem splitL_gap (lo hi : Int) : splitL lo hi = splitL lo (min hi 55295) ++ splitL (max lo 57344) hi := by
  rw [splitL_parts lo hi, splitL_parts lo (min hi 55295), splitL_parts (max lo 57344) hi]
  have a := part_min (lo := lo) (hi := hi) (c := (0, 127, 1)) (by dsimp only; omega)
  have b := part_min (lo := lo) (hi := hi) (c := (128, 2047, 2)) (by dsimp only; omega)
  have c := part_min (lo := lo) (hi := hi) (c := (2048, 55295, 3)) (by dsimp only; omega)
  have d := part_max (lo := lo) (hi := hi) (c := (57344, 65535, 3)) (by dsimp only; omega)
  have e := part_max (lo := lo) (hi := hi) (c := (65536, 1114111, 4)) (by dsimp only; omega)
  rw [a.1, a.2, b.1, b.2, c.1, c.2, d.1, d.2, e.1, e.2]
  simp
theorem splitL_pieces (p : R) : splitL p.1 p.2 = (pieces p).flatMap fun x => splitL x.1 x.2 := by
  rw [splitL_gap]
  unfold pieces
  rw [List.flatMap_append]
  congr 1
  · split
    · simp
    · rw [splitL_nil (by omega)]; rfl
  · split
    · simp
    · rw [splitL_nil (by omega)]; rfl
theorem ofL_pieces (B : List R) : ofL (B.flatMap pieces) = ofL B := by
  unfold ofL
  rw [List.flatMap_assoc]
  congr 1
  funext p
  exact (splitL_pieces p).symm
theorem norm_mono : ∀ (l : List R) (lo lo' : Int), lo' ≤ lo → NormFrom lo l → NormFrom lo' l
  | [], _, _, _, _ => trivial
  | p :: l, lo, lo', h, ⟨h1, h2⟩ => ⟨by omega, h2⟩
theorem norm_pieces : ∀ (B : List R) (lo : Int), NormFrom lo B → NormFrom lo (B.flatMap pieces)
  | [], _, _ => trivial
  | p :: B, lo, ⟨h1, h2, h3, h4⟩ => by
    have ih := norm_pieces B _ h4
    rw [List.flatMap_cons]
    unfold pieces
    by_cases c1 : p.1 ≤ min p.2 55295
    · rw [if_pos c1]
      by_cases c2 : max p.1 57344 ≤ p.2
      · rw [if_pos c2]
        exact ⟨h1, c1, by dsimp only; omega, by dsimp only; omega, c2, h3, ih⟩
      · rw [if_neg c2]
        exact ⟨h1, c1, by dsimp only; omega, norm_mono _ _ _ (by dsimp only; omega) ih⟩
    · rw [if_neg c1]
      by_cases c2 : max p.1 57344 ≤ p.2
      · rw [if_pos c2]
        exact ⟨by dsimp only; omega, c2, h3, ih⟩
      · rw [if_neg c2]
        exact norm_mono _ _ _ (by omega) ih
theorem mem_pieces (B : List R) (q : Int) : memL (B.flatMap pieces) q ↔ memL B q ∧ (q ≤ 55295 ∨ 57344 ≤ q) := by
  unfold memL
  constructor
  · rintro ⟨x, hx, h1, h2⟩
    obtain ⟨p, hp, hx⟩ := List.mem_flatMap.1 hx
    unfold pieces at hx
    rcases List.mem_append.1 hx with hx | hx
    · split at hx
      · rw [List.mem_singleton.1 hx] at h1 h2
        dsimp only at h1 h2
        exact ⟨⟨p, hp, h1, by omega⟩, .inl (by omega)⟩
      · cases hx
    · split at hx
      · rw [List.mem_singleton.1 hx] at h1 h2
        dsimp only at h1 h2
        exact ⟨⟨p, hp, by omega, h2⟩, .inr (by omega)⟩
      · cases hx
  · rintro ⟨⟨p, hp, h1, h2⟩, hq⟩
    rcases hq with hq | hq
    · refine ⟨(p.1, min p.2 55295), List.mem_flatMap.2 ⟨p, hp, ?_⟩, h1, by dsimp only; omega⟩
      unfold pieces
      rw [if_pos (by omega)]
      simp
    · refine ⟨(max p.1 57344, p.2), List.mem_flatMap.2 ⟨p, hp, ?_⟩, by dsimp only; omega, h2⟩
      unfold pieces
      rw [if_pos (c := max p.1 57344 ≤ p.2) (by omega)]
      simp
/-- What is left of a set without what is no rune. -/
theorem both_pieces {l B C : List R} (hB : Made 1 l [] B) (hC : Made 2 l runesT C) : C = B.flatMap pieces := by
  refine norm_ext hC.norm (norm_pieces B 0 hB.norm) (fun q h0 h1 => ?_)
  rw [hC.has q h0 h1, Bool.eq_iff_iff, norm_has (norm_pieces B 0 hB.norm), mem_pieces, ← norm_has hB.norm, hB.has q h0 h1]
  have hr : hasB runesT q = true ↔ (q ≤ 55295 ∨ 57344 ≤ q) := by
    rw [hasB_iff]
    simp only [runesT, List.mem_cons, List.mem_nil_iff, or_false, exists_eq_or_imp, exists_eq_left]
    omega
  have hn : hasB [] q = false := by simp [hasB]
  rw [hn, ← hr]
  simp [opB]
theorem pieces_runes {B : List R} (hB : NormL B) : ∀ x ∈ B.flatMap pieces, Runes x.1 x.2 := by
  intro x hx
  obtain ⟨p, hp, hx⟩ := List.mem_flatMap.1 hx
  have h := norm_lo B 0 hB p hp
  unfold pieces at hx
  rcases List.mem_append.1 hx with hx | hx
  · split at hx
    · rename_i c
      rw [List.mem_singleton.1 hx]
      exact ⟨h.1, c, by dsimp only; omega, .inl (by dsimp only; omega)⟩
    · cases hx
  · split at hx
    · rename_i c
      rw [List.mem_singleton.1 hx]
      exact ⟨by dsimp only; omega, c, h.2.2, .inr (by dsimp only; omega)⟩
    · cases hx
/-- Every range of a set without what is no rune is of runes alone. -/
theorem runes_of_made {l C : List R} (hC : Made 2 l runesT C) : ∀ x ∈ C, Runes x.1 x.2 := by
  intro x hx
  have h := norm_lo C 0 hC.norm x hx
  refine ⟨h.1, h.2.1, h.2.2, ?_⟩
  have key : ∀ q, x.1 ≤ q → q ≤ x.2 → (q ≤ 55295 ∨ 57344 ≤ q) := fun q h1 h2 => by
    have e := hC.has q (by omega) (by omega)
    rw [(norm_has hC.norm q).2 ⟨x, hx, h1, h2⟩] at e
    have hr : hasB runesT q = true := by
      cases hq : hasB runesT q
      · rw [hq] at e; simp [opB] at e
      · rfl
    rw [hasB_iff] at hr
    simp only [runesT, List.mem_cons, List.mem_nil_iff, or_false, exists_eq_or_imp, exists_eq_left] at hr
    omega
  have k1 := key x.1 (Int.le_refl _) h.2.1
  have k2 := key x.2 h.2.1 (Int.le_refl _)
  by_cases c : x.1 ≤ 55296 ∧ 55296 ≤ x.2
  · have := key 55296 c.1 c.2; omega
  · omega
theorem splitL_clamp (lo hi : Int) : splitL lo hi = splitL (max lo 0) (min hi 1114111) := by
  have h : ∀ c : Int × Int × Nat, 0 ≤ c.1 → c.2.1 ≤ 1114111 → part lo hi c = part (max lo 0) (min hi 1114111) c := fun c h1 h2 => by
    unfold part
    have e1 : max lo c.1 = max (max lo 0) c.1 := by omega
    have e2 : min hi c.2.1 = min (min hi 1114111) c.2.1 := by omega
    rw [e1, e2]
  rw [splitL_parts lo hi, splitL_parts (max lo 0) (min hi 1114111), h _ (by dsimp only; omega) (by dsimp only; omega), h _ (by dsimp only; omega) (by dsimp only; omega), h _ (by dsimp only; omega) (by dsimp only; omega), h _ (by dsimp only; omega) (by dsimp only; omega), h _ (by dsimp only; omega) (by dsimp only; omega)]
theorem one_norm (lo hi : Int) : ∃ B, Made 1 [(lo, hi)] [] B ∧ ofL B = splitL lo hi := by
  by_cases h : max lo 0 ≤ min hi 1114111
  · refine ⟨[(max lo 0, min hi 1114111)], ⟨⟨by dsimp only; omega, h, by dsimp only; omega, trivial⟩, fun q h0 h1 => ?_⟩, by rw [splitL_clamp lo hi]; simp [ofL]⟩
    rw [Bool.eq_iff_iff]
    simp [hasB, opB]
    omega
  · refine ⟨[], ⟨trivial, fun q h0 h1 => ?_⟩, by rw [splitL_clamp lo hi, splitL_nil (by omega)]; rfl⟩
    rw [Bool.eq_iff_iff]
    simp [hasB, opB]
    omega
theorem one_both {lo hi : Int} {C : List R} (hC : Made 2 [(lo, hi)] runesT C) : ofL C = splitL lo hi := by
  obtain ⟨B, hB, e⟩ := one_norm lo hi
  rw [both_pieces hB hC, ofL_pieces, e]
theorem splitL_pos {lo hi : Int} (h : Runes lo hi) : 1 ≤ (splitL lo hi).length := by
  have h1 := h.lo0; have h2 := h.le; have h3 := h.top; have h4 := h.gap
  have key : ∀ c : Int × Int × Nat, c.1 ≤ lo → lo ≤ c.2.1 → 1 ≤ (part lo hi c).length := fun c a b => by
    unfold part
    rw [if_pos (by omega)]
    exact (oneL_len (by omega)).1
  rw [splitL_parts]
  simp only [List.length_append]
  rcases (by omega : lo ≤ 127 ∨ (128 ≤ lo ∧ lo ≤ 2047) ∨ (2048 ≤ lo ∧ lo ≤ 55295) ∨ (57344 ≤ lo ∧ lo ≤ 65535) ∨ 65536 ≤ lo) with h | ⟨h, h'⟩ | ⟨h, h'⟩ | ⟨h, h'⟩ | h
  · have := key (0, 127, 1) h1 h; omega
  · have := key (128, 2047, 2) h h'; omega
  · have := key (2048, 55295, 3) h h'; omega
  · have := key (57344, 65535, 3) h h'; omega
  · have := key (65536, 1114111, 4) h (by dsimp only; omega); omega
end Go.Proofs.Ytfopcgbfbedcjaa.Bd
namespace Go.Proofs
open Go.Shelf
def Try.sortRg_ren : Go.Shelf.Ren := ⟨fun | 6 => 64 | 15 => 68 | 14 => 67 | 28 => 78 | 29 => 79 | 20 => 70 | 21 => 71 | 22 => 72 | 23 => 73 | 24 => 74 | 25 => 75 | 26 => 76 | 27 => 77 | 46 => 80 | 47 => 81 | 48 => 82 | 49 => 83 | 50 => 84 | 57 => 85 | n => n, fun | 22 => 22 | 24 => 44 | 25 => 84 | 3 => 3 | 39 => 57 | 0 => 0 | 53 => 95 | 55 => 97 | 4 => 4 | 46 => 89 | 45 => 88 | 50 => 70 | 5 => 5 | 9 => 9 | 66 => 98 | 70 => 102 | 76 => 104 | 77 => 36 | n => n, fun | n => n⟩
theorem Try.sortRg : Go.Proofs.SlLaysF0.n6 Try.prog Try.sortRg_ren := {
  mixed := by kernel_rfl
  f6 := ⟨Try.f64.name, by decide, Try.func64.trans (congrArg some (by kernel_rfl))⟩
  f14 := ⟨Try.f67.name, by decide, Try.func67.trans (congrArg some (by kernel_rfl))⟩
  f15 := Try.func68.trans (congrArg some (by kernel_rfl))
  f20 := ⟨Try.f70.name, by decide, Try.func70.trans (congrArg some (by kernel_rfl))⟩
  f21 := ⟨Try.f71.name, by decide, Try.func71.trans (congrArg some (by kernel_rfl))⟩
  f22 := ⟨Try.f72.name, by decide, Try.func72.trans (congrArg some (by kernel_rfl))⟩
  f23 := ⟨Try.f73.name, by decide, Try.func73.trans (congrArg some (by kernel_rfl))⟩
  f24 := ⟨Try.f74.name, by decide, Try.func74.trans (congrArg some (by kernel_rfl))⟩
  f25 := ⟨Try.f75.name, by decide, Try.func75.trans (congrArg some (by kernel_rfl))⟩
  f26 := ⟨Try.f76.name, by decide, Try.func76.trans (congrArg some (by kernel_rfl))⟩
  f27 := ⟨Try.f77.name, by decide, Try.func77.trans (congrArg some (by kernel_rfl))⟩
  f28 := Try.func78.trans (congrArg some (by kernel_rfl))
  f29 := Try.func79.trans (congrArg some (by kernel_rfl))
  f46 := ⟨Try.f80.name, by decide, Try.func80.trans (congrArg some (by kernel_rfl))⟩
  f47 := Try.func81.trans (congrArg some (by kernel_rfl))
  f48 := Try.func82.trans (congrArg some (by kernel_rfl))
  f49 := ⟨Try.f83.name, by decide, Try.func83.trans (congrArg some (by kernel_rfl))⟩
  f50 := ⟨Try.f84.name, by decide, Try.func84.trans (congrArg some (by kernel_rfl))⟩
  f57 := ⟨Try.f85.name, by decide, Try.func85.trans (congrArg some (by kernel_rfl))⟩
  t0 := Try.underlying0
  a0 := Try.isAgg0
  z0 := Try.sizeOf0
  v0 := Try.zeroValue0
  t3 := Try.underlying3
  a3 := Try.isAgg3
  z3 := Try.sizeOf3
  v3 := Try.zeroValue3
  t4 := Try.underlying4
  a4 := Try.isAgg4
  z4 := Try.sizeOf4
  v4 := Try.zeroValue4
  t5 := Try.underlying5
  a5 := Try.isAgg5
  z5 := Try.sizeOf5
  v5 := Try.zeroValue5
  t9 := Try.underlying9
  a9 := Try.isAgg9
  z9 := Try.sizeOf9
  v9 := Try.zeroValue9
  t22 := Try.underlying22
  a22 := Try.isAgg22
  z22 := Try.sizeOf22
  v22 := Try.zeroValue22
  t25 := Try.underlying84
  a25 := Try.isAgg84
  z25 := Try.sizeOf84
  v25 := Try.zeroValue84
  t39 := Try.underlying57
  a39 := Try.isAgg57
  z39 := Try.sizeOf57
  v39 := Try.zeroValue57
  t45 := Try.underlying88
  a45 := Try.isAgg88
  z45 := Try.sizeOf88
  v45 := Try.zeroValue88
  t46 := Try.underlying89
  a46 := Try.isAgg89
  z46 := Try.sizeOf89
  v46 := Try.zeroValue89
  t50 := Try.underlying70
  a50 := Try.isAgg70
  z50 := Try.sizeOf70
  v50 := Try.zeroValue70
  t53 := Try.underlying95
  a53 := Try.isAgg95
  z53 := Try.sizeOf95
  v53 := Try.zeroValue95
  t55 := Try.underlying97
  a55 := Try.isAgg97
  z55 := Try.sizeOf97
  v55 := Try.zeroValue97
  t66 := Try.underlying98
  a66 := Try.isAgg98
  z66 := Try.sizeOf98
  v66 := Try.zeroValue98
  t70 := Try.underlying102
  a70 := Try.isAgg102
  z70 := Try.sizeOf102
  v70 := Try.zeroValue102
  t76 := Try.underlying104
  a76 := Try.isAgg104
  z76 := Try.sizeOf104
  v76 := Try.zeroValue104
  t77 := Try.underlying36
  a77 := Try.isAgg36
  z77 := Try.sizeOf36
  v77 := Try.zeroValue36 }
end Go.Proofs
