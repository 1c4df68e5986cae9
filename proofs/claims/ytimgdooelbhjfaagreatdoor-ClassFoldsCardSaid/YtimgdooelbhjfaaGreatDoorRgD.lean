/- Owned lists of ranges read as rows; the contracts of the reference's Norm, All, Not and Count (burinref02), and of burinbook.SameRanges on rows. -/
import Derived.Test.YtimgdooelbhjfaaGreatDoorRgC
import Derived.Test.YtimgdooelbhjfaaGreatDoorRgM1
import Derived.RangeFuncRecord
namespace Go.Proofs.YtimgdooelbhjfaaGreatDoor
open Go.RowKit
set_option linter.unusedVariables false
namespace Rg
theorem norm_len : ∀ (l : List R) (lo : Int), NormFrom lo l → lo ≤ 1114113 → (l.length : Int) + lo ≤ 1114113
  | [], lo, _, h => by simpa using h
  | p :: l, lo, ⟨h1, h2, h3, h4⟩, h => by
    have := norm_len l (p.2 + 2) h4 (by omega)
    rw [List.length_cons]; push_cast; omega
theorem norm_take : ∀ (l : List R) (lo : Int) (k : Nat), NormFrom lo l → NormFrom lo (l.take k)
  | _, _, 0, _ => by rw [List.take_zero]; trivial
  | [], _, k + 1, _ => trivial
  | p :: l, lo, k + 1, ⟨h1, h2, h3, h4⟩ => ⟨h1, h2, h3, norm_take l (p.2 + 2) k h4⟩
/-- How many numbers: of a normalized list. -/
def sumL (l : List R) : Int := (l.map fun p => p.2 - p.1 + 1).sum
theorem sumL_le : ∀ (l : List R) (lo : Int), NormFrom lo l → 0 ≤ sumL l ∧ (sumL l + lo ≤ 1114112 ∨ sumL l = 0)
  | [], lo, _ => ⟨Int.le_refl _, .inr rfl⟩
  | p :: l, lo, ⟨h1, h2, h3, h4⟩ => by
    have := sumL_le l (p.2 + 2) h4
    have e : sumL (p :: l) = p.2 - p.1 + 1 + sumL l := rfl
    omega
theorem sumL_take_succ (l : List R) (k : Nat) (hk : k < l.length) : sumL (l.take (k + 1)) = sumL (l.take k) + ((l[k]?.getD (0, 0)).2 - (l[k]?.getD (0, 0)).1 + 1) := by
  unfold sumL
  rw [List.take_succ_eq_append_getElem hk, List.map_append, List.sum_append]
  simp [hk]
theorem norm_get {l : List R} (h : NormL l) (k : Nat) (hk : k < l.length) : 0 ≤ (l[k]?.getD (0, 0)).1 ∧ (l[k]?.getD (0, 0)).1 ≤ (l[k]?.getD (0, 0)).2 ∧ (l[k]?.getD (0, 0)).2 ≤ 1114111 := by
  rw [List.getElem?_eq_getElem hk]
  exact norm_lo l 0 h _ (List.getElem_mem hk)
end Rg
theorem flat2_get : ∀ (l : List (Int × Int)) (j : Nat), j < l.length → (flat2 l)[j * 2]? = some (.int .i64 (l[j]?.getD (0, 0)).1) ∧ (flat2 l)[j * 2 + 1]? = some (.int .i64 (l[j]?.getD (0, 0)).2)
  | p :: l, 0, _ => ⟨rfl, rfl⟩
  | p :: l, j + 1, h => by
    have := flat2_get l j (by simpa using h)
    have e : flat2 (p :: l) = Value.int .i64 p.1 :: Value.int .i64 p.2 :: flat2 l := rfl
    rw [e, show (j + 1) * 2 = j * 2 + 1 + 1 by omega]
    simpa using this
abbrev Wide64 (l : List (Int × Int)) : Prop := ∀ p ∈ l, -9223372036854775808 ≤ p.1 ∧ p.1 ≤ 9223372036854775807 ∧ -9223372036854775808 ≤ p.2 ∧ p.2 ≤ 9223372036854775807
theorem RgOwn.row {W : World} {base : Nat} {v : Value} {l : List (Int × Int)} (h : RgOwn W base v l) (hl : l.length ≤ 8796093022208) (hw : Wide64 l) : RRow W v l := by
  obtain ⟨a, cap, rfl⟩ := h.slice
  refine ⟨a, cap, rfl, hl, hw, fun j hj => ?_⟩
  have hf := flat2_get l j hj
  have hln := flat2_len l
  rcases h.2 with ⟨hv, h0⟩ | ⟨g, cap', cur, hv, hb, hg, _⟩
  · omega
  · injection hv with hv _ _
    subst hv
    refine ⟨g, 0, rfl, (Array.getElem?_eq_some_iff.1 hg).1, ?_, ?_⟩
    · rw [Nat.zero_add, h.cellAt _ (by omega)]; exact hf.1
    · rw [Nat.zero_add, h.cellAt _ (by omega)]; exact hf.2
theorem RgOwn.normRow {W : World} {base : Nat} {v : Value} {l : List (Int × Int)} (h : RgOwn W base v l) (hn : Rg.NormL l) : RRow W v l := by
  refine h.row ?_ ?_
  · have := Rg.norm_len l 0 hn (by omega); omega
  · intro p hp; have := Rg.norm_lo l 0 hn p hp; omega
theorem RRow.nil (W : World) : RRow W (.slice none 0 0) [] := ⟨none, 0, rfl, Nat.zero_le _, (fun p h => by cases h), fun j h => by cases h⟩
theorem RRow.drewN {W : World} {v : Value} {l : List (Int × Int)} (h : RRow W v l) (d : Nat) : RRow (W.drewN d) v l := h
set_option maxRecDepth 100000 in
set_option maxHeartbeats 2000000 in
/-- The lists' lengths differ. -/
theorem same_rg_len (W : World) (a b : Option Addr) (n m p q : Nat) (hn : n ≤ 8796093022208) (hm : m ≤ 8796093022208) (hne : n ≠ m) :
    Calls Tryz.prog 13 #[.slice a n p, .slice b m q] W fun e W' => e = .returned (.bool false) ∧ ∃ d, W' = W.drewN d := by
  have hne' : ¬ (n : Int) = (m : Int) := by omega
  go_enter Tryz.func13, Tryz.ntmps13
  go_wp2
  refine wp_loop_rounds 1 ?_
  rw [rounds_succ]
  go_wp2
  go_ret
  exact ⟨congrArg (fun b => Ending.returned (.bool b)) (beq_eq_false_iff_ne.2 hne'), 0, rfl⟩
theorem same_rg (W : World) (va vb : Value) (l m : List (Int × Int)) (ha : RRow W va l) (hb : RRow W vb m) :
    Calls Tryz.prog 13 #[va, vb] W fun e W' => e = .returned (.bool (decide (l = m))) ∧ ∃ d, W' = W.drewN d := by
  obtain ⟨a, p, rfl, hl, _, hca⟩ := ha
  obtain ⟨b, q, rfl, hm, _, hcb⟩ := hb
  by_cases e : l.length = m.length
  · rw [← e] at hcb ⊢
    exact same_rg_walk W a b _ p q l m hl rfl e.symm hca hcb
  · rw [decide_eq_false (fun h => e (by rw [h]))]
    exact same_rg_len W a b _ _ p q hl hm e
set_option maxRecDepth 100000 in
set_option maxHeartbeats 2000000 in
theorem refNorm (W : World) (va : Value) (a : List (Int × Int)) (ha : RRow W va a) :
    Calls Tryz.prog 47 #[va] W (MakePost 1 a [] W) := by
  have HA := Lib.hid ha
  clear ha
  go_enter Tryz.func47, Tryz.ntmps47
  go_wp2_with fail
  refine (refMake1 _ _ _ a [] HA.out (RRow.nil _)).mono ?_
  rintro e wa ⟨v, out, rfl, hm, ho, hb⟩
  go_wp2
  go_ret
  exact ⟨v, out, rfl, hm, ho, hb⟩
end Go.Proofs.YtimgdooelbhjfaaGreatDoor
