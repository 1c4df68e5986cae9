/- Owned lists of ranges read as rows; the contracts of the reference's Norm, All, Not and Count (burinref02), and of burinbook.SameRanges on rows. -/
import Derived.Test.YtimllajokjebeaaRgC
import Derived.Test.YtimllajokjebeaaRgCk
import Derived.Test.YtimllajokjebeaaRgM1
import Derived.Test.YtimllajokjebeaaRgM3
import Derived.RangeFuncRecord
namespace Go.Proofs.Ytimllajokjebeaa
open Go.RowKit
set_option linter.unusedVariables false
namespace Rg
theorem norm_len : ∀ (l : List R) (lo : Int), NormFrom lo l → lo ≤ 1114113 → (l.length : Int) + lo ≤ 1114113
  | [], lo, _, h => by simpa using h
  | p :: l, lo, ⟨h1, h2, h3, h4⟩, h => by
    have := norm_len l (p.2 + 2) h4 (by omega)
    rw [List.length_cons]; push_cast; omega
theorem norm_take : ∀ (l : List R) (lo : Int) (k : Nat), NormFrom lo l → NormFrom lo (l.take k)
  | _, _, 0, _ => by rw [List.take_zero]; trivial
  | [], _, k + 1, _ => trivial
  | p :: l, lo, k + 1, ⟨h1, h2, h3, h4⟩ => ⟨h1, h2, h3, norm_take l (p.2 + 2) k h4⟩
/-- How many numbers: of a normalized list. -/
def sumL (l : List R) : Int := (l.map fun p => p.2 - p.1 + 1).sum
theorem sumL_le : ∀ (l : List R) (lo : Int), NormFrom lo l → 0 ≤ sumL l ∧ (sumL l + lo ≤ 1114112 ∨ sumL l = 0)
  | [], lo, _ => ⟨Int.le_refl _, .inr rfl⟩
  | p :: l, lo, ⟨h1, h2, h3, h4⟩ => by
    have := sumL_le l (p.2 + 2) h4
    have e : sumL (p :: l) = p.2 - p.1 + 1 + sumL l := rfl
    omega
theorem sumL_take_succ (l : List R) (k : Nat) (hk : k < l.length) : sumL (l.take (k + 1)) = sumL (l.take k) + ((l[k]?.getD (0, 0)).2 - (l[k]?.getD (0, 0)).1 + 1) := by
  unfold sumL
  rw [List.take_succ_eq_append_getElem hk, List.map_append, List.sum_append]
  simp [hk]
theorem norm_get {l : List R} (h : NormL l) (k : Nat) (hk : k < l.length) : 0 ≤ (l[k]?.getD (0, 0)).1 ∧ (l[k]?.getD (0, 0)).1 ≤ (l[k]?.getD (0, 0)).2 ∧ (l[k]?.getD (0, 0)).2 ≤ 1114111 := by
  rw [List.getElem?_eq_getElem hk]
  exact norm_lo l 0 h _ (List.getElem_mem hk)
end Rg
theorem flat2_get : ∀ (l : List (Int × Int)) (j : Nat), j < l.length → (flat2 l)[j * 2]? = some (.int .i64 (l[j]?.getD (0, 0)).1) ∧ (flat2 l)[j * 2 + 1]? = some (.int .i64 (l[j]?.getD (0, 0)).2)
  | p :: l, 0, _ => ⟨rfl, rfl⟩
  | p :: l, j + 1, h => by
    have := flat2_get l j (by simpa using h)
    have e : flat2 (p :: l) = Value.int .i64 p.1 :: Value.int .i64 p.2 :: flat2 l := rfl
    rw [e, show (j + 1) * 2 = j * 2 + 1 + 1 by omega]
    simpa using this
abbrev Wide64 (l : List (Int × Int)) : Prop := ∀ p ∈ l, -9223372036854775808 ≤ p.1 ∧ p.1 ≤ 9223372036854775807 ∧ -9223372036854775808 ≤ p.2 ∧ p.2 ≤ 9223372036854775807
theorem RgOwn.row {W : World} {base : Nat} {v : Value} {l : List (Int × Int)} (h : RgOwn W base v l) (hl : l.length ≤ 8796093022208) (hw : Wide64 l) : RRow W v l := by
  obtain ⟨a, cap, rfl⟩ := h.slice
  refine ⟨a, cap, rfl, hl, hw, fun j hj => ?_⟩
  have hf := flat2_get l j hj
  have hln := flat2_len l
  rcases h.2 with ⟨hv, h0⟩ | ⟨g, cap', cur, hv, hb, hg, _⟩
  · omega
  · injection hv with hv _ _
    subst hv
    refine ⟨g, 0, rfl, (Array.getElem?_eq_some_iff.1 hg).1, ?_, ?_⟩
    · rw [Nat.zero_add, h.cellAt _ (by omega)]; exact hf.1
    · rw [Nat.zero_add, h.cellAt _ (by omega)]; exact hf.2
theorem RgOwn.normRow {W : World} {base : Nat} {v : Value} {l : List (Int × Int)} (h : RgOwn W base v l) (hn : Rg.NormL l) : RRow W v l := by
  refine h.row ?_ ?_
  · have := Rg.norm_len l 0 hn (by omega); omega
  · intro p hp; have := Rg.norm_lo l 0 hn p hp; omega
theorem RRow.nil (W : World) : RRow W (.slice none 0 0) [] := ⟨none, 0, rfl, Nat.zero_le _, (fun p h => by cases h), fun j h => by cases h⟩
theorem RRow.drewN {W : World} {v : Value} {l : List (Int × Int)} (h : RRow W v l) (d : Nat) : RRow (W.drewN d) v l := h
set_option maxRecDepth 100000 in
set_option maxHeartbeats 2000000 in
/-- The lists' lengths differ. -/
theorem same_rg_len (W : World) (a b : Option Addr) (n m p q : Nat) (hn : n ≤ 8796093022208) (hm : m ≤ 8796093022208) (hne : n ≠ m) :
    Calls Try.prog 11 #[.slice a n p, .slice b m q] W fun e W' => e = .returned (.bool false) ∧ ∃ d, W' = W.drewN d := by
  have hne' : ¬ (n : Int) = (m : Int) := by omega
  go_enter Try.func11, Try.ntmps11
  go_wp2
  refine wp_loop_rounds 1 ?_
  rw [rounds_succ]
  go_wp2
  go_ret
  exact ⟨congrArg (fun b => Ending.returned (.bool b)) (beq_eq_false_iff_ne.2 hne'), 0, rfl⟩
theorem same_rg (W : World) (va vb : Value) (l m : List (Int × Int)) (ha : RRow W va l) (hb : RRow W vb m) :
    Calls Try.prog 11 #[va, vb] W fun e W' => e = .returned (.bool (decide (l = m))) ∧ ∃ d, W' = W.drewN d := by
  obtain ⟨a, p, rfl, hl, _, hca⟩ := ha
  obtain ⟨b, q, rfl, hm, _, hcb⟩ := hb
  by_cases e : l.length = m.length
  · rw [← e] at hcb ⊢
    exact same_rg_walk W a b _ p q l m hl rfl e.symm hca hcb
  · rw [decide_eq_false (fun h => e (by rw [h]))]
    exact same_rg_len W a b _ _ p q hl hm e
set_option maxRecDepth 100000 in
set_option maxHeartbeats 2000000 in
theorem refNorm (W : World) (va : Value) (a : List (Int × Int)) (ha : RRow W va a) :
    Calls Try.prog 12 #[va] W (MakePost 1 a [] W) := by
  have HA := Lib.hid ha
  clear ha
  go_enter Try.func12, Try.ntmps12
  go_wp2_with fail
  refine (refMake1 _ _ _ a [] HA.out (RRow.nil _)).mono ?_
  rintro e wa ⟨v, out, rfl, hm, ho, hb⟩
  go_wp2
  go_ret
  exact ⟨v, out, rfl, hm, ho, hb⟩
set_option maxRecDepth 100000 in
set_option maxHeartbeats 2000000 in
theorem refAll (W : World) :
    Calls Try.prog 36 #[] W fun e w' => ∃ v, e = .returned v ∧ RgOwn w' W.heap.size v [(0, 1114111)] ∧ Below W.heap.size W w' := by
  go_enter Try.func36, Try.ntmps36
  go_wp2
  go_ret
  refine ⟨_, rfl, ⟨rfl, Or.inr ⟨W.heap.size, 1, _, rfl, Nat.le_refl _, World.alloc_heap_new _ _, by decide, by decide, rfl, rfl⟩⟩, (Below.refl _ _).alloc (Nat.le_refl _) _⟩
set_option maxRecDepth 100000 in
set_option maxHeartbeats 2000000 in
theorem refNot (W : World) (va : Value) (a : List (Int × Int)) (ha : RRow W va a) :
    Calls Try.prog 26 #[va] W (MakePost 3 [(0, 1114111)] a W) := by
  have HA := Lib.hid ha
  clear ha
  go_enter Try.func26, Try.ntmps26
  go_wp2_with fail
  refine (refAll _).mono ?_
  rintro e wa ⟨va', rfl, hoa, hba⟩
  have HRA := Lib.hid (hoa.row (by decide) (by intro p hp; simp at hp; subst hp; decide))
  have HA' := Lib.hid (HA.out.below (Nat.le_refl _) hba)
  have HB := Lib.hid hba
  clear hoa hba HA
  go_wp2_with fail
  refine (refMake3 _ _ _ [(0, 1114111)] a HRA.out HA'.out).mono ?_
  rintro e wb ⟨v, out, rfl, hm, ho, hb⟩
  go_wp2
  go_ret
  exact ⟨v, out, rfl, hm, ⟨ho.1, ho.2.imp id (fun ⟨g, cap, cur, h1, h2, h3⟩ => ⟨g, cap, cur, h1, Nat.le_trans HB.out.size h2, h3⟩)⟩, HB.out.trans (hb.mono HB.out.size)⟩
set_option maxRecDepth 100000 in
set_option maxHeartbeats 2000000 in
theorem refCount (W : World) (va : Value) (a : List (Int × Int)) (ha : RRow W va a) :
    Calls Try.prog 19 #[va] W fun e w' => ∃ out, Rg.Made 1 a [] out ∧ e = .returned (.int .i64 (Rg.sumL out)) ∧ Below W.heap.size W w' := by
  have HA := Lib.hid ha
  clear ha
  go_enter Try.func19, Try.ntmps19
  go_wp2_with fail
  refine (refNorm _ _ _ HA.out).mono ?_
  rintro e wa ⟨v, out, rfl, hm, ho, hba⟩
  obtain ⟨b, cap, rfl, hl, hw, hc⟩ := ho.normRow hm.norm
  have HM := Lib.hid hm
  have HC := Lib.hid hc
  have HB := Lib.hid hba
  clear hm hc hw ho hba HA
  obtain ⟨n, hn⟩ : ∃ n, out.length = n := ⟨_, rfl⟩
  have HN := Lib.hid hn
  rw [hn]
  rw [hn] at hl
  clear hn
  go_wp2
  go_loopw [3, 5] (fun N i wr => ∃ (k : Nat) (x : Int), k ≤ n ∧ i = .int .i64 k ∧ N = .int .i64 x ∧ 0 ≤ x ∧ x ≤ 1114112 ∧ Hid (Rg.sumL (out.take k) = x) ∧ ∃ d, wr = wa.drewN d) (fun _ i _ => n - (intOf i).toNat)
  case atStart => exact ⟨0, 0, Nat.zero_le _, rfl, rfl, by omega, by omega, Lib.hid rfl, 0, rfl⟩
  case round =>
    obtain ⟨k, x, hk, rfl, rfl, hx0, hx1, HS, d, rfl⟩ := hrel
    by_cases hlt : k < n
    · obtain ⟨g, off, rfl, hg, hc1, hc2⟩ := HC.out k (by rw [HN.out]; exact hlt)
      have hs := Rg.sumL_take_succ out k (by rw [HN.out]; exact hlt)
      rw [HS.out] at hs
      obtain ⟨g1, g2, g3⟩ := Rg.norm_get HM.out.norm k (by rw [HN.out]; exact hlt)
      have hle := Rg.sumL_le _ 0 (Rg.norm_take out 0 (k + 1) HM.out.norm)
      rw [hs] at hle
      have HS' := Lib.hid hs
      obtain ⟨p, hp⟩ : ∃ p, out[k]?.getD (0, 0) = p := ⟨_, rfl⟩
      rw [hp] at hc1 hc2 g1 g2 g3 hle HS'
      clear hp hs
      obtain ⟨p1, p2⟩ := p
      dsimp only at hc1 hc2 g1 g2 g3 hle
      go_wp2
      go_quiet (fail)
      go_wp2
      go_round
      case rel => exact ⟨k + 1, x + (p2 - p1 + 1), by omega, by go_num, by go_num, by omega, by omega, HS', _, rfl⟩
      case measure => simp [intOf]; omega
    · obtain rfl : k = n := by omega
      have HE : Hid (Rg.sumL out = x) := Lib.hid (by
        have := HS.out
        rwa [List.take_of_length_le (by rw [HN.out]; exact Nat.le_refl _)] at this)
      go_wp2
      go_ret
      exact ⟨out, HM.out, by rw [HE.out]; rfl, HB.out.trans ⟨rfl, rfl, rfl, Nat.le_refl _, fun _ _ => rfl⟩⟩
end Go.Proofs.Ytimllajokjebeaa
