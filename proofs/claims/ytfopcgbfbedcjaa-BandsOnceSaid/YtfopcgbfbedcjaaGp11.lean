/- Lists of sequences of ranges that a call owns: the outer row and each inner one. · The plain mathematics of bands: the classes of runes, Split and Of; no program. -/
import Derived.Test.YtfopcgbfbedcjaaGp10
import Derived.Test.YtfopcgbfbedcjaaGp4
import Derived.Deep.AppendLies
import Derived.Test.YtfopcgbfbedcjaaGp8
namespace Go.Proofs.Ytfopcgbfbedcjaa
open Go.RowKit
set_option linter.unusedVariables false
theorem Try.infoSeq : (Try.prog.info? 22).map (fun i => (i.zero, i.size, i.bytes)) = some (some (.slice none 0 0), 1, 24) := by kernel_rfl
abbrev nilV : Value := .slice none 0 0
/-- No two of these values share a block of their own, nor with v. -/
structure QApart (v : Value) (us : List Value) : Prop where
  inner : ∀ i j, i < j → j < us.length → ∀ b, (us[i]?.getD nilV).ownBlock = some b → (us[j]?.getD nilV).ownBlock ≠ some b
  outer : ∀ j, j < us.length → ∀ b, (us[j]?.getD nilV).ownBlock = some b → v.ownBlock ≠ some b
def QOwnU (W : World) (base : Nat) (v : Value) (us : List Value) (L : List (List (Int × Int))) : Prop :=
  us.length = L.length ∧ W.ownsRow base 22 1 v us.length us ∧ (∀ j, j < us.length → RgOwn W base (us[j]?.getD nilV) (L[j]?.getD [])) ∧ QApart v us
def QOwn (W : World) (base : Nat) (v : Value) (L : List (List (Int × Int))) : Prop := ∃ us, QOwnU W base v us L
theorem RgOwn.lt {W : World} {base : Nat} {v : Value} {l : List (Int × Int)} (h : RgOwn W base v l) {b : Nat} (hb : v.ownBlock = some b) : base ≤ b ∧ b < W.heap.size := World.ownsRow.lt h b hb
theorem RgOwn.below2 {W W' : World} {base : Nat} {v : Value} {l : List (Int × Int)} (h : RgOwn W base v l) (hb : Below W.heap.size W W') : RgOwn W' base v l :=
  h.kept ⟨hb.os, hb.tape, hb.output, hb.size, fun k hk _ => hb.block k hk⟩ (row := none) (by cases hv : v.ownBlock <;> simp)
theorem QOwnU.nil {W : World} {base : Nat} : QOwnU W base nilV [] [] :=
  ⟨rfl, World.ownsRow_nil _ _ _ _, fun j h => absurd h (Nat.not_lt_zero _), ⟨fun i j _ h => absurd h (Nat.not_lt_zero _), fun j h => absurd h (Nat.not_lt_zero _)⟩⟩
theorem QOwnU.below {W W' : World} {base : Nat} {v : Value} {us : List Value} {L : List (List (Int × Int))} (h : QOwnU W base v us L) (hb : Below W.heap.size W W') : QOwnU W' base v us L :=
  ⟨h.1, h.2.1.kept ⟨hb.os, hb.tape, hb.output, hb.size, fun k hk _ => hb.block k hk⟩ (row := none) (by cases hv : v.ownBlock <;> simp), fun j hj => (h.2.2.1 j hj).below2 hb, h.2.2.2⟩
theorem QOwnU.alloc {W : World} {base : Nat} {v : Value} {us : List Value} {L : List (List (Int × Int))} (h : QOwnU W base v us L) (o : Obj) : QOwnU (W.alloc o) base v us L :=
  h.below ((Below.refl _ _).alloc (Nat.le_refl _) o)
theorem QOwnU.lower {W : World} {base base' : Nat} {v : Value} {us : List Value} {L : List (List (Int × Int))} (h : QOwnU W base v us L) (hb : base' ≤ base) : QOwnU W base' v us L :=
  ⟨h.1, ⟨h.2.1.1, h.2.1.2.imp id (fun ⟨g, cap, cur, h1, h2, h3⟩ => ⟨g, cap, cur, h1, Nat.le_trans hb h2, h3⟩)⟩, fun j hj => ⟨(h.2.2.1 j hj).1, (h.2.2.1 j hj).2.imp id (fun ⟨g, cap, cur, h1, h2, h3⟩ => ⟨g, cap, cur, h1, Nat.le_trans hb h2, h3⟩)⟩, h.2.2.2⟩
/-- A world in which only the row of v has turned: an inner row stays owned. -/
theorem RgOwn.grown {W W' : World} {base : Nat} {u v : Value} {l : List (Int × Int)} (h : RgOwn W base u l) (hg : W.grownBy W' v.ownBlock) (ha : ∀ b, u.ownBlock = some b → v.ownBlock ≠ some b) : RgOwn W' base u l :=
  h.kept hg (by
    cases hu : u.ownBlock with
    | none => exact .inl rfl
    | some b => exact .inr (Ne.symm (ha b hu)))
/-- One more sequence at the end. -/
theorem QOwnU.snoc {W W' : World} {base : Nat} {v u : Value} {us : List Value} {L : List (List (Int × Int))} {q : List (Int × Int)} {gg cap1 : Nat} (h : QOwnU W base v us L) (hu : RgOwn W base u q)
    (hua : ∀ j, j < us.length → ∀ b, (us[j]?.getD nilV).ownBlock = some b → u.ownBlock ≠ some b) (huv : ∀ b, u.ownBlock = some b → v.ownBlock ≠ some b)
    (hown : W'.ownsRow base 22 1 (.slice (some ⟨gg, 0, none⟩) (us.length + 1) cap1) (us.length + 1) (us ++ [u])) (hg : W.grownBy W' v.ownBlock) (hat : v.ownBlock = some gg ∨ W.heap.size ≤ gg) :
    QOwnU W' base (.slice (some ⟨gg, 0, none⟩) (us.length + 1) cap1) (us ++ [u]) (L ++ [q]) := by
  have hgu : ∀ x b, x < us.length → (us[x]?.getD nilV).ownBlock = some b → gg ≠ b := by
    intro x b hx hb e
    subst e
    rcases hat with h1 | h1
    · exact h.2.2.2.outer x hx _ hb h1
    · have := (h.2.2.1 x hx).lt hb; omega
  have hguu : ∀ b, u.ownBlock = some b → gg ≠ b := by
    intro b hb e
    subst e
    rcases hat with h1 | h1
    · exact huv _ hb h1
    · have := hu.lt hb; omega
  refine ⟨by simp [h.1], by rw [List.length_append]; exact hown, fun j hj => ?_, fun i j hij hj b hb => ?_, fun j hj b hb => ?_⟩
  · rw [List.length_append, List.length_singleton] at hj
    by_cases e : j < us.length
    · rw [List.getElem?_append_left e, List.getElem?_append_left (by rw [← h.1]; exact e)]
      exact (h.2.2.1 j e).grown hg (h.2.2.2.outer j e)
    · obtain rfl : j = us.length := by omega
      rw [List.getElem?_append_right (Nat.le_refl _), List.getElem?_append_right (by rw [h.1]; exact Nat.le_refl _), h.1]
      simp only [Nat.sub_self, List.getElem?_cons_zero, Option.getD_some]
      exact hu.grown hg huv
  · rw [List.length_append, List.length_singleton] at hj
    have hi : i < us.length := by omega
    rw [List.getElem?_append_left hi] at hb
    by_cases e : j < us.length
    · rw [List.getElem?_append_left e]; exact h.2.2.2.inner i j hij e b hb
    · obtain rfl : j = us.length := by omega
      rw [List.getElem?_append_right (Nat.le_refl _)]
      simp only [Nat.sub_self, List.getElem?_cons_zero, Option.getD_some]
      exact hua i hi b hb
  · rw [List.length_append, List.length_singleton] at hj
    show (some gg : Option Nat) ≠ some b
    intro e2
    injection e2 with e2
    by_cases e : j < us.length
    · rw [List.getElem?_append_left e] at hb
      exact hgu j b e hb e2
    · obtain rfl : j = us.length := by omega
      rw [List.getElem?_append_right (Nat.le_refl _)] at hb
      simp only [Nat.sub_self, List.getElem?_cons_zero, Option.getD_some] at hb
      exact hguu b hb e2
/-- What is owned reads as it is. -/
theorem QOwnU.row {W : World} {base : Nat} {v : Value} {us : List Value} {L : List (List (Int × Int))} (h : QOwnU W base v us L) (hl : L.length ≤ 8796093022208) (hw : ∀ q ∈ L, q.length ≤ 8796093022208 ∧ Wide64 q) : QRow W v L := by
  obtain ⟨h1, h2, h3, h4⟩ := h
  have hown := h2
  rcases h2.2 with ⟨hv, h0⟩ | ⟨g, cap, cur, rfl, hb, hg, hnc, hcm, hcs, _⟩
  · exact ⟨none, 0, by rw [← h1, h0]; exact hv, hl, fun j hj => by omega⟩
  · refine ⟨_, cap, by rw [h1], hl, fun j hj => ?_⟩
    have hj' : j < us.length := by omega
    refine ⟨g, 0, us[j]?.getD nilV, rfl, (Array.getElem?_eq_some_iff.1 hg).1, ?_, ?_⟩
    · rw [Nat.zero_add, World.ownsRow.cellAt hown j (by omega), List.getElem?_eq_getElem hj']; rfl
    · have hm : L[j]?.getD [] ∈ L := by rw [List.getElem?_eq_getElem hj]; exact List.getElem_mem _
      exact (h3 j hj').row (hw _ hm).1 (hw _ hm).2
end Go.Proofs.Ytfopcgbfbedcjaa
namespace Go.Proofs.Ytfopcgbfbedcjaa
set_option linter.unusedVariables false
namespace Bd
open Go.Proofs.Ytfopcgbfbedcjaa.Rg
/-- The classes of runes: from, to, width. -/
def clsT : List (Int × Int × Nat) := [(0, 127, 1), (128, 2047, 2), (2048, 55295, 3), (57344, 65535, 3), (65536, 1114111, 4)]
def endsT : List Int := [0, 127, 128, 2047, 2048, 55295, 57344, 65535, 65536, 1114111]
def part (lo hi : Int) (c : Int × Int × Nat) : List (List (Int × Int)) := if max lo c.1 ≤ min hi c.2.1 then oneL (max lo c.1) (min hi c.2.1) else []
def splitK (lo hi : Int) (k : Nat) : List (List (Int × Int)) := (clsT.take k).flatMap (part lo hi)
def splitL (lo hi : Int) : List (List (Int × Int)) := clsT.flatMap (part lo hi)
theorem cls_at (k : Nat) (hk : k < 5) : endsT[k * 2]?.getD 0 = (clsT[k]?.getD (0, 0, 0)).1 ∧ endsT[k * 2 + 1]?.getD 0 = (clsT[k]?.getD (0, 0, 0)).2.1 := by
  rcases (by omega : k = 0 ∨ k = 1 ∨ k = 2 ∨ k = 3 ∨ k = 4) with rfl | rfl | rfl | rfl | rfl <;> exact ⟨rfl, rfl⟩
theorem cls_ok (k : Nat) (hk : k < 5) (a b : Int) (h1 : (clsT[k]?.getD (0, 0, 0)).1 ≤ a) (h2 : b ≤ (clsT[k]?.getD (0, 0, 0)).2.1) (h3 : a ≤ b) : Cls (clsT[k]?.getD (0, 0, 0)).2.2 a b := by
  refine ⟨h3, ?_⟩
  rcases (by omega : k = 0 ∨ k = 1 ∨ k = 2 ∨ k = 3 ∨ k = 4) with rfl | rfl | rfl | rfl | rfl <;> simp [clsT] at h1 h2 ⊢ <;> omega
theorem cls_bd (k : Nat) (hk : k < 5) : 0 ≤ (clsT[k]?.getD (0, 0, 0)).1 ∧ (clsT[k]?.getD (0, 0, 0)).1 ≤ 1114111 ∧ 0 ≤ (clsT[k]?.getD (0, 0, 0)).2.1 ∧ (clsT[k]?.getD (0, 0, 0)).2.1 ≤ 1114111 := by
  rcases (by omega : k = 0 ∨ k = 1 ∨ k = 2 ∨ k = 3 ∨ k = 4) with rfl | rfl | rfl | rfl | rfl <;> decide
structure SplitSt (lo hi : Int) (k : Nat) (c : Int × Int × Nat) : Prop where
  eq : splitK lo hi (k + 1) = splitK lo hi k ++ part lo hi c
theorem splitSt (lo hi : Int) (k : Nat) (hk : k < 5) (c : Int × Int × Nat) (hc : clsT[k]?.getD (0, 0, 0) = c) : SplitSt lo hi k c := by
  refine ⟨?_⟩
  have hl : k < clsT.length := hk
  unfold splitK
  rw [List.take_succ_eq_append_getElem hl, List.flatMap_append]
  rw [List.getElem?_eq_getElem hl] at hc
  rw [← hc]; simp
theorem part_len (lo hi : Int) (c : Int × Int × Nat) (h : 0 ≤ c.1 ∧ c.2.1 ≤ 1114111) : (part lo hi c).length ≤ 1114112 := by
  unfold part
  split
  · rename_i h1
    have := oneL_len h1
    omega
  · simp
theorem splitK_len (lo hi : Int) : ∀ k, k ≤ 5 → (splitK lo hi k).length ≤ k * 1114112
  | 0, _ => by simp [splitK]
  | k + 1, h => by
    have h1 := splitK_len lo hi k (by omega)
    have hb := cls_bd k (by omega)
    have h2 := part_len lo hi _ ⟨hb.1, hb.2.2.2⟩
    rw [(splitSt lo hi k (by omega) _ rfl).eq, List.length_append]
    omega
theorem part_len2 (lo hi : Int) (c : Int × Int × Nat) : ((part lo hi c).length : Int) ≤ max 0 (min hi c.2.1 - max lo c.1 + 1) := by
  unfold part
  split
  · rename_i h1
    have := oneL_len h1
    omega
  · simp; omega
theorem splitL_len {lo hi : Int} (h0 : 0 ≤ lo) (h1 : lo ≤ hi) (h2 : hi ≤ 1114111) : ((splitL lo hi).length : Int) ≤ hi - lo + 1 := by
  have a := part_len2 lo hi (0, 127, 1)
  have b := part_len2 lo hi (128, 2047, 2)
  have c := part_len2 lo hi (2048, 55295, 3)
  have d := part_len2 lo hi (57344, 65535, 3)
  have e := part_len2 lo hi (65536, 1114111, 4)
  have h : (splitL lo hi).length = (part lo hi (0, 127, 1)).length + ((part lo hi (128, 2047, 2)).length + ((part lo hi (2048, 55295, 3)).length + ((part lo hi (57344, 65535, 3)).length + (part lo hi (65536, 1114111, 4)).length))) := by
    simp [splitL, clsT]
  dsimp only at a b c d e
  omega
def ofL (B : List R) : List (List R) := B.flatMap fun p => splitL p.1 p.2
theorem ofL_succ (B : List R) (j : Nat) (hj : j < B.length) (p : R) (hp : B[j]?.getD (0, 0) = p) : ofL (B.take (j + 1)) = ofL (B.take j) ++ splitL p.1 p.2 := by
  unfold ofL
  rw [List.take_succ_eq_append_getElem hj, List.flatMap_append]
  rw [List.getElem?_eq_getElem hj] at hp
  rw [← hp]; simp
theorem ofL_len : ∀ (B : List R) (lo : Int) (k : Nat), NormFrom lo B → 0 ≤ lo → lo ≤ 1114113 → ((ofL (B.take k)).length : Int) ≤ 1114113 - lo
  | [], lo, k, _, _, h => by simp [ofL]; omega
  | p :: B, lo, 0, _, _, h => by simp [ofL]; omega
  | p :: B, lo, k + 1, ⟨h1, h2, h3, h4⟩, h0, h => by
    have ih := ofL_len B (p.2 + 2) k h4 (by omega) (by omega)
    have hs := splitL_len (lo := p.1) (hi := p.2) (by omega) h2 h3
    have e : ofL ((p :: B).take (k + 1)) = splitL p.1 p.2 ++ ofL (B.take k) := by simp [ofL]
    rw [e, List.length_append]
    push_cast
    omega
end Bd
end Go.Proofs.Ytfopcgbfbedcjaa
