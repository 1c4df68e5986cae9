/- The plain mathematics of lists of ranges: membership, edges, normalized lists and their uniqueness; no program. · Lists of ranges in memory; the contract of the reference's Has (burinref02). · The contract of the reference's Make (burinref02), from edge to edge. · The contracts of burinbook.SameRanges and of the reference's Check, Norm, Not and Count (burinref02). · The reference's Make (burinref02) for operation 1: the list of the set made of two. · Owned lists of ranges read as rows; the contracts of the reference's Norm, All, Not and Count (burinref02), and of burinbook.SameRanges on rows. -/
import Derived.Test.YtfnimmbmcjgdpaaDoorRows
import Derived.WalkKit
import Derived.OwnWalk
import Derived.WalkLawsBesides
import Derived.WalkSpells
import Derived.Lib.Hide
import Derived.Deep.QuietTactic
import Derived.BigQuiet
import Derived.Maps.AppendAt
import Derived.Deep.AppendLies
import Derived.Laws.OwnMore
import Derived.Laws.StructEq
import Derived.RangeFuncRecord
namespace Go.Proofs.YtfnimmbmcjgdpaaDoor.Rg
set_option linter.unusedVariables false
abbrev R := Int × Int
def hasB (l : List R) (r : Int) : Bool := decide (0 ≤ r ∧ r ≤ 1114111) && l.any fun p => decide (p.1 ≤ r ∧ r ≤ p.2)
/-! ### Normalized lists -/
/-- Normalized, all from lo on. -/
def NormFrom : Int → List R → Prop
  | _, [] => True
  | lo, p :: l => lo ≤ p.1 ∧ p.1 ≤ p.2 ∧ p.2 ≤ 1114111 ∧ NormFrom (p.2 + 2) l
def NormL (l : List R) : Prop := NormFrom 0 l
def memL (l : List R) (q : Int) : Prop := ∃ p ∈ l, p.1 ≤ q ∧ q ≤ p.2
end Go.Proofs.YtfnimmbmcjgdpaaDoor.Rg
/-! Making a normalized list from edge to edge. -/
namespace Go.Proofs.YtfnimmbmcjgdpaaDoor.Rg
theorem norm_snoc : ∀ (l : List R) (lo x y : Int), NormFrom lo l → (∀ p ∈ l, p.2 + 2 ≤ x) → lo ≤ x → x ≤ y → y ≤ 1114111 → NormFrom lo (l ++ [(x, y)])
  | [], lo, x, y, _, _, h1, h2, h3 => ⟨h1, h2, h3, trivial⟩
  | p :: l, lo, x, y, h, hp, h1, h2, h3 =>
    ⟨h.1, h.2.1, h.2.2.1, norm_snoc l _ x y h.2.2.2 (fun q hq => hp q (by simp [hq])) (hp p (by simp)) h2 h3⟩
theorem memL_snoc (l : List R) (p : R) (q : Int) : memL (l ++ [p]) q ↔ memL l q ∨ (p.1 ≤ q ∧ q ≤ p.2) := by
  unfold memL
  constructor
  · rintro ⟨x, hx, h⟩
    rcases List.mem_append.1 hx with hx | hx
    · exact .inl ⟨x, hx, h⟩
    · simp at hx; subst hx; exact .inr h
  · rintro (⟨x, hx, h⟩ | h)
    · exact ⟨x, List.mem_append.2 (.inl hx), h⟩
    · exact ⟨p, List.mem_append.2 (.inr (by simp)), h⟩
/-- What has been made as far as 'at': normalized, below it, and of just the numbers below it that are wanted. -/
structure MInv (F : Int → Bool) (at_ : Int) (out : List R) : Prop where
  norm : NormL out
  below : ∀ p ∈ out, p.2 < at_
  mem : ∀ q, 0 ≤ q → q < at_ → (memL out q ↔ F q = true)
section
variable {F : Int → Bool} {at_ next : Int} {out : List R}
theorem MInv.add (h : MInv F at_ out) (h0 : 0 ≤ at_) (h1 : at_ < next) (h2 : next ≤ 1114112) (hc : ∀ q, at_ ≤ q → q < next → F q = F at_) (hf : F at_ = true) (hl : ∀ p ∈ out, p.2 + 2 ≤ at_) : MInv F next (out ++ [(at_, next - 1)]) := by
  refine ⟨norm_snoc out 0 _ _ h.norm hl h0 (by omega) (by omega), fun p hp => ?_, fun q hq0 hq => ?_⟩
  · rcases List.mem_append.1 hp with hp | hp
    · have := h.below p hp; omega
    · simp at hp; subst hp; show next - 1 < next; omega
  · rw [memL_snoc]
    by_cases e : q < at_
    · rw [← h.mem q hq0 e]
      constructor
      · rintro (h | h)
        · exact h
        · have := h.1; simp at this; omega
      · exact .inl
    · rw [hc q (by omega) hq, hf]
      exact ⟨fun _ => rfl, fun _ => .inr ⟨by show at_ ≤ q; omega, by show q ≤ next - 1; omega⟩⟩
end
def opB (op : Int) (x y : Bool) : Bool := decide (op = 1) && (x || y) || decide (op = 2) && x && y || decide (op = 3) && x && !y
/-- The list of a set made of two. -/
structure Made (op : Int) (a b : List R) (out : List R) : Prop where
  norm : NormL out
  has : ∀ q, 0 ≤ q → q ≤ 1114111 → hasB out q = opB op (hasB a q) (hasB b q)
end Go.Proofs.YtfnimmbmcjgdpaaDoor.Rg
namespace Go.Proofs.YtfnimmbmcjgdpaaDoor
open Go.RowKit
set_option linter.unusedVariables false
def RRow (W : World) (v : Value) (l : List (Int × Int)) : Prop :=
  ∃ a cap, v = .slice a l.length cap ∧ l.length ≤ 8796093022208 ∧ (∀ p ∈ l, -9223372036854775808 ≤ p.1 ∧ p.1 ≤ 9223372036854775807 ∧ -9223372036854775808 ≤ p.2 ∧ p.2 ≤ 9223372036854775807) ∧ ∀ j, j < l.length → ∃ b off, a = some ⟨b, off, none⟩ ∧ b < W.heap.size ∧
    W.cell? ⟨b, off + j * 2, none⟩ = some (.int .i64 (l[j]?.getD (0, 0)).1) ∧ W.cell? ⟨b, off + j * 2 + 1, none⟩ = some (.int .i64 (l[j]?.getD (0, 0)).2)
theorem RRow.below {W W' : World} {v : Value} {l : List (Int × Int)} (h : RRow W v l) {B : Nat} (hB : W.heap.size ≤ B) (hb : Below B W W') : RRow W' v l := by
  obtain ⟨a, cap, hv, hl, hw, hc⟩ := h
  refine ⟨a, cap, hv, hl, hw, fun j hj => ?_⟩
  obtain ⟨b, off, ha, hlt, h1, h2⟩ := hc j hj
  exact ⟨b, off, ha, Nat.lt_of_lt_of_le hlt hb.size, (hb.cell (p := ⟨b, off + j * 2, none⟩) (by show b < B; omega)).trans h1, (hb.cell (p := ⟨b, off + j * 2 + 1, none⟩) (by show b < B; omega)).trans h2⟩
end Go.Proofs.YtfnimmbmcjgdpaaDoor
namespace Go.Proofs.YtfnimmbmcjgdpaaDoor
open Go.RowKit
set_option linter.unusedVariables false
abbrev flat2 (l : List (Int × Int)) : List Value := l.flatMap fun p => [Value.int .i64 p.1, Value.int .i64 p.2]
theorem flat2_snoc (l : List (Int × Int)) (p : Int × Int) : flat2 (l ++ [p]) = flat2 l ++ [Value.int .i64 p.1, Value.int .i64 p.2] := by simp [flat2]
theorem flat2_len (l : List (Int × Int)) : (flat2 l).length = l.length * 2 := by
  induction l with
  | nil => rfl
  | cons p l ih => show ([_, _] ++ flat2 l).length = _; rw [List.length_append, ih]; simp; omega
/-- A list of ranges that a call owns. -/
def RgOwn (W : World) (base : Nat) (v : Value) (l : List (Int × Int)) : Prop := W.ownsRow base 113 2 v l.length (flat2 l)
theorem RgOwn.below {W W' : World} {base : Nat} {v : Value} {l : List (Int × Int)} (h : RgOwn W base v l) (hb : Below W.heap.size W W') : RgOwn W' base v l :=
  h.kept ⟨hb.os, hb.tape, hb.output, hb.size, fun k hk _ => hb.block k hk⟩ (row := none) (by cases hv : v.ownBlock <;> simp)
theorem RgOwn.hi {W : World} {base g cap : Nat} {l : List (Int × Int)} {p : Int × Int} (h : RgOwn W base (.slice (some ⟨g, 0, none⟩) (l.length + 1) cap) (l ++ [p])) :
    W.cell? ⟨g, l.length * 2 + 1, none⟩ = some (.int .i64 p.2) ∧ W.frozen? ⟨g, l.length * 2 + 1, none⟩ = false := by
  have h' : W.ownsRow base 113 2 (.slice (some ⟨g, 0, none⟩) (l.length + 1) cap) (l.length + 1) (flat2 l ++ [Value.int .i64 p.1, Value.int .i64 p.2]) := by
    have := h; unfold RgOwn at this; rw [List.length_append, flat2_snoc] at this; exact this
  refine ⟨?_, h'.frozenAt _⟩
  rw [h'.cellAt _ (by omega), List.getElem?_append_right (by rw [flat2_len]; omega), flat2_len]
  rw [show l.length * 2 + 1 - l.length * 2 = 1 from by omega]; rfl
theorem RgOwn.nil {W : World} {base : Nat} : RgOwn W base (.slice none 0 0) [] := World.ownsRow_nil _ _ _ _
theorem RgOwn.empty {W : World} {base : Nat} {v : Value} (h : RgOwn W base v []) : ∃ a cap, v = .slice a 0 cap := by
  rcases h.2 with ⟨hv, _⟩ | ⟨g, cap, cur, hv, _⟩
  · exact ⟨none, 0, hv⟩
  · exact ⟨_, cap, hv⟩

theorem RgOwn.slice {W : World} {base : Nat} {v : Value} {l : List (Int × Int)} (h : RgOwn W base v l) : ∃ a cap, v = .slice a l.length cap := by
  rcases h.2 with ⟨hv, h0⟩ | ⟨g, cap, cur, hv, _⟩
  · exact ⟨none, 0, by rw [h0]; exact hv⟩
  · exact ⟨_, cap, hv⟩

end Go.Proofs.YtfnimmbmcjgdpaaDoor
namespace Go.Proofs.YtfnimmbmcjgdpaaDoor
open Go.RowKit
set_option linter.unusedVariables false
end Go.Proofs.YtfnimmbmcjgdpaaDoor
namespace Go.Proofs.YtfnimmbmcjgdpaaDoor
open Go.RowKit
set_option linter.unusedVariables false





































































































































end Go.Proofs.YtfnimmbmcjgdpaaDoor
namespace Go.Proofs.YtfnimmbmcjgdpaaDoor
open Go.RowKit
set_option linter.unusedVariables false
namespace Rg
end Rg
theorem flat2_get : ∀ (l : List (Int × Int)) (j : Nat), j < l.length → (flat2 l)[j * 2]? = some (.int .i64 (l[j]?.getD (0, 0)).1) ∧ (flat2 l)[j * 2 + 1]? = some (.int .i64 (l[j]?.getD (0, 0)).2)
  | p :: l, 0, _ => ⟨rfl, rfl⟩
  | p :: l, j + 1, h => by
    have := flat2_get l j (by simpa using h)
    have e : flat2 (p :: l) = Value.int .i64 p.1 :: Value.int .i64 p.2 :: flat2 l := rfl
    rw [e, show (j + 1) * 2 = j * 2 + 1 + 1 by omega]
    simpa using this
abbrev Wide64 (l : List (Int × Int)) : Prop := ∀ p ∈ l, -9223372036854775808 ≤ p.1 ∧ p.1 ≤ 9223372036854775807 ∧ -9223372036854775808 ≤ p.2 ∧ p.2 ≤ 9223372036854775807
theorem RgOwn.row {W : World} {base : Nat} {v : Value} {l : List (Int × Int)} (h : RgOwn W base v l) (hl : l.length ≤ 8796093022208) (hw : Wide64 l) : RRow W v l := by
  obtain ⟨a, cap, rfl⟩ := h.slice
  refine ⟨a, cap, rfl, hl, hw, fun j hj => ?_⟩
  have hf := flat2_get l j hj
  have hln := flat2_len l
  rcases h.2 with ⟨hv, h0⟩ | ⟨g, cap', cur, hv, hb, hg, _⟩
  · omega
  · injection hv with hv _ _
    subst hv
    refine ⟨g, 0, rfl, (Array.getElem?_eq_some_iff.1 hg).1, ?_, ?_⟩
    · rw [Nat.zero_add, h.cellAt _ (by omega)]; exact hf.1
    · rw [Nat.zero_add, h.cellAt _ (by omega)]; exact hf.2
theorem RRow.nil (W : World) : RRow W (.slice none 0 0) [] := ⟨none, 0, rfl, Nat.zero_le _, (fun p h => by cases h), fun j h => by cases h⟩
theorem RRow.drewN {W : World} {v : Value} {l : List (Int × Int)} (h : RRow W v l) (d : Nat) : RRow (W.drewN d) v l := h



































end Go.Proofs.YtfnimmbmcjgdpaaDoor
