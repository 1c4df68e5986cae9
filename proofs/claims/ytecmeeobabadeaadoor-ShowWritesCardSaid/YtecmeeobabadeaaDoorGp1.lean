/- The plain mathematics of lists of ranges: membership, edges, normalized lists and their uniqueness; no program. · Lists of ranges in memory; the contract of the reference's Has (burinref02). · The contract of the reference's Make (burinref02), from edge to edge. · The contracts of burinbook.SameRanges and of the reference's Check, Norm, Not and Count (burinref02). · The reference's Make (burinref02) for operation 1: the list of the set made of two. · Owned lists of ranges read as rows; the contracts of the reference's Norm, All, Not and Count (burinref02), and of burinbook.SameRanges on rows. · Small laws of append, on lists of ranges. · Lists of integers in memory, owned or read, and small laws on worlds. · Lists of sequences of ranges in memory; burinbook.SameSeqs. · Arguments that are lists of ranges, or lists of such lists, opened: over any program that has the types. -/
import Derived.Test.YtecmeeobabadeaaDoorRows
import Derived.WalkKit
import Derived.OwnWalk
import Derived.WalkLawsBesides
import Derived.WalkSpells
import Derived.Lib.Hide
import Derived.Deep.QuietTactic
import Derived.BigQuiet
import Derived.Maps.AppendAt
import Derived.Deep.AppendLies
import Derived.Laws.OwnMore
import Derived.Laws.StructEq
import Derived.RangeFuncRecord
import Derived.Laws.MakeOwn
import Derived.Deep.SlicePairs
import Derived.ProofKit
import Derived.SizedLaws
import Derived.Lib.RowBridge
namespace Go.Proofs.YtecmeeobabadeaaDoor.Rg
abbrev R := Int × Int
def hasB (l : List R) (r : Int) : Bool := decide (0 ≤ r ∧ r ≤ 1114111) && l.any fun p => decide (p.1 ≤ r ∧ r ≤ p.2)
theorem hasB_iff (l : List R) (r : Int) : hasB l r = true ↔ (0 ≤ r ∧ r ≤ 1114111) ∧ ∃ p ∈ l, p.1 ≤ r ∧ r ≤ p.2 := by
  unfold hasB
  simp only [Bool.and_eq_true, decide_eq_true_eq, List.any_eq_true]
/-! ### Normalized lists -/
/-- Normalized, all from lo on. -/
def NormFrom : Int → List R → Prop
  | _, [] => True
  | lo, p :: l => lo ≤ p.1 ∧ p.1 ≤ p.2 ∧ p.2 ≤ 1114111 ∧ NormFrom (p.2 + 2) l
def NormL (l : List R) : Prop := NormFrom 0 l
theorem norm_lo : ∀ (l : List R) (lo : Int), NormFrom lo l → ∀ p ∈ l, lo ≤ p.1 ∧ p.1 ≤ p.2 ∧ p.2 ≤ 1114111
  | [], _, _, p, hp => by cases hp
  | p' :: l, lo, h, p, hp => by
    rcases List.mem_cons.1 hp with rfl | hp
    · exact ⟨h.1, h.2.1, h.2.2.1⟩
    · have := norm_lo l _ h.2.2.2 p hp
      have h1 := h.1
      have h2 := h.2.1
      omega
def memL (l : List R) (q : Int) : Prop := ∃ p ∈ l, p.1 ≤ q ∧ q ≤ p.2
theorem memL_cons (p : R) (l : List R) (q : Int) : memL (p :: l) q ↔ (p.1 ≤ q ∧ q ≤ p.2) ∨ memL l q := by
  unfold memL; simp
theorem norm_mem_lo {l : List R} {lo q : Int} (h : NormFrom lo l) (hm : memL l q) : lo ≤ q ∧ q ≤ 1114111 := by
  obtain ⟨p, hp, h1, h2⟩ := hm
  have := norm_lo l lo h p hp
  omega
theorem norm_has {l : List R} (h : NormL l) (q : Int) : hasB l q = true ↔ memL l q := by
  rw [hasB_iff]
  exact ⟨fun h => h.2, fun hm => ⟨norm_mem_lo h hm, hm⟩⟩
end Go.Proofs.YtecmeeobabadeaaDoor.Rg
/-! Making a normalized list from edge to edge. -/
namespace Go.Proofs.YtecmeeobabadeaaDoor.Rg
theorem norm_snoc : ∀ (l : List R) (lo x y : Int), NormFrom lo l → (∀ p ∈ l, p.2 + 2 ≤ x) → lo ≤ x → x ≤ y → y ≤ 1114111 → NormFrom lo (l ++ [(x, y)])
  | [], lo, x, y, _, _, h1, h2, h3 => ⟨h1, h2, h3, trivial⟩
  | p :: l, lo, x, y, h, hp, h1, h2, h3 =>
    ⟨h.1, h.2.1, h.2.2.1, norm_snoc l _ x y h.2.2.2 (fun q hq => hp q (by simp [hq])) (hp p (by simp)) h2 h3⟩
theorem norm_unsnoc : ∀ (l : List R) (lo : Int) (p : R), NormFrom lo (l ++ [p]) → NormFrom lo l ∧ (∀ q ∈ l, q.2 + 2 ≤ p.1) ∧ lo ≤ p.1 ∧ p.1 ≤ p.2 ∧ p.2 ≤ 1114111
  | [], lo, p, h => ⟨trivial, by simp, h.1, h.2.1, h.2.2.1⟩
  | x :: l, lo, p, h => by
    have ih := norm_unsnoc l (x.2 + 2) p h.2.2.2
    have a1 := h.1
    have a2 := h.2.1
    refine ⟨⟨h.1, h.2.1, h.2.2.1, ih.1⟩, fun q hq => ?_, by omega, ih.2.2.2⟩
    rcases List.mem_cons.1 hq with rfl | hq
    · exact ih.2.2.1
    · exact ih.2.1 q hq
theorem memL_snoc (l : List R) (p : R) (q : Int) : memL (l ++ [p]) q ↔ memL l q ∨ (p.1 ≤ q ∧ q ≤ p.2) := by
  unfold memL
  constructor
  · rintro ⟨x, hx, h⟩
    rcases List.mem_append.1 hx with hx | hx
    · exact .inl ⟨x, hx, h⟩
    · simp at hx; subst hx; exact .inr h
  · rintro (⟨x, hx, h⟩ | h)
    · exact ⟨x, List.mem_append.2 (.inl hx), h⟩
    · exact ⟨p, List.mem_append.2 (.inr (by simp)), h⟩
/-- What has been made as far as 'at': normalized, below it, and of just the numbers below it that are wanted. -/
structure MInv (F : Int → Bool) (at_ : Int) (out : List R) : Prop where
  norm : NormL out
  below : ∀ p ∈ out, p.2 < at_
  mem : ∀ q, 0 ≤ q → q < at_ → (memL out q ↔ F q = true)
theorem MInv.start (F : Int → Bool) : MInv F 0 [] := ⟨trivial, (fun p h => by cases h), (fun q h1 h2 => by omega)⟩
section
variable {F : Int → Bool} {at_ next : Int} {out : List R}
theorem MInv.add (h : MInv F at_ out) (h0 : 0 ≤ at_) (h1 : at_ < next) (h2 : next ≤ 1114112) (hc : ∀ q, at_ ≤ q → q < next → F q = F at_) (hf : F at_ = true) (hl : ∀ p ∈ out, p.2 + 2 ≤ at_) : MInv F next (out ++ [(at_, next - 1)]) := by
  refine ⟨norm_snoc out 0 _ _ h.norm hl h0 (by omega) (by omega), fun p hp => ?_, fun q hq0 hq => ?_⟩
  · rcases List.mem_append.1 hp with hp | hp
    · have := h.below p hp; omega
    · simp at hp; subst hp; show next - 1 < next; omega
  · rw [memL_snoc]
    by_cases e : q < at_
    · rw [← h.mem q hq0 e]
      constructor
      · rintro (h | h)
        · exact h
        · have := h.1; simp at this; omega
      · exact .inl
    · rw [hc q (by omega) hq, hf]
      exact ⟨fun _ => rfl, fun _ => .inr ⟨by show at_ ≤ q; omega, by show q ≤ next - 1; omega⟩⟩
theorem MInv.last {ini : List R} {p : R} (h : MInv F at_ (ini ++ [p])) (hl : p.2 + 1 ≠ at_) : ∀ x ∈ ini ++ [p], x.2 + 2 ≤ at_ := by
  obtain ⟨a1, a2, a3, a4, a5⟩ := norm_unsnoc ini 0 p h.norm
  have hb := h.below p (by simp)
  intro x hx
  rcases List.mem_append.1 hx with hx | hx
  · have := a2 x hx; omega
  · simp at hx; subst hx; omega
end
def opB (op : Int) (x y : Bool) : Bool := decide (op = 1) && (x || y) || decide (op = 2) && x && y || decide (op = 3) && x && !y
/-- The list of a set made of two. -/
structure Made (op : Int) (a b : List R) (out : List R) : Prop where
  norm : NormL out
  has : ∀ q, 0 ≤ q → q ≤ 1114111 → hasB out q = opB op (hasB a q) (hasB b q)
end Go.Proofs.YtecmeeobabadeaaDoor.Rg
namespace Go.Proofs.YtecmeeobabadeaaDoor
open Go.RowKit
set_option linter.unusedVariables false
def RRow (W : World) (v : Value) (l : List (Int × Int)) : Prop :=
  ∃ a cap, v = .slice a l.length cap ∧ l.length ≤ 8796093022208 ∧ (∀ p ∈ l, -9223372036854775808 ≤ p.1 ∧ p.1 ≤ 9223372036854775807 ∧ -9223372036854775808 ≤ p.2 ∧ p.2 ≤ 9223372036854775807) ∧ ∀ j, j < l.length → ∃ b off, a = some ⟨b, off, none⟩ ∧ b < W.heap.size ∧
    W.cell? ⟨b, off + j * 2, none⟩ = some (.int .i64 (l[j]?.getD (0, 0)).1) ∧ W.cell? ⟨b, off + j * 2 + 1, none⟩ = some (.int .i64 (l[j]?.getD (0, 0)).2)
theorem RRow.below {W W' : World} {v : Value} {l : List (Int × Int)} (h : RRow W v l) {B : Nat} (hB : W.heap.size ≤ B) (hb : Below B W W') : RRow W' v l := by
  obtain ⟨a, cap, hv, hl, hw, hc⟩ := h
  refine ⟨a, cap, hv, hl, hw, fun j hj => ?_⟩
  obtain ⟨b, off, ha, hlt, h1, h2⟩ := hc j hj
  exact ⟨b, off, ha, Nat.lt_of_lt_of_le hlt hb.size, (hb.cell (p := ⟨b, off + j * 2, none⟩) (by show b < B; omega)).trans h1, (hb.cell (p := ⟨b, off + j * 2 + 1, none⟩) (by show b < B; omega)).trans h2⟩
end Go.Proofs.YtecmeeobabadeaaDoor
namespace Go.Proofs.YtecmeeobabadeaaDoor
open Go.RowKit
set_option linter.unusedVariables false
abbrev flat2 (l : List (Int × Int)) : List Value := l.flatMap fun p => [Value.int .i64 p.1, Value.int .i64 p.2]
theorem flat2_snoc (l : List (Int × Int)) (p : Int × Int) : flat2 (l ++ [p]) = flat2 l ++ [Value.int .i64 p.1, Value.int .i64 p.2] := by simp [flat2]
theorem flat2_len (l : List (Int × Int)) : (flat2 l).length = l.length * 2 := by
  induction l with
  | nil => rfl
  | cons p l ih => show ([_, _] ++ flat2 l).length = _; rw [List.length_append, ih]; simp; omega
/-- A list of ranges that a call owns. -/
def RgOwn (W : World) (base : Nat) (v : Value) (l : List (Int × Int)) : Prop := W.ownsRow base 40 2 v l.length (flat2 l)
theorem RgOwn.below {W W' : World} {base : Nat} {v : Value} {l : List (Int × Int)} (h : RgOwn W base v l) (hb : Below W.heap.size W W') : RgOwn W' base v l :=
  h.kept ⟨hb.os, hb.tape, hb.output, hb.size, fun k hk _ => hb.block k hk⟩ (row := none) (by cases hv : v.ownBlock <;> simp)
theorem RgOwn.hi {W : World} {base g cap : Nat} {l : List (Int × Int)} {p : Int × Int} (h : RgOwn W base (.slice (some ⟨g, 0, none⟩) (l.length + 1) cap) (l ++ [p])) :
    W.cell? ⟨g, l.length * 2 + 1, none⟩ = some (.int .i64 p.2) ∧ W.frozen? ⟨g, l.length * 2 + 1, none⟩ = false := by
  have h' : W.ownsRow base 40 2 (.slice (some ⟨g, 0, none⟩) (l.length + 1) cap) (l.length + 1) (flat2 l ++ [Value.int .i64 p.1, Value.int .i64 p.2]) := by
    have := h; unfold RgOwn at this; rw [List.length_append, flat2_snoc] at this; exact this
  refine ⟨?_, h'.frozenAt _⟩
  rw [h'.cellAt _ (by omega), List.getElem?_append_right (by rw [flat2_len]; omega), flat2_len]
  rw [show l.length * 2 + 1 - l.length * 2 = 1 from by omega]; rfl
theorem RgOwn.form {W : World} {base : Nat} {v : Value} {l : List (Int × Int)} {p : Int × Int} (h : RgOwn W base v (l ++ [p])) : ∃ g cap, v = .slice (some ⟨g, 0, none⟩) (l.length + 1) cap ∧ base ≤ g ∧ g < W.heap.size := by
  unfold RgOwn at h
  rw [List.length_append] at h
  rcases h.2 with ⟨_, h0⟩ | ⟨g, cap, cur, hv, hb, hg, _⟩
  · simp at h0
  · exact ⟨g, cap, hv, hb, (Array.getElem?_eq_some_iff.1 hg).1⟩
theorem RgOwn.nil {W : World} {base : Nat} : RgOwn W base (.slice none 0 0) [] := World.ownsRow_nil _ _ _ _
theorem RgOwn.empty {W : World} {base : Nat} {v : Value} (h : RgOwn W base v []) : ∃ a cap, v = .slice a 0 cap := by
  rcases h.2 with ⟨hv, _⟩ | ⟨g, cap, cur, hv, _⟩
  · exact ⟨none, 0, hv⟩
  · exact ⟨_, cap, hv⟩

theorem RgOwn.slice {W : World} {base : Nat} {v : Value} {l : List (Int × Int)} (h : RgOwn W base v l) : ∃ a cap, v = .slice a l.length cap := by
  rcases h.2 with ⟨hv, h0⟩ | ⟨g, cap, cur, hv, _⟩
  · exact ⟨none, 0, by rw [h0]; exact hv⟩
  · exact ⟨_, cap, hv⟩

end Go.Proofs.YtecmeeobabadeaaDoor
namespace Go.Proofs.YtecmeeobabadeaaDoor
open Go.RowKit
set_option linter.unusedVariables false
theorem take_succ_eq {α : Type} [Inhabited α] {d : α} (l m : List α) (k : Nat) (hl : k < l.length) (hm : k < m.length) :
    l.take (k + 1) = m.take (k + 1) ↔ l.take k = m.take k ∧ l[k]?.getD d = m[k]?.getD d := by
  rw [List.take_add_one, List.take_add_one, List.getElem?_eq_getElem hl, List.getElem?_eq_getElem hm]
  constructor
  · intro h
    have := List.append_inj h (by simp; omega)
    exact ⟨this.1, by simpa using this.2⟩
  · rintro ⟨h1, h2⟩
    rw [h1]
    simp only [Option.getD_some] at h2
    simp [h2]






































































end Go.Proofs.YtecmeeobabadeaaDoor
namespace Go.Proofs.YtecmeeobabadeaaDoor
open Go.RowKit
set_option linter.unusedVariables false





































































































































end Go.Proofs.YtecmeeobabadeaaDoor
namespace Go.Proofs.YtecmeeobabadeaaDoor
open Go.RowKit
set_option linter.unusedVariables false
namespace Rg
theorem norm_len : ∀ (l : List R) (lo : Int), NormFrom lo l → lo ≤ 1114113 → (l.length : Int) + lo ≤ 1114113
  | [], lo, _, h => by simpa using h
  | p :: l, lo, ⟨h1, h2, h3, h4⟩, h => by
    have := norm_len l (p.2 + 2) h4 (by omega)
    rw [List.length_cons]; push_cast; omega
end Rg
theorem flat2_get : ∀ (l : List (Int × Int)) (j : Nat), j < l.length → (flat2 l)[j * 2]? = some (.int .i64 (l[j]?.getD (0, 0)).1) ∧ (flat2 l)[j * 2 + 1]? = some (.int .i64 (l[j]?.getD (0, 0)).2)
  | p :: l, 0, _ => ⟨rfl, rfl⟩
  | p :: l, j + 1, h => by
    have := flat2_get l j (by simpa using h)
    have e : flat2 (p :: l) = Value.int .i64 p.1 :: Value.int .i64 p.2 :: flat2 l := rfl
    rw [e, show (j + 1) * 2 = j * 2 + 1 + 1 by omega]
    simpa using this
abbrev Wide64 (l : List (Int × Int)) : Prop := ∀ p ∈ l, -9223372036854775808 ≤ p.1 ∧ p.1 ≤ 9223372036854775807 ∧ -9223372036854775808 ≤ p.2 ∧ p.2 ≤ 9223372036854775807
theorem RgOwn.row {W : World} {base : Nat} {v : Value} {l : List (Int × Int)} (h : RgOwn W base v l) (hl : l.length ≤ 8796093022208) (hw : Wide64 l) : RRow W v l := by
  obtain ⟨a, cap, rfl⟩ := h.slice
  refine ⟨a, cap, rfl, hl, hw, fun j hj => ?_⟩
  have hf := flat2_get l j hj
  have hln := flat2_len l
  rcases h.2 with ⟨hv, h0⟩ | ⟨g, cap', cur, hv, hb, hg, _⟩
  · omega
  · injection hv with hv _ _
    subst hv
    refine ⟨g, 0, rfl, (Array.getElem?_eq_some_iff.1 hg).1, ?_, ?_⟩
    · rw [Nat.zero_add, h.cellAt _ (by omega)]; exact hf.1
    · rw [Nat.zero_add, h.cellAt _ (by omega)]; exact hf.2
theorem RRow.nil (W : World) : RRow W (.slice none 0 0) [] := ⟨none, 0, rfl, Nat.zero_le _, (fun p h => by cases h), fun j h => by cases h⟩
theorem RRow.drewN {W : World} {v : Value} {l : List (Int × Int)} (h : RRow W v l) (d : Nat) : RRow (W.drewN d) v l := h



































end Go.Proofs.YtecmeeobabadeaaDoor
namespace Go.Proofs.YtecmeeobabadeaaDoor
open Go.RowKit
set_option linter.unusedVariables false
end Go.Proofs.YtecmeeobabadeaaDoor
namespace Go.Proofs.YtecmeeobabadeaaDoor
open Go.RowKit
set_option linter.unusedVariables false
theorem rg_ret_bool {a b : Bool} (h : a = b) : Ending.returned (.bool a) = .returned (.bool b) := by rw [h]
theorem RgOwn.alloc {W : World} {base : Nat} {v : Value} {l : List (Int × Int)} (h : RgOwn W base v l) (o : Obj) : RgOwn (W.alloc o) base v l := World.ownsRow.alloc h o
theorem below_drewNr {B : Nat} {w w' : World} (h : Below B w w') (d : Nat) : Below B w (w'.drewN d) := ⟨h.os, h.tape, h.output, h.size, h.block⟩
abbrev flat1 (T : List Int) : List Value := T.map (Value.int .i64)
/-- A list of integers that a call owns. -/
def IOwn (W : World) (base : Nat) (v : Value) (T : List Int) : Prop := W.ownsRow base 3 1 v T.length (flat1 T)
/-- A value that reads as a list of integers. -/
def IRow (W : World) (v : Value) (T : List Int) : Prop :=
  ∃ a cap, v = .slice a T.length cap ∧ T.length ≤ cap ∧ cap ≤ 9223372036854775807 ∧ ∀ j, j < T.length → ∃ b, a = some ⟨b, 0, none⟩ ∧ b < W.heap.size ∧ W.cell? ⟨b, j, none⟩ = some (.int .i64 (T[j]?.getD 0))
theorem IOwn.nil {W : World} {base : Nat} : IOwn W base (.slice none 0 0) [] := World.ownsRow_nil _ _ _ _
theorem IOwn.below {W W' : World} {base : Nat} {v : Value} {T : List Int} (h : IOwn W base v T) (hb : Below W.heap.size W W') : IOwn W' base v T :=
  h.kept ⟨hb.os, hb.tape, hb.output, hb.size, fun k hk _ => hb.block k hk⟩ (row := none) (by cases hv : v.ownBlock <;> simp)
theorem IOwn.alloc {W : World} {base : Nat} {v : Value} {T : List Int} (h : IOwn W base v T) (o : Obj) : IOwn (W.alloc o) base v T := World.ownsRow.alloc h o
theorem IOwn.row {W : World} {base : Nat} {v : Value} {T : List Int} (h : IOwn W base v T) : IRow W v T := by
  rcases h.2 with ⟨hv, h0⟩ | ⟨g, cap, cur, hv, hb, hg, hnc, hcm, hcs, _⟩
  · exact ⟨none, 0, by rw [h0]; exact hv, by omega, by omega, fun j hj => by omega⟩
  · refine ⟨_, cap, hv, hnc, by simpa [maxLen] using hcm, fun j hj => ⟨g, rfl, (Array.getElem?_eq_some_iff.1 hg).1, ?_⟩⟩
    subst hv
    rw [World.ownsRow.cellAt h j (by omega)]
    simp [flat1, List.getElem?_eq_getElem hj]
theorem IRow.below {W W' : World} {v : Value} {T : List Int} (h : IRow W v T) {B : Nat} (hB : W.heap.size ≤ B) (hb : Below B W W') : IRow W' v T := by
  obtain ⟨a, cap, hv, h1, h2, hc⟩ := h
  refine ⟨a, cap, hv, h1, h2, fun j hj => ?_⟩
  obtain ⟨b, ha, hlt, hcell⟩ := hc j hj
  exact ⟨b, ha, Nat.lt_of_lt_of_le hlt hb.size, (hb.cell (p := ⟨b, j, none⟩) (by show b < B; omega)).trans hcell⟩
end Go.Proofs.YtecmeeobabadeaaDoor
namespace Go.Proofs.YtecmeeobabadeaaDoor
open Go.RowKit
set_option linter.unusedVariables false
/-- A value that reads as a list of lists of ranges. -/
def QRow (W : World) (v : Value) (L : List (List (Int × Int))) : Prop :=
  ∃ a cap, v = .slice a L.length cap ∧ L.length ≤ 8796093022208 ∧ ∀ j, j < L.length → ∃ b off u, a = some ⟨b, off, none⟩ ∧ b < W.heap.size ∧ W.cell? ⟨b, off + j, none⟩ = some u ∧ RRow W u (L[j]?.getD [])
theorem QRow.below {W W' : World} {v : Value} {L : List (List (Int × Int))} (h : QRow W v L) (hb : Below W.heap.size W W') : QRow W' v L := by
  obtain ⟨a, cap, hv, hl, hc⟩ := h
  refine ⟨a, cap, hv, hl, fun j hj => ?_⟩
  obtain ⟨b, off, u, ha, hlt, h1, h2⟩ := hc j hj
  exact ⟨b, off, u, ha, Nat.lt_of_lt_of_le hlt hb.size, (hb.cell (p := ⟨b, off + j, none⟩) hlt).trans h1, h2.below (Nat.le_refl _) hb⟩
end Go.Proofs.YtecmeeobabadeaaDoor
namespace Go.Proofs.YtecmeeobabadeaaDoor
open Go.ChangeShapes Go.WideShapes Go.ChangeAt Go.RowKit
set_option linter.unusedVariables false
theorem choose_each {α : Type} {n : Nat} {p : Nat → α → Prop} [Inhabited α] (h : ∀ i, i < n → ∃ x, p i x) : ∃ f : Nat → α, ∀ i, i < n → p i (f i) := by
  classical
  exact ⟨fun i => if hi : i < n then (h i hi).choose else default, fun i hi => by simp only [dif_pos hi]; exact (h i hi).choose_spec⟩
/-- What is asked of a program's types: a list of pairs of integers. -/
structure RgTypes (P : Program) (tr ts ti : TypeId) : Prop where
  list : P.underlying tr = some (.slice ts)
  pair : ∃ f0 f1 : Field, P.underlying ts = some (.struct #[f0, f1]) ∧ f0.offset = 0 ∧ f1.offset = 1 ∧ f0.type = ti ∧ f1.type = ti
  int : P.underlying ti = some (.int .i64)
  cells : P.cellsOf ts = 2
  one : P.cellsOf ti = 1
  bytes : P.bytesOf ts = 16
theorem open_ranges_g {H : Type} {enc : TypeId × Value → H} {P : Program} {tr ts ti : TypeId} (T : RgTypes P tr ts ti) {W : World} {fuel : Nat} {u : Value} {d : DataW H} {p : List MemPlace}
    (hf : DataW.trod enc P W 0 (fun _ => true) true fuel tr [u] = some (d, p)) (hw : ∀ n ∈ d.weights P tr, n ≤ reachBytes) : ∃ l, RRow W u l := by
  obtain ⟨f0, f1, he, o0, o1, t0, t1⟩ := T.pair
  rcases Deep.open_slice_pairs T.list he T.cells o0 o1 (by rw [t0]; exact T.one) (by rw [t1]; exact T.one) hf with ⟨hcs, hx⟩ | ⟨a, len, cap, m, n, V0, V1, D0, D1, P0, P1, hcs, hb, hl, hm, hmm, hx, hi⟩
  · simp at hcs
    subst hcs
    exact ⟨[], RRow.nil W⟩
  · simp at hcs
    subst hcs
    simp only [if_true] at hmm
    subst hmm
    simp only [Prod.mk.injEq] at hx
    have hsz := hw (((((List.range len).map fun i => DataW.agg [D0 i, D1 i]).length + ((List.range (m - len)).map fun j => DataW.agg [D0 (len + j), D1 (len + j)]).length)) * P.bytesOf ts) (by rw [hx.1]; simp [DataW.weights, T.list])
    rw [T.bytes] at hsz
    simp only [List.length_map, List.length_range, reachBytes] at hsz
    have each : ∀ i, i < m → ∃ x : Int × Int, V0 i = .int .i64 x.1 ∧ V1 i = .int .i64 x.2 ∧ (Lit.int .i64 x.1).wf = true ∧ (Lit.int .i64 x.2).wf = true := by
      intro i him
      obtain ⟨_, _, h3, h4⟩ := hi i him
      rw [t0] at h3
      rw [t1] at h4
      obtain ⟨z0, e0, _, w0⟩ := DataW.trod_int T.int h3
      obtain ⟨z1, e1, _, w1⟩ := DataW.trod_int T.int h4
      exact ⟨(z0, z1), by simpa using e0, by simpa using e1, w0, w1⟩
    obtain ⟨f, hf2⟩ := choose_each each
    refine ⟨(List.range len).map f, _, _, by rw [List.length_map, List.length_range], by rw [List.length_map, List.length_range]; omega, fun q hq => ?_, fun j hj => ?_⟩
    · obtain ⟨i, hir, rfl⟩ := List.mem_map.1 hq
      have hil := List.mem_range.1 hir
      obtain ⟨_, _, w0, w1⟩ := hf2 i (by omega)
      have h1 : IntKind.i64.min = -9223372036854775808 := rfl
      have h2 : IntKind.i64.max = 9223372036854775807 := rfl
      simp [Lit.wf, h1, h2] at w0 w1
      omega
    · rw [List.length_map, List.length_range] at hj
      obtain ⟨c0, c1, _, _⟩ := hi j (by omega)
      obtain ⟨b, off, spot⟩ := a
      have hspot : spot = none := by simpa [Addr.add] using World.cell?_spot (hi 0 (by omega)).1
      subst hspot
      obtain ⟨e0, e1, _, _⟩ := hf2 j (by omega)
      rw [e0, add_plain] at c0
      rw [e1, add_plain] at c1
      have hg : ((List.range len).map f)[j]?.getD (0, 0) = f j := by simp [hj]
      rw [hg]
      exact ⟨b, off, rfl, World.block_lt_of_cell? W _ c0, c0, by rw [Nat.add_assoc]; exact c1⟩
theorem weights_all {H : Type} {P : Program} {e : TypeId} : ∀ {ds : List (DataW H)} {d : DataW H}, d ∈ ds → ∀ n ∈ d.weights P e, n ∈ DataW.weightsAll P e ds
  | [], d, h, n, hn => by cases h
  | x :: ds, d, h, n, hn => by
    simp only [DataW.weightsAll, List.mem_append]
    rcases List.mem_cons.1 h with rfl | h
    · exact .inl hn
    · exact .inr (weights_all h n hn)
end Go.Proofs.YtecmeeobabadeaaDoor
