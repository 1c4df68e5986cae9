/- The plain mathematics of lists of ranges: membership, edges, normalized lists and their uniqueness; no program. · Lists of ranges in memory; the contract of the reference's Has (burinref02). · The contract of the reference's Make (burinref02), from edge to edge. · The contracts of burinbook.SameRanges and of the reference's Check, Norm, Not and Count (burinref02). · The reference's Make (burinref02) for operation 1: the list of the set made of two. · Owned lists of ranges read as rows; the contracts of the reference's Norm, All, Not and Count (burinref02), and of burinbook.SameRanges on rows. · Small laws of append, on lists of ranges. · Lists of integers in memory, owned or read, and small laws on worlds. · Lists of sequences of ranges in memory; burinbook.SameSeqs. · Arguments that are lists of ranges, or lists of such lists, opened: over any program that has the types. · Trees of patterns in memory (api.Node): how one reads; an argument that is one, opened: over any program that has the types. -/
import Derived.Test.YtanffablfgnioaaGreatDoorRows
import Derived.WalkKit
import Derived.OwnWalk
import Derived.WalkLawsBesides
import Derived.WalkSpells
import Derived.Lib.Hide
import Derived.Deep.QuietTactic
import Derived.BigQuiet
import Derived.Maps.AppendAt
import Derived.Deep.AppendLies
import Derived.Laws.OwnMore
import Derived.Laws.StructEq
import Derived.RangeFuncRecord
import Derived.Laws.MakeOwn
import Derived.Deep.SlicePairs
import Derived.ProofKit
import Derived.SizedLaws
import Derived.Lib.RowBridge
import Derived.Lib.LaidTab
namespace Go.Proofs.YtanffablfgnioaaGreatDoor.Rg
abbrev R := Int × Int
def hasB (l : List R) (r : Int) : Bool := decide (0 ≤ r ∧ r ≤ 1114111) && l.any fun p => decide (p.1 ≤ r ∧ r ≤ p.2)
theorem hasB_iff (l : List R) (r : Int) : hasB l r = true ↔ (0 ≤ r ∧ r ≤ 1114111) ∧ ∃ p ∈ l, p.1 ≤ r ∧ r ≤ p.2 := by
  unfold hasB
  simp only [Bool.and_eq_true, decide_eq_true_eq, List.any_eq_true]
/-! ### Normalized lists -/
/-- Normalized, all from lo on. -/
def NormFrom : Int → List R → Prop
  | _, [] => True
  | lo, p :: l => lo ≤ p.1 ∧ p.1 ≤ p.2 ∧ p.2 ≤ 1114111 ∧ NormFrom (p.2 + 2) l
def NormL (l : List R) : Prop := NormFrom 0 l
theorem norm_lo : ∀ (l : List R) (lo : Int), NormFrom lo l → ∀ p ∈ l, lo ≤ p.1 ∧ p.1 ≤ p.2 ∧ p.2 ≤ 1114111
  | [], _, _, p, hp => by cases hp
  | p' :: l, lo, h, p, hp => by
    rcases List.mem_cons.1 hp with rfl | hp
    · exact ⟨h.1, h.2.1, h.2.2.1⟩
    · have := norm_lo l _ h.2.2.2 p hp
      have h1 := h.1
      have h2 := h.2.1
      omega
def memL (l : List R) (q : Int) : Prop := ∃ p ∈ l, p.1 ≤ q ∧ q ≤ p.2
theorem memL_cons (p : R) (l : List R) (q : Int) : memL (p :: l) q ↔ (p.1 ≤ q ∧ q ≤ p.2) ∨ memL l q := by
  unfold memL; simp
theorem norm_mem_lo {l : List R} {lo q : Int} (h : NormFrom lo l) (hm : memL l q) : lo ≤ q ∧ q ≤ 1114111 := by
  obtain ⟨p, hp, h1, h2⟩ := hm
  have := norm_lo l lo h p hp
  omega
/-- A normalized list is the list of its set. -/
theorem norm_unique : ∀ (l m : List R) (lo : Int), NormFrom lo l → NormFrom lo m → (∀ q, memL l q ↔ memL m q) → l = m
  | [], [], _, _, _, _ => rfl
  | [], p :: m, lo, _, hm, h => by
    exfalso
    have := (h p.1).2 ((memL_cons p m p.1).2 (.inl ⟨Int.le_refl _, hm.2.1⟩))
    obtain ⟨x, hx, _⟩ := this
    cases hx
  | p :: l, [], lo, hl, _, h => by
    exfalso
    have := (h p.1).1 ((memL_cons p l p.1).2 (.inl ⟨Int.le_refl _, hl.2.1⟩))
    obtain ⟨x, hx, _⟩ := this
    cases hx
  | p :: l, p' :: m, lo, hl, hm, h => by
    have a1 := hl.2.1
    have a2 := hm.2.1
    have tail1 : ∀ q, memL l q → p.2 + 2 ≤ q := fun q hq => (norm_mem_lo hl.2.2.2 hq).1
    have tail2 : ∀ q, memL m q → p'.2 + 2 ≤ q := fun q hq => (norm_mem_lo hm.2.2.2 hq).1
    have e1 : p.1 = p'.1 := by
      have h1 := (h p.1).1 ((memL_cons p l p.1).2 (.inl ⟨Int.le_refl _, a1⟩))
      have h2 := (h p'.1).2 ((memL_cons p' m p'.1).2 (.inl ⟨Int.le_refl _, a2⟩))
      rw [memL_cons] at h1 h2
      have b1 : p'.1 ≤ p.1 := by
        rcases h1 with h1 | h1
        · exact h1.1
        · have := tail2 _ h1; omega
      have b2 : p.1 ≤ p'.1 := by
        rcases h2 with h2 | h2
        · exact h2.1
        · have := tail1 _ h2; omega
      omega
    have e2 : p.2 = p'.2 := by
      have key : ∀ (a b : R) (x y : List R), a.1 = b.1 → a.1 ≤ a.2 → b.1 ≤ b.2 → (∀ q, memL y q → b.2 + 2 ≤ q) → (∀ q, memL (a :: x) q → memL (b :: y) q) → a.2 ≤ b.2 := by
        intro a b x y e ha hb ty hh
        rcases Int.lt_or_le b.2 a.2 with hlt | hle
        · exfalso
          have := hh (b.2 + 1) ((memL_cons a x _).2 (.inl ⟨by omega, by omega⟩))
          rcases (memL_cons b y _).1 this with h1 | h1
          · omega
          · have := ty _ h1; omega
        · exact hle
      have k1 := key p p' l m e1 a1 a2 tail2 (fun q hq => (h q).1 hq)
      have k2 := key p' p m l e1.symm a2 a1 tail1 (fun q hq => (h q).2 hq)
      omega
    have e : p = p' := Prod.ext e1 e2
    subst e
    rw [norm_unique l m (p.2 + 2) hl.2.2.2 hm.2.2.2 (fun q => ?_)]
    constructor
    · intro hq
      have := (h q).1 ((memL_cons p l q).2 (.inr hq))
      rcases (memL_cons p m q).1 this with h1 | h1
      · have := tail1 _ hq; omega
      · exact h1
    · intro hq
      have := (h q).2 ((memL_cons p m q).2 (.inr hq))
      rcases (memL_cons p l q).1 this with h1 | h1
      · have := tail2 _ hq; omega
      · exact h1
theorem norm_has {l : List R} (h : NormL l) (q : Int) : hasB l q = true ↔ memL l q := by
  rw [hasB_iff]
  exact ⟨fun h => h.2, fun hm => ⟨norm_mem_lo h hm, hm⟩⟩
theorem norm_ext {l m : List R} (hl : NormL l) (hm : NormL m) (h : ∀ q, 0 ≤ q → q ≤ 1114111 → hasB l q = hasB m q) : l = m :=
  norm_unique l m 0 hl hm (fun q => by
    constructor
    · intro hq
      have b := norm_mem_lo hl hq
      exact (norm_has hm q).1 ((h q b.1 b.2) ▸ (norm_has hl q).2 hq)
    · intro hq
      have b := norm_mem_lo hm hq
      exact (norm_has hl q).1 ((h q b.1 b.2) ▸ (norm_has hm q).2 hq))
end Go.Proofs.YtanffablfgnioaaGreatDoor.Rg
/-! Making a normalized list from edge to edge. -/
namespace Go.Proofs.YtanffablfgnioaaGreatDoor.Rg
theorem norm_snoc : ∀ (l : List R) (lo x y : Int), NormFrom lo l → (∀ p ∈ l, p.2 + 2 ≤ x) → lo ≤ x → x ≤ y → y ≤ 1114111 → NormFrom lo (l ++ [(x, y)])
  | [], lo, x, y, _, _, h1, h2, h3 => ⟨h1, h2, h3, trivial⟩
  | p :: l, lo, x, y, h, hp, h1, h2, h3 =>
    ⟨h.1, h.2.1, h.2.2.1, norm_snoc l _ x y h.2.2.2 (fun q hq => hp q (by simp [hq])) (hp p (by simp)) h2 h3⟩
theorem norm_unsnoc : ∀ (l : List R) (lo : Int) (p : R), NormFrom lo (l ++ [p]) → NormFrom lo l ∧ (∀ q ∈ l, q.2 + 2 ≤ p.1) ∧ lo ≤ p.1 ∧ p.1 ≤ p.2 ∧ p.2 ≤ 1114111
  | [], lo, p, h => ⟨trivial, by simp, h.1, h.2.1, h.2.2.1⟩
  | x :: l, lo, p, h => by
    have ih := norm_unsnoc l (x.2 + 2) p h.2.2.2
    have a1 := h.1
    have a2 := h.2.1
    refine ⟨⟨h.1, h.2.1, h.2.2.1, ih.1⟩, fun q hq => ?_, by omega, ih.2.2.2⟩
    rcases List.mem_cons.1 hq with rfl | hq
    · exact ih.2.2.1
    · exact ih.2.1 q hq
theorem memL_snoc (l : List R) (p : R) (q : Int) : memL (l ++ [p]) q ↔ memL l q ∨ (p.1 ≤ q ∧ q ≤ p.2) := by
  unfold memL
  constructor
  · rintro ⟨x, hx, h⟩
    rcases List.mem_append.1 hx with hx | hx
    · exact .inl ⟨x, hx, h⟩
    · simp at hx; subst hx; exact .inr h
  · rintro (⟨x, hx, h⟩ | h)
    · exact ⟨x, List.mem_append.2 (.inl hx), h⟩
    · exact ⟨p, List.mem_append.2 (.inr (by simp)), h⟩
/-- What has been made as far as 'at': normalized, below it, and of just the numbers below it that are wanted. -/
structure MInv (F : Int → Bool) (at_ : Int) (out : List R) : Prop where
  norm : NormL out
  below : ∀ p ∈ out, p.2 < at_
  mem : ∀ q, 0 ≤ q → q < at_ → (memL out q ↔ F q = true)
theorem MInv.start (F : Int → Bool) : MInv F 0 [] := ⟨trivial, (fun p h => by cases h), (fun q h1 h2 => by omega)⟩
section
variable {F : Int → Bool} {at_ next : Int} {out : List R}
theorem MInv.skip (h : MInv F at_ out) (h1 : at_ < next) (hc : ∀ q, at_ ≤ q → q < next → F q = F at_) (hf : F at_ = false) : MInv F next out := by
  refine ⟨h.norm, fun p hp => by have := h.below p hp; omega, fun q h0 hq => ?_⟩
  by_cases e : q < at_
  · exact h.mem q h0 e
  · rw [hc q (by omega) hq, hf]
    constructor
    · rintro ⟨p, hp, _, h2⟩
      have := h.below p hp
      omega
    · intro h; cases h
theorem MInv.add (h : MInv F at_ out) (h0 : 0 ≤ at_) (h1 : at_ < next) (h2 : next ≤ 1114112) (hc : ∀ q, at_ ≤ q → q < next → F q = F at_) (hf : F at_ = true) (hl : ∀ p ∈ out, p.2 + 2 ≤ at_) : MInv F next (out ++ [(at_, next - 1)]) := by
  refine ⟨norm_snoc out 0 _ _ h.norm hl h0 (by omega) (by omega), fun p hp => ?_, fun q hq0 hq => ?_⟩
  · rcases List.mem_append.1 hp with hp | hp
    · have := h.below p hp; omega
    · simp at hp; subst hp; show next - 1 < next; omega
  · rw [memL_snoc]
    by_cases e : q < at_
    · rw [← h.mem q hq0 e]
      constructor
      · rintro (h | h)
        · exact h
        · have := h.1; simp at this; omega
      · exact .inl
    · rw [hc q (by omega) hq, hf]
      exact ⟨fun _ => rfl, fun _ => .inr ⟨by show at_ ≤ q; omega, by show q ≤ next - 1; omega⟩⟩
theorem MInv.join {ini : List R} {p : R} (h : MInv F at_ (ini ++ [p])) (h0 : 0 ≤ at_) (h1 : at_ < next) (h2 : next ≤ 1114112) (hc : ∀ q, at_ ≤ q → q < next → F q = F at_) (hf : F at_ = true) (hl : p.2 + 1 = at_) : MInv F next (ini ++ [(p.1, next - 1)]) := by
  obtain ⟨a1, a2, a3, a4, a5⟩ := norm_unsnoc ini 0 p h.norm
  refine ⟨norm_snoc ini 0 _ _ a1 a2 a3 (by omega) (by omega), fun x hx => ?_, fun q hq0 hq => ?_⟩
  · rcases List.mem_append.1 hx with hx | hx
    · have := h.below x (List.mem_append.2 (.inl hx)); omega
    · simp at hx; subst hx; show next - 1 < next; omega
  · rw [memL_snoc]
    by_cases e : q < at_
    · rw [← h.mem q hq0 e, memL_snoc]
      constructor
      · rintro (h | h)
        · exact .inl h
        · exact .inr ⟨h.1, by omega⟩
      · rintro (h | h)
        · exact .inl h
        · exact .inr ⟨h.1, by show q ≤ next - 1; omega⟩
    · rw [hc q (by omega) hq, hf]
      exact ⟨fun _ => rfl, fun _ => .inr ⟨by show p.1 ≤ q; omega, by show q ≤ next - 1; omega⟩⟩
theorem MInv.last {ini : List R} {p : R} (h : MInv F at_ (ini ++ [p])) (hl : p.2 + 1 ≠ at_) : ∀ x ∈ ini ++ [p], x.2 + 2 ≤ at_ := by
  obtain ⟨a1, a2, a3, a4, a5⟩ := norm_unsnoc ini 0 p h.norm
  have hb := h.below p (by simp)
  intro x hx
  rcases List.mem_append.1 hx with hx | hx
  · have := a2 x hx; omega
  · simp at hx; subst hx; omega
end
def opB (op : Int) (x y : Bool) : Bool := decide (op = 1) && (x || y) || decide (op = 2) && x && y || decide (op = 3) && x && !y
/-- The list of a set made of two. -/
structure Made (op : Int) (a b : List R) (out : List R) : Prop where
  norm : NormL out
  has : ∀ q, 0 ≤ q → q ≤ 1114111 → hasB out q = opB op (hasB a q) (hasB b q)
theorem made_unique {op : Int} {a b x y : List R} (h : Made op a b x) (k : Made op a b y) : x = y :=
  norm_ext h.norm k.norm (fun q h0 h1 => by rw [h.has q h0 h1, k.has q h0 h1])
end Go.Proofs.YtanffablfgnioaaGreatDoor.Rg
namespace Go.Proofs.YtanffablfgnioaaGreatDoor
open Go.RowKit
set_option linter.unusedVariables false
def RRow (W : World) (v : Value) (l : List (Int × Int)) : Prop :=
  ∃ a cap, v = .slice a l.length cap ∧ l.length ≤ 8796093022208 ∧ (∀ p ∈ l, -9223372036854775808 ≤ p.1 ∧ p.1 ≤ 9223372036854775807 ∧ -9223372036854775808 ≤ p.2 ∧ p.2 ≤ 9223372036854775807) ∧ ∀ j, j < l.length → ∃ b off, a = some ⟨b, off, none⟩ ∧ b < W.heap.size ∧
    W.cell? ⟨b, off + j * 2, none⟩ = some (.int .i64 (l[j]?.getD (0, 0)).1) ∧ W.cell? ⟨b, off + j * 2 + 1, none⟩ = some (.int .i64 (l[j]?.getD (0, 0)).2)
theorem RRow.below {W W' : World} {v : Value} {l : List (Int × Int)} (h : RRow W v l) {B : Nat} (hB : W.heap.size ≤ B) (hb : Below B W W') : RRow W' v l := by
  obtain ⟨a, cap, hv, hl, hw, hc⟩ := h
  refine ⟨a, cap, hv, hl, hw, fun j hj => ?_⟩
  obtain ⟨b, off, ha, hlt, h1, h2⟩ := hc j hj
  exact ⟨b, off, ha, Nat.lt_of_lt_of_le hlt hb.size, (hb.cell (p := ⟨b, off + j * 2, none⟩) (by show b < B; omega)).trans h1, (hb.cell (p := ⟨b, off + j * 2 + 1, none⟩) (by show b < B; omega)).trans h2⟩
end Go.Proofs.YtanffablfgnioaaGreatDoor
namespace Go.Proofs.YtanffablfgnioaaGreatDoor
open Go.RowKit
set_option linter.unusedVariables false
theorem Tryz.infoRange : (Tryz.prog.info? 49).map (fun i => (i.zero, i.size, i.bytes)) = some (some (.agg #[.int .i64 0, .int .i64 0]), 2, 16) := by kernel_rfl
abbrev flat2 (l : List (Int × Int)) : List Value := l.flatMap fun p => [Value.int .i64 p.1, Value.int .i64 p.2]
theorem flat2_snoc (l : List (Int × Int)) (p : Int × Int) : flat2 (l ++ [p]) = flat2 l ++ [Value.int .i64 p.1, Value.int .i64 p.2] := by simp [flat2]
theorem flat2_len (l : List (Int × Int)) : (flat2 l).length = l.length * 2 := by
  induction l with
  | nil => rfl
  | cons p l ih => show ([_, _] ++ flat2 l).length = _; rw [List.length_append, ih]; simp; omega
/-- A list of ranges that a call owns. -/
def RgOwn (W : World) (base : Nat) (v : Value) (l : List (Int × Int)) : Prop := W.ownsRow base 49 2 v l.length (flat2 l)
theorem RgOwn.below {W W' : World} {base : Nat} {v : Value} {l : List (Int × Int)} (h : RgOwn W base v l) (hb : Below W.heap.size W W') : RgOwn W' base v l :=
  h.kept ⟨hb.os, hb.tape, hb.output, hb.size, fun k hk _ => hb.block k hk⟩ (row := none) (by cases hv : v.ownBlock <;> simp)
theorem RgOwn.hi {W : World} {base g cap : Nat} {l : List (Int × Int)} {p : Int × Int} (h : RgOwn W base (.slice (some ⟨g, 0, none⟩) (l.length + 1) cap) (l ++ [p])) :
    W.cell? ⟨g, l.length * 2 + 1, none⟩ = some (.int .i64 p.2) ∧ W.frozen? ⟨g, l.length * 2 + 1, none⟩ = false := by
  have h' : W.ownsRow base 49 2 (.slice (some ⟨g, 0, none⟩) (l.length + 1) cap) (l.length + 1) (flat2 l ++ [Value.int .i64 p.1, Value.int .i64 p.2]) := by
    have := h; unfold RgOwn at this; rw [List.length_append, flat2_snoc] at this; exact this
  refine ⟨?_, h'.frozenAt _⟩
  rw [h'.cellAt _ (by omega), List.getElem?_append_right (by rw [flat2_len]; omega), flat2_len]
  rw [show l.length * 2 + 1 - l.length * 2 = 1 from by omega]; rfl
theorem RgOwn.setHi {W : World} {base g cap : Nat} {l : List (Int × Int)} {p : Int × Int} (h : RgOwn W base (.slice (some ⟨g, 0, none⟩) (l.length + 1) cap) (l ++ [p])) (y : Int) :
    RgOwn (W.setCell ⟨g, l.length * 2 + 1, none⟩ (.int .i64 y)) base (.slice (some ⟨g, 0, none⟩) (l.length + 1) cap) (l ++ [(p.1, y)]) := by
  have h' : W.ownsRow base 49 2 (.slice (some ⟨g, 0, none⟩) (l.length + 1) cap) (l.length + 1) (flat2 l ++ [Value.int .i64 p.1, Value.int .i64 p.2]) := by
    have := h; unfold RgOwn at this; rw [List.length_append, flat2_snoc] at this; exact this
  have hs := (h'.stored (l.length * 2 + 1) (.int .i64 y)).1
  have e : (flat2 l ++ [Value.int .i64 p.1, Value.int .i64 p.2]).set (l.length * 2 + 1) (.int .i64 y) = flat2 (l ++ [(p.1, y)]) := by
    rw [flat2_snoc, List.set_append_right _ _ (by rw [flat2_len]; omega), flat2_len, show l.length * 2 + 1 - l.length * 2 = 1 from by omega]; rfl
  rw [e] at hs
  unfold RgOwn
  rw [List.length_append]
  exact hs
theorem RgOwn.form {W : World} {base : Nat} {v : Value} {l : List (Int × Int)} {p : Int × Int} (h : RgOwn W base v (l ++ [p])) : ∃ g cap, v = .slice (some ⟨g, 0, none⟩) (l.length + 1) cap ∧ base ≤ g ∧ g < W.heap.size := by
  unfold RgOwn at h
  rw [List.length_append] at h
  rcases h.2 with ⟨_, h0⟩ | ⟨g, cap, cur, hv, hb, hg, _⟩
  · simp at h0
  · exact ⟨g, cap, hv, hb, (Array.getElem?_eq_some_iff.1 hg).1⟩
theorem RgOwn.nil {W : World} {base : Nat} : RgOwn W base (.slice none 0 0) [] := World.ownsRow_nil _ _ _ _
theorem RgOwn.empty {W : World} {base : Nat} {v : Value} (h : RgOwn W base v []) : ∃ a cap, v = .slice a 0 cap := by
  rcases h.2 with ⟨hv, _⟩ | ⟨g, cap, cur, hv, _⟩
  · exact ⟨none, 0, hv⟩
  · exact ⟨_, cap, hv⟩

def MakePost (op : Int) (a b : List (Int × Int)) (W : World) (e : Ending) (w' : World) : Prop := ∃ v out, e = .returned v ∧ Rg.Made op a b out ∧ RgOwn w' W.heap.size v out ∧ Below W.heap.size W w'
theorem nil_or_snoc {α : Type} (l : List α) : l = [] ∨ ∃ ini p, l = ini ++ [p] := by
  rcases List.eq_nil_or_concat l with h | ⟨ini, p, h⟩
  · exact .inl h
  · exact .inr ⟨ini, p, by rw [h, List.concat_eq_append]⟩








theorem RgOwn.slice {W : World} {base : Nat} {v : Value} {l : List (Int × Int)} (h : RgOwn W base v l) : ∃ a cap, v = .slice a l.length cap := by
  rcases h.2 with ⟨hv, h0⟩ | ⟨g, cap, cur, hv, _⟩
  · exact ⟨none, 0, by rw [h0]; exact hv⟩
  · exact ⟨_, cap, hv⟩

end Go.Proofs.YtanffablfgnioaaGreatDoor
namespace Go.Proofs.YtanffablfgnioaaGreatDoor
open Go.RowKit
set_option linter.unusedVariables false
theorem take_succ_eq {α : Type} [Inhabited α] {d : α} (l m : List α) (k : Nat) (hl : k < l.length) (hm : k < m.length) :
    l.take (k + 1) = m.take (k + 1) ↔ l.take k = m.take k ∧ l[k]?.getD d = m[k]?.getD d := by
  rw [List.take_add_one, List.take_add_one, List.getElem?_eq_getElem hl, List.getElem?_eq_getElem hm]
  constructor
  · intro h
    have := List.append_inj h (by simp; omega)
    exact ⟨this.1, by simpa using this.2⟩
  · rintro ⟨h1, h2⟩
    rw [h1]
    simp only [Option.getD_some] at h2
    simp [h2]






































































end Go.Proofs.YtanffablfgnioaaGreatDoor
namespace Go.Proofs.YtanffablfgnioaaGreatDoor
open Go.RowKit
set_option linter.unusedVariables false





































































































































end Go.Proofs.YtanffablfgnioaaGreatDoor
namespace Go.Proofs.YtanffablfgnioaaGreatDoor
open Go.RowKit
set_option linter.unusedVariables false
namespace Rg
theorem norm_len : ∀ (l : List R) (lo : Int), NormFrom lo l → lo ≤ 1114113 → (l.length : Int) + lo ≤ 1114113
  | [], lo, _, h => by simpa using h
  | p :: l, lo, ⟨h1, h2, h3, h4⟩, h => by
    have := norm_len l (p.2 + 2) h4 (by omega)
    rw [List.length_cons]; push_cast; omega
theorem norm_get {l : List R} (h : NormL l) (k : Nat) (hk : k < l.length) : 0 ≤ (l[k]?.getD (0, 0)).1 ∧ (l[k]?.getD (0, 0)).1 ≤ (l[k]?.getD (0, 0)).2 ∧ (l[k]?.getD (0, 0)).2 ≤ 1114111 := by
  rw [List.getElem?_eq_getElem hk]
  exact norm_lo l 0 h _ (List.getElem_mem hk)
end Rg
theorem flat2_get : ∀ (l : List (Int × Int)) (j : Nat), j < l.length → (flat2 l)[j * 2]? = some (.int .i64 (l[j]?.getD (0, 0)).1) ∧ (flat2 l)[j * 2 + 1]? = some (.int .i64 (l[j]?.getD (0, 0)).2)
  | p :: l, 0, _ => ⟨rfl, rfl⟩
  | p :: l, j + 1, h => by
    have := flat2_get l j (by simpa using h)
    have e : flat2 (p :: l) = Value.int .i64 p.1 :: Value.int .i64 p.2 :: flat2 l := rfl
    rw [e, show (j + 1) * 2 = j * 2 + 1 + 1 by omega]
    simpa using this
abbrev Wide64 (l : List (Int × Int)) : Prop := ∀ p ∈ l, -9223372036854775808 ≤ p.1 ∧ p.1 ≤ 9223372036854775807 ∧ -9223372036854775808 ≤ p.2 ∧ p.2 ≤ 9223372036854775807
theorem RgOwn.row {W : World} {base : Nat} {v : Value} {l : List (Int × Int)} (h : RgOwn W base v l) (hl : l.length ≤ 8796093022208) (hw : Wide64 l) : RRow W v l := by
  obtain ⟨a, cap, rfl⟩ := h.slice
  refine ⟨a, cap, rfl, hl, hw, fun j hj => ?_⟩
  have hf := flat2_get l j hj
  have hln := flat2_len l
  rcases h.2 with ⟨hv, h0⟩ | ⟨g, cap', cur, hv, hb, hg, _⟩
  · omega
  · injection hv with hv _ _
    subst hv
    refine ⟨g, 0, rfl, (Array.getElem?_eq_some_iff.1 hg).1, ?_, ?_⟩
    · rw [Nat.zero_add, h.cellAt _ (by omega)]; exact hf.1
    · rw [Nat.zero_add, h.cellAt _ (by omega)]; exact hf.2
theorem RgOwn.normRow {W : World} {base : Nat} {v : Value} {l : List (Int × Int)} (h : RgOwn W base v l) (hn : Rg.NormL l) : RRow W v l := by
  refine h.row ?_ ?_
  · have := Rg.norm_len l 0 hn (by omega); omega
  · intro p hp; have := Rg.norm_lo l 0 hn p hp; omega
theorem RRow.nil (W : World) : RRow W (.slice none 0 0) [] := ⟨none, 0, rfl, Nat.zero_le _, (fun p h => by cases h), fun j h => by cases h⟩
theorem RRow.drewN {W : World} {v : Value} {l : List (Int × Int)} (h : RRow W v l) (d : Nat) : RRow (W.drewN d) v l := h



































end Go.Proofs.YtanffablfgnioaaGreatDoor
namespace Go.Proofs.YtanffablfgnioaaGreatDoor
open Go.RowKit
set_option linter.unusedVariables false
/-- An append whose run is known. -/
theorem wpList_append_run {P : Program} {ops : Array Oper} {rest : List Oper} {o : Oper} {a : Act} {w : World} {Q : Exit → Act → World → Prop} (hgd : o.guard = none) (s x : Operand) (t : TypeId)
    (ho : o.op = .call { callee := .builtin .append, args := #[s, x], argTypes := #[t, t] }) (vs vx v' : Value) (w' : World) (hs : a.eval s = vs) (hx : a.eval x = vx)
    (hr : (Builtin.append_ #[t, t] o.type #[vs, vx]).run P w = .ok v' w') (h : wpList P ops Q rest (a.put o.dst v') w') : wpList P ops Q (o :: rest) a w :=
  wpList_plain hgd fun _ hK => by
    unfold Oper.wp execOp
    simp only [ho, resolve, invoke, builtin, Sem.run_bind, Sem.run_pure, Result.andThen_ok, List.map_toArray, List.map_cons, List.map_nil, hs, hx, hr]
    exact hK _ _ h
theorem rg_news {W : World} {b off : Nat} {a : List (Int × Int)}
    (hc : ∀ j, j < a.length → W.cell? ⟨b, off + j * 2, none⟩ = some (.int .i64 (a[j]?.getD (0, 0)).1) ∧ W.cell? ⟨b, off + j * 2 + 1, none⟩ = some (.int .i64 (a[j]?.getD (0, 0)).2)) :
    ∀ j u, (flat2 a)[j]? = some u → W.cell? ((⟨b, off, none⟩ : Addr).add j) = some u := by
  intro j u hj
  have hlt : j < (flat2 a).length := by
    rcases Nat.lt_or_ge j (flat2 a).length with h | h
    · exact h
    · rw [List.getElem?_eq_none h] at hj; cases hj
  rw [flat2_len] at hlt
  have hadd : (⟨b, off, none⟩ : Addr).add j = ⟨b, off + j, none⟩ := by unfold Addr.add; split <;> simp_all
  rw [hadd]
  have hi := flat2_get a (j / 2) (by omega)
  have hh := hc (j / 2) (by omega)
  rcases Nat.mod_two_eq_zero_or_one j with h0 | h1
  · have e : j = j / 2 * 2 := by omega
    rw [e, hi.1] at hj
    rw [e, hh.1]; exact hj
  · have e : j = j / 2 * 2 + 1 := by omega
    rw [e, hi.2] at hj
    rw [e, ← Nat.add_assoc, hh.2]; exact hj
theorem flat2_one (a : List (Int × Int)) : ∀ u ∈ flat2 a, u.oneCell' = true := by
  intro u hu
  obtain ⟨p, _, hp⟩ := List.mem_flatMap.1 hu
  simp only [List.mem_cons, List.not_mem_nil, or_false] at hp
  rcases hp with rfl | rfl <;> rfl
/-- Nothing is appended. -/
theorem run_append_nothing {P : Program} {w : World} (base : Nat) (t ty e : TypeId) (i : TypeInfo) (size : Nat) (ht : P.underlying t = some (.slice e)) (hi : P.info? e = some i)
    (v : Value) (n : Nat) (xs : List Value) (hown : w.ownsRow base e size v n xs) (A : Option Addr) (c : Nat) :
    (Builtin.append_ #[t, t] ty #[v, .slice A 0 c]).run P w = .ok v w := by
  rcases hown.2 with ⟨rfl, rfl⟩ | ⟨g, cap, cur, rfl, _, _, hnc, _⟩
  · cases A <;> simp [Builtin.append_, run_underlying ht, sizeOf, typeInfo, hi, Builtin.lenOf, Builtin.firstCells, loadCells, loadCellsFrom]
  · cases A <;> simp [Builtin.append_, run_underlying ht, sizeOf, typeInfo, hi, Builtin.lenOf, Builtin.firstCells, hnc, storeCells, loadCells, loadCellsFrom]
end Go.Proofs.YtanffablfgnioaaGreatDoor
namespace Go.Proofs.YtanffablfgnioaaGreatDoor
open Go.RowKit
set_option linter.unusedVariables false
theorem rg_ret_bool {a b : Bool} (h : a = b) : Ending.returned (.bool a) = .returned (.bool b) := by rw [h]
theorem rg_ret_int {k : IntKind} {a b : Int} (h : a = b) : Ending.returned (.int k a) = .returned (.int k b) := by rw [h]
theorem heap_new2 (w : World) (a b : Obj) : ((w.alloc a).alloc b).heap[w.heap.size + 1]? = some b := by
  have := heap_alloc_new (w.alloc a) b
  rwa [show (w.alloc a).heap.size = w.heap.size + 1 from by simp] at this
theorem RgOwn.alloc {W : World} {base : Nat} {v : Value} {l : List (Int × Int)} (h : RgOwn W base v l) (o : Obj) : RgOwn (W.alloc o) base v l := World.ownsRow.alloc h o
theorem RgOwn.lower {W : World} {base base' : Nat} {v : Value} {l : List (Int × Int)} (h : RgOwn W base v l) (hb : base' ≤ base) : RgOwn W base' v l :=
  ⟨h.1, h.2.imp id (fun ⟨g, cap, cur, h1, h2, h3⟩ => ⟨g, cap, cur, h1, Nat.le_trans hb h2, h3⟩)⟩
theorem below_drewNr {B : Nat} {w w' : World} (h : Below B w w') (d : Nat) : Below B w (w'.drewN d) := ⟨h.os, h.tape, h.output, h.size, h.block⟩
theorem Tryz.infoInt : (Tryz.prog.info? 3).map (fun i => (i.zero, i.size, i.bytes)) = some (some (.int .i64 0), 1, 8) := by kernel_rfl
abbrev flat1 (T : List Int) : List Value := T.map (Value.int .i64)
/-- A list of integers that a call owns. -/
def IOwn (W : World) (base : Nat) (v : Value) (T : List Int) : Prop := W.ownsRow base 3 1 v T.length (flat1 T)
/-- A value that reads as a list of integers. -/
def IRow (W : World) (v : Value) (T : List Int) : Prop :=
  ∃ a cap, v = .slice a T.length cap ∧ T.length ≤ cap ∧ cap ≤ 9223372036854775807 ∧ ∀ j, j < T.length → ∃ b, a = some ⟨b, 0, none⟩ ∧ b < W.heap.size ∧ W.cell? ⟨b, j, none⟩ = some (.int .i64 (T[j]?.getD 0))
theorem IOwn.nil {W : World} {base : Nat} : IOwn W base (.slice none 0 0) [] := World.ownsRow_nil _ _ _ _
theorem IOwn.below {W W' : World} {base : Nat} {v : Value} {T : List Int} (h : IOwn W base v T) (hb : Below W.heap.size W W') : IOwn W' base v T :=
  h.kept ⟨hb.os, hb.tape, hb.output, hb.size, fun k hk _ => hb.block k hk⟩ (row := none) (by cases hv : v.ownBlock <;> simp)
theorem IOwn.alloc {W : World} {base : Nat} {v : Value} {T : List Int} (h : IOwn W base v T) (o : Obj) : IOwn (W.alloc o) base v T := World.ownsRow.alloc h o
theorem IOwn.lower {W : World} {base base' : Nat} {v : Value} {T : List Int} (h : IOwn W base v T) (hb : base' ≤ base) : IOwn W base' v T :=
  ⟨h.1, h.2.imp id (fun ⟨g, cap, cur, h1, h2, h3⟩ => ⟨g, cap, cur, h1, Nat.le_trans hb h2, h3⟩)⟩
theorem IOwn.row {W : World} {base : Nat} {v : Value} {T : List Int} (h : IOwn W base v T) : IRow W v T := by
  rcases h.2 with ⟨hv, h0⟩ | ⟨g, cap, cur, hv, hb, hg, hnc, hcm, hcs, _⟩
  · exact ⟨none, 0, by rw [h0]; exact hv, by omega, by omega, fun j hj => by omega⟩
  · refine ⟨_, cap, hv, hnc, by simpa [maxLen] using hcm, fun j hj => ⟨g, rfl, (Array.getElem?_eq_some_iff.1 hg).1, ?_⟩⟩
    subst hv
    rw [World.ownsRow.cellAt h j (by omega)]
    simp [flat1, List.getElem?_eq_getElem hj]
theorem IRow.below {W W' : World} {v : Value} {T : List Int} (h : IRow W v T) {B : Nat} (hB : W.heap.size ≤ B) (hb : Below B W W') : IRow W' v T := by
  obtain ⟨a, cap, hv, h1, h2, hc⟩ := h
  refine ⟨a, cap, hv, h1, h2, fun j hj => ?_⟩
  obtain ⟨b, ha, hlt, hcell⟩ := hc j hj
  exact ⟨b, ha, Nat.lt_of_lt_of_le hlt hb.size, (hb.cell (p := ⟨b, j, none⟩) (by show b < B; omega)).trans hcell⟩
end Go.Proofs.YtanffablfgnioaaGreatDoor
namespace Go.Proofs.YtanffablfgnioaaGreatDoor
open Go.RowKit
set_option linter.unusedVariables false
/-- A value that reads as a list of lists of ranges. -/
def QRow (W : World) (v : Value) (L : List (List (Int × Int))) : Prop :=
  ∃ a cap, v = .slice a L.length cap ∧ L.length ≤ 8796093022208 ∧ ∀ j, j < L.length → ∃ b off u, a = some ⟨b, off, none⟩ ∧ b < W.heap.size ∧ W.cell? ⟨b, off + j, none⟩ = some u ∧ RRow W u (L[j]?.getD [])
theorem QRow.below {W W' : World} {v : Value} {L : List (List (Int × Int))} (h : QRow W v L) (hb : Below W.heap.size W W') : QRow W' v L := by
  obtain ⟨a, cap, hv, hl, hc⟩ := h
  refine ⟨a, cap, hv, hl, fun j hj => ?_⟩
  obtain ⟨b, off, u, ha, hlt, h1, h2⟩ := hc j hj
  exact ⟨b, off, u, ha, Nat.lt_of_lt_of_le hlt hb.size, (hb.cell (p := ⟨b, off + j, none⟩) hlt).trans h1, h2.below (Nat.le_refl _) hb⟩
theorem calls_quiet_add {P : Program} {f : FuncId} {args : Array Value} {W : World} {d n : Nat} {v : Value} (h : Calls P f args (W.drewN (d + n)) fun e w' => e = .returned v ∧ ∃ m, w' = (W.drewN (d + n)).drewN m) :
    Calls P f args (W.drewN (d + n)) fun e w'' => e = .returned v ∧ ∃ m, w'' = W.drewN (d + m) :=
  h.mono fun _ _ ⟨he, m, hm⟩ => ⟨he, n + m, by rw [hm, World.drewN_drewN, Nat.add_assoc]⟩


































































end Go.Proofs.YtanffablfgnioaaGreatDoor
namespace Go.Proofs.YtanffablfgnioaaGreatDoor
open Go.ChangeShapes Go.WideShapes Go.ChangeAt Go.RowKit
set_option linter.unusedVariables false
/-- What is asked of a program's types: a list of pairs of integers. -/
structure RgTypes (P : Program) (tr ts ti : TypeId) : Prop where
  list : P.underlying tr = some (.slice ts)
  pair : ∃ f0 f1 : Field, P.underlying ts = some (.struct #[f0, f1]) ∧ f0.offset = 0 ∧ f1.offset = 1 ∧ f0.type = ti ∧ f1.type = ti
  int : P.underlying ti = some (.int .i64)
  cells : P.cellsOf ts = 2
  one : P.cellsOf ti = 1
  bytes : P.bytesOf ts = 16
end Go.Proofs.YtanffablfgnioaaGreatDoor
namespace Go.Proofs.YtanffablfgnioaaGreatDoor
open Go.ChangeShapes Go.WideShapes Go.ChangeAt Go.RowKit
set_option linter.unusedVariables false
/-- A tree. -/
inductive Nd where
  | mk (kind : Int) (set : List (Int × Int)) (num : Int) (name : ByteArray) (mn mx : Int) (lazy : Bool) (subs : List Nd) : Nd
def I64 (x : Int) : Prop := -9223372036854775808 ≤ x ∧ x ≤ 9223372036854775807
/-- Eight cells that read as a tree; its parts lie in a row, eight cells each. -/
inductive NdIs (W : World) : Nd → List Value → Prop where
  | mk {k num mn mx : Int} {set : List (Int × Int)} {name : ByteArray} {lz : Bool} {subs : List Nd} {vs : Value} {a : Option Addr} {cap : Nat} (cs : Nat → List Value)
      (hk : I64 k ∧ I64 num ∧ I64 mn ∧ I64 mx) (hset : RRow W vs set) (hname : name.size ≤ 140737488351232) (hlen : subs.length ≤ 8796093022208)
      (hrow : ∀ j, j < subs.length → ∃ b off, a = some ⟨b, off, none⟩ ∧ b < W.heap.size ∧ (cs j).length = 8 ∧ ∀ i, i < 8 → W.cell? ⟨b, off + j * 8 + i, none⟩ = (cs j)[i]?)
      (hsub : ∀ j (h : j < subs.length), NdIs W subs[j] (cs j)) :
      NdIs W (.mk k set num name mn mx lz subs) [.int .i64 k, vs, .int .i64 num, .string name, .int .i64 mn, .int .i64 mx, .bool lz, .slice a subs.length cap]
theorem NdIs.kept {W W' : World} (hb : Below W.heap.size W W') : ∀ {n : Nd} {cs : List Value}, NdIs W n cs → NdIs W' n cs := by
  intro n cs h
  induction h with
  | mk cs hk hset hname hlen hrow hsub ih =>
    refine .mk cs hk (hset.below (Nat.le_refl _) hb) hname hlen (fun j hj => ?_) ih
    obtain ⟨b, off, ha, hlt, hl, hc⟩ := hrow j hj
    exact ⟨b, off, ha, Nat.lt_of_lt_of_le hlt hb.size, hl, fun i hi => (hb.cell (p := ⟨b, off + j * 8 + i, none⟩) hlt).trans (hc i hi)⟩
theorem NdIs.len {W : World} {n : Nd} {cs : List Value} (h : NdIs W n cs) : cs.length = 8 := by cases h; rfl
/-- What is asked of a program's types. -/
structure NdTypes (P : Program) (tn tns tr ts ti tstr tb : TypeId) : Prop where
  rg : RgTypes P tr ts ti
  node : ∃ f0 f1 f2 f3 f4 f5 f6 f7 : Field, P.underlying tn = some (.struct #[f0, f1, f2, f3, f4, f5, f6, f7]) ∧ (f0.offset = 0 ∧ f1.offset = 1 ∧ f2.offset = 2 ∧ f3.offset = 3 ∧ f4.offset = 4 ∧ f5.offset = 5 ∧ f6.offset = 6 ∧ f7.offset = 7) ∧
    (f0.type = ti ∧ f1.type = tr ∧ f2.type = ti ∧ f3.type = tstr ∧ f4.type = ti ∧ f5.type = ti ∧ f6.type = tb ∧ f7.type = tns)
  list : P.underlying tns = some (.slice tn)
  str : P.underlying tstr = some .string
  bool : P.underlying tb = some .bool
  cells : P.cellsOf tn = 8 ∧ P.cellsOf tr = 1 ∧ P.cellsOf ti = 1 ∧ P.cellsOf tstr = 1 ∧ P.cellsOf tb = 1 ∧ P.cellsOf tns = 1
  bytes : P.bytesOf tn = 104
end Go.Proofs.YtanffablfgnioaaGreatDoor
