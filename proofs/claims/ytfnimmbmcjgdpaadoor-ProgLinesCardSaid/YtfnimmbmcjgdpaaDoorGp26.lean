/- The landed prog: strings.Lines and its iterator. -/
import Derived.Test.YtfnimmbmcjgdpaaDoorGp23
import Derived.Test.YtfnimmbmcjgdpaaDoorGp24
import Derived.Test.YtfnimmbmcjgdpaaDoorGp25
import Derived.RangeFuncBox
import Derived.RangeFuncNested
import Derived.RangeFuncBound
import Derived.RangeFuncCalls
import Derived.RangeFuncLeaves
import Derived.Shelf.Abstract
import Derived.OwnWalkIn
import Derived.TacticsInMore
import Derived.LoopNIn
import Derived.LoopIn
namespace Go.Proofs.YtfnimmbmcjgdpaaDoor
open Go.RowKit Go.Shelf
attribute [local go_sem] Oper.semAt_some
set_option linter.unusedVariables false
namespace Pgm
theorem indexB1 (c : UInt8) : ∀ l : List UInt8, Lib.indexByte l c = if c ∈ l then ((cutA c l).length : Int) else -1
  | [] => by simp [Lib.indexByte]
  | b :: r => by
    have ih := indexB1 c r
    unfold Lib.indexByte
    by_cases h : b = c
    · subst h; simp [cutA]
    · have h2 : cutA c (b :: r) = b :: cutA c r := by show (if b = c then _ else _) = _; rw [if_neg h]
      rw [h2, ih]
      have hb : (b == c) = false := by rw [beq_eq_false_iff_ne]; exact h
      by_cases hm : c ∈ r
      · have e1 : (((cutA c r).length : Int) == -1) = false := by rw [beq_eq_false_iff_ne]; omega
        simp [hm, hb, e1]
      · have hm2 : c ∉ b :: r := by simp only [List.mem_cons, not_or]; exact ⟨fun e => h e.symm, hm⟩
        simp [hm, hm2, hb]
/-- The first line, with its line feed. -/
def headL (s : List UInt8) : List UInt8 := if (10 : UInt8) ∈ s then cutA 10 s ++ [10] else s
def linesF : Nat → List UInt8 → List (List UInt8)
  | 0, _ => []
  | f + 1, s => if s = [] then [] else headL s :: linesF f (cutB 10 s)
def linesL (s : List UInt8) : List (List UInt8) := linesF s.length s
theorem linesF_more : ∀ (f g : Nat) (s : List UInt8), s.length ≤ f → s.length ≤ g → linesF f s = linesF g s
  | 0, 0, s, _, _ => rfl
  | 0, g + 1, s, h, _ => by
    have : s = [] := List.eq_nil_of_length_eq_zero (by omega)
    subst this; simp [linesF]
  | f + 1, 0, s, _, h => by
    have : s = [] := List.eq_nil_of_length_eq_zero (by omega)
    subst this; simp [linesF]
  | f + 1, g + 1, s, h1, h2 => by
    unfold linesF
    by_cases e : s = []
    · rw [if_pos e, if_pos e]
    · have := cutB_lt 10 s e
      rw [if_neg e, if_neg e, linesF_more f g _ (by omega) (by omega)]
theorem linesL_nil : linesL [] = [] := rfl
theorem linesL_cons {s : List UInt8} (h : s ≠ []) : linesL s = headL s :: linesL (cutB 10 s) := by
  have hl := cutB_lt 10 s h
  unfold linesL
  cases hn : s.length with
  | zero => exact absurd (List.eq_nil_of_length_eq_zero hn) h
  | succ n =>
    rw [linesF, if_neg h]
    rw [linesF_more n (cutB 10 s).length _ (by omega) (Nat.le_refl _)]
theorem head_cut (s : List UInt8) : cutA 10 (headL s) = cutA 10 s ∧ Lib.trimSuffix (headL s) [10] = cutA 10 s := by
  unfold headL Lib.trimSuffix Lib.hasSuffix
  rcases cut_join 10 s with ⟨h1, h2, h3⟩ | ⟨h1, h2, h3⟩
  · rw [if_pos h1]
    have e1 : cutA 10 (cutA 10 s ++ [10]) = cutA 10 s := cutA_at 10 [] _ h3
    have e2 : ([10] : List UInt8).isSuffixOf (cutA 10 s ++ [10]) = true := by rw [List.isSuffixOf_iff_suffix]; exact List.suffix_append _ _
    rw [e1, if_pos e2]
    simp
  · rw [if_neg h1]
    have e2 : ¬ ([10] : List UInt8).isSuffixOf s = true := by
      rw [List.isSuffixOf_iff_suffix]
      rintro ⟨t, ht⟩
      exact h1 (by rw [← ht]; simp)
    rw [if_neg e2]
    exact ⟨rfl, h2.symm⟩
theorem insts_lines : ∀ (f : Nat) (s : List UInt8), instsX f s = ((linesL s).take f).map (fun x => instX (cutA 10 x))
  | 0, s => by simp [instsX]
  | f + 1, s => by
    unfold instsX
    by_cases e : s = []
    · subst e; simp [linesL_nil]
    · rw [if_neg e, linesL_cons e, List.take_succ_cons, List.map_cons, (head_cut s).1, insts_lines f (cutB 10 s)]
theorem head_len (s : List UInt8) : (headL s).length ≤ s.length := by
  unfold headL
  rcases cut_join 10 s with ⟨h1, h2, h3⟩ | ⟨h1, h2, h3⟩
  · rw [if_pos h1]
    have := congrArg List.length h2
    simp at this ⊢; omega
  · rw [if_neg h1]; exact Nat.le_refl _
/-- What the iterator may turn: the box in which it holds what is left. -/
def LnFr (B : Nat) (X Y : World) : Prop := X.grownBy Y (some B) ∧ ∃ cs t f, X.heap[B]? = some (.cells cs t f)
theorem lnKeeps (B : Nat) : FrKeeps (LnFr B) := fun A B' k o h ho hq => (h.1.block k (Array.getElem?_eq_some_iff.1 ho).1 (fun e => by
  obtain ⟨cs, t, f, hc⟩ := h.2
  cases e
  rw [ho] at hc
  rcases hq with ⟨r, rfl⟩ | ⟨d, rfl⟩ <;> cases hc)).trans ho
/-- What a round keeps: that box. -/
def LnKp (B : Nat) (X Y : World) : Prop := ∀ v, Boxed X B 9 v → Boxed Y B 9 v
theorem lnKp_t {B : Nat} {X Y Z : World} (h : LnKp B X Y) (k : LnKp B Y Z) : LnKp B X Z := fun v x => k v (h v x)
theorem lnKp_b {B : Nat} {w : World} (hB : B ≤ w.heap.size) (W : World) (l : Nat) (o o' : Obj) (hl : l = w.heap.size + 1) (h : W.heap[l]? = some o) (hc : o.isCells = false) (hw : o.isWalk = false) : LnKp B W (W.putObj l o') := fun v hb =>
  hb.kept (grownBy_putObj' W l o') (fun e => by cases e; omega)
def encT (x : List UInt8) : Array Value := #[.string (txB x)]
end Pgm
end Go.Proofs.YtfnimmbmcjgdpaaDoor
