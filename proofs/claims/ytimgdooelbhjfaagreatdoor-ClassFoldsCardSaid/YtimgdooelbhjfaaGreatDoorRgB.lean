/- The contract of the reference's Make (burinref02), from edge to edge. -/
import Derived.Test.YtimgdooelbhjfaaGreatDoorRgA
import Derived.Test.YtimgdooelbhjfaaGreatDoorRgMath
import Derived.Maps.AppendAt
import Derived.Deep.AppendLies
import Derived.Laws.OwnMore
namespace Go.Proofs.YtimgdooelbhjfaaGreatDoor
open Go.RowKit
set_option linter.unusedVariables false
theorem Tryz.infoRange : (Tryz.prog.info? 42).map (fun i => (i.zero, i.size, i.bytes)) = some (some (.agg #[.int .i64 0, .int .i64 0]), 2, 16) := by kernel_rfl
abbrev flat2 (l : List (Int × Int)) : List Value := l.flatMap fun p => [Value.int .i64 p.1, Value.int .i64 p.2]
theorem flat2_snoc (l : List (Int × Int)) (p : Int × Int) : flat2 (l ++ [p]) = flat2 l ++ [Value.int .i64 p.1, Value.int .i64 p.2] := by simp [flat2]
theorem flat2_len (l : List (Int × Int)) : (flat2 l).length = l.length * 2 := by
  induction l with
  | nil => rfl
  | cons p l ih => show ([_, _] ++ flat2 l).length = _; rw [List.length_append, ih]; simp; omega
/-- A list of ranges that a call owns. -/
def RgOwn (W : World) (base : Nat) (v : Value) (l : List (Int × Int)) : Prop := W.ownsRow base 42 2 v l.length (flat2 l)
theorem RgOwn.below {W W' : World} {base : Nat} {v : Value} {l : List (Int × Int)} (h : RgOwn W base v l) (hb : Below W.heap.size W W') : RgOwn W' base v l :=
  h.kept ⟨hb.os, hb.tape, hb.output, hb.size, fun k hk _ => hb.block k hk⟩ (row := none) (by cases hv : v.ownBlock <;> simp)
theorem RgOwn.hi {W : World} {base g cap : Nat} {l : List (Int × Int)} {p : Int × Int} (h : RgOwn W base (.slice (some ⟨g, 0, none⟩) (l.length + 1) cap) (l ++ [p])) :
    W.cell? ⟨g, l.length * 2 + 1, none⟩ = some (.int .i64 p.2) ∧ W.frozen? ⟨g, l.length * 2 + 1, none⟩ = false := by
  have h' : W.ownsRow base 42 2 (.slice (some ⟨g, 0, none⟩) (l.length + 1) cap) (l.length + 1) (flat2 l ++ [Value.int .i64 p.1, Value.int .i64 p.2]) := by
    have := h; unfold RgOwn at this; rw [List.length_append, flat2_snoc] at this; exact this
  refine ⟨?_, h'.frozenAt _⟩
  rw [h'.cellAt _ (by omega), List.getElem?_append_right (by rw [flat2_len]; omega), flat2_len]
  rw [show l.length * 2 + 1 - l.length * 2 = 1 from by omega]; rfl
theorem RgOwn.setHi {W : World} {base g cap : Nat} {l : List (Int × Int)} {p : Int × Int} (h : RgOwn W base (.slice (some ⟨g, 0, none⟩) (l.length + 1) cap) (l ++ [p])) (y : Int) :
    RgOwn (W.setCell ⟨g, l.length * 2 + 1, none⟩ (.int .i64 y)) base (.slice (some ⟨g, 0, none⟩) (l.length + 1) cap) (l ++ [(p.1, y)]) := by
  have h' : W.ownsRow base 42 2 (.slice (some ⟨g, 0, none⟩) (l.length + 1) cap) (l.length + 1) (flat2 l ++ [Value.int .i64 p.1, Value.int .i64 p.2]) := by
    have := h; unfold RgOwn at this; rw [List.length_append, flat2_snoc] at this; exact this
  have hs := (h'.stored (l.length * 2 + 1) (.int .i64 y)).1
  have e : (flat2 l ++ [Value.int .i64 p.1, Value.int .i64 p.2]).set (l.length * 2 + 1) (.int .i64 y) = flat2 (l ++ [(p.1, y)]) := by
    rw [flat2_snoc, List.set_append_right _ _ (by rw [flat2_len]; omega), flat2_len, show l.length * 2 + 1 - l.length * 2 = 1 from by omega]; rfl
  rw [e] at hs
  unfold RgOwn
  rw [List.length_append]
  exact hs
theorem RgOwn.form {W : World} {base : Nat} {v : Value} {l : List (Int × Int)} {p : Int × Int} (h : RgOwn W base v (l ++ [p])) : ∃ g cap, v = .slice (some ⟨g, 0, none⟩) (l.length + 1) cap ∧ base ≤ g ∧ g < W.heap.size := by
  unfold RgOwn at h
  rw [List.length_append] at h
  rcases h.2 with ⟨_, h0⟩ | ⟨g, cap, cur, hv, hb, hg, _⟩
  · simp at h0
  · exact ⟨g, cap, hv, hb, (Array.getElem?_eq_some_iff.1 hg).1⟩
theorem RgOwn.nil {W : World} {base : Nat} : RgOwn W base (.slice none 0 0) [] := World.ownsRow_nil _ _ _ _
theorem RgOwn.empty {W : World} {base : Nat} {v : Value} (h : RgOwn W base v []) : ∃ a cap, v = .slice a 0 cap := by
  rcases h.2 with ⟨hv, _⟩ | ⟨g, cap, cur, hv, _⟩
  · exact ⟨none, 0, hv⟩
  · exact ⟨_, cap, hv⟩

def MakePost (op : Int) (a b : List (Int × Int)) (W : World) (e : Ending) (w' : World) : Prop := ∃ v out, e = .returned v ∧ Rg.Made op a b out ∧ RgOwn w' W.heap.size v out ∧ Below W.heap.size W w'
theorem nil_or_snoc {α : Type} (l : List α) : l = [] ∨ ∃ ini p, l = ini ++ [p] := by
  rcases List.eq_nil_or_concat l with h | ⟨ini, p, h⟩
  · exact .inl h
  · exact .inr ⟨ini, p, by rw [h, List.concat_eq_append]⟩
theorem refEdge_at {W : World} {v : Value} {l : List (Int × Int)} {r E : Int} (h : RRow W v l) (hr0 : 0 ≤ r) (hr1 : r ≤ 1114111) (hE : Rg.edgeN l r = E) :
    Calls Tryz.prog 72 #[v, .int .i64 r] W fun e w' => e = .returned (.int .i64 E) ∧ W = w' := by
  obtain ⟨a, cap, rfl, hl, hw, hc⟩ := h
  rw [← hE]
  exact refEdge_walk W a _ cap l r rfl hl hc hw hr0 hr1
theorem refHas_at {W : World} {v : Value} {l : List (Int × Int)} {r : Int} {X : Bool} (h : RRow W v l) (hX : Rg.hasB l r = X) :
    Calls Tryz.prog 73 #[v, .int .i64 r] W fun e w' => e = .returned (.bool X) ∧ W = w' := by
  rw [← hX]; exact refHas_any W v l r h
theorem RgOwn.slice {W : World} {base : Nat} {v : Value} {l : List (Int × Int)} (h : RgOwn W base v l) : ∃ a cap, v = .slice a l.length cap := by
  rcases h.2 with ⟨hv, h0⟩ | ⟨g, cap, cur, hv, _⟩
  · exact ⟨none, 0, by rw [h0]; exact hv⟩
  · exact ⟨_, cap, hv⟩

end Go.Proofs.YtimgdooelbhjfaaGreatDoor
