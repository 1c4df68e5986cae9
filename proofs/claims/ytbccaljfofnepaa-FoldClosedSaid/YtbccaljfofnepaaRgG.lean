/- What the laws of ranges use: lent lists as rows, the reference's Check on rows. -/
import Derived.Test.YtbccaljfofnepaaRgF
import Derived.Test.YtbccaljfofnepaaRgI
namespace Go.Proofs.Ytbccaljfofnepaa
open Go.RowKit
set_option linter.unusedVariables false
theorem lend_row {W : World} {base g cap : Nat} {l : List (Int × Int)} {p : Int × Int} (h : RgOwn W base (.slice (some ⟨g, 0, none⟩) (l.length + 1) cap) (l ++ [p])) (hl : l.length ≤ 8796093022208) (hw : Wide64 l) :
    RRow W (.slice (some ⟨g, 0, none⟩) l.length cap) l ∧ W.cell? ⟨g, l.length * 2, none⟩ = some (.int .i64 p.1) ∧ W.cell? ⟨g, l.length * 2 + 1, none⟩ = some (.int .i64 p.2) ∧ g < W.heap.size := by
  obtain ⟨g', cap', hv, hb, hg⟩ := RgOwn.form h
  injection hv with hv _ _
  injection hv with hv
  injection hv with hv _ _
  subst hv
  have h' : W.ownsRow base 52 2 (.slice (some ⟨g, 0, none⟩) (l.length + 1) cap) (l.length + 1) (flat2 (l ++ [p])) := by
    have := h; unfold RgOwn at this; rw [List.length_append] at this; exact this
  have get : ∀ j, j < l.length + 1 → W.cell? ⟨g, j * 2, none⟩ = some (.int .i64 ((l ++ [p])[j]?.getD (0, 0)).1) ∧ W.cell? ⟨g, j * 2 + 1, none⟩ = some (.int .i64 ((l ++ [p])[j]?.getD (0, 0)).2) := by
    intro j hj
    have hf := flat2_get (l ++ [p]) j (by simpa using hj)
    exact ⟨(h'.cellAt _ (by omega)).trans hf.1, (h'.cellAt _ (by omega)).trans hf.2⟩
  have last := get l.length (by omega)
  rw [List.getElem?_append_right (Nat.le_refl _), Nat.sub_self] at last
  refine ⟨⟨_, cap, rfl, hl, hw, fun j hj => ⟨g, 0, rfl, hg, ?_, ?_⟩⟩, last.1, last.2, hg⟩
  · have := (get j (by omega)).1
    rw [List.getElem?_append_left hj] at this
    rw [Nat.zero_add]; exact this
  · have := (get j (by omega)).2
    rw [List.getElem?_append_left hj] at this
    rw [Nat.zero_add]; exact this
theorem RRow.wide {W : World} {v : Value} {l : List (Int × Int)} (h : RRow W v l) : l.length ≤ 8796093022208 ∧ Wide64 l := by
  obtain ⟨a, cap, hv, hl, hw, hc⟩ := h
  exact ⟨hl, hw⟩
/-- A lent list: it reads as l, and the mark lies behind it. -/
structure Lent (W : World) (g n cap : Nat) (l : List (Int × Int)) : Prop where
  len : l.length = n
  row : RRow W (.slice (some ⟨g, 0, none⟩) n cap) l
  cap : n + 1 ≤ cap
  lo : W.cell? ⟨g, n * 2, none⟩ = some (.int .i64 7)
  hi : W.cell? ⟨g, n * 2 + 1, none⟩ = some (.int .i64 0)
  lt : g < W.heap.size
theorem Lent.below {W W' : World} {g n cap : Nat} {l : List (Int × Int)} (h : Lent W g n cap l) (hb : Below W.heap.size W W') : Lent W' g n cap l :=
  ⟨h.len, h.row.below (Nat.le_refl _) hb, h.cap, (hb.cell (p := ⟨g, n * 2, none⟩) h.lt).trans h.lo, (hb.cell (p := ⟨g, n * 2 + 1, none⟩) h.lt).trans h.hi, Nat.lt_of_lt_of_le h.lt hb.size⟩
theorem lend_any (W : World) (v : Value) (l : List (Int × Int)) (n : Nat) (hn : l.length = n) (h : RRow W v l) :
    Calls Try.prog 16 #[v] W fun e w' => ∃ g cap, e = .returned (.slice (some ⟨g, 0, none⟩) n cap) ∧ Lent w' g n cap l ∧ Below W.heap.size W w' := by
  subst hn
  refine (lend_walk W v l h).mono ?_
  rintro e w' ⟨g, cap, hc, rfl, ho, hb⟩
  obtain ⟨h1, h2, h3, h4⟩ := lend_row ho h.wide.1 h.wide.2
  exact ⟨g, cap, rfl, ⟨rfl, h1, hc, h2, h3, h4⟩, hb⟩
theorem kept_any (W : World) (vb : Value) (g n cap : Nat) (l : List (Int × Int)) (h : Lent W g n cap l) (hb : RRow W vb l) :
    Calls Try.prog 21 #[.slice (some ⟨g, 0, none⟩) n cap, vb] W fun e w' => e = .returned (.bool true) ∧ ∃ d, w' = W.drewN d :=
  kept_walk W vb g n cap l h.len h.row hb h.cap (by have := hb.wide.1; have := h.len; omega) h.lo h.hi
theorem same_refl_row (W : World) (va vb : Value) (l m : List (Int × Int)) (ha : RRow W va l) (hb : RRow W vb m) (e : l = m) :
    Calls Try.prog 18 #[va, vb] W fun e W' => e = .returned (.bool true) ∧ Below W.heap.size W W' := by
  subst e
  refine (same_rg W va vb l l ha hb).mono ?_
  rintro e w' ⟨rfl, d, rfl⟩
  exact ⟨by rw [decide_eq_true rfl], below_drewN (Below.refl _ _) d⟩
end Go.Proofs.Ytbccaljfofnepaa
