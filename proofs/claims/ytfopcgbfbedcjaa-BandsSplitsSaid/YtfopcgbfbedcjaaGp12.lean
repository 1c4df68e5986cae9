/- The plain mathematics of the landed translation: a pile of ranges still to be split; no program. · The landed translation's two lists in memory: the pile of ranges and the sequences made so far. -/
import Derived.Test.YtfopcgbfbedcjaaGp11
import Derived.Test.YtfopcgbfbedcjaaGp9
namespace Go.Proofs.Ytfopcgbfbedcjaa.Bd
open Go.Proofs.Ytfopcgbfbedcjaa.Rg
set_option linter.unusedVariables false
/-- Runes alone, and at least one. -/
structure Runes (lo hi : Int) : Prop where
  lo0 : 0 ≤ lo
  le : lo ≤ hi
  top : hi ≤ 1114111
  gap : hi ≤ 55295 ∨ 57344 ≤ lo
theorem part_nil {lo hi : Int} {c : Int × Int × Nat} (h : ¬ max lo c.1 ≤ min hi c.2.1) : part lo hi c = [] := by unfold part; rw [if_neg h]
theorem part_at {lo hi a b : Int} {c : Int × Int × Nat} (h : a ≤ b) (h1 : max lo c.1 = a) (h2 : min hi c.2.1 = b) : part lo hi c = oneL a b := by unfold part; rw [h1, h2, if_pos h]
theorem splitL_parts (lo hi : Int) : splitL lo hi = part lo hi (0, 127, 1) ++ (part lo hi (128, 2047, 2) ++ (part lo hi (2048, 55295, 3) ++ (part lo hi (57344, 65535, 3) ++ part lo hi (65536, 1114111, 4)))) := by simp [splitL, clsT]
theorem splitL_cls {w : Nat} {lo hi : Int} (h : Cls w lo hi) : splitL lo hi = oneL lo hi := by
  have hb := h.bd
  have hle := h.le
  rw [splitL_parts]
  rcases hb with ⟨_, h1, h2⟩ | ⟨_, h1, h2⟩ | ⟨_, h1, h2⟩ | ⟨_, h1, h2⟩ | ⟨_, h1, h2⟩
  · rw [part_at hle (by dsimp only; omega) (by dsimp only; omega), part_nil (by dsimp only; omega), part_nil (by dsimp only; omega), part_nil (by dsimp only; omega), part_nil (by dsimp only; omega)]; simp
  · rw [part_nil (c := (0, 127, 1)) (by dsimp only; omega), part_at (c := (128, 2047, 2)) hle (by dsimp only; omega) (by dsimp only; omega), part_nil (c := (2048, 55295, 3)) (by dsimp only; omega), part_nil (c := (57344, 65535, 3)) (by dsimp only; omega), part_nil (c := (65536, 1114111, 4)) (by dsimp only; omega)]; simp
  · rw [part_nil (c := (0, 127, 1)) (by dsimp only; omega), part_nil (c := (128, 2047, 2)) (by dsimp only; omega), part_at (c := (2048, 55295, 3)) hle (by dsimp only; omega) (by dsimp only; omega), part_nil (c := (57344, 65535, 3)) (by dsimp only; omega), part_nil (c := (65536, 1114111, 4)) (by dsimp only; omega)]; simp
  · rw [part_nil (c := (0, 127, 1)) (by dsimp only; omega), part_nil (c := (128, 2047, 2)) (by dsimp only; omega), part_nil (c := (2048, 55295, 3)) (by dsimp only; omega), part_at (c := (57344, 65535, 3)) hle (by dsimp only; omega) (by dsimp only; omega), part_nil (c := (65536, 1114111, 4)) (by dsimp only; omega)]; simp
  · rw [part_nil (c := (0, 127, 1)) (by dsimp only; omega), part_nil (c := (128, 2047, 2)) (by dsimp only; omega), part_nil (c := (2048, 55295, 3)) (by dsimp only; omega), part_nil (c := (57344, 65535, 3)) (by dsimp only; omega), part_at (c := (65536, 1114111, 4)) hle (by dsimp only; omega) (by dsimp only; omega)]; simp
theorem part_low {lo hi m : Int} {c : Int × Int × Nat} (h : c.2.1 ≤ m) (hm : m < hi) : part lo hi c = part lo m c ∧ part (m + 1) hi c = [] := by
  constructor
  · unfold part
    have e : min hi c.2.1 = min m c.2.1 := by omega
    rw [e]
  · exact part_nil (by omega)
theorem part_high {lo hi m : Int} {c : Int × Int × Nat} (h : m < c.1) (hm : lo ≤ m) : part lo hi c = part (m + 1) hi c ∧ part lo m c = [] := by
  constructor
  · unfold part
    have e : max lo c.1 = max (m + 1) c.1 := by omega
    rw [e]
  · exact part_nil (by omega)
theorem splitL_at {lo hi m : Int} (h1 : lo ≤ m) (h2 : m < hi) (hm : m = 127 ∨ m = 2047 ∨ m = 65535) : splitL lo hi = splitL lo m ++ splitL (m + 1) hi := by
  rw [splitL_parts lo hi, splitL_parts lo m, splitL_parts (m + 1) hi]
  have L : ∀ c : Int × Int × Nat, c.2.1 ≤ m → part lo hi c = part lo m c ∧ part (m + 1) hi c = [] := fun c h => part_low h h2
  have H : ∀ c : Int × Int × Nat, m < c.1 → part lo hi c = part (m + 1) hi c ∧ part lo m c = [] := fun c h => part_high h h1
  rcases hm with hm | hm | hm
  · have a := L (0, 127, 1) (by dsimp only; omega)
    have b := H (128, 2047, 2) (by dsimp only; omega)
    have c := H (2048, 55295, 3) (by dsimp only; omega)
    have d := H (57344, 65535, 3) (by dsimp only; omega)
    have e := H (65536, 1114111, 4) (by dsimp only; omega)
    rw [a.1, a.2, b.1, b.2, c.1, c.2, d.1, d.2, e.1, e.2]; simp
  · have a := L (0, 127, 1) (by dsimp only; omega)
    have b := L (128, 2047, 2) (by dsimp only; omega)
    have c := H (2048, 55295, 3) (by dsimp only; omega)
    have d := H (57344, 65535, 3) (by dsimp only; omega)
    have e := H (65536, 1114111, 4) (by dsimp only; omega)
    rw [a.1, a.2, b.1, b.2, c.1, c.2, d.1, d.2, e.1, e.2]; simp
  · have a := L (0, 127, 1) (by dsimp only; omega)
    have b := L (128, 2047, 2) (by dsimp only; omega)
    have c := L (2048, 55295, 3) (by dsimp only; omega)
    have d := L (57344, 65535, 3) (by dsimp only; omega)
    have e := H (65536, 1114111, 4) (by dsimp only; omega)
    rw [a.1, a.2, b.1, b.2, c.1, c.2, d.1, d.2, e.1, e.2]; simp
/-- The widths of both ends. -/
theorem runes_width {lo hi : Int} (h : Runes lo hi) : 1 ≤ Utf.width lo ∧ Utf.width lo ≤ 4 ∧ 1 ≤ Utf.width hi ∧ Utf.width hi ≤ 4 := by
  have h1 := h.lo0; have h2 := h.le; have h3 := h.top; have h4 := h.gap
  rcases Utf.width_cases lo with ⟨q, z⟩ | ⟨q, z⟩ | ⟨q, z⟩ | ⟨q, z⟩ | ⟨q, z⟩ <;> rcases Utf.width_cases hi with ⟨q2, z2⟩ | ⟨q2, z2⟩ | ⟨q2, z2⟩ | ⟨q2, z2⟩ | ⟨q2, z2⟩ <;> omega
theorem runes_cls {lo hi : Int} (h : Runes lo hi) (hw : Utf.width hi = Utf.width lo) : Cls (Utf.width lo).toNat lo hi := by
  have h1 := h.lo0; have h2 := h.le; have h3 := h.top; have h4 := h.gap
  refine ⟨h2, ?_⟩
  rcases Utf.width_cases lo with ⟨q, z⟩ | ⟨q, z⟩ | ⟨q, z⟩ | ⟨q, z⟩ | ⟨q, z⟩ <;> rcases Utf.width_cases hi with ⟨q2, z2⟩ | ⟨q2, z2⟩ | ⟨q2, z2⟩ | ⟨q2, z2⟩ | ⟨q2, z2⟩ <;> omega
/-- Where a range of several widths is cut. -/
theorem runes_cut {lo hi m : Int} (h : Runes lo hi) (hw : Utf.width hi ≠ Utf.width lo) (hm : m = if Utf.width lo = 1 then 127 else if Utf.width lo = 2 then 2047 else 65535) :
    lo ≤ m ∧ m < hi ∧ (m = 127 ∨ m = 2047 ∨ m = 65535) ∧ Runes lo m ∧ Runes (m + 1) hi := by
  have h1 := h.lo0; have h2 := h.le; have h3 := h.top; have h4 := h.gap
  have key : lo ≤ m ∧ m < hi ∧ (m = 127 ∨ m = 2047 ∨ m = 65535) ∧ (m ≤ 55295 ∨ 57344 ≤ lo) := by
    rcases Utf.width_cases lo with ⟨q, z⟩ | ⟨q, z⟩ | ⟨q, z⟩ | ⟨q, z⟩ | ⟨q, z⟩ <;> rcases Utf.width_cases hi with ⟨q2, z2⟩ | ⟨q2, z2⟩ | ⟨q2, z2⟩ | ⟨q2, z2⟩ | ⟨q2, z2⟩ <;> (rw [q] at hm; simp at hm; omega)
  exact ⟨key.1, key.2.1, key.2.2.1, ⟨h1, key.1, by omega, key.2.2.2⟩, ⟨by omega, by omega, h3, by omega⟩⟩
/-- What a pile of ranges, the lowest at its end, is translated to. -/
def pileL (P : List (Int × Int)) : List (List R) := P.reverse.flatMap fun p => splitL p.1 p.2
theorem pileL_snoc (P : List (Int × Int)) (lo hi : Int) : pileL (P ++ [(lo, hi)]) = splitL lo hi ++ pileL P := by simp [pileL]
theorem pileL_two (P : List (Int × Int)) (a b c d : Int) : pileL (P ++ [(a, b), (c, d)]) = splitL c d ++ (splitL a b ++ pileL P) := by simp [pileL]
/-- How much there is still to do: it falls with every round. -/
def toil : List (Int × Int) → Nat
  | [] => 0
  | p :: P => (2 * (p.2 - p.1) + 1).toNat + toil P
theorem toil_append : ∀ (P Q : List (Int × Int)), toil (P ++ Q) = toil P + toil Q
  | [], Q => by simp [toil]
  | p :: P, Q => by rw [List.cons_append, toil, toil, toil_append P Q]; omega
/-- How many runes there are still. -/
def many : List (Int × Int) → Nat
  | [] => 0
  | p :: P => (p.2 - p.1 + 1).toNat + many P
theorem many_append : ∀ (P Q : List (Int × Int)), many (P ++ Q) = many P + many Q
  | [], Q => by simp [many]
  | p :: P, Q => by rw [List.cons_append, many, many, many_append P Q]; omega
/-- A pile within a range: every range of it of runes alone, and no more of them than there are runes. -/
structure Pile (P : List (Int × Int)) (most : Nat) : Prop where
  each : ∀ p ∈ P, Runes p.1 p.2
  few : many P ≤ most
theorem many_len : ∀ (P : List (Int × Int)), (∀ p ∈ P, Runes p.1 p.2) → P.length ≤ many P
  | [], _ => Nat.zero_le _
  | p :: P, h => by
    have h1 := (h p (List.mem_cons_self ..)).le
    have h2 := many_len P (fun x hx => h x (List.mem_cons_of_mem _ hx))
    rw [List.length_cons, many]; omega
theorem Pile.init {P : List (Int × Int)} {p : Int × Int} {most : Nat} (h : Pile (P ++ [p]) most) : Pile P most ∧ Runes p.1 p.2 ∧ P.length + 1 ≤ most := by
  have h1 := many_len _ h.each
  have h2 := h.few
  rw [List.length_append, List.length_singleton] at h1
  refine ⟨⟨fun x hx => h.each x (List.mem_append_left _ hx), ?_⟩, h.each p (List.mem_append_right _ (List.mem_singleton.2 rfl)), by omega⟩
  rw [many_append] at h2
  omega
theorem Pile.two {P : List (Int × Int)} {lo hi m : Int} {most : Nat} (h : Pile (P ++ [(lo, hi)]) most) (h1 : lo ≤ m) (h2 : m < hi) (ha : Runes lo m) (hb : Runes (m + 1) hi) : Pile (P ++ [(m + 1, hi), (lo, m)]) most ∧ toil (P ++ [(m + 1, hi), (lo, m)]) < toil (P ++ [(lo, hi)]) := by
  have hf := h.few
  refine ⟨⟨fun x hx => ?_, ?_⟩, ?_⟩
  · rcases List.mem_append.1 hx with hx | hx
    · exact h.each x (List.mem_append_left _ hx)
    · rcases List.mem_cons.1 hx with rfl | hx
      · exact hb
      · rw [List.mem_singleton.1 hx]; exact ha
  · rw [many_append] at hf ⊢
    simp only [many] at hf ⊢
    omega
  · rw [toil_append, toil_append]
    simp only [toil]
    omega
theorem runes_sub {lo hi m : Int} (h : Runes lo hi) (h1 : lo ≤ m) (h2 : m < hi) : Runes lo m ∧ Runes (m + 1) hi := by
  have a := h.lo0; have b := h.top; have c := h.gap
  exact ⟨⟨a, h1, by omega, by omega⟩, ⟨by omega, by omega, b, by omega⟩⟩
end Go.Proofs.Ytfopcgbfbedcjaa.Bd
namespace Go.Proofs.Ytfopcgbfbedcjaa
open Go.RowKit
set_option linter.unusedVariables false
/-- The pile's block is none of the other list's. -/
def PApart (pv v : Value) (us : List Value) : Prop := ∀ b, pv.ownBlock = some b → v.ownBlock ≠ some b ∧ ∀ j, j < us.length → (us[j]?.getD nilV).ownBlock ≠ some b
structure PileAt (w : World) (base : Nat) (lo hi : Int) (pv v : Value) (P : List (Int × Int)) (us : List Value) (O : List (List (Int × Int))) : Prop where
  own : RgOwn w base pv P
  out : QOwnU w base v us O
  apart : PApart pv v us
  sum : O ++ Bd.pileL P = Bd.splitL lo hi
  pile : Bd.Pile P 1114112
theorem PileAt.below {w w' : World} {base : Nat} {lo hi : Int} {pv v : Value} {P : List (Int × Int)} {us : List Value} {O : List (List (Int × Int))} (h : PileAt w base lo hi pv v P us O) (hb : Below w.heap.size w w') : PileAt w' base lo hi pv v P us O :=
  ⟨h.own.below2 hb, h.out.below hb, h.apart, h.sum, h.pile⟩
theorem RgOwn.lo {W : World} {base g cap : Nat} {l : List (Int × Int)} {p : Int × Int} (h : RgOwn W base (.slice (some ⟨g, 0, none⟩) (l.length + 1) cap) (l ++ [p])) : W.cell? ⟨g, l.length * 2, none⟩ = some (.int .i64 p.1) := by
  have h' : W.ownsRow base 44 2 (.slice (some ⟨g, 0, none⟩) (l.length + 1) cap) (l.length + 1) (flat2 l ++ [Value.int .i64 p.1, Value.int .i64 p.2]) := by
    have := h; unfold RgOwn at this; rw [List.length_append, flat2_snoc] at this; exact this
  rw [h'.cellAt _ (by omega), List.getElem?_append_right (by rw [flat2_len]; exact Nat.le_refl _), flat2_len, Nat.sub_self]
  rfl
theorem RgOwn.cap {W : World} {base g cap n : Nat} {l : List (Int × Int)} (h : RgOwn W base (.slice (some ⟨g, 0, none⟩) n cap) l) : n ≤ cap ∧ cap ≤ 9223372036854775807 := by
  rcases h.2 with ⟨h0, _⟩ | ⟨g', cap', cur, hv, _, _, h1, h2, _⟩
  · cases h0
  · injection hv with _ e1 e2
    subst e2
    unfold maxLen at h2
    omega
/-- The last of a row left out. -/
theorem RgOwn.pop {W : World} {base g cap : Nat} {l : List (Int × Int)} {p : Int × Int} (h : RgOwn W base (.slice (some ⟨g, 0, none⟩) (l.length + 1) cap) (l ++ [p])) : RgOwn W base (.slice (some ⟨g, 0, none⟩) l.length cap) l := by
  have h' : W.ownsRow base 44 2 (.slice (some ⟨g, 0, none⟩) (l.length + 1) cap) (l.length + 1) (flat2 l ++ [Value.int .i64 p.1, Value.int .i64 p.2]) := by
    have := h; unfold RgOwn at this; rw [List.length_append, flat2_snoc] at this; exact this
  refine ⟨flat2_len l, .inr ?_⟩
  rcases h'.2 with ⟨h0, _⟩ | ⟨g', cap', cur, hv, hb, hg, h1, h2, h3, h4⟩
  · cases h0
  · injection hv with e0 _ e2
    injection e0 with e0
    injection e0 with e0
    subst e0
    subst e2
    refine ⟨g, cap, cur, rfl, hb, hg, by omega, h2, h3, ?_⟩
    have h5 := congrArg (List.take (l.length * 2)) h4
    rw [List.take_take, Nat.min_eq_left (by omega), List.take_append_of_le_length (by rw [flat2_len]; exact Nat.le_refl _)] at h5
    rw [h5, List.take_of_length_le (by rw [flat2_len]; exact Nat.le_refl _)]
theorem QOwnU.grown {w w' : World} {base : Nat} {v : Value} {us : List Value} {L : List (List (Int × Int))} {row : Option Nat} (h : QOwnU w base v us L) (hg : w.grownBy w' row) (hr : ∀ r, row = some r → v.ownBlock ≠ some r ∧ ∀ j, j < us.length → (us[j]?.getD nilV).ownBlock ≠ some r) : QOwnU w' base v us L := by
  refine ⟨h.1, h.2.1.kept hg ?_, fun j hj => (h.2.2.1 j hj).kept hg ?_, h.2.2.2⟩
  · cases e : row with
    | none => cases hv : v.ownBlock <;> simp
    | some r => exact .inr (hr r e).1
  · cases e : row with
    | none => cases hv : (us[j]?.getD nilV).ownBlock <;> simp
    | some r => exact .inr ((hr r e).2 j hj)
/-- The last of the pile cut into two. -/
theorem PileAt.push {w wz : World} {base g gg cap cap1 : Nat} {lo hi a b m : Int} {v : Value} {P : List (Int × Int)} {us : List Value} {O : List (List (Int × Int))} (h : PileAt w base lo hi (.slice (some ⟨g, 0, none⟩) (P.length + 1) cap) v (P ++ [(a, b)]) us O)
    (hs : Bd.splitL a b = Bd.splitL a m ++ Bd.splitL (m + 1) b) (h1 : a ≤ m) (h2 : m < b) (ra : Bd.Runes a m) (rb : Bd.Runes (m + 1) b)
    (hown : RgOwn wz base (.slice (some ⟨gg, 0, none⟩) (P.length + 2) cap1) (P ++ [(m + 1, b), (a, m)])) (hg : w.grownBy wz (some g)) (hat : g = gg ∨ w.heap.size ≤ gg) :
    PileAt wz base lo hi (.slice (some ⟨gg, 0, none⟩) (P.length + 2) cap1) v (P ++ [(m + 1, b), (a, m)]) us O := by
  have ha := h.apart g rfl
  refine ⟨hown, h.out.grown hg (fun r e => by cases e; exact ha), fun x e => ?_, ?_, (h.pile.two h1 h2 ra rb).1⟩
  · have e' : gg = x := by simpa [Value.ownBlock] using e
    subst e'
    rcases hat with rfl | hge
    · exact ha
    · refine ⟨fun e2 => ?_, fun j hj e2 => ?_⟩
      · have := (h.out.2.1.lt gg e2).2; omega
      · have := ((h.out.2.2.1 j hj).lt e2).2; omega
  · rw [← h.sum, Bd.pileL_two, Bd.pileL_snoc, hs, List.append_assoc]
/-- The last of the pile is one sequence. -/
theorem PileAt.done {w wz : World} {base base2 g gg cap cap1 : Nat} {lo hi a b : Int} {v u : Value} {P : List (Int × Int)} {us : List Value} {O : List (List (Int × Int))} (h : PileAt w base lo hi (.slice (some ⟨g, 0, none⟩) (P.length + 1) cap) v (P ++ [(a, b)]) us O)
    (hs : Bd.splitL a b = [Bd.zipE a b]) (hb : base ≤ base2) (hu : RgOwn w base2 u (Bd.zipE a b)) (hg2 : g < base2) (hv2 : ∀ x, v.ownBlock = some x → x < base2) (hus2 : ∀ j, j < us.length → ∀ x, (us[j]?.getD nilV).ownBlock = some x → x < base2)
    (hown : wz.ownsRow base 22 1 (.slice (some ⟨gg, 0, none⟩) (us.length + 1) cap1) (us.length + 1) (us ++ [u])) (hg : w.grownBy wz v.ownBlock) (hat : v.ownBlock = some gg ∨ w.heap.size ≤ gg) :
    PileAt wz base lo hi (.slice (some ⟨g, 0, none⟩) P.length cap) (.slice (some ⟨gg, 0, none⟩) (us.length + 1) cap1) P (us ++ [u]) (O ++ [Bd.zipE a b]) := by
  have ha := h.apart g rfl
  refine ⟨h.own.pop.kept hg (.inr (fun e => ha.1 e.symm)), h.out.snoc (hu.lower hb) ?_ ?_ hown hg hat, fun x e => ?_, ?_, (h.pile.init).1⟩
  · intro j hj x e e2
    have a1 := hus2 j hj x e
    have a2 := (hu.lt e2).1
    omega
  · intro x e e2
    have a1 := hv2 x e2
    have a2 := (hu.lt e).1
    omega
  · have e' : g = x := by simpa [Value.ownBlock] using e
    subst e'
    refine ⟨fun e2 => ?_, fun j hj e2 => ?_⟩
    · have e3 : gg = g := by simpa [Value.ownBlock] using e2
      subst e3
      rcases hat with e4 | e4
      · exact ha.1 e4
      · have := (h.own.lt (b := gg) rfl).2; omega
    · rw [List.length_append, List.length_singleton] at hj
      by_cases e5 : j < us.length
      · rw [List.getElem?_append_left e5] at e2; exact ha.2 j e5 e2
      · obtain rfl : j = us.length := by omega
        rw [List.getElem?_append_right (Nat.le_refl _)] at e2
        simp only [Nat.sub_self, List.getElem?_cons_zero, Option.getD_some] at e2
        have := (hu.lt e2).1; omega
  · rw [← h.sum, Bd.pileL_snoc, hs, List.append_assoc]
theorem PileAt.outLen {w : World} {base : Nat} {lo hi : Int} {pv v : Value} {P : List (Int × Int)} {us : List Value} {O : List (List (Int × Int))} (h : PileAt w base lo hi pv v P us O) (hr : Bd.Runes lo hi) : us.length ≤ 1114112 := by
  have h1 := congrArg List.length h.sum
  rw [List.length_append] at h1
  have h2 := Bd.splitL_len hr.lo0 hr.le hr.top
  have h3 := hr.top
  have h4 := hr.lo0
  have h5 := h.out.1
  omega
end Go.Proofs.Ytfopcgbfbedcjaa
