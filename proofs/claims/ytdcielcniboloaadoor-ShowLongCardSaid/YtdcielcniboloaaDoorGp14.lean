/- The reference's tree (burinref06): Depth. · The contract of the reference's Check (burinref02). · The reference's tree (burinref06): Fits. · The reference's tree (burinref06): All: the nodes of a tree, in an owned row of steps (nine cells each). · The reference's tree (burinref06): Groups; an owned row of texts. · The reference's tree (burinref06): Check. -/
import Derived.Test.YtdcielcniboloaaDoorGp2
import Derived.IntWalk
import Derived.Test.YtdcielcniboloaaDoorGp1
import Derived.Test.YtdcielcniboloaaDoorGp5
import Derived.Test.YtdcielcniboloaaDoorGp6
import Derived.WalkSmall
import Derived.Maps.Range
import Derived.Deep.RegionHeld3
import Derived.Deep.AppendLies
import Derived.Laws.OwnMore
import Derived.BigQuiet
namespace Go.Proofs.YtdcielcniboloaaDoor
open Go.RowKit
set_option linter.unusedVariables false
end Go.Proofs.YtdcielcniboloaaDoor
namespace Go.Proofs.YtdcielcniboloaaDoor
open Go.RowKit
set_option linter.unusedVariables false
end Go.Proofs.YtdcielcniboloaaDoor
namespace Go.Proofs.YtdcielcniboloaaDoor
open Go.RowKit
set_option linter.unusedVariables false
namespace Td
/-- Are a node's fields as its kind has them? -/
def fitsV (K num mn mx L : Int) (S U M T Z C NB : Bool) : Bool :=
  if K = 1 ∨ K = 2 ∨ K = 4 then S && (U && (M && (T && (Z && (L == 0)))))
  else if K = 3 then !S && (C && (U && (M && (T && (Z && (L == 0))))))
  else if K = 5 then S && (decide (1 ≤ num) && (decide (num ≤ 6) && (M && (T && (Z && (L == 0))))))
  else if K = 6 then S && (decide (1 ≤ num) && ((M || NB) && (T && (Z && (L == 1)))))
  else if K = 7 ∨ K = 8 then S && (U && (M && (T && (Z && decide (2 ≤ L)))))
  else if K = 9 then S && (U && (M && (decide (0 ≤ mn) && (decide (mn ≤ 1000) && ((mx == -1 || (decide (mn ≤ mx) && decide (mx ≤ 1000))) && (L == 1))))))
  else false
def fitsB (n : Nd) : Bool :=
  fitsV (kind n) (num n) (mn n) (mx n) (subs n).length (((set n).length : Int) == 0) (num n == 0) (name n).toList.isEmpty (mn n == 0 && mx n == 0) (!lazy n) (Rg.checkF none (set n) == 0) (nameB (name n))
end Td
end Go.Proofs.YtdcielcniboloaaDoor
namespace Go.Proofs.YtdcielcniboloaaDoor
open Go.RowKit
set_option linter.unusedVariables false
/-- A row of steps that a call owns; the nodes themselves lie in the world that the call began in. -/
def StOwn (Wb W : World) (v : Value) (L : List (Nat × Nd)) : Prop :=
  ∃ X : List (List Value), X.length = L.length ∧ W.ownsRow Wb.heap.size 58 9 v L.length X.flatten ∧
    ∀ j (h : j < L.length), ∃ cs, X[j]? = some (.int .i64 (L[j].1 : Int) :: cs) ∧ NdIs Wb L[j].2 cs
theorem StOwn.snoc {Wb W' : World} {v' : Value} {L : List (Nat × Nd)} {X : List (List Value)} (hX : X.length = L.length) (hc : ∀ j (h : j < L.length), ∃ cs, X[j]? = some (.int .i64 (L[j].1 : Int) :: cs) ∧ NdIs Wb L[j].2 cs)
    {d : Nat} {n : Nd} {cs : List Value} (hn : NdIs Wb n cs) (hown : W'.ownsRow Wb.heap.size 58 9 v' (L.length + 1) (X.flatten ++ (.int .i64 (d : Int) :: cs))) : StOwn Wb W' v' (L ++ [(d, n)]) := by
  refine ⟨X ++ [.int .i64 (d : Int) :: cs], by simp [hX], by simpa using hown, fun j h => ?_⟩
  by_cases hj : j < L.length
  · obtain ⟨c, h1, h2⟩ := hc j hj
    refine ⟨c, ?_, ?_⟩
    · rw [List.getElem?_append_left (by omega), List.getElem_append_left hj]; exact h1
    · rw [List.getElem_append_left hj]; exact h2
  · have hj2 : j = L.length := by simp at h; omega
    subst hj2
    refine ⟨cs, ?_, ?_⟩
    · rw [List.getElem?_append_right (by omega)]; simp [hX]
    · simpa using hn
theorem Td.flat_succ (l : List Nd) (f : Nd → List (Nat × Nd)) (k : Nat) (m : Nd) (hk : l[k]? = some m) : (l.take (k + 1)).flatMap f = (l.take k).flatMap f ++ f m := by
  obtain ⟨h, rfl⟩ := List.getElem?_eq_some_iff.1 hk
  rw [List.take_succ_eq_append_getElem h, List.flatMap_append]; simp
theorem Td.flat_le (l : List Nd) (f : Nd → List (Nat × Nd)) (k : Nat) : ((l.take k).flatMap f).length ≤ (l.flatMap f).length := by
  have h : l.flatMap f = (l.take k).flatMap f ++ (l.drop k).flatMap f := by rw [← List.flatMap_append, List.take_append_drop]
  rw [h, List.length_append]; omega
theorem Td.all_len_pos (k d : Nat) (n : Nd) : 1 ≤ (Td.all (k + 1) d n).length := by rw [Td.all]; simp
end Go.Proofs.YtdcielcniboloaaDoor
namespace Go.Proofs.YtdcielcniboloaaDoor
open Go.RowKit
set_option linter.unusedVariables false
theorem flat9_at : ∀ (X : List (List Value)), (∀ x ∈ X, x.length = 9) → ∀ (j q : Nat) (x : List Value), X[j]? = some x → q < 9 → X.flatten[j * 9 + q]? = x[q]?
  | [], _, j, q, x, hx, _ => by simp at hx
  | y :: X, h, 0, q, x, hx, hq => by
    simp at hx
    subst hx
    have hy := h y (by simp)
    rw [List.flatten_cons, List.getElem?_append_left (by omega)]; simp
  | y :: X, h, j + 1, q, x, hx, hq => by
    have hy := h y (by simp)
    rw [List.flatten_cons, List.getElem?_append_right (by omega)]
    have := flat9_at X (fun x hx => h x (List.mem_cons_of_mem _ hx)) j q x (by simpa using hx) hq
    rw [← this]; congr 1; omega
/-- A step of an owned row, laid open. -/
theorem StOwn.at {Wb W : World} {v : Value} {L : List (Nat × Nd)} (h : StOwn Wb W v L) (j : Nat) (hj : j < L.length) : ∃ g cap cs, v = .slice (some ⟨g, 0, none⟩) L.length cap ∧ Wb.heap.size ≤ g ∧ g < W.heap.size ∧
    W.cell? ⟨g, j * 9, none⟩ = some (.int .i64 (L[j].1 : Int)) ∧ NdIs Wb L[j].2 cs ∧ ∀ q, q < 8 → W.cell? ⟨g, j * 9 + 1 + q, none⟩ = cs[q]? := by
  obtain ⟨X, h1, h2, h3⟩ := h
  obtain ⟨g, cap, rfl, hb, hg⟩ := World.ownsRow.form h2 (by omega)
  obtain ⟨cs, hx, hn⟩ := h3 j hj
  have h9 : ∀ x ∈ X, x.length = 9 := fun x hx => by
    obtain ⟨i, hi, rfl⟩ := List.getElem_of_mem hx
    obtain ⟨c, e, hc⟩ := h3 i (by omega)
    rw [List.getElem?_eq_getElem hi] at e
    rw [Option.some.inj e]
    simp [hc.len]
  refine ⟨g, cap, cs, rfl, hb, hg, ?_, hn, fun q hq => ?_⟩
  · have := World.ownsRow.cellAt h2 (j * 9) (by omega)
    rw [this]
    have h5 := flat9_at X h9 j 0 _ hx (by omega)
    simpa using h5
  · have := World.ownsRow.cellAt h2 (j * 9 + 1 + q) (by omega)
    rw [this]
    have h5 := flat9_at X h9 j (1 + q) _ hx (by omega)
    rw [show j * 9 + 1 + q = j * 9 + (1 + q) from by omega, h5, show 1 + q = q + 1 from by omega]; simp
theorem StOwn.slice {Wb W : World} {v : Value} {L : List (Nat × Nd)} (h : StOwn Wb W v L) : ∃ a cap, v = .slice a L.length cap := by
  obtain ⟨X, h1, h2, h3⟩ := h
  rcases h2.2 with ⟨e, e0⟩ | ⟨g, cap, cur, e, _⟩
  · exact ⟨none, 0, by rw [e, e0]⟩
  · exact ⟨_, _, e⟩
theorem StOwn.nil (W : World) : StOwn W W (.slice none 0 0) [] := ⟨[], rfl, World.ownsRow_nil _ _ _ _, fun j h => absurd h (by simp)⟩
/-- A row of texts that a call owns. -/
def TxOwn (W : World) (base : Nat) (v : Value) (T : List ByteArray) : Prop := W.ownsRow base 9 1 v T.length (T.map Value.string)
namespace Td
/-- The names of the groups among nodes. -/
def groups (l : List (Nat × Nd)) : List ByteArray := (l.filter (fun p => kind p.2 == 6)).map (fun p => name p.2)
end Td

























































































end Go.Proofs.YtdcielcniboloaaDoor
namespace Go.Proofs.YtdcielcniboloaaDoor
open Go.RowKit
set_option linter.unusedVariables false
namespace Td
/-- Is a name, not empty, among these? -/
def hit (T : List ByteArray) (nm : ByteArray) : Bool := T.any (fun t => t.toList == nm.toList) && !nm.toList.isEmpty
def chkF (T : List ByteArray) : List (Nat × Nd) → Int
  | [] => 0
  | x :: l => if fitsB x.2 = false then 60 else if kind x.2 ≠ 6 then chkF T l else if num x.2 ≠ (T.length : Int) + 1 then 60 else if 31 < num x.2 then 2
    else if hit T (name x.2) = true then 6 else chkF (T ++ [name x.2]) l
def checkN (n : Nd) : Int := if 1000 < dep 1001 n then 61 else chkF [] (all 1000 1 n)
structure ChkSt (T : List ByteArray) (l l' : List (Nat × Nd)) (m : Nd) : Prop where
  bad : fitsB m = false → chkF T l = 60
  other : fitsB m = true → kind m ≠ 6 → chkF T l = chkF T l'
  odd : fitsB m = true → kind m = 6 → num m ≠ (T.length : Int) + 1 → chkF T l = 60
  long : fitsB m = true → kind m = 6 → num m = (T.length : Int) + 1 → 31 < num m → chkF T l = 2
  there : fitsB m = true → kind m = 6 → num m = (T.length : Int) + 1 → ¬ 31 < num m → hit T (name m) = true → chkF T l = 6
  next : fitsB m = true → kind m = 6 → num m = (T.length : Int) + 1 → ¬ 31 < num m → hit T (name m) = false → chkF T l = chkF (T ++ [name m]) l'
end Td
theorem TxOwn.slice {W : World} {base : Nat} {v : Value} {T : List ByteArray} (h : TxOwn W base v T) : ∃ a c, v = .slice a T.length c := by
  rcases h.2 with ⟨e, e0⟩ | ⟨g, cap, cur, e, _⟩
  · exact ⟨none, 0, by rw [e, e0]⟩
  · exact ⟨_, _, e⟩
theorem TxOwn.below {W W' : World} {base : Nat} {v : Value} {T : List ByteArray} (h : TxOwn W base v T) (hb : Below W.heap.size W W') : TxOwn W' base v T :=
  World.ownsRow.kept h ⟨hb.os, hb.tape, hb.output, hb.size, fun k hk _ => hb.block k hk⟩ (row := none) (by cases hv : v.ownBlock <;> simp)
theorem TxOwn.at {W : World} {base : Nat} {v : Value} {T : List ByteArray} (h : TxOwn W base v T) (k : Nat) (hk : k < T.length) : ∃ g c, v = .slice (some ⟨g, 0, none⟩) T.length c ∧ g < W.heap.size ∧ W.cell? ⟨g, k, none⟩ = some (.string T[k]) := by
  obtain ⟨g, cap, rfl, hb, hg⟩ := World.ownsRow.form h (by omega)
  refine ⟨g, cap, rfl, hg, ?_⟩
  rw [World.ownsRow.cellAt h k (by omega)]
  simp [hk]
end Go.Proofs.YtdcielcniboloaaDoor
