/- The landed tree: Size, Depth. · The reference's tree (burinref06): Depth. · The reference's tree (burinref06): letter, Name. · What the reference's Check answers, as plain mathematics. · The contract of the reference's Check (burinref02). · The reference's tree (burinref06): Fits. · The reference's tree (burinref06): Groups; an owned row of texts. · The reference's tree (burinref06): Check. · An append in a fenced walk, its run known. -/
import Derived.Test.YtanffablfgnioaaGp8
import Derived.Test.YtanffablfgnioaaGp3
import Derived.IntWalk
import Derived.Test.YtanffablfgnioaaGp1
import Derived.WalkSmall
import Derived.Test.YtanffablfgnioaaGp7
import Derived.Laws.OwnMore
import Derived.BigQuiet
import Derived.RangeFuncBox
import Derived.RangeFuncNested
import Derived.Deep.AppendLies
import Derived.OwnWalkIn
import Derived.TacticsInMore
namespace Go.Proofs.Ytanffablfgnioaa
open Go.RowKit Go.Shelf
attribute [local go_sem] Oper.semAt_some
set_option linter.unusedVariables false
namespace Td
/-- The greatest depth among nodes. -/
def deepL (l : List (Nat × Nd)) (a : Nat) : Nat := l.foldl (fun m p => max m p.1) a
theorem deepL_append (l m : List (Nat × Nd)) (a : Nat) : deepL (l ++ m) a = deepL m (deepL l a) := by unfold deepL; rw [List.foldl_append]
theorem deepL_le : ∀ (l : List (Nat × Nd)) (a : Nat), a ≤ deepL l a
  | [], a => Nat.le_refl _
  | p :: l, a => by
    have := deepL_le l (max a p.1)
    show a ≤ deepL l (max a p.1)
    omega
theorem foldl_max_init : ∀ (l : List Nat) (a : Nat), l.foldl max a = max a (l.foldl max 0)
  | [], a => by simp
  | x :: l, a => by
    show l.foldl max (max a x) = max a (l.foldl max (max 0 x))
    rw [foldl_max_init l (max a x), foldl_max_init l (max 0 x)]; omega
theorem deepL_flat (f : Nd → List (Nat × Nd)) (g : Nd → Nat) (d : Nat) (h : ∀ m a, d ≤ a → deepL (f m) a = max a (d + g m)) : ∀ (l : List Nd) (a : Nat), d ≤ a → deepL (l.flatMap f) a = max a (d + (l.map g).foldl max 0)
  | [], a, ha => by show a = max a (d + 0); omega
  | m :: l, a, ha => by
    rw [List.flatMap_cons, deepL_append, h m a ha, deepL_flat f g d h l _ (by omega)]
    show _ = max a (d + (l.map g).foldl max (max 0 (g m)))
    rw [foldl_max_init _ (max 0 (g m))]; omega
theorem deepL_all : ∀ (k d : Nat) (n : Nd) (a : Nat), d ≤ a → deepL (all k (d + 1) n) a = max a (d + dep k n)
  | 0, d, n, a, ha => by show a = max a (d + 0); omega
  | k + 1, d, n, a, ha => by
    rw [all]
    show deepL ((subs n).flatMap (all k (d + 1 + 1))) (max a (d + 1)) = _
    rw [deepL_flat (all k (d + 1 + 1)) (dep k) (d + 1) (fun m a h => deepL_all k (d + 1) m a h) (subs n) _ (by omega), dep]
    omega
theorem all_depth : ∀ (k d : Nat) (n : Nd), ∀ p ∈ all k d n, p.1 + 1 ≤ d + k
  | 0, d, n, p, hp => by simp [all] at hp
  | k + 1, d, n, p, hp => by
    rw [all] at hp
    rcases List.mem_cons.1 hp with rfl | hp
    · show d + 1 ≤ d + (k + 1); omega
    · obtain ⟨m, _, hp⟩ := List.mem_flatMap.1 hp
      have := all_depth k (d + 1) m p hp
      omega
theorem deepL_bd (b : Nat) : ∀ (l : List (Nat × Nd)) (a : Nat), a ≤ b → (∀ p ∈ l, p.1 ≤ b) → deepL l a ≤ b
  | [], a, ha, _ => ha
  | p :: l, a, ha, h => by
    have := h p (by simp)
    exact deepL_bd b l (max a p.1) (by omega) (fun q hq => h q (List.mem_cons_of_mem _ hq))
theorem deep_all (k : Nat) (n : Nd) : deepL (all k 1 n) 0 = dep k n := by rw [deepL_all k 0 n 0 (Nat.le_refl _)]; omega
/-- Cut short where it is too deep. -/
theorem deep_cut (l : List (Nat × Nd)) (n : Nd) (h : l <+: all 1001 1 n) (hd : 1000 < deepL l 0) : deepL l 0 = dep 1001 n := by
  obtain ⟨t, ht⟩ := h
  have h1 : deepL (all 1001 1 n) 0 ≤ 1001 := deepL_bd 1001 _ 0 (by omega) (fun p hp => by have := all_depth 1001 1 n p hp; omega)
  have h2 := deep_all 1001 n
  rw [← ht, deepL_append] at h1
  rw [← ht, deepL_append] at h2
  have := deepL_le t (deepL l 0)
  omega
end Td
theorem len_map {Wb : World} {ys : List (NdX Wb)} {l : List (Nat × Nd)} (h : ys.map ndP = l) : ys.length = l.length := by rw [← h, List.length_map]




























































end Go.Proofs.Ytanffablfgnioaa
namespace Go.Proofs.Ytanffablfgnioaa
open Go.RowKit
set_option linter.unusedVariables false
end Go.Proofs.Ytanffablfgnioaa
namespace Go.Proofs.Ytanffablfgnioaa
open Go.RowKit
set_option linter.unusedVariables false
namespace Td
/-- May a byte stand in a name? -/
def letC (c : Int) : Bool := decide (65 ≤ c ∧ c ≤ 90 ∨ 97 ≤ c ∧ c ≤ 122 ∨ 48 ≤ c ∧ c ≤ 57 ∨ c = 95)
def bytes (s : ByteArray) : List Int := s.data.toList.map (fun b => (b.toNat : Int))
theorem bytes_len (s : ByteArray) : (bytes s).length = s.size := by simp [bytes]
theorem bytes_at (s : ByteArray) (k : Nat) (h : k < s.size) : (bytes s)[k]? = some (s[k].toNat : Int) := by
  have h' : k < s.data.size := h
  simp only [bytes, List.getElem?_map, Array.getElem?_toList]
  rw [Array.getElem?_eq_getElem h']
  rfl
/-- Is it a name? -/
def nameB (s : ByteArray) : Bool := (bytes s).all letC && decide (1 ≤ s.size ∧ s.size ≤ 32 ∧ ((bytes s).getD 0 0 < 48 ∨ 57 < (bytes s).getD 0 0))
end Td
end Go.Proofs.Ytanffablfgnioaa
namespace Go.Proofs.Ytanffablfgnioaa
set_option linter.unusedVariables false
namespace Rg
def check1 (prev : Option Int) (p : R) : Int :=
  if p.1 < 0 ∨ p.2 < 0 ∨ p.1 > 1114111 ∨ p.2 > 1114111 then 1 else if p.1 > p.2 ∨ (∃ h, prev = some h ∧ p.1 - 1 ≤ h) then 4 else 0
def checkF : Option Int → List R → Int
  | _, [] => 0
  | prev, p :: l => if check1 prev p = 0 then checkF (some p.2) l else check1 prev p
def prevAt (l : List R) (k : Nat) : Option Int := if k = 0 then none else some (l[k - 1]?.getD (0, 0)).2
theorem checkF_step (l : List R) (k : Nat) (hk : k < l.length) :
    checkF (prevAt l k) (l.drop k) = if check1 (prevAt l k) (l[k]?.getD (0, 0)) = 0 then checkF (prevAt l (k + 1)) (l.drop (k + 1)) else check1 (prevAt l k) (l[k]?.getD (0, 0)) := by
  rw [List.drop_eq_getElem_cons hk]
  simp only [checkF]
  have e : l[k]?.getD (0, 0) = l[k] := by rw [List.getElem?_eq_getElem hk]; rfl
  rw [e]
  have e2 : prevAt l (k + 1) = some (l[k]).2 := by simp [prevAt, hk]
  rw [e2]
end Rg
end Go.Proofs.Ytanffablfgnioaa
namespace Go.Proofs.Ytanffablfgnioaa
open Go.RowKit
set_option linter.unusedVariables false
end Go.Proofs.Ytanffablfgnioaa
namespace Go.Proofs.Ytanffablfgnioaa
open Go.RowKit
set_option linter.unusedVariables false
namespace Td
/-- Are a node's fields as its kind has them? -/
def fitsV (K num mn mx L : Int) (S U M T Z C NB : Bool) : Bool :=
  if K = 1 ∨ K = 2 ∨ K = 4 then S && (U && (M && (T && (Z && (L == 0)))))
  else if K = 3 then !S && (C && (U && (M && (T && (Z && (L == 0))))))
  else if K = 5 then S && (decide (1 ≤ num) && (decide (num ≤ 6) && (M && (T && (Z && (L == 0))))))
  else if K = 6 then S && (decide (1 ≤ num) && ((M || NB) && (T && (Z && (L == 1)))))
  else if K = 7 ∨ K = 8 then S && (U && (M && (T && (Z && decide (2 ≤ L)))))
  else if K = 9 then S && (U && (M && (decide (0 ≤ mn) && (decide (mn ≤ 1000) && ((mx == -1 || (decide (mn ≤ mx) && decide (mx ≤ 1000))) && (L == 1))))))
  else false
def fitsB (n : Nd) : Bool :=
  fitsV (kind n) (num n) (mn n) (mx n) (subs n).length (((set n).length : Int) == 0) (num n == 0) (name n).toList.isEmpty (mn n == 0 && mx n == 0) (!lazy n) (Rg.checkF none (set n) == 0) (nameB (name n))
end Td
end Go.Proofs.Ytanffablfgnioaa
namespace Go.Proofs.Ytanffablfgnioaa
open Go.RowKit
set_option linter.unusedVariables false
/-- A row of texts that a call owns. -/
def TxOwn (W : World) (base : Nat) (v : Value) (T : List ByteArray) : Prop := W.ownsRow base 9 1 v T.length (T.map Value.string)
theorem Try.infoText : (Try.prog.info? 9).map (fun i => (i.zero, i.size, i.bytes)) = some (some (.string ⟨#[]⟩), 1, 16) := by kernel_rfl
theorem Try.underText : Try.prog.underlying 34 = some (.slice 9) := by kernel_rfl
namespace Td
/-- The names of the groups among nodes. -/
def groups (l : List (Nat × Nd)) : List ByteArray := (l.filter (fun p => kind p.2 == 6)).map (fun p => name p.2)
end Td

























































































end Go.Proofs.Ytanffablfgnioaa
namespace Go.Proofs.Ytanffablfgnioaa
open Go.RowKit
set_option linter.unusedVariables false
namespace Td
/-- Is a name, not empty, among these? -/
def hit (T : List ByteArray) (nm : ByteArray) : Bool := T.any (fun t => t.toList == nm.toList) && !nm.toList.isEmpty
def chkF (T : List ByteArray) : List (Nat × Nd) → Int
  | [] => 0
  | x :: l => if fitsB x.2 = false then 60 else if kind x.2 ≠ 6 then chkF T l else if num x.2 ≠ (T.length : Int) + 1 then 60 else if 31 < num x.2 then 2
    else if hit T (name x.2) = true then 6 else chkF (T ++ [name x.2]) l
def checkN (n : Nd) : Int := if 1000 < dep 1001 n then 61 else chkF [] (all 1000 1 n)
structure ChkSt (T : List ByteArray) (l l' : List (Nat × Nd)) (m : Nd) : Prop where
  bad : fitsB m = false → chkF T l = 60
  other : fitsB m = true → kind m ≠ 6 → chkF T l = chkF T l'
  odd : fitsB m = true → kind m = 6 → num m ≠ (T.length : Int) + 1 → chkF T l = 60
  long : fitsB m = true → kind m = 6 → num m = (T.length : Int) + 1 → 31 < num m → chkF T l = 2
  there : fitsB m = true → kind m = 6 → num m = (T.length : Int) + 1 → ¬ 31 < num m → hit T (name m) = true → chkF T l = 6
  next : fitsB m = true → kind m = 6 → num m = (T.length : Int) + 1 → ¬ 31 < num m → hit T (name m) = false → chkF T l = chkF (T ++ [name m]) l'
end Td
theorem TxOwn.slice {W : World} {base : Nat} {v : Value} {T : List ByteArray} (h : TxOwn W base v T) : ∃ a c, v = .slice a T.length c := by
  rcases h.2 with ⟨e, e0⟩ | ⟨g, cap, cur, e, _⟩
  · exact ⟨none, 0, by rw [e, e0]⟩
  · exact ⟨_, _, e⟩
theorem TxOwn.below {W W' : World} {base : Nat} {v : Value} {T : List ByteArray} (h : TxOwn W base v T) (hb : Below W.heap.size W W') : TxOwn W' base v T :=
  World.ownsRow.kept h ⟨hb.os, hb.tape, hb.output, hb.size, fun k hk _ => hb.block k hk⟩ (row := none) (by cases hv : v.ownBlock <;> simp)
theorem TxOwn.at {W : World} {base : Nat} {v : Value} {T : List ByteArray} (h : TxOwn W base v T) (k : Nat) (hk : k < T.length) : ∃ g c, v = .slice (some ⟨g, 0, none⟩) T.length c ∧ g < W.heap.size ∧ W.cell? ⟨g, k, none⟩ = some (.string T[k]) := by
  obtain ⟨g, cap, rfl, hb, hg⟩ := World.ownsRow.form h (by omega)
  refine ⟨g, cap, rfl, hg, ?_⟩
  rw [World.ownsRow.cellAt h k (by omega)]
  simp [hk]



































































































































































































































































end Go.Proofs.Ytanffablfgnioaa
namespace Go.Proofs.Ytanffablfgnioaa
open Go.RowKit
set_option linter.unusedVariables false
/-- An append whose run is known, in a fenced walk. -/
theorem wpListIn_append_run {F : Fence} {n : Nat} {P : Program} {ops : Array Oper} {rest : List Oper} {o : Oper} {a : Act} {w : World} {Q : Exit → Act → World → Prop} (hgd : o.guard = none) (s x : Operand) (t : TypeId)
    (ho : o.op = .call { callee := .builtin .append, args := #[s, x], argTypes := #[t, t] }) (vs vx v' : Value) (w' : World) (hs : a.eval s = vs) (hx : a.eval x = vx)
    (hr : (Builtin.append_ #[t, t] o.type #[vs, vx]).run P w = .ok v' w') (h : wpListIn F n P ops Q rest (a.put o.dst v') w') : wpListIn F n P ops Q (o :: rest) a w := by
  refine wpListIn_plain hgd fun K hK' => ?_
  unfold Oper.wpIn
  refine ⟨?_, ?_⟩
  · simp [Oper.about, ho, resolve, Target.leads, Sem.run_pure]
  · rw [Oper.semAt_plain F _ _ (by rw [ho]; intro c hc'; cases hc')]
    simp [execOp, ho, resolve, invoke, builtin, hs, hx, hr, Result.andThen]
    exact hK' _ _ h
end Go.Proofs.Ytanffablfgnioaa
