/- What the reference's Check answers, as plain mathematics. · The contract of the reference's Check (burinref02). · The reference's tree (burinref06): Fits. · The reference's tree (burinref06): Groups; an owned row of texts. · The reference's tree (burinref06): Check. · An append in a fenced walk, its run known. -/
import Derived.Test.YtcomjkoaieeidaaGp2
import Derived.Test.YtcomjkoaieeidaaGp3
import Derived.Test.YtcomjkoaieeidaaGp18
import Derived.IntWalk
import Derived.WalkSmall
import Derived.Test.YtcomjkoaieeidaaGp7
import Derived.Laws.OwnMore
import Derived.BigQuiet
import Derived.RangeFuncBox
import Derived.RangeFuncNested
import Derived.Deep.AppendLies
import Derived.OwnWalkIn
import Derived.TacticsInMore
namespace Go.Proofs.Ytcomjkoaieeidaa
set_option linter.unusedVariables false
namespace Rg
def check1 (prev : Option Int) (p : R) : Int :=
  if p.1 < 0 ∨ p.2 < 0 ∨ p.1 > 1114111 ∨ p.2 > 1114111 then 1 else if p.1 > p.2 ∨ (∃ h, prev = some h ∧ p.1 - 1 ≤ h) then 4 else 0
def checkF : Option Int → List R → Int
  | _, [] => 0
  | prev, p :: l => if check1 prev p = 0 then checkF (some p.2) l else check1 prev p
def prevAt (l : List R) (k : Nat) : Option Int := if k = 0 then none else some (l[k - 1]?.getD (0, 0)).2
theorem checkF_step (l : List R) (k : Nat) (hk : k < l.length) :
    checkF (prevAt l k) (l.drop k) = if check1 (prevAt l k) (l[k]?.getD (0, 0)) = 0 then checkF (prevAt l (k + 1)) (l.drop (k + 1)) else check1 (prevAt l k) (l[k]?.getD (0, 0)) := by
  rw [List.drop_eq_getElem_cons hk]
  simp only [checkF]
  have e : l[k]?.getD (0, 0) = l[k] := by rw [List.getElem?_eq_getElem hk]; rfl
  rw [e]
  have e2 : prevAt l (k + 1) = some (l[k]).2 := by simp [prevAt, hk]
  rw [e2]
end Rg
end Go.Proofs.Ytcomjkoaieeidaa
namespace Go.Proofs.Ytcomjkoaieeidaa
open Go.RowKit
set_option linter.unusedVariables false

























































































end Go.Proofs.Ytcomjkoaieeidaa
namespace Go.Proofs.Ytcomjkoaieeidaa
open Go.RowKit
set_option linter.unusedVariables false
namespace Td
/-- Are a node's fields as its kind has them? -/
def fitsV (K num mn mx L : Int) (S U M T Z C NB : Bool) : Bool :=
  if K = 1 ∨ K = 2 ∨ K = 4 then S && (U && (M && (T && (Z && (L == 0)))))
  else if K = 3 then !S && (C && (U && (M && (T && (Z && (L == 0))))))
  else if K = 5 then S && (decide (1 ≤ num) && (decide (num ≤ 6) && (M && (T && (Z && (L == 0))))))
  else if K = 6 then S && (decide (1 ≤ num) && ((M || NB) && (T && (Z && (L == 1)))))
  else if K = 7 ∨ K = 8 then S && (U && (M && (T && (Z && decide (2 ≤ L)))))
  else if K = 9 then S && (U && (M && (decide (0 ≤ mn) && (decide (mn ≤ 1000) && ((mx == -1 || (decide (mn ≤ mx) && decide (mx ≤ 1000))) && (L == 1))))))
  else false
def fitsB (n : Nd) : Bool :=
  fitsV (kind n) (num n) (mn n) (mx n) (subs n).length (((set n).length : Int) == 0) (num n == 0) (name n).toList.isEmpty (mn n == 0 && mx n == 0) (!lazy n) (Rg.checkF none (set n) == 0) (nameB (name n))
end Td

















































































































































































































































































































































































































































































































































































end Go.Proofs.Ytcomjkoaieeidaa
namespace Go.Proofs.Ytcomjkoaieeidaa
open Go.RowKit
set_option linter.unusedVariables false
theorem flat9_at : ∀ (X : List (List Value)), (∀ x ∈ X, x.length = 9) → ∀ (j q : Nat) (x : List Value), X[j]? = some x → q < 9 → X.flatten[j * 9 + q]? = x[q]?
  | [], _, j, q, x, hx, _ => by simp at hx
  | y :: X, h, 0, q, x, hx, hq => by
    simp at hx
    subst hx
    have hy := h y (by simp)
    rw [List.flatten_cons, List.getElem?_append_left (by omega)]; simp
  | y :: X, h, j + 1, q, x, hx, hq => by
    have hy := h y (by simp)
    rw [List.flatten_cons, List.getElem?_append_right (by omega)]
    have := flat9_at X (fun x hx => h x (List.mem_cons_of_mem _ hx)) j q x (by simpa using hx) hq
    rw [← this]; congr 1; omega
/-- A step of an owned row, laid open. -/
theorem StOwn.at {Wb W : World} {v : Value} {L : List (Nat × Nd)} (h : StOwn Wb W v L) (j : Nat) (hj : j < L.length) : ∃ g cap cs, v = .slice (some ⟨g, 0, none⟩) L.length cap ∧ Wb.heap.size ≤ g ∧ g < W.heap.size ∧
    W.cell? ⟨g, j * 9, none⟩ = some (.int .i64 (L[j].1 : Int)) ∧ NdIs Wb L[j].2 cs ∧ ∀ q, q < 8 → W.cell? ⟨g, j * 9 + 1 + q, none⟩ = cs[q]? := by
  obtain ⟨X, h1, h2, h3⟩ := h
  obtain ⟨g, cap, rfl, hb, hg⟩ := World.ownsRow.form h2 (by omega)
  obtain ⟨cs, hx, hn⟩ := h3 j hj
  have h9 : ∀ x ∈ X, x.length = 9 := fun x hx => by
    obtain ⟨i, hi, rfl⟩ := List.getElem_of_mem hx
    obtain ⟨c, e, hc⟩ := h3 i (by omega)
    rw [List.getElem?_eq_getElem hi] at e
    rw [Option.some.inj e]
    simp [hc.len]
  refine ⟨g, cap, cs, rfl, hb, hg, ?_, hn, fun q hq => ?_⟩
  · have := World.ownsRow.cellAt h2 (j * 9) (by omega)
    rw [this]
    have h5 := flat9_at X h9 j 0 _ hx (by omega)
    simpa using h5
  · have := World.ownsRow.cellAt h2 (j * 9 + 1 + q) (by omega)
    rw [this]
    have h5 := flat9_at X h9 j (1 + q) _ hx (by omega)
    rw [show j * 9 + 1 + q = j * 9 + (1 + q) from by omega, h5, show 1 + q = q + 1 from by omega]; simp
theorem StOwn.slice {Wb W : World} {v : Value} {L : List (Nat × Nd)} (h : StOwn Wb W v L) : ∃ a cap, v = .slice a L.length cap := by
  obtain ⟨X, h1, h2, h3⟩ := h
  rcases h2.2 with ⟨e, e0⟩ | ⟨g, cap, cur, e, _⟩
  · exact ⟨none, 0, by rw [e, e0]⟩
  · exact ⟨_, _, e⟩
theorem StOwn.nil (W : World) : StOwn W W (.slice none 0 0) [] := ⟨[], rfl, World.ownsRow_nil _ _ _ _, fun j h => absurd h (by simp)⟩
/-- A row of texts that a call owns. -/
def TxOwn (W : World) (base : Nat) (v : Value) (T : List ByteArray) : Prop := W.ownsRow base 9 1 v T.length (T.map Value.string)
theorem Try.infoText : (Try.prog.info? 9).map (fun i => (i.zero, i.size, i.bytes)) = some (some (.string ⟨#[]⟩), 1, 16) := by kernel_rfl

namespace Td
/-- The names of the groups among nodes. -/
def groups (l : List (Nat × Nd)) : List ByteArray := (l.filter (fun p => kind p.2 == 6)).map (fun p => name p.2)
theorem groups_succ (l : List (Nat × Nd)) (k : Nat) (h : k < l.length) : groups (l.take (k + 1)) = groups (l.take k) ++ (if kind l[k].2 = 6 then [name l[k].2] else []) := by
  unfold groups
  rw [List.take_succ_eq_append_getElem h, List.filter_append, List.map_append]
  congr 1
  by_cases h6 : kind l[k].2 = 6 <;> simp [h6]
theorem groups_le (l : List (Nat × Nd)) (k : Nat) : (groups (l.take k)).length ≤ k := by
  unfold groups
  rw [List.length_map]
  exact Nat.le_trans (List.length_filter_le _ _) (by rw [List.length_take]; omega)
end Td

























































































end Go.Proofs.Ytcomjkoaieeidaa
namespace Go.Proofs.Ytcomjkoaieeidaa
open Go.RowKit
set_option linter.unusedVariables false
namespace Td
/-- Is a name, not empty, among these? -/
def hit (T : List ByteArray) (nm : ByteArray) : Bool := T.any (fun t => t.toList == nm.toList) && !nm.toList.isEmpty
def chkF (T : List ByteArray) : List (Nat × Nd) → Int
  | [] => 0
  | x :: l => if fitsB x.2 = false then 60 else if kind x.2 ≠ 6 then chkF T l else if num x.2 ≠ (T.length : Int) + 1 then 60 else if 31 < num x.2 then 2
    else if hit T (name x.2) = true then 6 else chkF (T ++ [name x.2]) l
def checkN (n : Nd) : Int := if 1000 < dep 1001 n then 61 else chkF [] (all 1000 1 n)
structure ChkSt (T : List ByteArray) (l l' : List (Nat × Nd)) (m : Nd) : Prop where
  bad : fitsB m = false → chkF T l = 60
  other : fitsB m = true → kind m ≠ 6 → chkF T l = chkF T l'
  odd : fitsB m = true → kind m = 6 → num m ≠ (T.length : Int) + 1 → chkF T l = 60
  long : fitsB m = true → kind m = 6 → num m = (T.length : Int) + 1 → 31 < num m → chkF T l = 2
  there : fitsB m = true → kind m = 6 → num m = (T.length : Int) + 1 → ¬ 31 < num m → hit T (name m) = true → chkF T l = 6
  next : fitsB m = true → kind m = 6 → num m = (T.length : Int) + 1 → ¬ 31 < num m → hit T (name m) = false → chkF T l = chkF (T ++ [name m]) l'
theorem chkSt (T : List ByteArray) (L : List (Nat × Nd)) (i : Nat) (hi : i < L.length) (m : Nd) (hm : L[i].2 = m) : ChkSt T (L.drop i) (L.drop (i + 1)) m := by
  have e : L.drop i = L[i] :: L.drop (i + 1) := List.drop_eq_getElem_cons hi
  subst hm
  rw [e]
  refine ⟨fun h => ?_, fun h h1 => ?_, fun h h1 h2 => ?_, fun h h1 h2 h3 => ?_, fun h h1 h2 h3 h4 => ?_, fun h h1 h2 h3 h4 => ?_⟩
  · rw [chkF, if_pos h]
  · rw [chkF, if_neg (by rw [h]; decide), if_pos h1]
  · rw [chkF, if_neg (by rw [h]; decide), if_neg (by omega), if_pos h2]
  · rw [chkF, if_neg (by rw [h]; decide), if_neg (by omega), if_neg (by omega), if_pos h3]
  · rw [chkF, if_neg (by rw [h]; decide), if_neg (by omega), if_neg (by omega), if_neg h3, if_pos h4]
  · rw [chkF, if_neg (by rw [h]; decide), if_neg (by omega), if_neg (by omega), if_neg h3, if_neg (by rw [h4]; decide)]
theorem hit_step {T : List ByteArray} {nm t : ByteArray} {k : Nat} (hk : k < T.length) (ht : T[k] = t) (h : hit (T.take k) nm = false) : hit (T.take (k + 1)) nm = ((t.toList == nm.toList) && !nm.toList.isEmpty) := by
  unfold hit at h ⊢
  rw [List.take_succ_eq_append_getElem hk, List.any_append, ht]
  simp only [List.any_cons, List.any_nil, Bool.or_false]
  cases h1 : (T.take k).any (fun t => t.toList == nm.toList)
  · rfl
  · rw [h1] at h
    simp only [Bool.true_and, Bool.not_eq_false'] at h
    rw [h]; simp
theorem hit_some {T : List ByteArray} {nm t : ByteArray} {k : Nat} (hk : k < T.length) (ht : T[k] = t) (h : ((t.toList == nm.toList) && !nm.toList.isEmpty) = true) : hit T nm = true := by
  rw [Bool.and_eq_true] at h
  unfold hit
  rw [Bool.and_eq_true]
  refine ⟨?_, h.2⟩
  rw [List.any_eq_true]
  exact ⟨t, by rw [← ht]; exact List.getElem_mem hk, h.1⟩
end Td
theorem TxOwn.slice {W : World} {base : Nat} {v : Value} {T : List ByteArray} (h : TxOwn W base v T) : ∃ a c, v = .slice a T.length c := by
  rcases h.2 with ⟨e, e0⟩ | ⟨g, cap, cur, e, _⟩
  · exact ⟨none, 0, by rw [e, e0]⟩
  · exact ⟨_, _, e⟩
theorem TxOwn.below {W W' : World} {base : Nat} {v : Value} {T : List ByteArray} (h : TxOwn W base v T) (hb : Below W.heap.size W W') : TxOwn W' base v T :=
  World.ownsRow.kept h ⟨hb.os, hb.tape, hb.output, hb.size, fun k hk _ => hb.block k hk⟩ (row := none) (by cases hv : v.ownBlock <;> simp)
theorem TxOwn.at {W : World} {base : Nat} {v : Value} {T : List ByteArray} (h : TxOwn W base v T) (k : Nat) (hk : k < T.length) : ∃ g c, v = .slice (some ⟨g, 0, none⟩) T.length c ∧ g < W.heap.size ∧ W.cell? ⟨g, k, none⟩ = some (.string T[k]) := by
  obtain ⟨g, cap, rfl, hb, hg⟩ := World.ownsRow.form h (by omega)
  refine ⟨g, cap, rfl, hg, ?_⟩
  rw [World.ownsRow.cellAt h k (by omega)]
  simp [hk]



































































































































































































































































end Go.Proofs.Ytcomjkoaieeidaa
namespace Go.Proofs.Ytcomjkoaieeidaa
open Go.RowKit
set_option linter.unusedVariables false
/-- An append whose run is known, in a fenced walk. -/
theorem wpListIn_append_run {F : Fence} {n : Nat} {P : Program} {ops : Array Oper} {rest : List Oper} {o : Oper} {a : Act} {w : World} {Q : Exit → Act → World → Prop} (hgd : o.guard = none) (s x : Operand) (t : TypeId)
    (ho : o.op = .call { callee := .builtin .append, args := #[s, x], argTypes := #[t, t] }) (vs vx v' : Value) (w' : World) (hs : a.eval s = vs) (hx : a.eval x = vx)
    (hr : (Builtin.append_ #[t, t] o.type #[vs, vx]).run P w = .ok v' w') (h : wpListIn F n P ops Q rest (a.put o.dst v') w') : wpListIn F n P ops Q (o :: rest) a w := by
  refine wpListIn_plain hgd fun K hK' => ?_
  unfold Oper.wpIn
  refine ⟨?_, ?_⟩
  · simp [Oper.about, ho, resolve, Target.leads, Sem.run_pure]
  · rw [Oper.semAt_plain F _ _ (by rw [ho]; intro c hc'; cases hc')]
    simp [execOp, ho, resolve, invoke, builtin, hs, hx, hr, Result.andThen]
    exact hK' _ _ h
end Go.Proofs.Ytcomjkoaieeidaa
