/- The landed prog: Read. · The landed wire: what Decode needs. -/
import Derived.Test.YtfnimmbmcjgdpaaDoorGp23
import Derived.Test.YtfnimmbmcjgdpaaDoorGp22
import Derived.ScopeJumps
import Derived.WalkMore
import Derived.Lib.Strings
namespace Go.Proofs.YtfnimmbmcjgdpaaDoor
open Go.RowKit
set_option linter.unusedVariables false
namespace Pgm
end Pgm
end Go.Proofs.YtfnimmbmcjgdpaaDoor
namespace Go.Proofs.YtfnimmbmcjgdpaaDoor
open Go.RowKit Go.Shelf
set_option linter.unusedVariables false
namespace Pgm
theorem dec_no1 {s : List UInt8} (h : ¬ s.take 3 = magicL) : decL s = none := by unfold decL; rw [if_neg (fun q => h q.1)]
theorem dec_no2 {s : List UInt8} (h : ¬ xorL s = 0) : decL s = none := by unfold decL; rw [if_neg (fun q => h q.2)]
theorem dec_no3 {s : List UInt8} (h : rdVs 3 (s.drop 3) = none) : decL s = none := by
  unfold decL
  split
  · rw [h]
  · rfl
theorem dec_no4 {s : List UInt8} {a1 a2 a3 : Int} {r : List UInt8} (h : rdVs 3 (s.drop 3) = some ([a1, a2, a3], r)) (h2 : rdIs a3.toNat r = none) : decL s = none := by
  unfold decL
  split
  · rw [h]
    dsimp only
    show (match rdIs a3.toNat r with
      | none => none
      | some (l, r2) => _) = _
    rw [h2]
  · rfl
theorem dec_is {s : List UInt8} {a1 a2 a3 : Int} {r r2 : List UInt8} {l : List In} (h1 : s.take 3 = magicL) (h0 : xorL s = 0) (h : rdVs 3 (s.drop 3) = some ([a1, a2, a3], r)) (h2 : rdIs a3.toNat r = some (l, r2)) :
    decL s = if r2.length = 1 ∧ Ok l a1 a2 then some (l, a1, a2) else none := by
  unfold decL
  rw [if_pos ⟨h1, h0⟩, h]
  dsimp only
  show (match rdIs a3.toNat r with
    | none => none
    | some (l, r2) => if r2.length = 1 ∧ Ok l a1 a2 then some (l, a1, a2) else none) = _
  rw [h2]
theorem pre_magic (s : List UInt8) : Lib.hasPrefix s magicL = decide (s.take 3 = magicL) := by
  unfold Lib.hasPrefix
  rw [Bool.eq_iff_iff, List.isPrefixOf_iff_prefix, decide_eq_true_iff, List.prefix_iff_eq_take]
  constructor
  · intro h; exact h.symm
  · intro h; exact h.symm
theorem cutmagic (W : World) (s : ByteArray) : Calls Tryd.prog 57 #[.string s, .string ⟨#[66, 82, 49]⟩] W fun e w' =>
    e = .returned (.tuple #[.string (if s.data.toList.take 3 = magicL then txB (s.data.toList.drop 3) else s), .bool (decide (s.data.toList.take 3 = magicL))]) ∧ W = w' := by
  have hcon := Any.strings_CutPrefix (P := Tryd.prog) Tryd.layPrefix s ⟨#[66, 82, 49]⟩ W
  change Calls Tryd.prog 57 _ _ _ at hcon
  refine hcon.mono ?_
  rintro e w' ⟨rfl, rfl⟩
  refine ⟨?_, rfl⟩
  have e0 : (⟨#[66, 82, 49]⟩ : ByteArray).data.toList = magicL := rfl
  unfold Lib.trimPrefix
  rw [e0, pre_magic]
  by_cases h : s.data.toList.take 3 = magicL
  · rw [decide_eq_true h, if_pos rfl, if_pos h]
    rfl
  · rw [decide_eq_false h, if_neg (by decide), if_neg h]
theorem st3 {W : World} {P C : Nat} {v x1 x2 y : Value} {t u : TypeId} {a1 a2 a3 : Int} (hP : W.heap[P]? = some (.cells #[v, x1, x2] t (0, 0))) (hC : W.heap[C]? = some (.cells #[y] u (0, 0))) (hne : P ≠ C) :
    (stL W [((P, 1), a1), ((P, 2), a2), ((C, 0), a3)]).heap[P]? = some (.cells #[v, .int .i64 a1, .int .i64 a2] t (0, 0)) ∧ (stL W [((P, 1), a1), ((P, 2), a2), ((C, 0), a3)]).heap[C]? = some (.cells #[.int .i64 a3] u (0, 0)) := by
  have h1 := heap_setCell_same W P 1 _ _ (.int .i64 a1) hP
  have h2 := heap_setCell_same _ P 2 _ _ (.int .i64 a2) h1
  have h3 : ((W.setCell ⟨P, 1, none⟩ (.int .i64 a1)).setCell ⟨P, 2, none⟩ (.int .i64 a2)).heap[C]? = _ := (Below.heap_setCell _ _ _ _ (fun e => hne e.symm)).trans ((Below.heap_setCell _ _ _ _ (fun e => hne e.symm)).trans hC)
  have h4 := heap_setCell_same _ C 0 _ _ (.int .i64 a3) h3
  have h5 : (stL W [((P, 1), a1), ((P, 2), a2), ((C, 0), a3)]).heap[P]? = _ := (Below.heap_setCell _ _ _ _ hne).trans h2
  refine ⟨?_, ?_⟩
  · simpa using h5
  · have h6 : (stL W [((P, 1), a1), ((P, 2), a2), ((C, 0), a3)]).heap[C]? = _ := h4
    simpa using h6
theorem st_own {W : World} {X : Nat} {op : Int} {ns : List Int} {t : TypeId} (hX : W.heap[X]? = some (.cells #[.int .i64 op, .int .i64 0, .int .i64 0, .int .i64 0, .int .i64 0] t (0, 0))) (hn : ns.length = ownN op) :
    (stL W ((plL X op).zip ns)).heap[X]? = some (.cells #[.int .i64 (mkIn op ns).op, .int .i64 (mkIn op ns).lo, .int .i64 (mkIn op ns).hi, .int .i64 (mkIn op ns).x, .int .i64 (mkIn op ns).y] t (0, 0)) := by
  unfold ownN at hn
  unfold plL offL mkIn
  by_cases h1 : op = 1
  · subst h1
    rw [if_pos rfl] at hn
    match ns, hn with
    | [a, b, c], _ =>
      have h1 := heap_setCell_same W X 1 _ _ (.int .i64 a) hX
      have h2 := heap_setCell_same _ X 2 _ _ (.int .i64 b) h1
      have h3 := heap_setCell_same _ X 3 _ _ (.int .i64 c) h2
      have h4 : (stL W [((X, 1), a), ((X, 2), b), ((X, 3), c)]).heap[X]? = _ := h3
      simpa using h4
  rw [if_neg h1] at hn
  rw [if_neg h1, if_neg h1]
  by_cases h2 : op = 2
  · subst h2
    rw [if_pos rfl] at hn
    match ns, hn with
    | [a, b], _ =>
      have h1 := heap_setCell_same W X 3 _ _ (.int .i64 a) hX
      have h2 := heap_setCell_same _ X 4 _ _ (.int .i64 b) h1
      have h4 : (stL W [((X, 3), a), ((X, 4), b)]).heap[X]? = _ := h2
      simpa using h4
  rw [if_neg h2] at hn
  rw [if_neg h2, if_neg h2]
  by_cases h3 : op = 3 ∨ op = 4
  · rw [if_pos h3] at hn
    rw [if_pos h3, if_pos h3]
    match ns, hn with
    | [a, b], _ =>
      have h1 := heap_setCell_same W X 1 _ _ (.int .i64 a) hX
      have h2 := heap_setCell_same _ X 3 _ _ (.int .i64 b) h1
      have h4 : (stL W [((X, 1), a), ((X, 3), b)]).heap[X]? = _ := h2
      simpa using h4
  rw [if_neg h3] at hn
  rw [if_neg h3, if_neg h3]
  have := List.eq_nil_of_length_eq_zero hn
  subst this
  exact hX
theorem getD_in {ns : List Int} (h : ∀ n ∈ ns, 0 ≤ n ∧ n < 16384) (j : Nat) : I64 (ns.getD j 0) := by
  rw [List.getD_eq_getElem?_getD]
  cases hq : ns[j]? with
  | none => exact ⟨by decide, by decide⟩
  | some z => have := h z (List.mem_of_getElem? hq); exact ⟨by simp; omega, by simp; omega⟩
theorem mkIn_bd {op : Int} {ns : List Int} (h0 : 0 ≤ op ∧ op < 256) (h : ∀ n ∈ ns, 0 ≤ n ∧ n < 16384) : (mkIn op ns).bd := by
  have z : I64 (0 : Int) := ⟨by decide, by decide⟩
  have o : I64 op := ⟨by omega, by omega⟩
  have o1 : I64 (1 : Int) := ⟨by decide, by decide⟩
  have o2 : I64 (2 : Int) := ⟨by decide, by decide⟩
  have g := getD_in h
  unfold mkIn In.bd
  split
  · exact ⟨o1, g 0, g 1, g 2, z⟩
  · split
    · exact ⟨o2, z, z, g 0, g 1⟩
    · split
      · exact ⟨o, g 0, z, g 1, z⟩
      · exact ⟨o, z, z, z, z⟩
theorem rdI_bd {s : List UInt8} {i : In} {r : List UInt8} (h : rdI s = some (i, r)) : i.bd := by
  cases s with
  | nil => cases h
  | cons b t =>
    unfold rdI at h
    dsimp only at h
    split at h
    · cases h
    · rename_i ns r2 h2
      injection h with h
      injection h with h3 h4
      obtain ⟨a1, a2, a3⟩ := (rdVs_iff _ _ _ _).1 h2
      subst h3
      have := b.toNat_lt
      exact mkIn_bd (by omega) a2
theorem rdIs_bd : ∀ (k : Nat) (s : List UInt8) (l : List In) (r : List UInt8), rdIs k s = some (l, r) → ∀ i ∈ l, i.bd
  | 0, s, l, r, h => by
    injection h with h
    injection h with h1 h2
    subst h1
    intro i hi; cases hi
  | k + 1, s, l, r, h => by
    unfold rdIs at h
    split at h
    · cases h
    · rename_i i r1 h1
      split at h
      · cases h
      · rename_i l2 r2 h2
        injection h with h
        injection h with h3 h4
        subst h3
        intro j hj
        rcases List.mem_cons.1 hj with rfl | hj
        · exact rdI_bd h1
        · exact rdIs_bd k r1 l2 r2 h2 j hj
theorem rdIs_len {k : Nat} {s : List UInt8} {l : List In} {r : List UInt8} (h : rdIs k s = some (l, r)) : l.length = k ∧ r.length ≤ s.length := by
  obtain ⟨h1, h2⟩ := rdIs_some k s l r h
  refine ⟨h1, ?_⟩
  rw [h2, List.length_append]; omega
theorem wp_scope_jumps2 {P : Program} {a : Act} {w : World} {Q : Exit → Act → World → Prop} {c rest : Code} (l : Nat) (J : Act → World → Prop) (μ : Act → World → Nat) (hf : findLabel c l = some (Code.skip.seq rest))
    (pass : ∀ a w, J a w → rest.wp P (Exit.jump l (fun a' w' => J a' w' ∧ μ a' w' < μ a w) Q) a w)
    (first : c.wp P (Exit.jump l J Q) a w) : (Code.scope c).wp P Q a w :=
  wp_scope_jumps l J μ hf first (fun a w h => wp_seq (wp_skip (pass a w h)))
/-- What Decode hands back. -/
def DecPost (s : List UInt8) (W : World) (e : Ending) (w' : World) : Prop :=
  ((∃ v l st sl, decL s = some (l, st, sl) ∧ e = .returned (.tuple #[.agg #[v, .int .i64 st, .int .i64 sl], .int .i64 0]) ∧ InOwn w' W.heap.size v l) ∨
    (decL s = none ∧ e = .returned (.tuple #[.agg #[.slice none 0 0, .int .i64 0, .int .i64 0], .int .i64 140]))) ∧ Below W.heap.size W w'
end Pgm
end Go.Proofs.YtfnimmbmcjgdpaaDoor
