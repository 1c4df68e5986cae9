/- Mathematics of parse: what the tree of a list of tokens depends on. · Mathematics of parse: how many nodes, the names of groups, what is wrong and where. -/
import Derived.Test.YtanffablfgnioaaGreatDoorGp17
import Derived.Laws.BitsLemmas
import Derived.Test.YtanffablfgnioaaGreatDoorGp10
namespace Go.Proofs.YtanffablfgnioaaGreatDoor.Ps
open Lx (Tk)
set_option linter.unusedVariables false
/-- What is left is an end of what was there. -/
def SfP (L : TL) : PR → Prop
  | .bad _ _ => True
  | .ok _ L' _ _ => Sf L' L
theorem sf_all : ∀ n, (∀ L f g S, SfP L (altP n L f g S)) ∧ (∀ L f g A, SfP L (seqP n L f g A)) ∧ (∀ L f g, SfP L (atomP n L f g) ∧ ∀ x L' f' g', atomP n L f g = .ok x L' f' g' → Sf L' L.tail) := by
  intro n
  induction n with
  | zero =>
    refine ⟨fun L f g S => ?_, fun L f g A => ?_, fun L f g => ⟨?_, fun x L' f' g' h => ?_⟩⟩
    · rw [altP]; trivial
    · rw [seqP]; trivial
    · rw [atomP]; trivial
    · rw [atomP] at h; cases h
  | succ n ih =>
    obtain ⟨ha, hs, ht⟩ := ih
    refine ⟨fun L f g S => ?_, fun L f g A => ?_, fun L f g => ?_⟩
    · rw [altP_eq]
      have h := hs L f g []
      cases hq : seqP n L f g [] with
      | bad a e => trivial
      | ok x L' f' g' =>
        rw [hq] at h
        dsimp only
        split
        · have h2 := ha L'.tail f' g' (S ++ [x])
          cases hq2 : altP n L'.tail f' g' (S ++ [x]) with
          | bad a e => trivial
          | ok x2 L2 f2 g2 =>
            rw [hq2] at h2
            exact Sf.trans (Sf.tail h2) h
        · exact h
    · rw [seqP_eq]
      split
      · exact Sf.refl L
      split
      · trivial
      split
      · have h2 := hs L.tail (turnP f (hd L)) g A
        cases hq2 : seqP n L.tail (turnP f (hd L)) g A with
        | bad a e => trivial
        | ok x2 L2 f2 g2 => rw [hq2] at h2; exact Sf.tail h2
      · have h := (ht L f g).1
        cases hq : atomP n L f g with
        | bad a e => trivial
        | ok x L' f' g' =>
          rw [hq] at h
          dsimp only
          have h2 := hs (repT L') f' g' (A ++ [repN f' x L'])
          cases hq2 : seqP n (repT L') f' g' (A ++ [repN f' x L']) with
          | bad a e => trivial
          | ok x2 L2 f2 g2 => rw [hq2] at h2; exact Sf.trans h2 (Sf.rep h)
    · have key : ∀ x L' f' g', atomP (n + 1) L f g = .ok x L' f' g' → Sf L' L.tail := by
        intro x L' f' g' h
        rw [atomP_eq] at h
        split at h
        · have h2 := ha L.tail (turnP f (hd L)) (g + (hd L).num) []
          cases hq2 : altP n L.tail (turnP f (hd L)) (g + (hd L).num) [] with
          | bad a e => rw [hq2] at h; cases h
          | ok x2 L2 f2 g2 =>
            rw [hq2] at h h2
            dsimp only at h
            split at h
            · injection h with _ h3 _ _
              subst h3
              exact Sf.trans (⟨1, List.drop_one.symm⟩) h2
            · cases h
        · injection h with _ h3 _ _
          subst h3
          exact Sf.refl _
      refine ⟨?_, key⟩
      cases hq : atomP (n + 1) L f g with
      | bad a e => trivial
      | ok x L' f' g' => exact Sf.tail (key _ _ _ _ hq)
theorem Sf.le {A B : TL} (h : Sf A B) : A.length ≤ B.length := by
  obtain ⟨k, rfl⟩ := h
  rw [List.length_drop]; omega
theorem Sf.mem {A B : TL} (h : Sf A B) : ∀ p ∈ A, p ∈ B := by
  obtain ⟨k, rfl⟩ := h
  exact fun p hp => List.mem_of_mem_drop hp
theorem Sf.ends {A B : TL} (h : Sf A B) (hB : Ends B) (hA : 0 < A.length) : Ends A := by
  obtain ⟨k, rfl⟩ := h
  obtain ⟨T, z, rfl, hz, hT⟩ := hB
  rw [List.length_drop, List.length_append, List.length_singleton] at hA
  refine ⟨T.drop k, z, ?_, hz, fun p hp => hT p (List.mem_of_mem_drop hp)⟩
  rw [List.drop_append_of_le_length (by omega)]
/-- What stands behind alternatives. -/
def StopP : PR → Prop
  | .bad _ _ => True
  | .ok _ L' _ _ => kd L' = 11 ∨ kd L' = 0
def StopQ : PR → Prop
  | .bad _ _ => True
  | .ok _ L' _ _ => kd L' = 12 ∨ kd L' = 11 ∨ kd L' = 0
theorem stop_seq : ∀ n L f g A, StopQ (seqP n L f g A) := by
  intro n
  induction n with
  | zero => intro L f g A; rw [seqP]; trivial
  | succ n ih =>
    intro L f g A
    rw [seqP_eq]
    split
    · assumption
    split
    · trivial
    split
    · exact ih _ _ _ _
    · cases hq : atomP n L f g with
      | bad a e => trivial
      | ok x L' f' g' => exact ih _ _ _ _
theorem stop_alt : ∀ n L f g S, StopP (altP n L f g S) := by
  intro n
  induction n with
  | zero => intro L f g A; rw [altP]; trivial
  | succ n ih =>
    intro L f g S
    rw [altP_eq]
    have h := stop_seq n L f g []
    cases hq : seqP n L f g [] with
    | bad a e => trivial
    | ok x L' f' g' =>
      rw [hq] at h
      dsimp only
      split
      · exact ih _ _ _ _
      · rename_i h12
        rcases h with h | h | h
        · exact absurd h h12
        · exact .inl h
        · exact .inr h
/-- Flags that agree on the four bits. -/
def Fl (f h : Int) : Prop := ∀ b, b = 1 ∨ b = 2 ∨ b = 4 ∨ b = 8 → hasP f b = hasP h b
theorem Fl.refl (f : Int) : Fl f f := fun _ _ => rfl

theorem wrap_zero (x : BitVec 64) : (IntKind.i64.wrap (x.toNat : Int) = 0) ↔ x = 0#64 := by
  have h := x.isLt
  rw [IntKind.wrap_i64]
  constructor
  · intro e
    apply BitVec.eq_of_toNat_eq
    simp
    omega
  · intro e; subst e; simp
theorem ofInt_wrap (x : BitVec 64) : BitVec.ofInt 64 (IntKind.i64.wrap (x.toNat : Int)) = x := by
  have h := x.isLt
  apply BitVec.eq_of_toNat_eq
  rw [BitVec.toNat_ofInt, IntKind.wrap_i64]
  simp
  omega
theorem has_bv (f b : Int) : hasP f b = decide (BitVec.ofInt 64 f &&& BitVec.ofInt 64 b ≠ 0#64) := by
  show (IntKind.i64.wrap ((BitVec.ofInt 64 f &&& BitVec.ofInt 64 b).toNat : Int) != 0) = _
  rw [Bool.eq_iff_iff, bne_iff_ne, decide_eq_true_iff]
  exact not_congr (wrap_zero _)
theorem turn_bv (f : Int) (t : Tk) : BitVec.ofInt 64 (turnP f t) = (BitVec.ofInt 64 f ||| BitVec.ofInt 64 t.mn) &&& ~~~BitVec.ofInt 64 t.mx := by
  show BitVec.ofInt 64 (IntKind.i64.wrap ((BitVec.ofInt 64 (IntKind.i64.wrap ((BitVec.ofInt 64 f ||| BitVec.ofInt 64 t.mn).toNat : Int)) &&& ~~~BitVec.ofInt 64 t.mx).toNat : Int)) = _
  rw [ofInt_wrap, ofInt_wrap]
theorem has_bit (f : Int) (i : Nat) (hi : i < 4) (b : Int) (hb : BitVec.ofInt 64 b = BitVec.twoPow 64 i) : hasP f b = (BitVec.ofInt 64 f).getLsbD i := by
  rw [has_bv, hb, BitVec.and_twoPow]
  cases (BitVec.ofInt 64 f).getLsbD i
  · simp
  · rw [if_pos rfl]
    rcases (show i = 0 ∨ i = 1 ∨ i = 2 ∨ i = 3 by omega) with rfl | rfl | rfl | rfl <;> decide
theorem bit_of {b : Int} (h : b = 1 ∨ b = 2 ∨ b = 4 ∨ b = 8) : ∃ i, i < 4 ∧ BitVec.ofInt 64 b = BitVec.twoPow 64 i := by
  rcases h with rfl | rfl | rfl | rfl
  · exact ⟨0, by decide, by decide⟩
  · exact ⟨1, by decide, by decide⟩
  · exact ⟨2, by decide, by decide⟩
  · exact ⟨3, by decide, by decide⟩
theorem has_turn (f : Int) (t : Tk) {b : Int} (h : b = 1 ∨ b = 2 ∨ b = 4 ∨ b = 8) : hasP (turnP f t) b = ((hasP f b || hasP t.mn b) && !hasP t.mx b) := by
  obtain ⟨i, hi, hb⟩ := bit_of h
  rw [has_bit _ i hi b hb, has_bit _ i hi b hb, has_bit _ i hi b hb, has_bit _ i hi b hb, turn_bv, BitVec.getLsbD_and, BitVec.getLsbD_or, BitVec.getLsbD_not]
  simp [show i < 64 by omega]
theorem Fl.turn {f h : Int} (H : Fl f h) (t : Tk) : Fl (turnP f t) (turnP h t) := fun b hb => by rw [has_turn f t hb, has_turn h t hb, H b hb]
theorem Ends.ne {L : TL} (h : Ends L) : L ≠ [] := by
  obtain ⟨T, z, rfl, _⟩ := h
  simp
def EndR : PR → Prop
  | .bad _ _ => True
  | .ok _ L _ _ => Ends L
theorem ends_all : ∀ n, (∀ L f g S, Ends L → EndR (altP n L f g S)) ∧ (∀ L f g A, Ends L → EndR (seqP n L f g A)) ∧ (∀ L f g, Ends L → kd L ≠ 0 → EndR (atomP n L f g)) := by
  intro n
  induction n with
  | zero => exact ⟨fun L f g S _ => by rw [altP]; trivial, fun L f g S _ => by rw [seqP]; trivial, fun L f g _ _ => by rw [atomP]; trivial⟩
  | succ n ih =>
    obtain ⟨ha, hs, ht⟩ := ih
    refine ⟨fun L f g S hL => ?_, fun L f g A hL => ?_, fun L f g hL h0 => ?_⟩
    · rw [altP_eq]
      have h := hs L f g [] hL
      cases hq : seqP n L f g [] with
      | bad a e => trivial
      | ok x L' f' g' =>
        rw [hq] at h
        dsimp only
        split
        · rename_i h12
          exact ha _ _ _ _ (h.tail (by omega))
        · exact h
    · rw [seqP_eq]
      split
      · exact hL
      rename_i hne
      split
      · trivial
      split
      · exact hs _ _ _ _ (hL.tail (by omega))
      · have h := ht L f g hL (by omega)
        cases hq : atomP n L f g with
        | bad a e => trivial
        | ok x L' f' g' => rw [hq] at h; exact hs _ _ _ _ h.rep
    · rw [atomP_eq]
      split
      · have h := ha L.tail (turnP f (hd L)) (g + (hd L).num) [] (hL.tail h0)
        cases hq : altP n L.tail (turnP f (hd L)) (g + (hd L).num) [] with
        | bad a e => trivial
        | ok x L' f' g' =>
          rw [hq] at h
          dsimp only
          split
          · exact h.tail (by omega)
          · trivial
      · exact hL.tail h0
end Go.Proofs.YtanffablfgnioaaGreatDoor.Ps
namespace Go.Proofs.YtanffablfgnioaaGreatDoor.Ps
open Lx (Tk)
open Go.Proofs.YtanffablfgnioaaGreatDoor.Rg (R)
set_option linter.unusedVariables false
/-- How many nodes there are, down to a depth. -/
def sz : Nat → Nd → Nat
  | 0, _ => 0
  | k + 1, n => ((Td.subs n).map (sz k)).sum + 1
theorem all_sz : ∀ (k d : Nat) (n : Nd), (Td.all k d n).length = sz k n
  | 0, d, n => rfl
  | k + 1, d, n => by
    rw [Td.all, sz, List.length_cons, List.length_flatMap]
    congr 3
    funext m
    exact all_sz k (d + 1) m
def szL (k : Nat) (A : List Nd) : Nat := (A.map (sz k)).sum
theorem szL_snoc (k : Nat) (A : List Nd) (x : Nd) : szL k (A ++ [x]) = szL k A + sz k x := by unfold szL; rw [List.map_append, List.sum_append]; simp
theorem sz_leaf (k : Nat) (x : Nd) (h : Td.subs x = []) : sz k x ≤ 1 := by
  cases k with
  | zero => exact Nat.zero_le _
  | succ k => rw [sz, h]; simp
theorem sz_one (k : Nat) (x y : Nd) (b : Nat) (h : Td.subs x = [y]) (hy : ∀ k, sz k y ≤ b) : sz k x ≤ b + 1 := by
  cases k with
  | zero => exact Nat.zero_le _
  | succ k => have := hy k; rw [sz, h]; simp; omega
theorem setN_subs (l : List R) : Td.subs (setN l) = [] := by cases l <;> rfl
theorem leafOf_subs (f : Int) (t : Tk) : Td.subs (leafOf f t) = [] := by
  unfold leafOf
  repeat' split
  all_goals first | exact setN_subs _ | rfl
theorem join_sz (K : Int) (A : List Nd) (b : Nat) (hA : ∀ k, szL k A + A.length ≤ b + 1) (h1 : 1 ≤ b) : ∀ k, sz k (joinN K A) ≤ b := by
  intro k
  match A, hA with
  | [], hA => exact Nat.le_trans (sz_leaf k _ rfl) h1
  | [x], hA =>
    have := hA k
    show sz k x ≤ b
    unfold szL at this
    simp at this
    omega
  | x :: y :: l, hA =>
    show sz k (manyN K (x :: y :: l)) ≤ b
    cases k with
    | zero => exact Nat.zero_le _
    | succ k =>
      have := hA k
      rw [sz]
      show szL k (x :: y :: l) + 1 ≤ b
      simp only [List.length_cons] at this
      omega
theorem len_tail {L : TL} (h : kd L ≠ 0) : L.tail.length + 1 = L.length := by
  cases L with
  | nil => exact absurd rfl h
  | cons p L => simp
theorem sz_all : ∀ n, (∀ L f g S t, (∀ k, szL k S + 3 * S.length ≤ 4 * t) → ∀ x L' f' g', altP n L f g S = .ok x L' f' g' → ∀ k, sz k x + 4 * L'.length ≤ 4 * (t + L.length) + 1) ∧
    (∀ L f g A t, (∀ k, szL k A + 2 * A.length ≤ 4 * t) → ∀ x L' f' g', seqP n L f g A = .ok x L' f' g' → ∀ k, sz k x + 4 * L'.length ≤ 4 * (t + L.length) + 1) ∧
    (∀ L f g, kd L ≠ 0 → ∀ x L' f' g', atomP n L f g = .ok x L' f' g' → ∀ k, sz k x + 4 * L'.length + 2 ≤ 4 * L.length) := by
  intro n
  induction n with
  | zero =>
    refine ⟨fun L f g S t _ x L' f' g' h => ?_, fun L f g S t _ x L' f' g' h => ?_, fun L f g _ x L' f' g' h => ?_⟩
    · rw [altP] at h; cases h
    · rw [seqP] at h; cases h
    · rw [atomP] at h; cases h
  | succ n ih =>
    obtain ⟨ha, hs, ht⟩ := ih
    obtain ⟨sa, ss, st⟩ := sf_all n
    refine ⟨fun L f g S t hS x L' f' g' h => ?_, fun L f g A t hA x L' f' g' h => ?_, fun L f g h0 x L' f' g' h => ?_⟩
    · rw [altP_eq] at h
      have hm := ss L f g []
      have h1 := hs L f g [] 0 (fun k => by simp [szL])
      cases hq : seqP n L f g [] with
      | bad a e => rw [hq] at h; cases h
      | ok y M f2 g2 =>
        rw [hq] at h hm
        have h2 := h1 y M f2 g2 hq
        have hle := Sf.le hm
        dsimp only at h
        split at h
        · rename_i h12
          have hl := len_tail (L := M) (by omega)
          have := ha M.tail f2 g2 (S ++ [y]) (t + (L.length - M.tail.length)) (fun k => by
            have e1 := hS k
            have e2 := h2 k
            rw [szL_snoc, List.length_append, List.length_singleton]
            omega) x L' f' g' h
          intro k
          have := this k
          omega
        · injection h with e1 e2 e3 e4
          subst e1 e2
          intro k
          refine Nat.le_trans (Nat.add_le_add_right (join_sz 8 (S ++ [y]) (4 * (t + L.length) + 1 - 4 * M.length) (fun k => ?_) (by omega) k) _) (by omega)
          have e1 := hS k
          have e2 := h2 k
          rw [szL_snoc, List.length_append, List.length_singleton]
          omega
    · rw [seqP_eq] at h
      split at h
      · injection h with e1 e2 e3 e4
        subst e1 e2
        intro k
        refine Nat.le_trans (Nat.add_le_add_right (join_sz 7 A (4 * t + 1) (fun k => ?_) (by omega) k) _) (by omega)
        have := hA k
        omega
      split at h
      · cases h
      split at h
      · have hl := len_tail (L := L) (by omega)
        intro k
        have := hs L.tail (turnP f (hd L)) g A t hA x L' f' g' h k
        omega
      · have hne : kd L ≠ 0 := by omega
        have hm := (st L f g).1
        cases hq : atomP n L f g with
        | bad a e => rw [hq] at h; cases h
        | ok y M f2 g2 =>
          rw [hq] at h hm
          have h2 := ht L f g hne y M f2 g2 hq
          have hle := Sf.le hm
          dsimp only at h
          have h3 : ∀ k, sz k (repN f2 y M) + 4 * (repT M).length + 2 ≤ 4 * L.length := by
            intro k
            unfold repN repT
            split
            · have hl := len_tail (L := M) (by omega)
              have := sz_one k (.mk 9 [] 0 ⟨#[]⟩ (hd M).mn (hd M).mx ((hd M).lazy != hasP f2 8) [y]) y (4 * L.length - 4 * M.length - 2) rfl (fun k => by have := h2 k; omega)
              have := h2 0
              omega
            · exact h2 k
          have hrl : (repT M).length ≤ M.length := by unfold repT; split <;> simp
          have := hs (repT M) f2 g2 (A ++ [repN f2 y M]) (t + (L.length - (repT M).length)) (fun k => by
            have e1 := hA k
            have e2 := h3 k
            rw [szL_snoc, List.length_append, List.length_singleton]
            omega) x L' f' g' h
          intro k
          have := this k
          omega
    · have hl := len_tail (L := L) h0
      rw [atomP_eq] at h
      split at h
      · cases hq : altP n L.tail (turnP f (hd L)) (g + (hd L).num) [] with
        | bad a e => rw [hq] at h; cases h
        | ok y M f2 g2 =>
          rw [hq] at h
          have h2 := ha L.tail (turnP f (hd L)) (g + (hd L).num) [] 0 (fun k => by simp [szL]) y M f2 g2 hq
          dsimp only at h
          split at h
          · rename_i h11
            have hm := len_tail (L := M) (by omega)
            injection h with e1 e2 e3 e4
            subst e1 e2
            intro k
            split
            · have := h2 k
              omega
            · have := sz_one k (.mk 6 [] (g + (hd L).num) (hd L).name 0 0 false [y]) y (4 * (0 + L.tail.length) + 1 - 4 * M.length) rfl (fun k => by have := h2 k; omega)
              have := h2 0
              omega
          · cases h
      · injection h with e1 e2 e3 e4
        subst e1 e2
        intro k
        have := sz_leaf k _ (leafOf_subs f (hd L))
        omega
/-- The names of the groups, down to a depth. -/
def gL : Nat → Nd → List ByteArray
  | 0, _ => []
  | k + 1, n => (if Td.kind n = 6 then [Td.name n] else []) ++ (Td.subs n).flatMap (gL k)
theorem groups_gL : ∀ (k d : Nat) (n : Nd), Td.groups (Td.all k d n) = gL k n
  | 0, d, n => rfl
  | k + 1, d, n => by
    rw [Td.all, gL]
    have e : ∀ l : List Nd, Td.groups (l.flatMap (Td.all k (d + 1))) = l.flatMap (gL k) := by
      intro l
      induction l with
      | nil => rfl
      | cons m l ih =>
        rw [List.flatMap_cons, List.flatMap_cons, ← groups_gL k (d + 1) m, ← ih]
        unfold Td.groups
        rw [List.filter_append, List.map_append]
    rw [← e]
    unfold Td.groups
    by_cases h : Td.kind n = 6
    · rw [if_pos h, List.filter_cons, if_pos (by simpa using h)]; rfl
    · rw [if_neg h, List.filter_cons, if_neg (by simpa using h)]; rfl
theorem gL_stable : ∀ (k : Nat) (n : Nd), Td.dep (k + 1) n ≤ k → ∀ j, gL (k + j) n = gL k n
  | 0, n, h, j => by rw [Td.dep] at h; omega
  | k + 1, n, h, j => by
    have hc : ∀ c ∈ Td.subs n, Td.dep (k + 1) c ≤ k := by
      intro c hc
      rw [Td.dep] at h
      have hm : ∀ (l : List Nat) (a x : Nat), (x ∈ l ∨ x ≤ a) → x ≤ l.foldl max a := by
        intro l
        induction l with
        | nil => intro a x h; rcases h with h | h; cases h; exact h
        | cons y l ih =>
          intro a x h
          refine ih (max a y) x ?_
          rcases h with h | h
          · rcases List.mem_cons.1 h with rfl | h
            · exact .inr (by omega)
            · exact .inl h
          · exact .inr (by omega)
      have := hm ((Td.subs n).map (Td.dep (k + 1))) 0 (Td.dep (k + 1) c) (.inl (List.mem_map_of_mem hc))
      omega
    rw [show k + 1 + j = (k + j) + 1 by omega, gL, gL]
    congr 1
    have e : ∀ l : List Nd, (∀ c ∈ l, Td.dep (k + 1) c ≤ k) → l.flatMap (gL (k + j)) = l.flatMap (gL k) := by
      intro l
      induction l with
      | nil => intro _; rfl
      | cons m l ih =>
        intro h
        rw [List.flatMap_cons, List.flatMap_cons, gL_stable k m (h m (by simp)) j, ih (fun c hc => h c (by simp [hc]))]
    exact e _ hc
/-- The names of the groups of a tree, of trees. -/
def Gn (x : Nd) (l : List ByteArray) : Prop := ∃ k0, ∀ k, k0 ≤ k → gL k x = l
def GnL (A : List Nd) (l : List ByteArray) : Prop := ∃ k0, ∀ k, k0 ≤ k → A.flatMap (gL k) = l
theorem GnL.nil : GnL [] [] := ⟨0, fun k _ => rfl⟩
theorem GnL.snoc {A : List Nd} {l m : List ByteArray} {x : Nd} (h : GnL A l) (hx : Gn x m) : GnL (A ++ [x]) (l ++ m) := by
  obtain ⟨i, hi⟩ := h
  obtain ⟨j, hj⟩ := hx
  exact ⟨max i j, fun k hk => by rw [List.flatMap_append, hi k (by omega)]; simp [hj k (by omega)]⟩
theorem Gn.node {x : Nd} {l : List ByteArray} (h : GnL (Td.subs x) l) : Gn x ((if Td.kind x = 6 then [Td.name x] else []) ++ l) := by
  obtain ⟨i, hi⟩ := h
  refine ⟨i + 1, fun k hk => ?_⟩
  obtain ⟨j, rfl⟩ : ∃ j, k = j + 1 := ⟨k - 1, by omega⟩
  rw [gL, hi j (by omega)]
theorem Gn.other {x : Nd} {l : List ByteArray} (h : GnL (Td.subs x) l) (h6 : Td.kind x ≠ 6) : Gn x l := by
  have := Gn.node h
  rw [if_neg h6] at this
  exact this
theorem GnL.single {x : Nd} {l : List ByteArray} (h : Gn x l) : GnL [x] l := by
  have := GnL.snoc GnL.nil h
  exact this
theorem GnL.one {x : Nd} {l : List ByteArray} (h : GnL [x] l) : Gn x l := by
  obtain ⟨i, hi⟩ := h
  exact ⟨i, fun k hk => by have := hi k hk; simpa using this⟩
theorem gn_join (K : Int) (hK : K ≠ 6) (A : List Nd) (l : List ByteArray) (h : GnL A l) : Gn (joinN K A) l := by
  match A, h with
  | [], h =>
    obtain ⟨i, hi⟩ := h
    have := hi i (Nat.le_refl _)
    have e : l = [] := by rw [← this]; rfl
    subst e
    exact Gn.other (x := leafN 1 0) GnL.nil (by show (1 : Int) ≠ 6; decide)
  | [x], h => exact GnL.one h
  | x :: y :: l', h => exact Gn.other (x := manyN K (x :: y :: l')) h hK
theorem setN_kind (l : List R) : Td.kind (setN l) ≠ 6 := by
  cases l with
  | nil => exact (by decide : (2 : Int) ≠ 6)
  | cons a l => exact (by decide : (3 : Int) ≠ 6)
theorem leafOf_kind (f : Int) (t : Tk) : Td.kind (leafOf f t) ≠ 6 := by
  unfold leafOf
  repeat' split
  all_goals first | exact setN_kind _ | exact (by decide : (4 : Int) ≠ 6) | exact (by decide : (5 : Int) ≠ 6)
theorem gn_leaf (f : Int) (t : Tk) : Gn (leafOf f t) [] := Gn.other (by rw [leafOf_subs]; exact GnL.nil) (leafOf_kind f t)
theorem gn_rep (f : Int) (x : Nd) (L : TL) (l : List ByteArray) (h : Gn x l) : Gn (repN f x L) l := by
  unfold repN
  split
  · exact Gn.other (GnL.single h) (by show (9 : Int) ≠ 6; decide)
  · exact h
/-- The names of the groups that tokens open. -/
def opN : TL → List ByteArray
  | [] => []
  | p :: L => if p.2.kind = 9 ∧ p.2.num = 1 then p.2.name :: opN L else opN L
theorem opN_skip {L : TL} (h : kd L ≠ 9) : opN L.tail = opN L := by
  cases L with
  | nil => rfl
  | cons p L => rw [opN, if_neg (fun e => h e.1)]; rfl
theorem opN_rep (L : TL) : opN (repT L) = opN L := by
  unfold repT
  split
  · exact opN_skip (by omega)
  · rfl
def Op01 (L : TL) : Prop := ∀ p ∈ L, p.2.kind = 9 → p.2.num = 0 ∨ p.2.num = 1
theorem gn_all : ∀ n, (∀ L f g S l, Op01 L → GnL S l → ∀ x L' f' g', altP n L f g S = .ok x L' f' g' → ∃ m, Gn x (l ++ m) ∧ opN L = m ++ opN L' ∧ g' = g + m.length) ∧
    (∀ L f g A l, Op01 L → GnL A l → ∀ x L' f' g', seqP n L f g A = .ok x L' f' g' → ∃ m, Gn x (l ++ m) ∧ opN L = m ++ opN L' ∧ g' = g + m.length) ∧
    (∀ L f g, Op01 L → kd L ≠ 0 → ∀ x L' f' g', atomP n L f g = .ok x L' f' g' → ∃ m, Gn x m ∧ opN L = m ++ opN L' ∧ g' = g + m.length) := by
  intro n
  induction n with
  | zero =>
    refine ⟨fun L f g S t _ _ x L' f' g' h => ?_, fun L f g S t _ _ x L' f' g' h => ?_, fun L f g _ _ x L' f' g' h => ?_⟩
    · rw [altP] at h; cases h
    · rw [seqP] at h; cases h
    · rw [atomP] at h; cases h
  | succ n ih =>
    obtain ⟨ha, hs, ht⟩ := ih
    obtain ⟨sa, ss, st⟩ := sf_all n
    refine ⟨fun L f g S l hO hS x L' f' g' h => ?_, fun L f g A l hO hA x L' f' g' h => ?_, fun L f g hO h0 x L' f' g' h => ?_⟩
    · rw [altP_eq] at h
      have hm := ss L f g []
      cases hq : seqP n L f g [] with
      | bad a e => rw [hq] at h; cases h
      | ok y M f2 g2 =>
        rw [hq] at h hm
        obtain ⟨m, h1, h2, h3⟩ := hs L f g [] [] hO GnL.nil y M f2 g2 hq
        dsimp only at h
        split at h
        · obtain ⟨m2, i1, i2, i3⟩ := ha M.tail f2 g2 (S ++ [y]) (l ++ m) (fun p hp => hO p (Sf.mem hm p (List.mem_of_mem_tail hp))) (GnL.snoc hS h1) x L' f' g' h
          exact ⟨m ++ m2, by rw [← List.append_assoc]; exact i1, by rw [h2, ← opN_skip (L := M) (by omega), i2, List.append_assoc], by rw [i3, h3, List.length_append]; omega⟩
        · injection h with e1 e2 e3 e4
          subst e1 e2 e3 e4
          exact ⟨m, gn_join 8 (by decide) _ _ (GnL.snoc hS h1), h2, h3⟩
    · rw [seqP_eq] at h
      split at h
      · injection h with e1 e2 e3 e4
        subst e1 e2 e3 e4
        exact ⟨[], gn_join 7 (by decide) _ _ (by rw [List.append_nil]; exact hA), rfl, by simp⟩
      split at h
      · cases h
      split at h
      · obtain ⟨m, h1, h2, h3⟩ := hs L.tail (turnP f (hd L)) g A l (fun p hp => hO p (List.mem_of_mem_tail hp)) hA x L' f' g' h
        exact ⟨m, h1, by rw [← opN_skip (L := L) (by omega)]; exact h2, h3⟩
      · have hm := (st L f g).1
        cases hq : atomP n L f g with
        | bad a e => rw [hq] at h; cases h
        | ok y M f2 g2 =>
          rw [hq] at h hm
          obtain ⟨m, h1, h2, h3⟩ := ht L f g hO (by omega) y M f2 g2 hq
          dsimp only at h
          obtain ⟨m2, i1, i2, i3⟩ := hs (repT M) f2 g2 (A ++ [repN f2 y M]) (l ++ m) (fun p hp => hO p (Sf.mem (Sf.rep hm) p hp)) (GnL.snoc hA (gn_rep f2 y M m h1)) x L' f' g' h
          exact ⟨m ++ m2, by rw [← List.append_assoc]; exact i1, by rw [h2, ← opN_rep M, i2, List.append_assoc], by rw [i3, h3, List.length_append]; omega⟩
    · rw [atomP_eq] at h
      split at h
      · rename_i h9
        cases hq : altP n L.tail (turnP f (hd L)) (g + (hd L).num) [] with
        | bad a e => rw [hq] at h; cases h
        | ok y M f2 g2 =>
          rw [hq] at h
          obtain ⟨m, h1, h2, h3⟩ := ha L.tail (turnP f (hd L)) (g + (hd L).num) [] [] (fun p hp => hO p (List.mem_of_mem_tail hp)) GnL.nil y M f2 g2 hq
          dsimp only at h
          split at h
          · injection h with e1 e2 e3 e4
            subst e1 e2 e3 e4
            cases L with
            | nil => exact absurd rfl h0
            | cons p L =>
              have hp9 : p.2.kind = 9 := h9
              rcases hO p (by simp) hp9 with hz | hz
              · have hz' : (hd (p :: L)).num = 0 := hz
                rw [if_pos hz']
                refine ⟨m, h1, ?_, by rw [h3, hz']; omega⟩
                rw [opN, if_neg (by omega), opN_skip (L := M) (by omega)]
                exact h2
              · have hz' : (hd (p :: L)).num = 1 := hz
                rw [if_neg (by omega)]
                refine ⟨p.2.name :: m, ?_, ?_, by rw [h3, hz', List.length_cons]; omega⟩
                · exact Gn.node (x := .mk 6 [] (g + (hd (p :: L)).num) (hd (p :: L)).name 0 0 false [y]) (GnL.single h1)
                · rw [opN, if_pos ⟨hp9, hz⟩, opN_skip (L := M) (by omega)]
                  show p.2.name :: opN L = _
                  have h2' : opN L = m ++ opN M := h2
                  rw [h2']; rfl
          · cases h
      · injection h with e1 e2 e3 e4
        subst e1 e2 e3 e4
        exact ⟨[], gn_leaf f (hd L), by rw [opN_skip (L := L) (by assumption)]; rfl, by simp⟩
/-- What is wrong, and where. -/
def BadP (L : TL) : PR → Prop
  | .bad a c => (c = 91 ∨ c = 82) ∧ ∃ p ∈ L, p.1 = a
  | .ok _ _ _ _ => True
theorem pl_mem {L : TL} (h : L ≠ []) : ∃ p ∈ L, p.1 = pl L := by
  cases L with
  | nil => exact absurd rfl h
  | cons p L => exact ⟨p, by simp, rfl⟩
theorem BadP.sf {L M : TL} {r : PR} (h : BadP M r) (hs : ∀ p ∈ M, p ∈ L) : BadP L r := by
  cases r with
  | ok => trivial
  | bad a c =>
    obtain ⟨h1, p, h2, h3⟩ := h
    exact ⟨h1, p, hs p h2, h3⟩
theorem bad_all : ∀ n, (∀ L f g S, Ends L → 3 * L.length + 3 ≤ n → BadP L (altP n L f g S)) ∧ (∀ L f g A, Ends L → 3 * L.length + 2 ≤ n → BadP L (seqP n L f g A)) ∧
    (∀ L f g, Ends L → kd L ≠ 0 → 3 * L.length + 1 ≤ n → BadP L (atomP n L f g)) := by
  intro n
  induction n with
  | zero => exact ⟨fun L f g S _ h => by omega, fun L f g S _ h => by omega, fun L f g _ _ h => by omega⟩
  | succ n ih =>
    obtain ⟨ha, hs, ht⟩ := ih
    obtain ⟨sa, ss, st⟩ := sf_all n
    obtain ⟨ea, es, et⟩ := ends_all n
    refine ⟨fun L f g S hL hn => ?_, fun L f g A hL hn => ?_, fun L f g hL h0 hn => ?_⟩
    · rw [altP_eq]
      have h1 := hs L f g [] hL (by omega)
      have hm := ss L f g []
      have hE := es L f g [] hL
      cases hq : seqP n L f g [] with
      | bad a e => rw [hq] at h1; exact h1
      | ok y M f2 g2 =>
        rw [hq] at hm hE
        dsimp only
        split
        · rename_i h12
          have hl := len_tail (L := M) (by omega)
          have := Sf.le hm
          exact BadP.sf (ha M.tail f2 g2 (S ++ [y]) (Ends.tail hE (by omega)) (by omega)) (fun p hp => Sf.mem hm p (List.mem_of_mem_tail hp))
        · trivial
    · rw [seqP_eq]
      split
      · trivial
      split
      · exact ⟨.inl rfl, pl_mem hL.ne⟩
      split
      · have hl := len_tail (L := L) (by omega)
        exact BadP.sf (hs L.tail _ g A (hL.tail (by omega)) (by omega)) (fun p hp => List.mem_of_mem_tail hp)
      · have h1 := ht L f g hL (by omega) (by omega)
        have hm := (st L f g).2
        have hE := et L f g hL (by omega)
        cases hq : atomP n L f g with
        | bad a e => rw [hq] at h1; exact h1
        | ok y M f2 g2 =>
          rw [hq] at hE
          have hm := hm y M f2 g2 hq
          dsimp only
          have hl := len_tail (L := L) (by omega)
          have h9 := Sf.le (Sf.rep hm)
          exact BadP.sf (hs (repT M) f2 g2 _ (Ends.rep hE) (by omega)) (fun p hp => List.mem_of_mem_tail (Sf.mem (Sf.rep hm) p hp))
    · have hl := len_tail (L := L) h0
      rw [atomP_eq]
      split
      · have h1 := ha L.tail (turnP f (hd L)) (g + (hd L).num) [] (hL.tail h0) (by omega)
        have hm := sa L.tail (turnP f (hd L)) (g + (hd L).num) []
        have hE := ea L.tail (turnP f (hd L)) (g + (hd L).num) [] (hL.tail h0)
        cases hq : altP n L.tail (turnP f (hd L)) (g + (hd L).num) [] with
        | bad a e => rw [hq] at h1; exact BadP.sf h1 (fun p hp => List.mem_of_mem_tail hp)
        | ok y M f2 g2 =>
          rw [hq] at hm hE
          dsimp only
          split
          · trivial
          · obtain ⟨p, hp, e⟩ := pl_mem (L := M) (Ends.ne hE)
            exact ⟨.inr rfl, p, List.mem_of_mem_tail (Sf.mem hm p hp), e⟩
      · trivial
end Go.Proofs.YtanffablfgnioaaGreatDoor.Ps
