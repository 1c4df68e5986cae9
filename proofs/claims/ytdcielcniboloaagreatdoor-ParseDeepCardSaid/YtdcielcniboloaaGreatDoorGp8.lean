/- Mathematics of parse: how many nodes, the names of groups, what is wrong and where. · The landed class: a number out of its text (strconv.ParseInt at base 16). -/
import Derived.Test.YtdcielcniboloaaGreatDoorGp7
import Derived.Test.YtdcielcniboloaaGreatDoorRows
import Derived.WalkKit
import Derived.OwnWalk
import Derived.WalkLawsBesides
import Derived.WalkSpells
import Derived.Lib.Hide
import Derived.Lib.Strings
import Derived.Lib.Walk
import Derived.Lib.ConvBytes
import Derived.Lib.SmallJoins
import Derived.Laws.Strings3
import Derived.Laws.Closers25
import Derived.Laws.Closers25b
import Derived.BigCall
import Derived.BigGuard
import Derived.Shelf.Abstract
namespace Go.Proofs.YtdcielcniboloaaGreatDoor.Ps
open Lx (Tk)
open Go.Proofs.YtdcielcniboloaaGreatDoor.Rg (R)
set_option linter.unusedVariables false
/-- How many nodes there are, down to a depth. -/
def sz : Nat → Nd → Nat
  | 0, _ => 0
  | k + 1, n => ((Td.subs n).map (sz k)).sum + 1
theorem all_sz : ∀ (k d : Nat) (n : Nd), (Td.all k d n).length = sz k n
  | 0, d, n => rfl
  | k + 1, d, n => by
    rw [Td.all, sz, List.length_cons, List.length_flatMap]
    congr 3
    funext m
    exact all_sz k (d + 1) m
def szL (k : Nat) (A : List Nd) : Nat := (A.map (sz k)).sum
theorem szL_snoc (k : Nat) (A : List Nd) (x : Nd) : szL k (A ++ [x]) = szL k A + sz k x := by unfold szL; rw [List.map_append, List.sum_append]; simp
theorem sz_leaf (k : Nat) (x : Nd) (h : Td.subs x = []) : sz k x ≤ 1 := by
  cases k with
  | zero => exact Nat.zero_le _
  | succ k => rw [sz, h]; simp
theorem sz_one (k : Nat) (x y : Nd) (b : Nat) (h : Td.subs x = [y]) (hy : ∀ k, sz k y ≤ b) : sz k x ≤ b + 1 := by
  cases k with
  | zero => exact Nat.zero_le _
  | succ k => have := hy k; rw [sz, h]; simp; omega
theorem setN_subs (l : List R) : Td.subs (setN l) = [] := by cases l <;> rfl
theorem leafOf_subs (f : Int) (t : Tk) : Td.subs (leafOf f t) = [] := by
  unfold leafOf
  repeat' split
  all_goals first | exact setN_subs _ | rfl
theorem join_sz (K : Int) (A : List Nd) (b : Nat) (hA : ∀ k, szL k A + A.length ≤ b + 1) (h1 : 1 ≤ b) : ∀ k, sz k (joinN K A) ≤ b := by
  intro k
  match A, hA with
  | [], hA => exact Nat.le_trans (sz_leaf k _ rfl) h1
  | [x], hA =>
    have := hA k
    show sz k x ≤ b
    unfold szL at this
    simp at this
    omega
  | x :: y :: l, hA =>
    show sz k (manyN K (x :: y :: l)) ≤ b
    cases k with
    | zero => exact Nat.zero_le _
    | succ k =>
      have := hA k
      rw [sz]
      show szL k (x :: y :: l) + 1 ≤ b
      simp only [List.length_cons] at this
      omega
theorem len_tail {L : TL} (h : kd L ≠ 0) : L.tail.length + 1 = L.length := by
  cases L with
  | nil => exact absurd rfl h
  | cons p L => simp
theorem sz_all : ∀ n, (∀ L f g S t, (∀ k, szL k S + 3 * S.length ≤ 4 * t) → ∀ x L' f' g', altP n L f g S = .ok x L' f' g' → ∀ k, sz k x + 4 * L'.length ≤ 4 * (t + L.length) + 1) ∧
    (∀ L f g A t, (∀ k, szL k A + 2 * A.length ≤ 4 * t) → ∀ x L' f' g', seqP n L f g A = .ok x L' f' g' → ∀ k, sz k x + 4 * L'.length ≤ 4 * (t + L.length) + 1) ∧
    (∀ L f g, kd L ≠ 0 → ∀ x L' f' g', atomP n L f g = .ok x L' f' g' → ∀ k, sz k x + 4 * L'.length + 2 ≤ 4 * L.length) := by
  intro n
  induction n with
  | zero =>
    refine ⟨fun L f g S t _ x L' f' g' h => ?_, fun L f g S t _ x L' f' g' h => ?_, fun L f g _ x L' f' g' h => ?_⟩
    · rw [altP] at h; cases h
    · rw [seqP] at h; cases h
    · rw [atomP] at h; cases h
  | succ n ih =>
    obtain ⟨ha, hs, ht⟩ := ih
    obtain ⟨sa, ss, st⟩ := sf_all n
    refine ⟨fun L f g S t hS x L' f' g' h => ?_, fun L f g A t hA x L' f' g' h => ?_, fun L f g h0 x L' f' g' h => ?_⟩
    · rw [altP_eq] at h
      have hm := ss L f g []
      have h1 := hs L f g [] 0 (fun k => by simp [szL])
      cases hq : seqP n L f g [] with
      | bad a e => rw [hq] at h; cases h
      | ok y M f2 g2 =>
        rw [hq] at h hm
        have h2 := h1 y M f2 g2 hq
        have hle := Sf.le hm
        dsimp only at h
        split at h
        · rename_i h12
          have hl := len_tail (L := M) (by omega)
          have := ha M.tail f2 g2 (S ++ [y]) (t + (L.length - M.tail.length)) (fun k => by
            have e1 := hS k
            have e2 := h2 k
            rw [szL_snoc, List.length_append, List.length_singleton]
            omega) x L' f' g' h
          intro k
          have := this k
          omega
        · injection h with e1 e2 e3 e4
          subst e1 e2
          intro k
          refine Nat.le_trans (Nat.add_le_add_right (join_sz 8 (S ++ [y]) (4 * (t + L.length) + 1 - 4 * M.length) (fun k => ?_) (by omega) k) _) (by omega)
          have e1 := hS k
          have e2 := h2 k
          rw [szL_snoc, List.length_append, List.length_singleton]
          omega
    · rw [seqP_eq] at h
      split at h
      · injection h with e1 e2 e3 e4
        subst e1 e2
        intro k
        refine Nat.le_trans (Nat.add_le_add_right (join_sz 7 A (4 * t + 1) (fun k => ?_) (by omega) k) _) (by omega)
        have := hA k
        omega
      split at h
      · cases h
      split at h
      · have hl := len_tail (L := L) (by omega)
        intro k
        have := hs L.tail (turnP f (hd L)) g A t hA x L' f' g' h k
        omega
      · have hne : kd L ≠ 0 := by omega
        have hm := (st L f g).1
        cases hq : atomP n L f g with
        | bad a e => rw [hq] at h; cases h
        | ok y M f2 g2 =>
          rw [hq] at h hm
          have h2 := ht L f g hne y M f2 g2 hq
          have hle := Sf.le hm
          dsimp only at h
          have h3 : ∀ k, sz k (repN f2 y M) + 4 * (repT M).length + 2 ≤ 4 * L.length := by
            intro k
            unfold repN repT
            split
            · have hl := len_tail (L := M) (by omega)
              have := sz_one k (.mk 9 [] 0 ⟨#[]⟩ (hd M).mn (hd M).mx ((hd M).lazy != hasP f2 8) [y]) y (4 * L.length - 4 * M.length - 2) rfl (fun k => by have := h2 k; omega)
              have := h2 0
              omega
            · exact h2 k
          have hrl : (repT M).length ≤ M.length := by unfold repT; split <;> simp
          have := hs (repT M) f2 g2 (A ++ [repN f2 y M]) (t + (L.length - (repT M).length)) (fun k => by
            have e1 := hA k
            have e2 := h3 k
            rw [szL_snoc, List.length_append, List.length_singleton]
            omega) x L' f' g' h
          intro k
          have := this k
          omega
    · have hl := len_tail (L := L) h0
      rw [atomP_eq] at h
      split at h
      · cases hq : altP n L.tail (turnP f (hd L)) (g + (hd L).num) [] with
        | bad a e => rw [hq] at h; cases h
        | ok y M f2 g2 =>
          rw [hq] at h
          have h2 := ha L.tail (turnP f (hd L)) (g + (hd L).num) [] 0 (fun k => by simp [szL]) y M f2 g2 hq
          dsimp only at h
          split at h
          · rename_i h11
            have hm := len_tail (L := M) (by omega)
            injection h with e1 e2 e3 e4
            subst e1 e2
            intro k
            split
            · have := h2 k
              omega
            · have := sz_one k (.mk 6 [] (g + (hd L).num) (hd L).name 0 0 false [y]) y (4 * (0 + L.tail.length) + 1 - 4 * M.length) rfl (fun k => by have := h2 k; omega)
              have := h2 0
              omega
          · cases h
      · injection h with e1 e2 e3 e4
        subst e1 e2
        intro k
        have := sz_leaf k _ (leafOf_subs f (hd L))
        omega
/-- The names of the groups, down to a depth. -/
def gL : Nat → Nd → List ByteArray
  | 0, _ => []
  | k + 1, n => (if Td.kind n = 6 then [Td.name n] else []) ++ (Td.subs n).flatMap (gL k)
theorem groups_gL : ∀ (k d : Nat) (n : Nd), Td.groups (Td.all k d n) = gL k n
  | 0, d, n => rfl
  | k + 1, d, n => by
    rw [Td.all, gL]
    have e : ∀ l : List Nd, Td.groups (l.flatMap (Td.all k (d + 1))) = l.flatMap (gL k) := by
      intro l
      induction l with
      | nil => rfl
      | cons m l ih =>
        rw [List.flatMap_cons, List.flatMap_cons, ← groups_gL k (d + 1) m, ← ih]
        unfold Td.groups
        rw [List.filter_append, List.map_append]
    rw [← e]
    unfold Td.groups
    by_cases h : Td.kind n = 6
    · rw [if_pos h, List.filter_cons, if_pos (by simpa using h)]; rfl
    · rw [if_neg h, List.filter_cons, if_neg (by simpa using h)]; rfl
theorem gL_stable : ∀ (k : Nat) (n : Nd), Td.dep (k + 1) n ≤ k → ∀ j, gL (k + j) n = gL k n
  | 0, n, h, j => by rw [Td.dep] at h; omega
  | k + 1, n, h, j => by
    have hc : ∀ c ∈ Td.subs n, Td.dep (k + 1) c ≤ k := by
      intro c hc
      rw [Td.dep] at h
      have hm : ∀ (l : List Nat) (a x : Nat), (x ∈ l ∨ x ≤ a) → x ≤ l.foldl max a := by
        intro l
        induction l with
        | nil => intro a x h; rcases h with h | h; cases h; exact h
        | cons y l ih =>
          intro a x h
          refine ih (max a y) x ?_
          rcases h with h | h
          · rcases List.mem_cons.1 h with rfl | h
            · exact .inr (by omega)
            · exact .inl h
          · exact .inr (by omega)
      have := hm ((Td.subs n).map (Td.dep (k + 1))) 0 (Td.dep (k + 1) c) (.inl (List.mem_map_of_mem hc))
      omega
    rw [show k + 1 + j = (k + j) + 1 by omega, gL, gL]
    congr 1
    have e : ∀ l : List Nd, (∀ c ∈ l, Td.dep (k + 1) c ≤ k) → l.flatMap (gL (k + j)) = l.flatMap (gL k) := by
      intro l
      induction l with
      | nil => intro _; rfl
      | cons m l ih =>
        intro h
        rw [List.flatMap_cons, List.flatMap_cons, gL_stable k m (h m (by simp)) j, ih (fun c hc => h c (by simp [hc]))]
    exact e _ hc
/-- The names of the groups of a tree, of trees. -/
def Gn (x : Nd) (l : List ByteArray) : Prop := ∃ k0, ∀ k, k0 ≤ k → gL k x = l
def GnL (A : List Nd) (l : List ByteArray) : Prop := ∃ k0, ∀ k, k0 ≤ k → A.flatMap (gL k) = l
theorem GnL.nil : GnL [] [] := ⟨0, fun k _ => rfl⟩
theorem GnL.snoc {A : List Nd} {l m : List ByteArray} {x : Nd} (h : GnL A l) (hx : Gn x m) : GnL (A ++ [x]) (l ++ m) := by
  obtain ⟨i, hi⟩ := h
  obtain ⟨j, hj⟩ := hx
  exact ⟨max i j, fun k hk => by rw [List.flatMap_append, hi k (by omega)]; simp [hj k (by omega)]⟩
theorem Gn.node {x : Nd} {l : List ByteArray} (h : GnL (Td.subs x) l) : Gn x ((if Td.kind x = 6 then [Td.name x] else []) ++ l) := by
  obtain ⟨i, hi⟩ := h
  refine ⟨i + 1, fun k hk => ?_⟩
  obtain ⟨j, rfl⟩ : ∃ j, k = j + 1 := ⟨k - 1, by omega⟩
  rw [gL, hi j (by omega)]
theorem Gn.other {x : Nd} {l : List ByteArray} (h : GnL (Td.subs x) l) (h6 : Td.kind x ≠ 6) : Gn x l := by
  have := Gn.node h
  rw [if_neg h6] at this
  exact this
theorem GnL.single {x : Nd} {l : List ByteArray} (h : Gn x l) : GnL [x] l := by
  have := GnL.snoc GnL.nil h
  exact this
theorem GnL.one {x : Nd} {l : List ByteArray} (h : GnL [x] l) : Gn x l := by
  obtain ⟨i, hi⟩ := h
  exact ⟨i, fun k hk => by have := hi k hk; simpa using this⟩
theorem gn_join (K : Int) (hK : K ≠ 6) (A : List Nd) (l : List ByteArray) (h : GnL A l) : Gn (joinN K A) l := by
  match A, h with
  | [], h =>
    obtain ⟨i, hi⟩ := h
    have := hi i (Nat.le_refl _)
    have e : l = [] := by rw [← this]; rfl
    subst e
    exact Gn.other (x := leafN 1 0) GnL.nil (by show (1 : Int) ≠ 6; decide)
  | [x], h => exact GnL.one h
  | x :: y :: l', h => exact Gn.other (x := manyN K (x :: y :: l')) h hK
theorem setN_kind (l : List R) : Td.kind (setN l) ≠ 6 := by
  cases l with
  | nil => exact (by decide : (2 : Int) ≠ 6)
  | cons a l => exact (by decide : (3 : Int) ≠ 6)
theorem leafOf_kind (f : Int) (t : Tk) : Td.kind (leafOf f t) ≠ 6 := by
  unfold leafOf
  repeat' split
  all_goals first | exact setN_kind _ | exact (by decide : (4 : Int) ≠ 6) | exact (by decide : (5 : Int) ≠ 6)
theorem gn_leaf (f : Int) (t : Tk) : Gn (leafOf f t) [] := Gn.other (by rw [leafOf_subs]; exact GnL.nil) (leafOf_kind f t)
theorem gn_rep (f : Int) (x : Nd) (L : TL) (l : List ByteArray) (h : Gn x l) : Gn (repN f x L) l := by
  unfold repN
  split
  · exact Gn.other (GnL.single h) (by show (9 : Int) ≠ 6; decide)
  · exact h
/-- The names of the groups that tokens open. -/
def opN : TL → List ByteArray
  | [] => []
  | p :: L => if p.2.kind = 9 ∧ p.2.num = 1 then p.2.name :: opN L else opN L
theorem opN_skip {L : TL} (h : kd L ≠ 9) : opN L.tail = opN L := by
  cases L with
  | nil => rfl
  | cons p L => rw [opN, if_neg (fun e => h e.1)]; rfl
theorem opN_rep (L : TL) : opN (repT L) = opN L := by
  unfold repT
  split
  · exact opN_skip (by omega)
  · rfl
def Op01 (L : TL) : Prop := ∀ p ∈ L, p.2.kind = 9 → p.2.num = 0 ∨ p.2.num = 1
theorem gn_all : ∀ n, (∀ L f g S l, Op01 L → GnL S l → ∀ x L' f' g', altP n L f g S = .ok x L' f' g' → ∃ m, Gn x (l ++ m) ∧ opN L = m ++ opN L' ∧ g' = g + m.length) ∧
    (∀ L f g A l, Op01 L → GnL A l → ∀ x L' f' g', seqP n L f g A = .ok x L' f' g' → ∃ m, Gn x (l ++ m) ∧ opN L = m ++ opN L' ∧ g' = g + m.length) ∧
    (∀ L f g, Op01 L → kd L ≠ 0 → ∀ x L' f' g', atomP n L f g = .ok x L' f' g' → ∃ m, Gn x m ∧ opN L = m ++ opN L' ∧ g' = g + m.length) := by
  intro n
  induction n with
  | zero =>
    refine ⟨fun L f g S t _ _ x L' f' g' h => ?_, fun L f g S t _ _ x L' f' g' h => ?_, fun L f g _ _ x L' f' g' h => ?_⟩
    · rw [altP] at h; cases h
    · rw [seqP] at h; cases h
    · rw [atomP] at h; cases h
  | succ n ih =>
    obtain ⟨ha, hs, ht⟩ := ih
    obtain ⟨sa, ss, st⟩ := sf_all n
    refine ⟨fun L f g S l hO hS x L' f' g' h => ?_, fun L f g A l hO hA x L' f' g' h => ?_, fun L f g hO h0 x L' f' g' h => ?_⟩
    · rw [altP_eq] at h
      have hm := ss L f g []
      cases hq : seqP n L f g [] with
      | bad a e => rw [hq] at h; cases h
      | ok y M f2 g2 =>
        rw [hq] at h hm
        obtain ⟨m, h1, h2, h3⟩ := hs L f g [] [] hO GnL.nil y M f2 g2 hq
        dsimp only at h
        split at h
        · obtain ⟨m2, i1, i2, i3⟩ := ha M.tail f2 g2 (S ++ [y]) (l ++ m) (fun p hp => hO p (Sf.mem hm p (List.mem_of_mem_tail hp))) (GnL.snoc hS h1) x L' f' g' h
          exact ⟨m ++ m2, by rw [← List.append_assoc]; exact i1, by rw [h2, ← opN_skip (L := M) (by omega), i2, List.append_assoc], by rw [i3, h3, List.length_append]; omega⟩
        · injection h with e1 e2 e3 e4
          subst e1 e2 e3 e4
          exact ⟨m, gn_join 8 (by decide) _ _ (GnL.snoc hS h1), h2, h3⟩
    · rw [seqP_eq] at h
      split at h
      · injection h with e1 e2 e3 e4
        subst e1 e2 e3 e4
        exact ⟨[], gn_join 7 (by decide) _ _ (by rw [List.append_nil]; exact hA), rfl, by simp⟩
      split at h
      · cases h
      split at h
      · obtain ⟨m, h1, h2, h3⟩ := hs L.tail (turnP f (hd L)) g A l (fun p hp => hO p (List.mem_of_mem_tail hp)) hA x L' f' g' h
        exact ⟨m, h1, by rw [← opN_skip (L := L) (by omega)]; exact h2, h3⟩
      · have hm := (st L f g).1
        cases hq : atomP n L f g with
        | bad a e => rw [hq] at h; cases h
        | ok y M f2 g2 =>
          rw [hq] at h hm
          obtain ⟨m, h1, h2, h3⟩ := ht L f g hO (by omega) y M f2 g2 hq
          dsimp only at h
          obtain ⟨m2, i1, i2, i3⟩ := hs (repT M) f2 g2 (A ++ [repN f2 y M]) (l ++ m) (fun p hp => hO p (Sf.mem (Sf.rep hm) p hp)) (GnL.snoc hA (gn_rep f2 y M m h1)) x L' f' g' h
          exact ⟨m ++ m2, by rw [← List.append_assoc]; exact i1, by rw [h2, ← opN_rep M, i2, List.append_assoc], by rw [i3, h3, List.length_append]; omega⟩
    · rw [atomP_eq] at h
      split at h
      · rename_i h9
        cases hq : altP n L.tail (turnP f (hd L)) (g + (hd L).num) [] with
        | bad a e => rw [hq] at h; cases h
        | ok y M f2 g2 =>
          rw [hq] at h
          obtain ⟨m, h1, h2, h3⟩ := ha L.tail (turnP f (hd L)) (g + (hd L).num) [] [] (fun p hp => hO p (List.mem_of_mem_tail hp)) GnL.nil y M f2 g2 hq
          dsimp only at h
          split at h
          · injection h with e1 e2 e3 e4
            subst e1 e2 e3 e4
            cases L with
            | nil => exact absurd rfl h0
            | cons p L =>
              have hp9 : p.2.kind = 9 := h9
              rcases hO p (by simp) hp9 with hz | hz
              · have hz' : (hd (p :: L)).num = 0 := hz
                rw [if_pos hz']
                refine ⟨m, h1, ?_, by rw [h3, hz']; omega⟩
                rw [opN, if_neg (by omega), opN_skip (L := M) (by omega)]
                exact h2
              · have hz' : (hd (p :: L)).num = 1 := hz
                rw [if_neg (by omega)]
                refine ⟨p.2.name :: m, ?_, ?_, by rw [h3, hz', List.length_cons]; omega⟩
                · exact Gn.node (x := .mk 6 [] (g + (hd (p :: L)).num) (hd (p :: L)).name 0 0 false [y]) (GnL.single h1)
                · rw [opN, if_pos ⟨hp9, hz⟩, opN_skip (L := M) (by omega)]
                  show p.2.name :: opN L = _
                  have h2' : opN L = m ++ opN M := h2
                  rw [h2']; rfl
          · cases h
      · injection h with e1 e2 e3 e4
        subst e1 e2 e3 e4
        exact ⟨[], gn_leaf f (hd L), by rw [opN_skip (L := L) (by assumption)]; rfl, by simp⟩
/-- What is wrong, and where. -/
def BadP (L : TL) : PR → Prop
  | .bad a c => (c = 91 ∨ c = 82) ∧ ∃ p ∈ L, p.1 = a
  | .ok _ _ _ _ => True
theorem pl_mem {L : TL} (h : L ≠ []) : ∃ p ∈ L, p.1 = pl L := by
  cases L with
  | nil => exact absurd rfl h
  | cons p L => exact ⟨p, by simp, rfl⟩
theorem BadP.sf {L M : TL} {r : PR} (h : BadP M r) (hs : ∀ p ∈ M, p ∈ L) : BadP L r := by
  cases r with
  | ok => trivial
  | bad a c =>
    obtain ⟨h1, p, h2, h3⟩ := h
    exact ⟨h1, p, hs p h2, h3⟩
theorem bad_all : ∀ n, (∀ L f g S, Ends L → 3 * L.length + 3 ≤ n → BadP L (altP n L f g S)) ∧ (∀ L f g A, Ends L → 3 * L.length + 2 ≤ n → BadP L (seqP n L f g A)) ∧
    (∀ L f g, Ends L → kd L ≠ 0 → 3 * L.length + 1 ≤ n → BadP L (atomP n L f g)) := by
  intro n
  induction n with
  | zero => exact ⟨fun L f g S _ h => by omega, fun L f g S _ h => by omega, fun L f g _ _ h => by omega⟩
  | succ n ih =>
    obtain ⟨ha, hs, ht⟩ := ih
    obtain ⟨sa, ss, st⟩ := sf_all n
    obtain ⟨ea, es, et⟩ := ends_all n
    refine ⟨fun L f g S hL hn => ?_, fun L f g A hL hn => ?_, fun L f g hL h0 hn => ?_⟩
    · rw [altP_eq]
      have h1 := hs L f g [] hL (by omega)
      have hm := ss L f g []
      have hE := es L f g [] hL
      cases hq : seqP n L f g [] with
      | bad a e => rw [hq] at h1; exact h1
      | ok y M f2 g2 =>
        rw [hq] at hm hE
        dsimp only
        split
        · rename_i h12
          have hl := len_tail (L := M) (by omega)
          have := Sf.le hm
          exact BadP.sf (ha M.tail f2 g2 (S ++ [y]) (Ends.tail hE (by omega)) (by omega)) (fun p hp => Sf.mem hm p (List.mem_of_mem_tail hp))
        · trivial
    · rw [seqP_eq]
      split
      · trivial
      split
      · exact ⟨.inl rfl, pl_mem hL.ne⟩
      split
      · have hl := len_tail (L := L) (by omega)
        exact BadP.sf (hs L.tail _ g A (hL.tail (by omega)) (by omega)) (fun p hp => List.mem_of_mem_tail hp)
      · have h1 := ht L f g hL (by omega) (by omega)
        have hm := (st L f g).2
        have hE := et L f g hL (by omega)
        cases hq : atomP n L f g with
        | bad a e => rw [hq] at h1; exact h1
        | ok y M f2 g2 =>
          rw [hq] at hE
          have hm := hm y M f2 g2 hq
          dsimp only
          have hl := len_tail (L := L) (by omega)
          have h9 := Sf.le (Sf.rep hm)
          exact BadP.sf (hs (repT M) f2 g2 _ (Ends.rep hE) (by omega)) (fun p hp => List.mem_of_mem_tail (Sf.mem (Sf.rep hm) p hp))
    · have hl := len_tail (L := L) h0
      rw [atomP_eq]
      split
      · have h1 := ha L.tail (turnP f (hd L)) (g + (hd L).num) [] (hL.tail h0) (by omega)
        have hm := sa L.tail (turnP f (hd L)) (g + (hd L).num) []
        have hE := ea L.tail (turnP f (hd L)) (g + (hd L).num) [] (hL.tail h0)
        cases hq : altP n L.tail (turnP f (hd L)) (g + (hd L).num) [] with
        | bad a e => rw [hq] at h1; exact BadP.sf h1 (fun p hp => List.mem_of_mem_tail hp)
        | ok y M f2 g2 =>
          rw [hq] at hm hE
          dsimp only
          split
          · trivial
          · obtain ⟨p, hp, e⟩ := pl_mem (L := M) (Ends.ne hE)
            exact ⟨.inr rfl, p, List.mem_of_mem_tail (Sf.mem hm p hp), e⟩
      · trivial
end Go.Proofs.YtdcielcniboloaaGreatDoor.Ps
namespace Go.Proofs.YtdcielcniboloaaGreatDoor
open Go.RowKit Go.Shelf
set_option linter.unusedVariables false
namespace Cl
def hexD (c : Nat) : Nat := if c ≤ 57 then c - 48 else c - 55
def okD (c : UInt8) : Bool := (decide (48 ≤ c.toNat) && decide (c.toNat ≤ 57)) || (decide (65 ≤ c.toNat) && decide (c.toNat ≤ 70))
/-- The number that digits spell, behind one that is read. -/
def hexN : Nat → List UInt8 → Nat
  | acc, [] => acc
  | acc, c :: t => hexN (acc * 16 + hexD c.toNat) t
/-- A text of 1 to 15 digits. -/
def okHex (l : List UInt8) : Bool := !l.isEmpty && decide (l.length ≤ 15) && l.all okD
theorem hexD_lt {c : UInt8} (h : okD c = true) : hexD c.toNat < 16 := by
  simp [okD] at h; unfold hexD; split <;> omega
theorem hexN_lt : ∀ (l : List UInt8) (acc : Nat), (l.all okD = true) → hexN acc l < (acc + 1) * 16 ^ l.length
  | [], acc, _ => by simp [hexN]
  | c :: t, acc, h => by
    simp only [List.all_cons, Bool.and_eq_true] at h
    have ih := hexN_lt t (acc * 16 + hexD c.toNat) h.2
    have hd := hexD_lt h.1
    have : (acc * 16 + hexD c.toNat + 1) * 16 ^ t.length ≤ ((acc + 1) * 16) * 16 ^ t.length := Nat.mul_le_mul_right _ (by omega)
    rw [List.length_cons, Nat.pow_succ, ← Nat.mul_assoc, Nat.mul_right_comm]
    exact Nat.lt_of_lt_of_le ih this
theorem or32 (c : UInt8) (h1 : 65 ≤ c.toNat) (h2 : c.toNat ≤ 70) : bits .or .u8 (c.toNat : Int) 32 = (c.toNat : Int) + 32 := by
  rcases (by omega : c.toNat = 65 ∨ c.toNat = 66 ∨ c.toNat = 67 ∨ c.toNat = 68 ∨ c.toNat = 69 ∨ c.toNat = 70) with e | e | e | e | e | e <;> rw [e] <;> decide
end Cl
theorem lower_any (c : Int) (w : World) (h1 : 65 ≤ c) (h2 : c ≤ 70) : Calls Tryz.prog 302 #[.int .u8 c] w fun e w' => e = .returned (.int .u8 (c + 32)) ∧ w = w' := by
  have hor : bits .or .u8 c 32 = c + 32 := by
    rcases (by omega : c = 65 ∨ c = 66 ∨ c = 67 ∨ c = 68 ∨ c = 69 ∨ c = 70) with rfl | rfl | rfl | rfl | rfl | rfl <;> decide
  go_enter Tryz.func302, Tryz.ntmps302
  go_wp2
  go_ret
  exact ⟨rfl, rfl⟩
set_option maxRecDepth 100000 in
set_option maxHeartbeats 4000000 in
theorem parseUint16 (t : ByteArray) (hok : Cl.okHex t.data.toList = true) (w : World) :
    Calls Tryz.prog 272 #[.string t, .int .i64 16, .int .i64 64] w fun e w' => e = .returned (.tuple #[.int .u64 (Cl.hexN 0 t.data.toList : Nat), .nilIface]) ∧ w' = Lib.bytesWorld w 5 t := by
  have mixed : Tryz.prog.follows .mixedOrders = true := by kernel_rfl
  simp only [Cl.okHex, Bool.and_eq_true, Bool.not_eq_true', decide_eq_true_eq] at hok
  obtain ⟨⟨hemp, h15⟩, hall⟩ := hok
  have e321 : ∀ args w, (callFunc 302 args).run Tryz.prog w = .ok (.enter 302 args) w := enters_of Tryz.func302 (by kernel_rfl) rfl
  have hlen : t.data.toList.length = t.size := (Lib.size_eq t).symm
  have hne : ¬ t = ⟨#[]⟩ := fun h => by rw [h] at hemp; simp at hemp
  have hemp2 : t.toList.isEmpty = false := by
    rw [← decide_eq_emptyBytes]
    exact decide_eq_false hne
  have hcv := Lib.run_convert_string_bytes (P := Tryz.prog) w 9 72 5 t (u := .string) Tryz.underlying9 Tryz.underlying72 Tryz.underlying5
  have hB : ∀ j, j < t.size → (Lib.bytesWorld w 5 t).cell? ⟨w.heap.size, j, none⟩ = some (.int .u8 (t.data.toList.getD j 0).toNat) := fun j hj => Lib.bytesWorld_cell w 5 t j hj
  obtain ⟨W1, hW1⟩ : ∃ W1, W1 = Lib.bytesWorld w 5 t := ⟨_, rfl⟩
  rw [← hW1] at hcv hB ⊢
  clear hW1
  have h15' : t.size ≤ 15 := by omega
  obtain ⟨bs, hL⟩ : ∃ bs, bs = t.data.toList := ⟨_, rfl⟩
  have hLn : bs.length = t.size := by rw [hL, hlen]
  rw [← hL] at hB hall ⊢
  clear hL h15 hlen
  have HALL := Lib.hid hall
  have hnx := Cl.hexN_lt
  have HLT : Hid (∀ k acc, k ≤ bs.length → Cl.hexN acc (bs.take k) < (acc + 1) * 16 ^ k) := Lib.hid fun k acc hk => by
    have := Cl.hexN_lt (bs.take k) acc (by rw [List.all_eq_true] at hall ⊢; exact fun x hx => hall x (List.mem_of_mem_take hx))
    rwa [List.length_take, Nat.min_eq_left hk] at this
  clear hall hnx hemp hne
  have hmv : IntKind.u64.wrap (IntKind.u64.wrap 18446744073709551616 - 1) = 18446744073709551615 := by
    rw [IntKind.wrap_u64, IntKind.wrap_u64]
    decide
  go_enter Tryz.func272, Tryz.ntmps272
  go_wp2
  go_loop [12, 13, 101] (fun vu vn vi => ∃ (k : Nat) (a : Int), vu = .bool false ∧ vn = .int .u64 a ∧ vi = .int .i64 k ∧ k ≤ t.size ∧ Hid (∃ acc : Nat, a = (acc : Int) ∧ acc < 16 ^ k ∧ Cl.hexN 0 bs = Cl.hexN acc (bs.drop k)))
    (fun _ _ vi => t.size - (intOf vi).toNat)
  case atStart => exact ⟨0, 0, rfl, rfl, rfl, by omega, 0, rfl, by simp, rfl⟩
  case round =>
    obtain ⟨k, a, rfl, rfl, rfl, hk, hh⟩ := hrel
    by_cases hkn : k < t.size
    · have hc := hB k hkn
      obtain ⟨acc, ha, hacc, hdec⟩ := hh.out
      clear hh
      have hp : 16 ^ k ≤ 16 ^ 14 := Nat.pow_le_pow_right (by omega) (by omega)
      have a0 : 0 ≤ a := by omega
      have a1 : a < 72057594037927936 := by omega
      have hdrop : bs.drop k = bs[k]'(by omega) :: bs.drop (k + 1) := List.drop_eq_getElem_cons (by omega)
      have hget : bs.getD k 0 = bs[k]'(by omega) := by simp [List.getD, List.getElem?_eq_getElem (show k < bs.length by omega)]
      have hok : Cl.okD (bs[k]'(by omega)) = true := by have := HALL.out; rw [List.all_eq_true] at this; exact this _ (List.getElem_mem _)
      rw [hdrop] at hdec
      rw [hget] at hc
      generalize bs[k]'(by omega) = c at hc hdec hok
      have hc256 : c.toNat < 256 := c.toNat_lt
      clear hB hdrop hget
      have HN : Hid (∃ acc' : Nat, a * 16 + (Cl.hexD c.toNat : Nat) = (acc' : Int) ∧ acc' < 16 ^ (k + 1) ∧ Cl.hexN 0 bs = Cl.hexN acc' (bs.drop (k + 1))) :=
        Lib.hid ⟨acc * 16 + Cl.hexD c.toNat, by omega, by have := Cl.hexD_lt hok; rw [Nat.pow_succ]; omega, hdec⟩
      have icut : a < 1152921504606846976 := by omega
      clear hacc hdec ha hp
      simp only [Cl.okD, Bool.or_eq_true, Bool.and_eq_true, decide_eq_true_eq] at hok
      rcases hok with ⟨hd0, hd1⟩ | ⟨hd0, hd1⟩
      · have hx : Cl.hexD c.toNat = c.toNat - 48 := by unfold Cl.hexD; rw [if_pos hd1]
        rw [hx] at HN
        have HN2 : Hid (∃ acc' : Nat, a * 16 + ((c.toNat : Int) - 48) = (acc' : Int) ∧ acc' < 16 ^ (k + 1) ∧ Cl.hexN 0 bs = Cl.hexN acc' (bs.drop (k + 1))) := by
          obtain ⟨q, h1, h2⟩ := HN.out; exact Lib.hid ⟨q, by omega, h2⟩
        clear HN hx
        have iov : a * 16 + ((c.toNat : Int) - 48) < 18446744073709551616 := by omega
        go_wp2
        refine ⟨⟨k + 1, a * 16 + ((c.toNat : Int) - 48), rfl, (by first | rfl | (congr 1; omega)), (by first | rfl | (congr 1; omega)), by omega, HN2⟩, by simp [intOf]; omega⟩
      · have hx : Cl.hexD c.toNat = c.toNat - 55 := by unfold Cl.hexD; rw [if_neg (by omega)]
        rw [hx] at HN
        have HN2 : Hid (∃ acc' : Nat, a * 16 + ((c.toNat : Int) + 32 - 97 + 10) = (acc' : Int) ∧ acc' < 16 ^ (k + 1) ∧ Cl.hexN 0 bs = Cl.hexN acc' (bs.drop (k + 1))) := by
          obtain ⟨q, h1, h2⟩ := HN.out; exact Lib.hid ⟨q, by omega, h2⟩
        clear HN hx
        have hor := Cl.or32 c hd0 hd1
        have iov : a * 16 + ((c.toNat : Int) + 32 - 97 + 10) < 18446744073709551616 := by omega
        go_wp2_with (go_at_fn 302; refine (lower_any _ _ (by omega) (by omega)).mono ?_; rintro e w' ⟨rfl, rfl⟩)
        refine ⟨⟨k + 1, a * 16 + ((c.toNat : Int) + 32 - 97 + 10), rfl, (by first | rfl | (congr 1; omega)), (by first | rfl | (congr 1; omega)), by omega, HN2⟩, by simp [intOf]; omega⟩
    · obtain rfl : k = t.size := by omega
      obtain ⟨acc, ha, hacc, hdec⟩ := hh.out
      clear hh
      rw [List.drop_eq_nil_of_le (by omega)] at hdec
      have hE : Hid (.tuple #[.int .u64 a, .nilIface] = (Value.tuple #[.int .u64 (Cl.hexN 0 bs : Nat), .nilIface])) := Lib.hid (by rw [hdec, ha]; rfl)
      have a0 : 0 ≤ a := by omega
      have c1 : ¬ ((t.size : Int) < (t.size : Int)) := by omega
      clear hacc hdec ha
      go_wp2
      go_ret2
      exact ⟨congrArg Ending.returned hE.out, rfl⟩
set_option maxRecDepth 100000 in
set_option maxHeartbeats 4000000 in
theorem parseInt16i (t : ByteArray) (hok : Cl.okHex t.data.toList = true) (w : World) :
    Calls Tryz.prog 242 #[.string t, .int .i64 16, .int .i64 64] w fun e w' => e = .returned (.tuple #[.int .i64 (Cl.hexN 0 t.data.toList : Nat), .nilIface]) ∧ w' = Lib.bytesWorld w 5 t := by
  have mixed : Tryz.prog.follows .mixedOrders = true := by kernel_rfl
  have hok2 := Lib.hid hok
  simp only [Cl.okHex, Bool.and_eq_true, Bool.not_eq_true', decide_eq_true_eq] at hok
  obtain ⟨⟨hemp, h15⟩, hall⟩ := hok
  have hlen : t.data.toList.length = t.size := (Lib.size_eq t).symm
  have hne : ¬ t = ⟨#[]⟩ := fun h => by rw [h] at hemp; simp at hemp
  have hemp2 : t.toList.isEmpty = false := by
    rw [← decide_eq_emptyBytes]
    exact decide_eq_false hne
  have hpos : 0 < t.size := by
    rcases Nat.eq_zero_or_pos t.size with h | h
    · rw [← hlen] at h; rw [List.eq_nil_of_length_eq_zero h] at hemp; simp at hemp
    · exact h
  have hposz : (0 : Int) < (t.size : Int) := by omega
  obtain ⟨c, hx⟩ : ∃ c : UInt8, t[0] = c := ⟨_, rfl⟩
  have hok : Cl.okD c = true := by
    have hm : t.data.toList[0]? = some c := by rw [← hx]; simp [hpos, ByteArray.getElem_eq_getElem_data]
    rw [List.all_eq_true] at hall
    exact hall _ (List.mem_of_getElem? hm)
  have hc43 : ¬ (c.toNat : Int) = 43 := by simp [Cl.okD] at hok; omega
  have hc45 : ¬ (c.toNat : Int) = 45 := by simp [Cl.okD] at hok; omega
  have hv := Cl.hexN_lt t.data.toList 0 hall
  have hp : 16 ^ t.data.toList.length ≤ 16 ^ 15 := Nat.pow_le_pow_right (by omega) (by omega)
  obtain ⟨x, ex⟩ : ∃ x : Int, x = ((Cl.hexN 0 t.data.toList : Nat) : Int) := ⟨_, rfl⟩
  have hx0 : 0 ≤ x := by omega
  have hx1 : x < 1152921504606846976 := by omega
  have hcon := parseUint16 t hok2.out w
  rw [← ex] at hcon ⊢
  have HCON := Lib.hid hcon
  clear hcon ex hv hp hok hall h15 hemp hne hlen
  go_enter Tryz.func242, Tryz.ntmps242
  go_wp2_with (go_at_call 272; refine HCON.out.mono ?_; rintro e w' ⟨rfl, rfl⟩)
  go_ret2
  exact ⟨rfl, rfl⟩
set_option maxRecDepth 100000 in
set_option maxHeartbeats 4000000 in
theorem parseInt16 (t : ByteArray) (hok : Cl.okHex t.data.toList = true) (w : World) :
    Calls Tryz.prog 282 #[.string t, .int .i64 16, .int .i64 64] w fun e w' => e = .returned (.tuple #[.int .i64 (Cl.hexN 0 t.data.toList : Nat), .nilIface]) ∧ w' = Lib.bytesWorld w 5 t := by
  have hcon := parseInt16i t hok w
  obtain ⟨x, ex⟩ : ∃ x : Int, x = ((Cl.hexN 0 t.data.toList : Nat) : Int) := ⟨_, rfl⟩
  rw [← ex] at hcon ⊢
  have HCON := Lib.hid hcon
  clear hcon ex hok
  go_enter Tryz.func282, Tryz.ntmps282
  go_wp2_with (go_at_call 242; refine HCON.out.mono ?_; rintro e w' ⟨rfl, rfl⟩)
  go_ret2
  exact ⟨rfl, rfl⟩
/-- number: at a text of digits. -/
theorem number_any (t : ByteArray) (hok : Cl.okHex t.data.toList = true) (w : World) :
    Calls Tryz.prog 259 #[.string t] w fun e w' => e = .returned (.int .i64 (Cl.hexN 0 t.data.toList : Nat)) ∧ w' = Lib.bytesWorld w 5 t := by
  have hcon := parseInt16 t hok w
  have hv : Cl.hexN 0 t.data.toList < 1152921504606846976 := by
    simp only [Cl.okHex, Bool.and_eq_true, Bool.not_eq_true', decide_eq_true_eq] at hok
    have := Cl.hexN_lt t.data.toList 0 hok.2
    have hp : 16 ^ t.data.toList.length ≤ 16 ^ 15 := Nat.pow_le_pow_right (by omega) (by omega)
    omega
  obtain ⟨x, ex⟩ : ∃ x : Int, x = ((Cl.hexN 0 t.data.toList : Nat) : Int) := ⟨_, rfl⟩
  have hx0 : 0 ≤ x := by omega
  have hx1 : x < 1152921504606846976 := by omega
  rw [← ex] at hcon ⊢
  have HCON := Lib.hid hcon
  clear hcon ex hok hv
  go_enter Tryz.func259, Tryz.ntmps259
  go_wp2_with (go_at_call 282; refine HCON.out.mono ?_; rintro e w' ⟨rfl, rfl⟩)
  go_ret
  exact ⟨rfl, rfl⟩
end Go.Proofs.YtdcielcniboloaaGreatDoor
