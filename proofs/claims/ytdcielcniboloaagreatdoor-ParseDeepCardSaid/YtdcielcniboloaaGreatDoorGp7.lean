/- Mathematics of parse: what the tree of a list of tokens depends on. · The reference's tree (burinref06): All: the nodes of a tree, in an owned row of steps (nine cells each). · The reference's tree (burinref06): Groups; an owned row of texts. -/
import Derived.Test.YtdcielcniboloaaGreatDoorGp6
import Derived.Laws.BitsLemmas
import Derived.Test.YtdcielcniboloaaGreatDoorGp5
import Derived.IntWalk
import Derived.WalkSmall
import Derived.Maps.Range
import Derived.Deep.RegionHeld3
import Derived.Deep.AppendLies
import Derived.Laws.OwnMore
namespace Go.Proofs.YtdcielcniboloaaGreatDoor.Ps
open Lx (Tk)
set_option linter.unusedVariables false
/-- What is left is an end of what was there. -/
def SfP (L : TL) : PR → Prop
  | .bad _ _ => True
  | .ok _ L' _ _ => Sf L' L
theorem sf_all : ∀ n, (∀ L f g S, SfP L (altP n L f g S)) ∧ (∀ L f g A, SfP L (seqP n L f g A)) ∧ (∀ L f g, SfP L (atomP n L f g) ∧ ∀ x L' f' g', atomP n L f g = .ok x L' f' g' → Sf L' L.tail) := by
  intro n
  induction n with
  | zero =>
    refine ⟨fun L f g S => ?_, fun L f g A => ?_, fun L f g => ⟨?_, fun x L' f' g' h => ?_⟩⟩
    · rw [altP]; trivial
    · rw [seqP]; trivial
    · rw [atomP]; trivial
    · rw [atomP] at h; cases h
  | succ n ih =>
    obtain ⟨ha, hs, ht⟩ := ih
    refine ⟨fun L f g S => ?_, fun L f g A => ?_, fun L f g => ?_⟩
    · rw [altP_eq]
      have h := hs L f g []
      cases hq : seqP n L f g [] with
      | bad a e => trivial
      | ok x L' f' g' =>
        rw [hq] at h
        dsimp only
        split
        · have h2 := ha L'.tail f' g' (S ++ [x])
          cases hq2 : altP n L'.tail f' g' (S ++ [x]) with
          | bad a e => trivial
          | ok x2 L2 f2 g2 =>
            rw [hq2] at h2
            exact Sf.trans (Sf.tail h2) h
        · exact h
    · rw [seqP_eq]
      split
      · exact Sf.refl L
      split
      · trivial
      split
      · have h2 := hs L.tail (turnP f (hd L)) g A
        cases hq2 : seqP n L.tail (turnP f (hd L)) g A with
        | bad a e => trivial
        | ok x2 L2 f2 g2 => rw [hq2] at h2; exact Sf.tail h2
      · have h := (ht L f g).1
        cases hq : atomP n L f g with
        | bad a e => trivial
        | ok x L' f' g' =>
          rw [hq] at h
          dsimp only
          have h2 := hs (repT L') f' g' (A ++ [repN f' x L'])
          cases hq2 : seqP n (repT L') f' g' (A ++ [repN f' x L']) with
          | bad a e => trivial
          | ok x2 L2 f2 g2 => rw [hq2] at h2; exact Sf.trans h2 (Sf.rep h)
    · have key : ∀ x L' f' g', atomP (n + 1) L f g = .ok x L' f' g' → Sf L' L.tail := by
        intro x L' f' g' h
        rw [atomP_eq] at h
        split at h
        · have h2 := ha L.tail (turnP f (hd L)) (g + (hd L).num) []
          cases hq2 : altP n L.tail (turnP f (hd L)) (g + (hd L).num) [] with
          | bad a e => rw [hq2] at h; cases h
          | ok x2 L2 f2 g2 =>
            rw [hq2] at h h2
            dsimp only at h
            split at h
            · injection h with _ h3 _ _
              subst h3
              exact Sf.trans (⟨1, List.drop_one.symm⟩) h2
            · cases h
        · injection h with _ h3 _ _
          subst h3
          exact Sf.refl _
      refine ⟨?_, key⟩
      cases hq : atomP (n + 1) L f g with
      | bad a e => trivial
      | ok x L' f' g' => exact Sf.tail (key _ _ _ _ hq)
theorem Sf.le {A B : TL} (h : Sf A B) : A.length ≤ B.length := by
  obtain ⟨k, rfl⟩ := h
  rw [List.length_drop]; omega
theorem Sf.mem {A B : TL} (h : Sf A B) : ∀ p ∈ A, p ∈ B := by
  obtain ⟨k, rfl⟩ := h
  exact fun p hp => List.mem_of_mem_drop hp
theorem Sf.ends {A B : TL} (h : Sf A B) (hB : Ends B) (hA : 0 < A.length) : Ends A := by
  obtain ⟨k, rfl⟩ := h
  obtain ⟨T, z, rfl, hz, hT⟩ := hB
  rw [List.length_drop, List.length_append, List.length_singleton] at hA
  refine ⟨T.drop k, z, ?_, hz, fun p hp => hT p (List.mem_of_mem_drop hp)⟩
  rw [List.drop_append_of_le_length (by omega)]
/-- What stands behind alternatives. -/
def StopP : PR → Prop
  | .bad _ _ => True
  | .ok _ L' _ _ => kd L' = 11 ∨ kd L' = 0
def StopQ : PR → Prop
  | .bad _ _ => True
  | .ok _ L' _ _ => kd L' = 12 ∨ kd L' = 11 ∨ kd L' = 0
theorem stop_seq : ∀ n L f g A, StopQ (seqP n L f g A) := by
  intro n
  induction n with
  | zero => intro L f g A; rw [seqP]; trivial
  | succ n ih =>
    intro L f g A
    rw [seqP_eq]
    split
    · assumption
    split
    · trivial
    split
    · exact ih _ _ _ _
    · cases hq : atomP n L f g with
      | bad a e => trivial
      | ok x L' f' g' => exact ih _ _ _ _
theorem stop_alt : ∀ n L f g S, StopP (altP n L f g S) := by
  intro n
  induction n with
  | zero => intro L f g A; rw [altP]; trivial
  | succ n ih =>
    intro L f g S
    rw [altP_eq]
    have h := stop_seq n L f g []
    cases hq : seqP n L f g [] with
    | bad a e => trivial
    | ok x L' f' g' =>
      rw [hq] at h
      dsimp only
      split
      · exact ih _ _ _ _
      · rename_i h12
        rcases h with h | h | h
        · exact absurd h h12
        · exact .inl h
        · exact .inr h
/-- Flags that agree on the four bits. -/
def Fl (f h : Int) : Prop := ∀ b, b = 1 ∨ b = 2 ∨ b = 4 ∨ b = 8 → hasP f b = hasP h b
theorem Fl.refl (f : Int) : Fl f f := fun _ _ => rfl

theorem wrap_zero (x : BitVec 64) : (IntKind.i64.wrap (x.toNat : Int) = 0) ↔ x = 0#64 := by
  have h := x.isLt
  rw [IntKind.wrap_i64]
  constructor
  · intro e
    apply BitVec.eq_of_toNat_eq
    simp
    omega
  · intro e; subst e; simp
theorem ofInt_wrap (x : BitVec 64) : BitVec.ofInt 64 (IntKind.i64.wrap (x.toNat : Int)) = x := by
  have h := x.isLt
  apply BitVec.eq_of_toNat_eq
  rw [BitVec.toNat_ofInt, IntKind.wrap_i64]
  simp
  omega
theorem has_bv (f b : Int) : hasP f b = decide (BitVec.ofInt 64 f &&& BitVec.ofInt 64 b ≠ 0#64) := by
  show (IntKind.i64.wrap ((BitVec.ofInt 64 f &&& BitVec.ofInt 64 b).toNat : Int) != 0) = _
  rw [Bool.eq_iff_iff, bne_iff_ne, decide_eq_true_iff]
  exact not_congr (wrap_zero _)
theorem turn_bv (f : Int) (t : Tk) : BitVec.ofInt 64 (turnP f t) = (BitVec.ofInt 64 f ||| BitVec.ofInt 64 t.mn) &&& ~~~BitVec.ofInt 64 t.mx := by
  show BitVec.ofInt 64 (IntKind.i64.wrap ((BitVec.ofInt 64 (IntKind.i64.wrap ((BitVec.ofInt 64 f ||| BitVec.ofInt 64 t.mn).toNat : Int)) &&& ~~~BitVec.ofInt 64 t.mx).toNat : Int)) = _
  rw [ofInt_wrap, ofInt_wrap]
theorem has_bit (f : Int) (i : Nat) (hi : i < 4) (b : Int) (hb : BitVec.ofInt 64 b = BitVec.twoPow 64 i) : hasP f b = (BitVec.ofInt 64 f).getLsbD i := by
  rw [has_bv, hb, BitVec.and_twoPow]
  cases (BitVec.ofInt 64 f).getLsbD i
  · simp
  · rw [if_pos rfl]
    rcases (show i = 0 ∨ i = 1 ∨ i = 2 ∨ i = 3 by omega) with rfl | rfl | rfl | rfl <;> decide
theorem bit_of {b : Int} (h : b = 1 ∨ b = 2 ∨ b = 4 ∨ b = 8) : ∃ i, i < 4 ∧ BitVec.ofInt 64 b = BitVec.twoPow 64 i := by
  rcases h with rfl | rfl | rfl | rfl
  · exact ⟨0, by decide, by decide⟩
  · exact ⟨1, by decide, by decide⟩
  · exact ⟨2, by decide, by decide⟩
  · exact ⟨3, by decide, by decide⟩
theorem has_turn (f : Int) (t : Tk) {b : Int} (h : b = 1 ∨ b = 2 ∨ b = 4 ∨ b = 8) : hasP (turnP f t) b = ((hasP f b || hasP t.mn b) && !hasP t.mx b) := by
  obtain ⟨i, hi, hb⟩ := bit_of h
  rw [has_bit _ i hi b hb, has_bit _ i hi b hb, has_bit _ i hi b hb, has_bit _ i hi b hb, turn_bv, BitVec.getLsbD_and, BitVec.getLsbD_or, BitVec.getLsbD_not]
  simp [show i < 64 by omega]
theorem Fl.turn {f h : Int} (H : Fl f h) (t : Tk) : Fl (turnP f t) (turnP h t) := fun b hb => by rw [has_turn f t hb, has_turn h t hb, H b hb]
theorem leafOf_fl {f h : Int} (H : Fl f h) (t : Tk) : leafOf f t = leafOf h t := by
  unfold leafOf foldL
  rw [H 1 (by simp), H 2 (by simp), H 4 (by simp)]
theorem repN_fl {f h : Int} (H : Fl f h) (x : Nd) (L : TL) : repN f x L = repN h x L := by
  unfold repN
  rw [H 8 (by simp)]
/-- Tokens so much further on. -/
def shT (d : Int) (L : TL) : TL := L.map fun p => (p.1 + d, p.2)
theorem shT_cons (d : Int) (p : Int × Tk) (L : TL) : shT d (p :: L) = (p.1 + d, p.2) :: shT d L := rfl
theorem shT_append (d : Int) (A B : TL) : shT d (A ++ B) = shT d A ++ shT d B := List.map_append
theorem kd_sh (d : Int) (L : TL) : kd (shT d L) = kd L := by cases L <;> rfl
theorem hd_sh (d : Int) (L : TL) : hd (shT d L) = hd L := by cases L <;> rfl
theorem tail_sh (d : Int) (L : TL) : (shT d L).tail = shT d L.tail := by cases L <;> rfl
theorem pl_sh (d : Int) {L : TL} (h : kd L ≠ 0) : pl (shT d L) = pl L + d := by
  cases L with
  | nil => exact absurd rfl h
  | cons p L => rfl
theorem pl_sh' (d : Int) {L : TL} (h : L ≠ []) : pl (shT d L) = pl L + d := by
  cases L with
  | nil => exact absurd rfl h
  | cons p L => rfl
theorem repT_sh (d : Int) (L : TL) : repT (shT d L) = shT d (repT L) := by
  unfold repT
  rw [kd_sh, tail_sh]
  split <;> rfl
theorem repN_sh (d f : Int) (x : Nd) (L : TL) : repN f x (shT d L) = repN f x L := by
  unfold repN
  rw [kd_sh, hd_sh]
/-- The same, so much further on. -/
def Sim (d : Int) : PR → PR → Prop
  | .bad a c, R => ∃ a', R = .bad a' c ∧ (c ≠ 0 → a' = a + d)
  | .ok x L f g, R => ∃ f', R = .ok x (shT d L) f' g ∧ Fl f f' ∧ L ≠ []
theorem Ends.ne {L : TL} (h : Ends L) : L ≠ [] := by
  obtain ⟨T, z, rfl, _⟩ := h
  simp
def EndR : PR → Prop
  | .bad _ _ => True
  | .ok _ L _ _ => Ends L
theorem ends_all : ∀ n, (∀ L f g S, Ends L → EndR (altP n L f g S)) ∧ (∀ L f g A, Ends L → EndR (seqP n L f g A)) ∧ (∀ L f g, Ends L → kd L ≠ 0 → EndR (atomP n L f g)) := by
  intro n
  induction n with
  | zero => exact ⟨fun L f g S _ => by rw [altP]; trivial, fun L f g S _ => by rw [seqP]; trivial, fun L f g _ _ => by rw [atomP]; trivial⟩
  | succ n ih =>
    obtain ⟨ha, hs, ht⟩ := ih
    refine ⟨fun L f g S hL => ?_, fun L f g A hL => ?_, fun L f g hL h0 => ?_⟩
    · rw [altP_eq]
      have h := hs L f g [] hL
      cases hq : seqP n L f g [] with
      | bad a e => trivial
      | ok x L' f' g' =>
        rw [hq] at h
        dsimp only
        split
        · rename_i h12
          exact ha _ _ _ _ (h.tail (by omega))
        · exact h
    · rw [seqP_eq]
      split
      · exact hL
      rename_i hne
      split
      · trivial
      split
      · exact hs _ _ _ _ (hL.tail (by omega))
      · have h := ht L f g hL (by omega)
        cases hq : atomP n L f g with
        | bad a e => trivial
        | ok x L' f' g' => rw [hq] at h; exact hs _ _ _ _ h.rep
    · rw [atomP_eq]
      split
      · have h := ha L.tail (turnP f (hd L)) (g + (hd L).num) [] (hL.tail h0)
        cases hq : altP n L.tail (turnP f (hd L)) (g + (hd L).num) [] with
        | bad a e => trivial
        | ok x L' f' g' =>
          rw [hq] at h
          dsimp only
          split
          · exact h.tail (by omega)
          · trivial
      · exact hL.tail h0
theorem sim_all (d : Int) : ∀ n, (∀ L f h g S, Ends L → Fl f h → Sim d (altP n L f g S) (altP n (shT d L) h g S)) ∧ (∀ L f h g A, Ends L → Fl f h → Sim d (seqP n L f g A) (seqP n (shT d L) h g A)) ∧
    (∀ L f h g, Ends L → kd L ≠ 0 → Fl f h → Sim d (atomP n L f g) (atomP n (shT d L) h g)) := by
  intro n
  induction n with
  | zero =>
    refine ⟨fun L f h g S _ _ => ?_, fun L f h g S _ _ => ?_, fun L f h g _ _ _ => ?_⟩
    · rw [altP, altP]; exact ⟨0, rfl, fun e => absurd rfl e⟩
    · rw [seqP, seqP]; exact ⟨0, rfl, fun e => absurd rfl e⟩
    · rw [atomP, atomP]; exact ⟨0, rfl, fun e => absurd rfl e⟩
  | succ n ih =>
    obtain ⟨ha, hs, ht⟩ := ih
    obtain ⟨ea, es, et⟩ := ends_all n
    refine ⟨fun L f h g S hL hf => ?_, fun L f h g A hL hf => ?_, fun L f h g hL h0 hf => ?_⟩
    · rw [altP_eq, altP_eq]
      have hE := es L f g [] hL
      have h1 := hs L f h g [] hL hf
      cases hq : seqP n L f g [] with
      | bad a e =>
        rw [hq] at h1
        obtain ⟨a', e1, e2⟩ := h1
        rw [e1]
        exact ⟨a', rfl, e2⟩
      | ok x L' f' g' =>
        rw [hq] at h1 hE
        obtain ⟨f2, e1, e2, e3⟩ := h1
        rw [e1]
        dsimp only
        rw [kd_sh, tail_sh]
        split
        · exact ha _ _ _ _ _ (Ends.tail hE (by omega)) e2
        · exact ⟨f2, rfl, e2, e3⟩
    · rw [seqP_eq, seqP_eq, kd_sh, hd_sh, tail_sh]
      split
      · exact ⟨h, rfl, hf, hL.ne⟩
      split
      · exact ⟨_, rfl, fun _ => pl_sh d (by omega)⟩
      split
      · exact hs _ _ _ _ _ (hL.tail (by omega)) (hf.turn _)
      · have hE := et L f g hL (by omega)
        have h1 := ht L f h g hL (by omega) hf
        cases hq : atomP n L f g with
        | bad a e =>
          rw [hq] at h1
          obtain ⟨a', e1, e2⟩ := h1
          rw [e1]
          exact ⟨a', rfl, e2⟩
        | ok x L' f' g' =>
          rw [hq] at h1 hE
          obtain ⟨f2, e1, e2, e3⟩ := h1
          rw [e1]
          dsimp only
          rw [repT_sh, repN_sh, ← repN_fl e2]
          exact hs _ _ _ _ _ (Ends.rep hE) e2
    · rw [atomP_eq, atomP_eq, kd_sh, hd_sh, tail_sh]
      split
      · have hE := ea L.tail (turnP f (hd L)) (g + (hd L).num) [] (hL.tail h0)
        have h1 := ha L.tail (turnP f (hd L)) (turnP h (hd L)) (g + (hd L).num) [] (hL.tail h0) (hf.turn _)
        cases hq : altP n L.tail (turnP f (hd L)) (g + (hd L).num) [] with
        | bad a e =>
          rw [hq] at h1
          obtain ⟨a', e1, e2⟩ := h1
          rw [e1]
          exact ⟨a', rfl, e2⟩
        | ok x L' f' g' =>
          rw [hq] at h1 hE
          obtain ⟨f2, e1, e2, e3⟩ := h1
          rw [e1]
          dsimp only
          rw [kd_sh, tail_sh]
          split
          · exact ⟨h, rfl, hf, (Ends.tail hE (by omega)).ne⟩
          · exact ⟨_, rfl, fun _ => pl_sh' d e3⟩
      · rw [leafOf_fl hf]
        exact ⟨h, rfl, hf, (hL.tail h0).ne⟩
/-- Alternatives that leave nothing but the end: with a closing bracket in the end's place the same. -/
def Sw (T : TL) (z : Int × Tk) (Z : TL) : PR → PR → Prop
  | .bad _ _, _ => True
  | .ok x L f g, R => ∃ D, L = D ++ [z] ∧ (∀ p ∈ D, p ∈ T) ∧ R = .ok x (D ++ Z) f g
theorem swap_kd {T Z : TL} {z : Int × Tk} (hz : z.2.kind = 0) (hT : T ≠ []) : kd (T ++ Z) = kd (T ++ [z]) ∧ hd (T ++ Z) = hd (T ++ [z]) ∧ (T ++ Z).tail = T.tail ++ Z ∧ (T ++ [z]).tail = T.tail ++ [z] := by
  cases T with
  | nil => exact absurd rfl hT
  | cons p T => exact ⟨rfl, rfl, rfl, rfl⟩
theorem swap_all (z : Int × Tk) (Z : TL) (hz : z.2.kind = 0) (hZ : kd Z = 0 ∨ kd Z = 11) : ∀ n, (∀ T f g S, (∀ p ∈ T, 1 ≤ p.2.kind) → Sw T z Z (altP n (T ++ [z]) f g S) (altP n (T ++ Z) f g S)) ∧
    (∀ T f g A, (∀ p ∈ T, 1 ≤ p.2.kind) → Sw T z Z (seqP n (T ++ [z]) f g A) (seqP n (T ++ Z) f g A)) ∧
    (∀ T f g, (∀ p ∈ T, 1 ≤ p.2.kind) → T ≠ [] → Sw T z Z (atomP n (T ++ [z]) f g) (atomP n (T ++ Z) f g)) := by
  intro n
  have k0 : kd [z] = 0 := hz
  have mono : ∀ {T T' : TL} {R R' : PR}, (∀ p ∈ T', p ∈ T) → Sw T' z Z R R' → Sw T z Z R R' := by
    intro T T' R R' hs h
    cases R with
    | bad a e => trivial
    | ok x L f g =>
      obtain ⟨D, e1, e2, e3⟩ := h
      exact ⟨D, e1, fun p hp => hs p (e2 p hp), e3⟩
  induction n with
  | zero => exact ⟨fun T f g S _ => by rw [altP]; trivial, fun T f g S _ => by rw [seqP]; trivial, fun T f g _ _ => by rw [atomP]; trivial⟩
  | succ n ih =>
    obtain ⟨ha, hs, ht⟩ := ih
    refine ⟨fun T f g S hT => ?_, fun T f g A hT => ?_, fun T f g hT hne => ?_⟩
    · rw [altP_eq, altP_eq]
      have h1 := hs T f g [] hT
      cases hq : seqP n (T ++ [z]) f g [] with
      | bad a e => trivial
      | ok x L' f' g' =>
        rw [hq] at h1
        obtain ⟨D, e1, e2, e3⟩ := h1
        rw [e3]
        dsimp only
        subst e1
        by_cases hD : D = []
        · subst hD
          rw [if_neg (by show ¬ kd [z] = 12; omega), if_neg (by show ¬ kd Z = 12; omega)]
          exact ⟨[], rfl, e2, rfl⟩
        · obtain ⟨q1, q2, q3, q4⟩ := swap_kd (Z := Z) hz hD
          rw [q1]
          split
          · rw [q3, q4]
            have hm : ∀ p ∈ D.tail, p ∈ T := fun p hp => e2 p (List.mem_of_mem_tail hp)
            exact mono hm (ha D.tail f' g' (S ++ [x]) (fun p hp => hT p (hm p hp)))
          · exact ⟨D, rfl, e2, rfl⟩
    · rw [seqP_eq, seqP_eq]
      by_cases hD : T = []
      · subst hD
        rw [if_pos (.inr (.inr k0)), if_pos (by rcases hZ with h | h <;> simp [h])]
        exact ⟨[], rfl, fun p hp => hp, rfl⟩
      · obtain ⟨q1, q2, q3, q4⟩ := swap_kd (Z := Z) hz hD
        rw [q1, q2, q3, q4]
        have hm : ∀ p ∈ T.tail, p ∈ T := fun p hp => List.mem_of_mem_tail hp
        split
        · exact ⟨T, rfl, fun p hp => hp, rfl⟩
        split
        · trivial
        split
        · exact mono hm (hs T.tail _ g A (fun p hp => hT p (hm p hp)))
        · have h1 := ht T f g hT hD
          cases hq : atomP n (T ++ [z]) f g with
          | bad a e => trivial
          | ok x L' f' g' =>
            rw [hq] at h1
            obtain ⟨D, e1, e2, e3⟩ := h1
            rw [e3]
            dsimp only
            subst e1
            by_cases hD2 : D = []
            · subst hD2
              have r1 : repT ([] ++ [z]) = [] ++ [z] := by unfold repT; rw [if_neg (by show ¬ kd [z] = 8; omega)]
              have r2 : repT ([] ++ Z) = [] ++ Z := by unfold repT; rw [if_neg (by show ¬ kd Z = 8; omega)]
              have r3 : repN f' x ([] ++ [z]) = x := by unfold repN; rw [if_neg (by show ¬ kd [z] = 8; omega)]
              have r4 : repN f' x ([] ++ Z) = x := by unfold repN; rw [if_neg (by show ¬ kd Z = 8; omega)]
              rw [r1, r2, r3, r4]
              exact mono (fun p hp => by cases hp) (hs [] f' g' (A ++ [x]) (fun p hp => by cases hp))
            · obtain ⟨q1, q2, q3, q4⟩ := swap_kd (Z := Z) hz hD2
              have r0 : repN f' x (D ++ Z) = repN f' x (D ++ [z]) := by unfold repN; rw [q1, q2]
              rw [r0]
              unfold repT
              rw [q1]
              split
              · rw [q3, q4]
                have hm2 : ∀ p ∈ D.tail, p ∈ T := fun p hp => e2 p (List.mem_of_mem_tail hp)
                exact mono hm2 (hs D.tail f' g' _ (fun p hp => hT p (hm2 p hp)))
              · exact mono e2 (hs D f' g' _ (fun p hp => hT p (e2 p hp)))
    · obtain ⟨q1, q2, q3, q4⟩ := swap_kd (Z := Z) hz hne
      have hm : ∀ p ∈ T.tail, p ∈ T := fun p hp => List.mem_of_mem_tail hp
      rw [atomP_eq, atomP_eq, q1, q2, q3, q4]
      split
      · have h1 := ha T.tail (turnP f (hd (T ++ [z]))) (g + (hd (T ++ [z])).num) [] (fun p hp => hT p (hm p hp))
        cases hq : altP n (T.tail ++ [z]) (turnP f (hd (T ++ [z]))) (g + (hd (T ++ [z])).num) [] with
        | bad a e => trivial
        | ok x L' f' g' =>
          rw [hq] at h1
          obtain ⟨D, e1, e2, e3⟩ := h1
          rw [e3]
          dsimp only
          subst e1
          by_cases hD2 : D = []
          · subst hD2
            rw [if_neg (by show ¬ kd [z] = 11; omega)]; trivial
          · obtain ⟨p1, p2, p3, p4⟩ := swap_kd (Z := Z) hz hD2
            rw [p1]
            split
            · rw [p3, p4]
              exact ⟨D.tail, rfl, fun p hp => hm p (e2 p (List.mem_of_mem_tail hp)), rfl⟩
            · trivial
      · exact ⟨T.tail, rfl, hm, rfl⟩
/-- Where no group is opened, their number counts for nothing. -/
def Gf (g h : Int) : PR → PR → Prop
  | .bad _ _, _ => True
  | .ok x L f g', R => g ≤ g' ∧ (g' = g → R = .ok x L f h)
theorem free_all : ∀ n, (∀ L f g h S, (∀ p ∈ L, p.2.kind = 9 → 0 ≤ p.2.num) → Gf g h (altP n L f g S) (altP n L f h S)) ∧ (∀ L f g h A, (∀ p ∈ L, p.2.kind = 9 → 0 ≤ p.2.num) → Gf g h (seqP n L f g A) (seqP n L f h A)) ∧
    (∀ L f g h, (∀ p ∈ L, p.2.kind = 9 → 0 ≤ p.2.num) → Gf g h (atomP n L f g) (atomP n L f h)) := by
  intro n
  induction n with
  | zero => exact ⟨fun L f g h S _ => by rw [altP]; trivial, fun L f g h S _ => by rw [seqP]; trivial, fun L f g h _ => by rw [atomP]; trivial⟩
  | succ n ih =>
    obtain ⟨ha, hs, ht⟩ := ih
    obtain ⟨sa, ss, st⟩ := sf_all n
    have tl : ∀ {L : TL}, (∀ p ∈ L, p.2.kind = 9 → 0 ≤ p.2.num) → ∀ p ∈ L.tail, p.2.kind = 9 → 0 ≤ p.2.num := fun hL p hp => hL p (List.mem_of_mem_tail hp)
    refine ⟨fun L f g h S hL => ?_, fun L f g h A hL => ?_, fun L f g h hL => ?_⟩
    · rw [altP_eq, altP_eq]
      have h1 := hs L f g h [] hL
      have hm := ss L f g []
      cases hq : seqP n L f g [] with
      | bad a e => trivial
      | ok x L' f' g' =>
        rw [hq] at h1 hm
        obtain ⟨e1, e2⟩ := h1
        dsimp only
        split
        · rename_i h12
          have h2 := ha L'.tail f' g' h (S ++ [x]) (tl (fun p hp => hL p (Sf.mem hm p hp)))
          cases hq2 : altP n L'.tail f' g' (S ++ [x]) with
          | bad a e => trivial
          | ok x2 L2 f2 g2 =>
            rw [hq2] at h2
            refine ⟨by have := h2.1; omega, fun e => ?_⟩
            have e9 : g' = g := by have := h2.1; omega
            rw [e2 e9]
            dsimp only
            rw [if_pos h12]
            exact h2.2 (by omega)
        · rename_i h12
          refine ⟨e1, fun e => ?_⟩
          rw [e2 e]
          dsimp only
          rw [if_neg h12]
    · rw [seqP_eq, seqP_eq]
      split
      · exact ⟨Int.le_refl _, fun _ => rfl⟩
      split
      · trivial
      split
      · exact hs _ _ _ _ _ (tl hL)
      · have h1 := ht L f g h hL
        have hm := (st L f g).1
        cases hq : atomP n L f g with
        | bad a e => trivial
        | ok x L' f' g' =>
          rw [hq] at h1 hm
          obtain ⟨e1, e2⟩ := h1
          dsimp only
          have h2 := hs (repT L') f' g' h (A ++ [repN f' x L']) (fun p hp => hL p (Sf.mem (Sf.rep hm) p hp))
          cases hq2 : seqP n (repT L') f' g' (A ++ [repN f' x L']) with
          | bad a e => trivial
          | ok x2 L2 f2 g2 =>
            rw [hq2] at h2
            refine ⟨by have := h2.1; omega, fun e => ?_⟩
            have e9 : g' = g := by have := h2.1; omega
            rw [e2 e9]
            exact h2.2 (by omega)
    · rw [atomP_eq, atomP_eq]
      split
      · rename_i h9
        have hn : 0 ≤ (hd L).num := by
          cases L with
          | nil => show (0:Int) ≤ ({} : Tk).num; decide
          | cons p L => exact hL p (by simp) h9
        have h1 := ha L.tail (turnP f (hd L)) (g + (hd L).num) (h + (hd L).num) [] (tl hL)
        cases hq : altP n L.tail (turnP f (hd L)) (g + (hd L).num) [] with
        | bad a e => trivial
        | ok x L' f' g' =>
          rw [hq] at h1
          obtain ⟨e1, e2⟩ := h1
          dsimp only
          split
          · rename_i h11
            refine ⟨by omega, fun e => ?_⟩
            have hz : (hd L).num = 0 := by omega
            rw [e2 (by omega)]
            dsimp only
            rw [if_pos h11, if_pos hz, if_pos hz, hz, Int.add_zero]
          · trivial
      · exact ⟨Int.le_refl _, fun _ => rfl⟩
end Go.Proofs.YtdcielcniboloaaGreatDoor.Ps
namespace Go.Proofs.YtdcielcniboloaaGreatDoor
open Go.RowKit
set_option linter.unusedVariables false
/-- A row of steps that a call owns; the nodes themselves lie in the world that the call began in. -/
def StOwn (Wb W : World) (v : Value) (L : List (Nat × Nd)) : Prop :=
  ∃ X : List (List Value), X.length = L.length ∧ W.ownsRow Wb.heap.size 105 9 v L.length X.flatten ∧
    ∀ j (h : j < L.length), ∃ cs, X[j]? = some (.int .i64 (L[j].1 : Int) :: cs) ∧ NdIs Wb L[j].2 cs
theorem StOwn.snoc {Wb W' : World} {v' : Value} {L : List (Nat × Nd)} {X : List (List Value)} (hX : X.length = L.length) (hc : ∀ j (h : j < L.length), ∃ cs, X[j]? = some (.int .i64 (L[j].1 : Int) :: cs) ∧ NdIs Wb L[j].2 cs)
    {d : Nat} {n : Nd} {cs : List Value} (hn : NdIs Wb n cs) (hown : W'.ownsRow Wb.heap.size 105 9 v' (L.length + 1) (X.flatten ++ (.int .i64 (d : Int) :: cs))) : StOwn Wb W' v' (L ++ [(d, n)]) := by
  refine ⟨X ++ [.int .i64 (d : Int) :: cs], by simp [hX], by simpa using hown, fun j h => ?_⟩
  by_cases hj : j < L.length
  · obtain ⟨c, h1, h2⟩ := hc j hj
    refine ⟨c, ?_, ?_⟩
    · rw [List.getElem?_append_left (by omega), List.getElem_append_left hj]; exact h1
    · rw [List.getElem_append_left hj]; exact h2
  · have hj2 : j = L.length := by simp at h; omega
    subst hj2
    refine ⟨cs, ?_, ?_⟩
    · rw [List.getElem?_append_right (by omega)]; simp [hX]
    · simpa using hn
theorem Td.flat_succ (l : List Nd) (f : Nd → List (Nat × Nd)) (k : Nat) (m : Nd) (hk : l[k]? = some m) : (l.take (k + 1)).flatMap f = (l.take k).flatMap f ++ f m := by
  obtain ⟨h, rfl⟩ := List.getElem?_eq_some_iff.1 hk
  rw [List.take_succ_eq_append_getElem h, List.flatMap_append]; simp
theorem Td.flat_le (l : List Nd) (f : Nd → List (Nat × Nd)) (k : Nat) : ((l.take k).flatMap f).length ≤ (l.flatMap f).length := by
  have h : l.flatMap f = (l.take k).flatMap f ++ (l.drop k).flatMap f := by rw [← List.flatMap_append, List.take_append_drop]
  rw [h, List.length_append]; omega
theorem Td.all_len_pos (k d : Nat) (n : Nd) : 1 ≤ (Td.all (k + 1) d n).length := by rw [Td.all]; simp
end Go.Proofs.YtdcielcniboloaaGreatDoor
namespace Go.Proofs.YtdcielcniboloaaGreatDoor
open Go.RowKit
set_option linter.unusedVariables false
theorem flat9_at : ∀ (X : List (List Value)), (∀ x ∈ X, x.length = 9) → ∀ (j q : Nat) (x : List Value), X[j]? = some x → q < 9 → X.flatten[j * 9 + q]? = x[q]?
  | [], _, j, q, x, hx, _ => by simp at hx
  | y :: X, h, 0, q, x, hx, hq => by
    simp at hx
    subst hx
    have hy := h y (by simp)
    rw [List.flatten_cons, List.getElem?_append_left (by omega)]; simp
  | y :: X, h, j + 1, q, x, hx, hq => by
    have hy := h y (by simp)
    rw [List.flatten_cons, List.getElem?_append_right (by omega)]
    have := flat9_at X (fun x hx => h x (List.mem_cons_of_mem _ hx)) j q x (by simpa using hx) hq
    rw [← this]; congr 1; omega
/-- A step of an owned row, laid open. -/
theorem StOwn.at {Wb W : World} {v : Value} {L : List (Nat × Nd)} (h : StOwn Wb W v L) (j : Nat) (hj : j < L.length) : ∃ g cap cs, v = .slice (some ⟨g, 0, none⟩) L.length cap ∧ Wb.heap.size ≤ g ∧ g < W.heap.size ∧
    W.cell? ⟨g, j * 9, none⟩ = some (.int .i64 (L[j].1 : Int)) ∧ NdIs Wb L[j].2 cs ∧ ∀ q, q < 8 → W.cell? ⟨g, j * 9 + 1 + q, none⟩ = cs[q]? := by
  obtain ⟨X, h1, h2, h3⟩ := h
  obtain ⟨g, cap, rfl, hb, hg⟩ := World.ownsRow.form h2 (by omega)
  obtain ⟨cs, hx, hn⟩ := h3 j hj
  have h9 : ∀ x ∈ X, x.length = 9 := fun x hx => by
    obtain ⟨i, hi, rfl⟩ := List.getElem_of_mem hx
    obtain ⟨c, e, hc⟩ := h3 i (by omega)
    rw [List.getElem?_eq_getElem hi] at e
    rw [Option.some.inj e]
    simp [hc.len]
  refine ⟨g, cap, cs, rfl, hb, hg, ?_, hn, fun q hq => ?_⟩
  · have := World.ownsRow.cellAt h2 (j * 9) (by omega)
    rw [this]
    have h5 := flat9_at X h9 j 0 _ hx (by omega)
    simpa using h5
  · have := World.ownsRow.cellAt h2 (j * 9 + 1 + q) (by omega)
    rw [this]
    have h5 := flat9_at X h9 j (1 + q) _ hx (by omega)
    rw [show j * 9 + 1 + q = j * 9 + (1 + q) from by omega, h5, show 1 + q = q + 1 from by omega]; simp
theorem StOwn.slice {Wb W : World} {v : Value} {L : List (Nat × Nd)} (h : StOwn Wb W v L) : ∃ a cap, v = .slice a L.length cap := by
  obtain ⟨X, h1, h2, h3⟩ := h
  rcases h2.2 with ⟨e, e0⟩ | ⟨g, cap, cur, e, _⟩
  · exact ⟨none, 0, by rw [e, e0]⟩
  · exact ⟨_, _, e⟩
theorem StOwn.nil (W : World) : StOwn W W (.slice none 0 0) [] := ⟨[], rfl, World.ownsRow_nil _ _ _ _, fun j h => absurd h (by simp)⟩
/-- A row of texts that a call owns. -/
def TxOwn (W : World) (base : Nat) (v : Value) (T : List ByteArray) : Prop := W.ownsRow base 9 1 v T.length (T.map Value.string)
theorem Tryz.infoText : (Tryz.prog.info? 9).map (fun i => (i.zero, i.size, i.bytes)) = some (some (.string ⟨#[]⟩), 1, 16) := by kernel_rfl
theorem Tryz.underText : Tryz.prog.underlying 35 = some (.slice 9) := by kernel_rfl
namespace Td
/-- The names of the groups among nodes. -/
def groups (l : List (Nat × Nd)) : List ByteArray := (l.filter (fun p => kind p.2 == 6)).map (fun p => name p.2)
end Td

























































































end Go.Proofs.YtdcielcniboloaaGreatDoor
