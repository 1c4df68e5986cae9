/- The plain mathematics of the landed Close: the ranges of what is in a pair, the families of a list. -/
import Derived.Test.YtimgdooelbhjfaaGreatDoorFnM
import Derived.Test.YtimgdooelbhjfaaGreatDoorRf3M
namespace Go.Proofs.YtimgdooelbhjfaaGreatDoor.Fd
open Go.Proofs.YtimgdooelbhjfaaGreatDoor.Rg
set_option linter.unusedVariables false
def pairedOf (bs : List Blk) : List R := bs.flatMap fun b => [(b.1, b.2.1), (b.1 + b.2.2, b.2.1 + b.2.2)]
def pairedL : List R := pairedOf blocksL
theorem pairedOf_len (bs : List Blk) : (pairedOf bs).length = bs.length * 2 := by
  induction bs with
  | nil => rfl
  | cons b bs ih => unfold pairedOf at *; rw [List.flatMap_cons, List.length_append, ih]; simp; omega
theorem pairedOf_succ (i : Nat) (hi : i < 14) : pairedOf (blocksL.take (i + 1)) = pairedOf (blocksL.take i) ++ [((blocksL[i]?.getD (0, 0, 0)).1, (blocksL[i]?.getD (0, 0, 0)).2.1), ((blocksL[i]?.getD (0, 0, 0)).1 + (blocksL[i]?.getD (0, 0, 0)).2.2, (blocksL[i]?.getD (0, 0, 0)).2.1 + (blocksL[i]?.getD (0, 0, 0)).2.2)] := by
  unfold pairedOf
  rw [List.take_succ_eq_append_getElem (by rw [blocks_len]; exact hi), List.flatMap_append, List.getElem?_eq_getElem (by rw [blocks_len]; exact hi)]
  simp
theorem paired_bd : ∀ p ∈ pairedL, 0 ≤ p.1 ∧ p.1 ≤ 10000 ∧ 0 ≤ p.2 ∧ p.2 ≤ 10000 := by decide +kernel
theorem paired_all : (membersE.all fun x => hasB pairedL x) = true := by decide +kernel
theorem paired_has {x : Int} (h : x ∈ members) : hasB pairedL x = true := by
  rw [← membersE_eq] at h; exact List.all_eq_true.1 paired_all x h
def famsUp (lo : Int) : Nat → List R
  | 0 => []
  | k + 1 => famsUp lo k ++ (fam (lo + k)).map one
def famsR (x : R) : List R := famsUp x.1 (x.2 - x.1 + 1).toNat
def famsL (B : List R) : List R := B.flatMap famsR
theorem famsUp_len (lo : Int) : ∀ k, (famsUp lo k).length ≤ 3 * k
  | 0 => Nat.le_refl _
  | k + 1 => by
    have h1 := famsUp_len lo k
    have h2 := (fam_len (lo + k)).2
    rw [famsUp, List.length_append, List.length_map]; omega
theorem famsUp_mem (lo : Int) : ∀ k p, p ∈ famsUp lo k ↔ ∃ j : Nat, j < k ∧ ∃ q ∈ fam (lo + j), p = one q
  | 0, p => by simp [famsUp]
  | k + 1, p => by
    rw [famsUp, List.mem_append, famsUp_mem lo k, List.mem_map]
    constructor
    · rintro (⟨j, hj, h⟩ | ⟨q, hq, rfl⟩)
      · exact ⟨j, by omega, h⟩
      · exact ⟨k, by omega, q, hq, rfl⟩
    · rintro ⟨j, hj, q, hq, rfl⟩
      by_cases e : j = k
      · subst e; exact .inr ⟨q, hq, rfl⟩
      · exact .inl ⟨j, by omega, q, hq, rfl⟩
theorem famsL_mem (B : List R) (p : R) : p ∈ famsL B ↔ ∃ x ∈ B, ∃ r, x.1 ≤ r ∧ r ≤ x.2 ∧ ∃ q ∈ fam r, p = one q := by
  unfold famsL famsR
  rw [List.mem_flatMap]
  constructor
  · rintro ⟨x, hx, hp⟩
    rw [famsUp_mem] at hp
    obtain ⟨j, hj, q, hq, e⟩ := hp
    exact ⟨x, hx, x.1 + j, by omega, by omega, q, hq, e⟩
  · rintro ⟨x, hx, r, h1, h2, q, hq, e⟩
    refine ⟨x, hx, ?_⟩
    rw [famsUp_mem]
    refine ⟨(r - x.1).toNat, by omega, q, ?_, e⟩
    rwa [show x.1 + (((r - x.1).toNat : Nat) : Int) = r by omega]
theorem famsL_len : ∀ (B : List R) (lo : Int) (k : Nat), NormFrom lo B → lo ≤ 1114113 → ((famsL (B.take k)).length : Int) ≤ 3 * (1114113 - lo)
  | [], lo, k, _, h => by simp [famsL]; omega
  | p :: B, lo, 0, _, h => by simp [famsL]; omega
  | p :: B, lo, k + 1, ⟨h1, h2, h3, h4⟩, h => by
    have ih := famsL_len B (p.2 + 2) k h4 (by omega)
    have hu := famsUp_len p.1 (p.2 - p.1 + 1).toNat
    have e : famsL ((p :: B).take (k + 1)) = famsR p ++ famsL (B.take k) := by simp [famsL]
    rw [e, List.length_append]
    unfold famsR
    push_cast
    omega
theorem famsL_take {B : List R} (h : NormL B) (k : Nat) : (famsL (B.take k)).length ≤ 3342339 := by
  have := famsL_len B 0 k h (by omega)
  omega
theorem famsL_succ (B : List R) (j : Nat) (hj : j < B.length) : famsL (B.take (j + 1)) = famsL (B.take j) ++ famsR (B[j]?.getD (0, 0)) := by
  unfold famsL
  rw [List.take_succ_eq_append_getElem hj, List.flatMap_append, List.getElem?_eq_getElem hj]
  simp
theorem famsL_wide {B : List R} (h : NormL B) : ∀ p ∈ famsL B, -9223372036854775808 ≤ p.1 ∧ p.1 ≤ 9223372036854775807 ∧ -9223372036854775808 ≤ p.2 ∧ p.2 ≤ 9223372036854775807 := by
  intro p hp
  obtain ⟨x, hx, r, h1, h2, q, hq, rfl⟩ := (famsL_mem B p).1 hp
  have hn := norm_lo B 0 h x hx
  have hb := fam_bd hq
  show -9223372036854775808 ≤ q ∧ q ≤ 9223372036854775807 ∧ -9223372036854775808 ≤ q ∧ q ≤ 9223372036854775807
  omega
/-- What the landed Close hands back: the list, and what is in a pair with its families. -/
theorem close_ok {l B out : List R} (hB : Made 2 l pairedL B) (ho : Made 1 l (famsL B) out) (q : Int) : hasB out q = clB l q := by
  by_cases hq : 0 ≤ q ∧ q ≤ 1114111
  · rw [ho.has q hq.1 hq.2]
    rw [show opB 1 (hasB l q) (hasB (famsL B) q) = (hasB l q || hasB (famsL B) q) by simp [opB]]
    rw [Bool.eq_iff_iff, Bool.or_eq_true]
    unfold clB
    rw [Bool.and_eq_true, decide_eq_true_eq]
    constructor
    · rintro (h | h)
      · exact ⟨hq, List.any_eq_true.2 ⟨q, fam_self q, h⟩⟩
      · obtain ⟨_, p, hp, h1, h2⟩ := (hasB_iff _ _).1 h
        obtain ⟨x, hx, r, hr1, hr2, q', hq', rfl⟩ := (famsL_mem B p).1 hp
        have e : q = q' := by
          have h1' : q' ≤ q := h1
          have h2' : q ≤ q' := h2
          omega
        subst e
        have hxn := norm_lo B 0 hB.norm x hx
        have hbr : hasB B r = true := (hasB_iff _ _).2 ⟨by omega, x, hx, hr1, hr2⟩
        rw [hB.has r (by omega) (by omega)] at hbr
        have hlr : hasB l r = true := by
          have : (hasB l r && hasB pairedL r) = true := by simpa [opB] using hbr
          exact (Bool.and_eq_true _ _ ▸ this).1
        exact ⟨hq, List.any_eq_true.2 ⟨r, by rw [fam_same hq']; exact fam_self r, hlr⟩⟩
    · rintro ⟨_, hany⟩
      obtain ⟨y, hy, hly⟩ := List.any_eq_true.1 hany
      by_cases e : y = q
      · subst e; exact .inl hly
      · refine .inr ?_
        have hym : y ∈ members := by
          rcases fam_cases y with ⟨_, h1⟩ | ⟨h1, _⟩
          · exfalso
            have hsq := fam_self q
            rw [← fam_same hy, h1] at hsq
            exact e (List.mem_singleton.1 hsq).symm
          · exact h1
        have hyb : 0 ≤ y ∧ y ≤ 1114111 := ((hasB_iff l y).1 hly).1
        have hby : hasB B y = true := by
          rw [hB.has y hyb.1 hyb.2]
          rw [hly, paired_has hym]; rfl
        obtain ⟨_, x, hx, h1, h2⟩ := (hasB_iff _ _).1 hby
        refine (hasB_iff _ _).2 ⟨hq, one q, (famsL_mem B _).2 ⟨x, hx, y, h1, h2, q, by rw [fam_same hy]; exact fam_self q, rfl⟩, Int.le_refl _, Int.le_refl _⟩
  · have e1 : ∀ m, hasB m q = false := fun m => by unfold hasB; rw [decide_eq_false hq, Bool.false_and]
    unfold clB
    rw [e1, decide_eq_false hq, Bool.false_and]
end Go.Proofs.YtimgdooelbhjfaaGreatDoor.Fd
