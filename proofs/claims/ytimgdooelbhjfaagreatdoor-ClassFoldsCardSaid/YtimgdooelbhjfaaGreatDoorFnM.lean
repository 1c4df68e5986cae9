/- The plain mathematics of the landed fold: blocks, partners, the walk round a family; no program. -/
import Derived.Test.YtimgdooelbhjfaaGreatDoorFoldMath
namespace Go.Proofs.YtimgdooelbhjfaaGreatDoor.Fd
set_option linter.unusedVariables false
abbrev Blk := Int × Int × Int
def blocksL : List Blk := [(65, 90, 32), (192, 214, 32), (216, 222, 32), (913, 929, 32), (931, 939, 32), (1040, 1071, 32), (1024, 1039, 80), (255, 255, 121), (181, 181, 743), (931, 931, 31), (75, 75, 8415), (197, 197, 8294), (83, 83, 300), (937, 937, 7549)]
theorem blocks_len : blocksL.length = 14 := rfl
def partner (b : Blk) (x : Int) : Int :=
  if b.1 ≤ x ∧ x ≤ b.2.1 then x + b.2.2 else if b.1 + b.2.2 ≤ x ∧ x ≤ b.2.1 + b.2.2 then x - b.2.2 else x
def addB (x : Int) (o : List Int) (b : Blk) : List Int := if joinB o (partner b x) then o else o ++ [partner b x]
def scan (x : Int) (o : List Int) : List Int := blocksL.foldl (addB x) o
def walkL (r : Int) : Nat → List Int
  | 0 => [r]
  | v + 1 => scan ((walkL r v)[v]?.getD 0) (walkL r v)
theorem addB_len (x : Int) (o : List Int) (b : Blk) : o.length ≤ (addB x o b).length ∧ (addB x o b).length ≤ o.length + 1 := by
  unfold addB; split <;> simp
theorem scan_len (x : Int) : ∀ (bs : List Blk) (o : List Int), o.length ≤ (bs.foldl (addB x) o).length ∧ (bs.foldl (addB x) o).length ≤ o.length + bs.length
  | [], o => by simp
  | b :: bs, o => by
    have h1 := addB_len x o b
    have h2 := scan_len x bs (addB x o b)
    rw [List.foldl_cons, List.length_cons]; omega
theorem walk_len (r : Int) : ∀ v, 1 ≤ (walkL r v).length ∧ (walkL r v).length ≤ 1 + v * 14
  | 0 => ⟨Nat.le_refl _, Nat.le_refl _⟩
  | v + 1 => by
    have h1 := walk_len r v
    have h2 := scan_len ((walkL r v)[v]?.getD 0) blocksL (walkL r v)
    rw [blocks_len] at h2
    show 1 ≤ (scan _ _).length ∧ (scan _ _).length ≤ _
    unfold scan; omega
/-- What is in no pair has no partner. -/
theorem partner_none {r : Int} (h : r ∉ members) : ∀ b ∈ blocksL, partner b r = r := by
  have hf : ∀ b ∈ blocksL, ∀ x, b.1 ≤ x → x ≤ b.2.1 → x ∈ membersE ∧ x + b.2.2 ∈ membersE := by
    have hd : (blocksL.all fun b => (List.range (b.2.1 - b.1 + 1).toNat).all fun (i : Nat) => joinB membersE (b.1 + i) && joinB membersE (b.1 + i + b.2.2)) = true := by decide +kernel
    intro b hb x h1 h2
    have h3 := List.all_eq_true.1 (List.all_eq_true.1 hd b hb) (x - b.1).toNat (List.mem_range.2 (by omega))
    simp only [Bool.and_eq_true, joinB_iff] at h3
    rw [show b.1 + (((x - b.1).toNat : Nat) : Int) = x from by omega] at h3
    exact h3
  intro b hb
  unfold partner
  by_cases h1 : b.1 ≤ r ∧ r ≤ b.2.1
  · exact absurd (by rw [← membersE_eq]; exact (hf b hb r h1.1 h1.2).1) h
  · rw [if_neg h1]
    by_cases h2 : b.1 + b.2.2 ≤ r ∧ r ≤ b.2.1 + b.2.2
    · refine absurd ?_ h
      rw [← membersE_eq]
      have := (hf b hb (r - b.2.2) (by omega) (by omega)).2
      rwa [show r - b.2.2 + b.2.2 = r from by omega] at this
    · rw [if_neg h2]
theorem scan_none {r : Int} : ∀ (bs : List Blk), (∀ b ∈ bs, partner b r = r) → bs.foldl (addB r) [r] = [r]
  | [], _ => rfl
  | b :: bs, h => by
    have : addB r [r] b = [r] := by
      unfold addB; rw [h b (by simp), if_pos ((joinB_iff _ _).2 (by simp))]
    rw [List.foldl_cons, this]
    exact scan_none bs fun c hc => h c (by simp [hc])
/-- The same, so written that it reckons fast. -/
def scanF (x : Int) : List Blk → List Int → List Int
  | [], o => o
  | b :: bs, o => force (addB x o b) (scanF x bs)
theorem scanF_eq (x : Int) : ∀ (bs : List Blk) (o : List Int), scanF x bs o = bs.foldl (addB x) o
  | [], _ => rfl
  | b :: bs, o => by rw [scanF, force_eq, List.foldl_cons, scanF_eq x bs]
def walkF (r : Int) : Nat → List Int
  | 0 => [r]
  | v + 1 => force (walkF r v) fun o => scanF (o[v]?.getD 0) blocksL o
theorem walkF_eq (r : Int) : ∀ v, walkF r v = walkL r v
  | 0 => rfl
  | v + 1 => by rw [walkF, force_eq, scanF_eq, walkF_eq r v]; rfl
/-- Where the walk ends, and that it goes on till then. -/
def okW (r : Int) (N : Nat) : Bool := decide (1 ≤ N) && decide (N ≤ 3) && decide ((walkF r N).length = N) && ((List.range N).all fun v => decide (v < (walkF r v).length)) && (walkF r N).isPerm (famF r)
theorem walks_ok : (membersE.all fun r => okW r 2 || okW r 3) = true := by decide +kernel
theorem walk_cases (r : Int) : ∃ N, 1 ≤ N ∧ N ≤ 3 ∧ (walkL r N).length = N ∧ (∀ v, v < N → v < (walkL r v).length) ∧ (walkL r N).Perm (fam r) := by
  have hk : ∀ N, okW r N = true → 1 ≤ N ∧ N ≤ 3 ∧ (walkL r N).length = N ∧ (∀ v, v < N → v < (walkL r v).length) ∧ (walkL r N).Perm (fam r) := by
    intro N h
    simp only [okW, Bool.and_eq_true, decide_eq_true_eq, List.all_eq_true, List.mem_range, walkF_eq, List.isPerm_iff, famF_eq] at h
    exact ⟨h.1.1.1.1, h.1.1.1.2, h.1.1.2, h.1.2, h.2⟩
  by_cases h : r ∈ members
  · have h1 := List.all_eq_true.1 walks_ok r (by rw [membersE_eq]; exact h)
    rw [Bool.or_eq_true] at h1
    rcases h1 with h1 | h1
    · exact ⟨2, hk 2 h1⟩
    · exact ⟨3, hk 3 h1⟩
  · have e : walkL r 1 = [r] := by
      have h0 : walkL r 1 = scan r [r] := rfl
      rw [h0]; unfold scan; exact scan_none blocksL (partner_none h)
    refine ⟨1, Nat.le_refl _, by omega, by rw [e]; rfl, fun v hv => ?_, ?_⟩
    · obtain rfl : v = 0 := by omega
      exact Nat.zero_lt_one
    · rcases fam_cases r with ⟨_, h1⟩ | ⟨h1, _⟩
      · rw [e, h1]
      · exact absurd h1 h
/-- Sorted, what the walk found is the family. -/
theorem sorted_fam {r : Int} {l : List Int} (h : l.Perm (fam r)) : (l.mergeSort fun x y => decide (x ≤ y)) = fam r := by
  have hs : (l.mergeSort fun x y => decide (x ≤ y)).Pairwise (fun a b => a ≤ b) := by
    have := List.pairwise_mergeSort (le := fun (x y : Int) => decide (x ≤ y)) (fun a b c h1 h2 => by simp only [decide_eq_true_eq] at *; omega) (fun a b => by simp only [Bool.or_eq_true, decide_eq_true_eq]; omega) l
    exact this.imp (fun h => by simpa using h)
  have hp : (l.mergeSort fun x y => decide (x ≤ y)).Perm (fam r) := (List.mergeSort_perm _ _).trans h
  exact hp.eq_of_pairwise (le := fun a b => a ≤ b) (fun a b _ _ h1 h2 => by omega) hs ((fam_asc r).imp (fun h => by omega))
end Go.Proofs.YtimgdooelbhjfaaGreatDoor.Fd
