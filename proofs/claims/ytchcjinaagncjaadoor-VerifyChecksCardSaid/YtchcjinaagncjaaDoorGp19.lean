/- What can be reached from where a program starts: mathematics. -/
import Derived.Test.YtchcjinaagncjaaDoorGp9
namespace Go.Proofs.YtchcjinaagncjaaDoor.Pgm
set_option linter.unusedVariables false
/-- What an instruction leads to, by its number. -/
def tin (l : List In) (j : Nat) : List Nat := match l[j]? with | some i => tgN i | none => []
theorem tin_at {l : List In} {j : Nat} (h : j < l.length) : tin l j = tgN l[j] := by unfold tin; rw [List.getElem?_eq_getElem h]
theorem tin_lt {l : List In} (hT : Tg l) {j t : Nat} (h : t ∈ tin l j) : t < l.length := by
  unfold tin at h
  split at h
  · rename_i i hi
    obtain ⟨z, hz, rfl⟩ := List.mem_map.1 h
    obtain ⟨h1, h2⟩ := hT i (List.mem_of_getElem? hi) z hz
    omega
  · cases h
inductive Rch (l : List In) (s : Nat) : Nat → Prop
  | start : Rch l s s
  | step {a t : Nat} : Rch l s a → t ∈ tin l a → Rch l s t
/-- All that is reached, in ascending order. -/
noncomputable def rchL (l : List In) (s : Nat) : List Nat := (List.range l.length).filter fun i => @decide (Rch l s i) (Classical.propDecidable _)
theorem rch_lt {l : List In} (hT : Tg l) {s : Nat} (hs : s < l.length) : ∀ {i}, Rch l s i → i < l.length := fun h => by
  cases h with
  | start => exact hs
  | step _ h2 => exact tin_lt hT h2
theorem rchL_is {l : List In} {s : Nat} {K : Nat → Bool} (h : ∀ i, i < l.length → (K i = true ↔ Rch l s i)) : (List.range l.length).filter K = rchL l s := by
  unfold rchL
  apply List.filter_congr
  intro i hi
  have := h i (List.mem_range.1 hi)
  apply Bool.eq_iff_iff.2
  rw [this]
  simp
/-- What is known, what is open, and which one is being looked at. -/
structure RI (l : List In) (s : Nat) (K : Nat → Bool) (O : List Nat) (cur : Option Nat) : Prop where
  snd : ∀ i, i < l.length → K i = true → Rch l s i
  st : K s = true
  opn : ∀ i ∈ O, i < l.length ∧ K i = true
  cls : ∀ i, i < l.length → K i = true → i ∉ O → cur ≠ some i → ∀ t ∈ tin l i, K t = true
theorem RI.start {l : List In} {s : Nat} (hs : s < l.length) : RI l s (fun j => decide (j = s)) [s] none := by
  refine ⟨fun i _ h => ?_, by simp, fun i hi => ?_, fun i _ h hn => ?_⟩
  · rw [decide_eq_true_iff] at h; subst h; exact .start
  · rw [List.mem_singleton] at hi; subst hi; exact ⟨hs, by simp⟩
  · rw [decide_eq_true_iff] at h; subst h; exact absurd (List.mem_singleton.2 rfl) hn
theorem RI.pop {l : List In} {s : Nat} {K : Nat → Bool} {O : List Nat} {i : Nat} (h : RI l s K (O ++ [i]) none) : RI l s K O (some i) ∧ i < l.length ∧ K i = true := by
  obtain ⟨h1, h2⟩ := h.opn i (by simp)
  refine ⟨⟨h.snd, h.st, fun j hj => h.opn j (by simp [hj]), fun j hj hk hn hc => h.cls j hj hk (fun hm => ?_) (by simp)⟩, h1, h2⟩
  rcases List.mem_append.1 hm with h9 | h9
  · exact hn h9
  · rw [List.mem_singleton] at h9; exact hc (by rw [h9])
theorem RI.mark {l : List In} {s : Nat} {K : Nat → Bool} {O : List Nat} {i t : Nat} (hT : Tg l) (h : RI l s K O (some i)) (hi : i < l.length) (hk : K i = true) (ht : t ∈ tin l i) : RI l s (fun j => K j || decide (j = t)) (O ++ [t]) (some i) := by
  have htl := tin_lt hT ht
  refine ⟨fun j hj hk2 => ?_, by simp [h.st], fun j hj => ?_, fun j hj hk2 hn hc u hu => ?_⟩
  · rw [Bool.or_eq_true, decide_eq_true_iff] at hk2
    rcases hk2 with h9 | h9
    · exact h.snd j hj h9
    · subst h9; exact .step (h.snd i hi hk) ht
  · rcases List.mem_append.1 hj with h9 | h9
    · obtain ⟨q1, q2⟩ := h.opn j h9
      exact ⟨q1, by simp [q2]⟩
    · rw [List.mem_singleton] at h9; subst h9; exact ⟨htl, by simp⟩
  · rw [Bool.or_eq_true, decide_eq_true_iff] at hk2
    simp only [List.mem_append, List.mem_singleton, not_or] at hn
    rcases hk2 with h9 | h9
    · simp [h.cls j hj h9 hn.1 hc u hu]
    · exact absurd h9 hn.2
theorem RI.done {l : List In} {s : Nat} {K : Nat → Bool} {O : List Nat} {i : Nat} (h : RI l s K O (some i)) (ha : ∀ t ∈ tin l i, K t = true) : RI l s K O none :=
  ⟨h.snd, h.st, h.opn, fun j hj hk hn _ t ht => by
    by_cases e : i = j
    · subst e; exact ha t ht
    · exact h.cls j hj hk hn (fun h9 => e (Option.some.inj h9)) t ht⟩
theorem RI.fin {l : List In} {s : Nat} {K : Nat → Bool} (hT : Tg l) (hs : s < l.length) (h : RI l s K [] none) : ∀ i, i < l.length → (K i = true ↔ Rch l s i) := fun i hi => by
  refine ⟨h.snd i hi, fun hr => ?_⟩
  induction hr with
  | start => exact h.st
  | step hr ht ih => exact h.cls _ (rch_lt hT hs hr) (ih (rch_lt hT hs hr)) (by simp) (by simp) _ ht
def unk (n : Nat) (K : Nat → Bool) : Nat := ((List.range n).filter fun j => !K j).length
theorem ones_sum : ∀ L : List Nat, (L.map fun _ => 1).sum = L.length
  | [] => rfl
  | _ :: L => by rw [List.map_cons, List.sum_cons, ones_sum L, List.length_cons]; omega
theorem unk_mark {n t : Nat} {K : Nat → Bool} (ht : t < n) (hk : K t = false) : unk n (fun j => K j || decide (j = t)) + 1 = unk n K := by
  have h := sum_filter_ne (f := fun _ => 1) (fun j => !K j) t (List.range n) List.nodup_range (List.mem_range.2 ht) (by simp [hk])
  rw [ones_sum, ones_sum] at h
  unfold unk
  rw [← h]
  congr 2
  apply List.filter_congr
  intro x _
  simp
end Go.Proofs.YtchcjinaagncjaaDoor.Pgm
