/- A region that draws its order, by an invariant: what every operation keeps, whichever comes next, holds at the end. -/
import Derived.OrdersIn
namespace Go.Proofs.Ytjeebamllahgkaa
open Go
def unl (n : Nat) (listed : Array Bool) : Nat := ((List.range n).filter fun i => !listed.getD i true).length
theorem unl_set {n i : Nat} {listed : Array Bool} (hi : i < n) (h : listed.getD i true = false) : unl n (listed.setIfInBounds i true) < unl n listed := by
  have hin : i < listed.size := by
    rcases Nat.lt_or_ge i listed.size with h' | h'
    · exact h'
    · rw [Array.getD_eq_getD_getElem?, Array.getElem?_eq_none h'] at h; simp at h
  unfold unl
  have key : ∀ (l : List Nat), i ∈ l → ((l.filter fun k => !(listed.setIfInBounds i true).getD k true).length < (l.filter fun k => !listed.getD k true).length) ∧ True := by
    have le : ∀ (l : List Nat), (l.filter fun k => !(listed.setIfInBounds i true).getD k true).length ≤ (l.filter fun k => !listed.getD k true).length := by
      intro l
      induction l with
      | nil => simp
      | cons a l ih =>
        by_cases e : a = i
        · subst e
          have e1 : (listed.setIfInBounds a true).getD a true = true := by simp [Array.getD_eq_getD_getElem?, hin]
          simp only [List.filter_cons, e1, h, Bool.not_true, Bool.not_false, Bool.false_eq_true, if_false, if_true, List.length_cons]
          omega
        · have e1 : (listed.setIfInBounds i true).getD a true = listed.getD a true := by
            simp only [Array.getD_eq_getD_getElem?, Array.getElem?_setIfInBounds_ne (Ne.symm e)]
          simp only [List.filter_cons, e1]
          split <;> (try simp only [List.length_cons]) <;> omega
    intro l
    induction l with
    | nil => intro h; cases h
    | cons a l ih =>
      intro hm
      refine ⟨?_, trivial⟩
      by_cases e : a = i
      · subst e
        have e1 : (listed.setIfInBounds a true).getD a true = true := by simp [Array.getD_eq_getD_getElem?, hin]
        have := le l
        simp only [List.filter_cons, e1, h, Bool.not_true, Bool.not_false, Bool.false_eq_true, if_false, if_true, List.length_cons]
        omega
      · have hm' : i ∈ l := (List.mem_cons.1 hm).resolve_left (fun h => e h.symm)
        have e1 : (listed.setIfInBounds i true).getD a true = listed.getD a true := by
          simp only [Array.getD_eq_getD_getElem?, Array.getElem?_setIfInBounds_ne (Ne.symm e)]
        have := (ih hm').1
        simp only [List.filter_cons, e1]
        split <;> (try simp only [List.length_cons]) <;> omega
  exact (key _ (List.mem_range.2 hi)).1
theorem ready_lt {md : Region.Mode} {ops : Array Oper} {listed : Array Bool} {i : Nat} (h : i ∈ Region.ready md ops listed) : i < ops.size ∧ listed.getD i true = false := by
  unfold Region.ready at h
  rw [List.mem_filter] at h
  refine ⟨List.mem_range.1 h.1, ?_⟩
  have := h.2
  simp only [Bool.and_eq_true, Bool.not_eq_true'] at this
  exact this.1
theorem wpAnyIn_inv {F : Fence} {n : Nat} {P : Program} {md : Region.Mode} {ops : Array Oper} {Q : Exit → Act → World → Prop} (Inv : Array Bool → Act → World → Prop)
    (hdone : ∀ listed a w, Inv listed a w → Region.ready md ops listed = [] → Q .normal a w)
    (hstep : ∀ listed a w i, Inv listed a w → i ∈ Region.ready md ops listed → wpOpIn F n P ops Q i (fun a' w' => Inv (listed.setIfInBounds i true) a' w') a w) :
    ∀ (fuel : Nat) (listed : Array Bool) (a : Act) (w : World), Inv listed a w → unl ops.size listed ≤ fuel → wpAnyIn F n P md ops Q fuel listed a w
  | 0, listed, a, w, hi, hu => by
    have hr : Region.ready md ops listed = [] := by
      rw [List.eq_nil_iff_forall_not_mem]
      intro i h
      have hl := ready_lt h
      have : 0 < unl ops.size listed := by
        unfold unl
        apply List.length_pos_of_mem (a := i)
        rw [List.mem_filter]
        exact ⟨List.mem_range.2 hl.1, by simp only [hl.2]; rfl⟩
      omega
    exact ⟨hr, hdone _ _ _ hi hr⟩
  | fuel + 1, listed, a, w, hi, hu => by
    refine ⟨fun h => hdone _ _ _ hi h, fun i h => ?_⟩
    have hl := ready_lt h
    have hs := unl_set hl.1 hl.2
    exact wpOpIn_mono (fun a' w' h' => wpAnyIn_inv Inv hdone hstep fuel _ a' w' h' (by omega)) (hstep _ _ _ _ hi h)
theorem unl_start (n : Nat) : unl n (Array.replicate n false) ≤ n := by
  unfold unl
  exact Nat.le_trans (List.length_filter_le _ _) (by rw [List.length_range]; exact Nat.le_refl _)
end Go.Proofs.Ytjeebamllahgkaa
