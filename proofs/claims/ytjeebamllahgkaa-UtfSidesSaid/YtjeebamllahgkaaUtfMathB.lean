/- The plain mathematics of pieces as a recursion from the front: joining two texts that are all runes. -/
import Derived.Test.YtjeebamllahgkaaUtfMath
namespace Go.Proofs.Ytjeebamllahgkaa.Utf
/-- The runes of the pieces, -1 for an invalid byte. -/
def rn : Nat → List Int → List Int
  | 0, _ => []
  | f + 1, l => if l = [] then [] else (dec l).1 :: rn f (l.drop (step l))
def runes (l : List Int) : List Int := rn l.length l
theorem rn_fuel : ∀ (f g : Nat) (l : List Int), Bytes l → l.length ≤ f → l.length ≤ g → rn f l = rn g l
  | 0, 0, _, _, _, _ => rfl
  | 0, g + 1, l, _, h, _ => by
    have : l = [] := List.eq_nil_of_length_eq_zero (by omega)
    subst this; rfl
  | f + 1, 0, l, _, _, h => by
    have : l = [] := List.eq_nil_of_length_eq_zero (by omega)
    subst this; rfl
  | f + 1, g + 1, l, hb, h, h' => by
    unfold rn
    by_cases hl : l = []
    · rw [if_pos hl, if_pos hl]
    · rw [if_neg hl, if_neg hl]
      have hs := step_bd l hb hl
      rw [rn_fuel f g _ (bytes_drop hb _) (by rw [List.length_drop]; omega) (by rw [List.length_drop]; omega)]
theorem pc_rn (l : List Int) : ∀ (f a : Nat), (pc l f a).map Prod.snd = rn f (l.drop a)
  | 0, _ => rfl
  | f + 1, a => by
    unfold pc rn
    by_cases h : a < l.length
    · rw [if_pos h, if_neg (by intro e; have := congrArg List.length e; rw [List.length_drop] at this; simp at this; omega), List.map_cons, pc_rn l f, List.drop_drop]
    · rw [if_neg h, if_pos (List.drop_eq_nil_of_le (by omega))]; rfl
theorem pieces_rn (l : List Int) : (pieces l).map Prod.snd = runes l := by
  unfold pieces rest runes
  rw [pc_rn, List.drop_zero, Nat.sub_zero]
theorem runes_nil : runes [] = [] := rfl
theorem runes_cons (l : List Int) (hb : Bytes l) (hl : l ≠ []) : runes l = (dec l).1 :: runes (l.drop (step l)) := by
  unfold runes
  have hp : 0 < l.length := List.length_pos_iff.2 hl
  obtain ⟨k, hk⟩ : ∃ k, l.length = k + 1 := ⟨l.length - 1, by omega⟩
  have hs := step_bd l hb hl
  rw [hk]
  conv => lhs; unfold rn
  rw [if_neg hl, rn_fuel k _ _ (bytes_drop hb _) (by rw [List.length_drop]; omega) (Nat.le_refl _)]
theorem bytes_append {l m : List Int} (h : Bytes l) (h' : Bytes m) : Bytes (l ++ m) := fun x hx => (List.mem_append.1 hx).elim (h x) (h' x)
theorem runes_join : ∀ (n : Nat) (l m : List Int), l.length ≤ n → Bytes l → Bytes m → (∀ r ∈ runes l, 0 ≤ r) → runes (l ++ m) = runes l ++ runes m
  | 0, l, m, h, _, _, _ => by
    have : l = [] := List.eq_nil_of_length_eq_zero (by omega)
    subst this; rfl
  | n + 1, l, m, h, hb, hm, hv => by
    by_cases hl : l = []
    · subst hl; rfl
    · have hc := runes_cons l hb hl
      have h0 : 0 ≤ (dec l).1 := hv _ (by rw [hc]; simp)
      have hs := step_bd l hb hl
      rcases dec_some l hb with ⟨e, _⟩ | ⟨_, e⟩ | ⟨h1, h2, t, ht⟩
      · exact absurd e hl
      · rw [e] at h0; simp at h0
      · have hd : dec (l ++ m) = dec l := by
          have e1 := dec_enc (dec l).1 h1 (t ++ m)
          rw [← List.append_assoc, ← ht] at e1
          rw [e1, ← h2]
        have hst : step (l ++ m) = step l := by unfold step; rw [hd]
        rw [runes_cons (l ++ m) (bytes_append hb hm) (by simp [hl]), hd, hst, List.drop_append_of_le_length hs.2.1, hc,
          runes_join n (l.drop (step l)) m (by rw [List.length_drop]; omega) (bytes_drop hb _) hm (fun r hr => hv r (by rw [hc]; simp [hr]))]
        rfl
end Go.Proofs.Ytjeebamllahgkaa.Utf
