/- The plain mathematics of reading pieces from behind: the piece that ends at a boundary is the one that was read from the front. -/
import Derived.Test.YtjeebamllahgkaaUtfBeforeM
namespace Go.Proofs.Ytjeebamllahgkaa.Utf
/-- Every place below k lies within a piece that ends at k or before. -/
def Cov (l : List Int) (k : Nat) : Prop := ∀ q, q < k → ∃ j, j ≤ q ∧ q < j + step (l.drop j) ∧ j + step (l.drop j) ≤ k
theorem cov_zero (l : List Int) : Cov l 0 := fun q h => by omega
theorem drop_ne {l : List Int} {k : Nat} (h : k < l.length) : l.drop k ≠ [] := by
  intro e; have := congrArg List.length e; rw [List.length_drop] at this; simp at this; omega
theorem cov_step {l : List Int} (hb : Bytes l) {k : Nat} (hk : k < l.length) (h : Cov l k) : Cov l (k + step (l.drop k)) := by
  intro q hq
  by_cases e : q < k
  · obtain ⟨j, h1, h2, h3⟩ := h q e
    exact ⟨j, h1, h2, by omega⟩
  · exact ⟨k, by omega, hq, Nat.le_refl _⟩
/-- A piece of two bytes or more is a rune's. -/
theorem long_piece {l : List Int} (hb : Bytes l) (k : Nat) (h2 : 2 ≤ step (l.drop k)) : ∃ r t, l.drop k = encN r ++ t ∧ width r = step (l.drop k) ∧ width r ≠ 0 := by
  rcases dec_some (l.drop k) (bytes_drop hb k) with ⟨_, e⟩ | ⟨_, e⟩ | ⟨h1, h3, t, ht⟩
  · unfold step at h2; rw [e] at h2; simp at h2
  · unfold step at h2; rw [e] at h2; simp at h2
  · refine ⟨_, t, ht, ?_, h1⟩
    have := width_le (dec (l.drop k)).1
    unfold step
    omega
theorem ends_is {l : List Int} (hb : Bytes l) {k : Nat} (hk : k < l.length) (hc : Cov l k) (j : Nat) (h2 : 2 ≤ j) (h : EndsAt l (k + step (l.drop k)) j) : j = step (l.drop k) := by
  have hs := step_bd (l.drop k) (bytes_drop hb k) (drop_ne hk)
  rw [List.length_drop] at hs
  obtain ⟨r, hw, hd, _⟩ := ends_shape l hb (k + step (l.drop k)) j (by omega) h2 h
  have hj := h.1
  obtain ⟨q, hq⟩ : ∃ q, k + step (l.drop k) - j = q := ⟨_, rfl⟩
  rw [hq] at hd
  have hp := piece_shape l q r _ (by omega) hd
  rcases Nat.lt_trichotomy q k with h' | h' | h'
  · exfalso
    obtain ⟨j0, a1, a2, a3⟩ := hc q h'
    by_cases e : j0 = q
    · subst e
      have hst : step (l.drop j0) = j := by
        unfold step
        rw [hd, dec_enc r (by omega)]
        show (width r).toNat = j
        omega
      omega
    · obtain ⟨r', t', hd', hw', _⟩ := long_piece hb j0 (by omega)
      have := (piece_shape l j0 r' t' (by omega) hd').2 q (by omega) (by omega)
      unfold Cont at this
      omega
  · omega
  · exfalso
    obtain ⟨r', t', hd', hw', _⟩ := long_piece hb k (by omega)
    have := (piece_shape l k r' t' (by omega) hd').2 q (by omega) (by omega)
    unfold Cont at this
    omega
theorem bf_next {l : List Int} (hb : Bytes l) {k : Nat} (hk : k < l.length) (hc : Cov l k) : bf l (k + step (l.drop k)) = step (l.drop k) := by
  have hs := step_bd (l.drop k) (bytes_drop hb k) (drop_ne hk)
  have h4 := (dec_len (l.drop k) (bytes_drop hb k)).2.2.2
  by_cases h2 : 2 ≤ step (l.drop k)
  · refine bf_at l _ _ h2 (by omega) ?_ (fun j hj hlt he => ?_)
    · refine ⟨by omega, ?_⟩
      obtain ⟨r, t, hd, hw, hw0⟩ := long_piece hb k h2
      have hl := encN_length r
      rw [show k + step (l.drop k) - step (l.drop k) = k from by omega]
      have e1 : (l.drop k).take (step (l.drop k)) = encN r := by
        have : step (l.drop k) = (encN r).length := by omega
        rw [this, hd, List.take_left']
        rfl
      rw [e1]
      have := dec_enc r hw0 []
      rw [List.append_nil] at this
      rw [this]
      exact hw
    · have := ends_is hb hk hc j hj he
      omega
  · have h1 : step (l.drop k) = 1 := by omega
    refine (bf_none l _ (fun j hj _ he => ?_)).trans h1.symm
    have := ends_is hb hk hc j hj he
    omega
/-- The boundaries of the pieces from k on, the end among them. -/
def bounds (l : List Int) (k : Nat) : List Int := (rest l k).map Prod.fst ++ [(l.length : Int)]
theorem bounds_at {l : List Int} (hb : Bytes l) : ∀ (n k : Nat), l.length - k ≤ n → k ≤ l.length → Cov l k →
    (bounds l k)[0]?.getD 0 = (k : Int) ∧ ∀ i, i < (rest l k).length → ∃ a m : Nat, (bounds l k)[i]?.getD 0 = (a : Int) ∧ (bounds l k)[i + 1]?.getD 0 = ((a + m : Nat) : Int) ∧ bf l (a + m) = m ∧ 1 ≤ m ∧ a + m ≤ l.length
  | 0, k, h, hk, hc => by
    have e : rest l k = [] := rest_done l k (by omega)
    unfold bounds
    rw [e]
    exact ⟨by simp; omega, fun i hi => by simp at hi⟩
  | n + 1, k, h, hk, hc => by
    by_cases hlt : k < l.length
    · have hs := step_bd (l.drop k) (bytes_drop hb k) (drop_ne hlt)
      rw [List.length_drop] at hs
      have ih := bounds_at hb n (k + step (l.drop k)) (by omega) (by omega) (cov_step hb hlt hc)
      have e : bounds l k = (k : Int) :: bounds l (k + step (l.drop k)) := by
        unfold bounds; rw [rest_step l hb k hlt]; rfl
      rw [e]
      refine ⟨rfl, fun i hi => ?_⟩
      cases i with
      | zero => exact ⟨k, step (l.drop k), rfl, ih.1, bf_next hb hlt hc, hs.1, by omega⟩
      | succ i =>
        rw [rest_step l hb k hlt, List.length_cons] at hi
        exact ih.2 i (by omega)
    · have e : rest l k = [] := rest_done l k (by omega)
      unfold bounds
      rw [e]
      exact ⟨by simp; omega, fun i hi => by simp at hi⟩
theorem bounds_pieces {l : List Int} (hb : Bytes l) : ((pieces l).map Prod.fst ++ [(l.length : Int)])[0]?.getD 0 = (0 : Int) ∧
    ∀ i, i < (pieces l).length → ∃ a m : Nat, ((pieces l).map Prod.fst ++ [(l.length : Int)])[i]?.getD 0 = (a : Int) ∧ ((pieces l).map Prod.fst ++ [(l.length : Int)])[i + 1]?.getD 0 = ((a + m : Nat) : Int) ∧ bf l (a + m) = m ∧ 1 ≤ m ∧ a + m ≤ l.length :=
  bounds_at hb l.length 0 (by omega) (by omega) (cov_zero l)
end Go.Proofs.Ytjeebamllahgkaa.Utf
