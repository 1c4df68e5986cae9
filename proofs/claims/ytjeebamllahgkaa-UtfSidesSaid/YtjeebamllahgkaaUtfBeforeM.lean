/- The plain mathematics of the piece that ends at an offset. -/
import Derived.Test.YtjeebamllahgkaaUtfMathB
namespace Go.Proofs.Ytjeebamllahgkaa.Utf
/-- An encoding of n bytes ends at a. -/
def EndsAt (l : List Int) (a n : Nat) : Prop := n ≤ a ∧ (dec ((l.drop (a - n)).take n)).2 = n
instance (l : List Int) (a n : Nat) : Decidable (EndsAt l a n) := by unfold EndsAt; infer_instance
def bf (l : List Int) (a : Nat) : Nat := if EndsAt l a 2 then 2 else if EndsAt l a 3 then 3 else if EndsAt l a 4 then 4 else 1
theorem bf_at (l : List Int) (a n : Nat) (h2 : 2 ≤ n) (h4 : n ≤ 4) (h : EndsAt l a n) (hm : ∀ j, 2 ≤ j → j < n → ¬ EndsAt l a j) : bf l a = n := by
  unfold bf
  rcases (by omega : n = 2 ∨ n = 3 ∨ n = 4) with rfl | rfl | rfl
  · rw [if_pos h]
  · rw [if_neg (hm 2 (by omega) (by omega)), if_pos h]
  · rw [if_neg (hm 2 (by omega) (by omega)), if_neg (hm 3 (by omega) (by omega)), if_pos h]
theorem bf_none (l : List Int) (a : Nat) (hm : ∀ j, 2 ≤ j → j ≤ 4 → ¬ EndsAt l a j) : bf l a = 1 := by
  unfold bf
  rw [if_neg (hm 2 (by omega) (by omega)), if_neg (hm 3 (by omega) (by omega)), if_neg (hm 4 (by omega) (by omega))]
theorem bf_le (l : List Int) (a : Nat) (ha : 1 ≤ a) : 1 ≤ bf l a ∧ bf l a ≤ a ∧ bf l a ≤ 4 := by
  unfold bf
  split
  · rename_i h; have := h.1; omega
  · split
    · rename_i h; have := h.1; omega
    · split
      · rename_i h; have := h.1; omega
      · omega

theorem enc_shape (r : Int) (h : 2 ≤ width r) : ∃ b bs, encN r = b :: bs ∧ 192 ≤ b ∧ ∀ x ∈ bs, Cont x := by
  rcases width_cases r with w | w | w | w | w
  · omega
  · omega
  · refine ⟨_, _, by simp [encN, w.1]; exact ⟨rfl, rfl⟩, by omega, ?_⟩
    intro x hx; simp at hx; unfold Cont; omega
  · refine ⟨_, _, by simp [encN, w.1]; exact ⟨rfl, rfl⟩, by omega, ?_⟩
    intro x hx; simp at hx; unfold Cont; omega
  · refine ⟨_, _, by simp [encN, w.1]; exact ⟨rfl, rfl⟩, by omega, ?_⟩
    intro x hx; simp at hx; unfold Cont; omega
/-- A piece of two bytes or more that begins at q: its first byte, its later bytes. -/
theorem piece_shape (l : List Int) (q : Nat) (r : Int) (t : List Int) (h2 : 2 ≤ width r) (h : l.drop q = encN r ++ t) :
    192 ≤ l[q]?.getD 0 ∧ ∀ i, q < i → (i : Int) < q + width r → Cont (l[i]?.getD 0) := by
  obtain ⟨b, bs, he, hb, hbs⟩ := enc_shape r h2
  have hl := encN_length r
  have at_ : ∀ i, l[q + i]? = (encN r ++ t)[i]? := fun i => by rw [← h, List.getElem?_drop]
  constructor
  · have := at_ 0
    rw [Nat.add_zero] at this
    rw [this, he]
    simpa using hb
  · intro i h1 h3
    obtain ⟨j, rfl⟩ : ∃ j, i = q + (j + 1) := ⟨i - q - 1, by omega⟩
    rw [at_ (j + 1), he]
    have hlen : bs.length + 1 = (encN r).length := by rw [he]; rfl
    have hj : j < bs.length := by omega
    rw [List.cons_append, List.getElem?_cons_succ, List.getElem?_append_left hj, List.getElem?_eq_getElem hj]
    exact hbs _ (List.getElem_mem hj)
theorem bytes_take {l : List Int} (h : Bytes l) (k : Nat) : Bytes (l.take k) := fun x hx => h x (List.mem_of_mem_take hx)
theorem ends_shape (l : List Int) (hb : Bytes l) (a j : Nat) (ha : a ≤ l.length) (h2 : 2 ≤ j) (h : EndsAt l a j) :
    ∃ r, width r = j ∧ l.drop (a - j) = encN r ++ l.drop a ∧ (dec ((l.drop (a - j)).take j)).1 = r := by
  obtain ⟨hj, hd⟩ := h
  rcases dec_some ((l.drop (a - j)).take j) (bytes_take (bytes_drop hb _) _) with ⟨_, e⟩ | ⟨_, e⟩ | ⟨h1, h3, t, ht⟩
  · rw [e] at hd; simp at hd; omega
  · rw [e] at hd; simp at hd; omega
  · refine ⟨_, by rw [← h3, hd], ?_, rfl⟩
    have hl := encN_length (dec ((l.drop (a - j)).take j)).1
    rw [← h3, hd] at hl
    have hlen := congrArg List.length ht
    rw [List.length_append, List.length_take, List.length_drop] at hlen
    have ht0 : t = [] := List.eq_nil_of_length_eq_zero (by omega)
    rw [ht0, List.append_nil] at ht
    have e1 : l.drop (a - j) = (l.drop (a - j)).take j ++ (l.drop (a - j)).drop j := (List.take_append_drop _ _).symm
    rw [List.drop_drop, show a - j + j = a from by omega] at e1
    conv => lhs; rw [e1]
    rw [← ht]
theorem dec_single (b : Int) (hb : 0 ≤ b ∧ b < 256) (h : 0 ≤ (dec [b]).1) : b < 128 := by
  rcases dec_some [b] (by intro x hx; simp at hx; subst hx; exact hb) with ⟨e, _⟩ | ⟨_, e⟩ | ⟨h1, h2, t, ht⟩
  · cases e
  · rw [e] at h; simp at h
  · have hl := congrArg List.length ht
    have hw := encN_length (dec [b]).1
    rw [List.length_append] at hl
    simp at hl
    rcases width_cases (dec [b]).1 with w | w | w | w | w
    · omega
    · have e : encN (dec [b]).1 = [(dec [b]).1] := by simp [encN, w.1]
      rw [e] at ht
      simp at ht
      omega
    all_goals omega
/-- Where a one-byte rune ends no longer encoding does. -/
theorem bf_single (l : List Int) (hb : Bytes l) (a : Nat) (h1 : 1 ≤ a) (ha : a ≤ l.length) (h : 0 ≤ (dec ((l.drop (a - 1)).take 1)).1) : bf l a = 1 := by
  apply bf_none
  intro j h2 h4 he
  obtain ⟨r, hw, hd, _⟩ := ends_shape l hb a j ha h2 he
  have hs := (piece_shape l (a - j) r _ (by omega) hd).2 (a - 1) (by have := he.1; omega) (by have := he.1; omega)
  have e : (l.drop (a - 1)).take 1 = [l[a - 1]?.getD 0] := by
    have hlt : a - 1 < l.length := by omega
    rw [List.drop_eq_getElem_cons hlt, List.take_succ_cons, List.take_zero, List.getElem?_eq_getElem hlt]; rfl
  rw [e] at h
  have := dec_single _ (getD_bytes hb (a - 1)) h
  unfold Cont at hs
  omega
/-- The reference's question: a rune of just n bytes. -/
def RefEnds (l : List Int) (a n : Nat) : Prop := 0 ≤ (dec ((l.drop (a - n)).take n)).1 ∧ (dec ((l.drop (a - n)).take n)).2 = n
theorem ref_ends (l : List Int) (hb : Bytes l) (a n : Nat) (ha : a ≤ l.length) (h2 : 2 ≤ n) (hn : n ≤ a) : RefEnds l a n ↔ EndsAt l a n := by
  constructor
  · exact fun h => ⟨hn, h.2⟩
  · intro h
    obtain ⟨r, hw, _, hr⟩ := ends_shape l hb a n ha h2 h
    refine ⟨?_, h.2⟩
    rw [hr]
    rcases width_cases r with w | w | w | w | w <;> omega
end Go.Proofs.Ytjeebamllahgkaa.Utf
