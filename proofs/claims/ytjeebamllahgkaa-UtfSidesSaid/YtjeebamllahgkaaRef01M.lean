/- The plain mathematics of the reference's decoding: the first length whose reading encodes to the bytes read. -/
import Derived.Test.YtjeebamllahgkaaUtfMath
namespace Go.Proofs.Ytjeebamllahgkaa.Utf
def saidN (l : List Int) : Nat → Int
  | 1 => l[0]?.getD 0
  | 2 => l[0]?.getD 0 % 32 * 64 + l[1]?.getD 0 % 64
  | 3 => l[0]?.getD 0 % 16 * 4096 + l[1]?.getD 0 % 64 * 64 + l[2]?.getD 0 % 64
  | 4 => l[0]?.getD 0 % 8 * 262144 + l[1]?.getD 0 % 64 * 4096 + l[2]?.getD 0 % 64 * 64 + l[3]?.getD 0 % 64
  | _ => 0
def Hit (l : List Int) (k : Nat) : Prop := width (saidN l k) ≠ 0 ∧ encN (saidN l k) = l.take k
theorem said_enc (r : Int) (h : width r ≠ 0) (t : List Int) : saidN (encN r ++ t) (width r).toNat = r := by
  rcases width_cases r with ⟨w, _⟩ | ⟨w, h1, h2⟩ | ⟨w, h1, h2⟩ | ⟨w, h1, h2, h3⟩ | ⟨w, h1, h2⟩
  · exact absurd w h
  · rw [w]
    have e : encN r ++ t = r :: t := by simp [encN, w]
    rw [e]; rfl
  · rw [w]
    have e : encN r ++ t = (192 + r / 64) :: (128 + r % 64) :: t := by simp [encN, w]
    rw [e]; show (192 + r / 64) % 32 * 64 + (128 + r % 64) % 64 = r; omega
  · rw [w]
    have e : encN r ++ t = (224 + r / 4096) :: (128 + r / 64 % 64) :: (128 + r % 64) :: t := by simp [encN, w]
    rw [e]; show (224 + r / 4096) % 16 * 4096 + (128 + r / 64 % 64) % 64 * 64 + (128 + r % 64) % 64 = r; omega
  · rw [w]
    have e : encN r ++ t = (240 + r / 262144) :: (128 + r / 4096 % 64) :: (128 + r / 64 % 64) :: (128 + r % 64) :: t := by simp [encN, w]
    rw [e]; show (240 + r / 262144) % 8 * 262144 + (128 + r / 4096 % 64) % 64 * 4096 + (128 + r / 64 % 64) % 64 * 64 + (128 + r % 64) % 64 = r; omega
theorem hit_dec (l : List Int) (k : Nat) (hk : k ≤ l.length) (h : Hit l k) : dec l = (saidN l k, (k : Int)) := by
  have e := dec_enc _ h.1 (l.drop k)
  have hl := encN_length (saidN l k)
  rw [h.2, List.take_append_drop] at e
  rw [h.2, List.length_take, Nat.min_eq_left hk] at hl
  rw [e, hl]
theorem miss_dec (l : List Int) (hb : Bytes l) (hl : l ≠ []) (h : ∀ k, 1 ≤ k → k ≤ 4 → k ≤ l.length → ¬ Hit l k) : dec l = (-1, 1) := by
  rcases dec_some l hb with ⟨e, _⟩ | ⟨_, e⟩ | ⟨h1, h2, t, ht⟩
  · exact absurd e hl
  · exact e
  · exfalso
    obtain ⟨r, hr⟩ : ∃ r, (dec l).1 = r := ⟨_, rfl⟩
    rw [hr] at h1 h2 ht
    have hw := width_le r
    have hlen := encN_length r
    have hll := congrArg List.length ht
    rw [List.length_append] at hll
    have hs : saidN l (width r).toNat = r := by
      rw [ht]; exact said_enc r h1 t
    refine h (width r).toNat (by omega) (by omega) (by omega) ⟨by rw [hs]; exact h1, ?_⟩
    rw [hs, ht, List.take_append_of_le_length (by omega), List.take_of_length_le (by omega)]
end Go.Proofs.Ytjeebamllahgkaa.Utf
