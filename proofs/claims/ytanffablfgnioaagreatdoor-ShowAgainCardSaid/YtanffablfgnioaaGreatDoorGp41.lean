/- A tree is the same as itself. · burinlaw08.digits: a number from 0 on in decimal digits. · Mathematics of lex: a pattern of braces. · Mathematics of lex: a token ahead of a closing bracket does not hang on what stands behind that bracket. · burinbook.LendRanges. · burinbook.KeptRanges and SpoilRanges. · What the laws of ranges use: lent lists as rows, the reference's Check on rows. · burinlaw08: two tokens that are the same; two rows of tokens that are alike. · Mathematics of lex: behind a pattern that ends in a closing bracket another one has its own tokens. · Mathematics of lex: a text's tokens are the same with a closing bracket behind. · Mathematics of show: the tokens of a tree's pattern. -/
import Derived.Test.YtanffablfgnioaaGreatDoorGp12
import Derived.Test.YtanffablfgnioaaGreatDoorGp40
import Derived.IntWalk
import Derived.Laws.BytesArg
import Derived.Test.YtanffablfgnioaaGreatDoorGp20
import Derived.Test.YtanffablfgnioaaGreatDoorGp6
import Derived.Test.YtanffablfgnioaaGreatDoorGp37
import Derived.Test.YtanffablfgnioaaGreatDoorGp1
import Derived.Test.YtanffablfgnioaaGreatDoorGp11
import Derived.Test.YtanffablfgnioaaGreatDoorGp17
namespace Go.Proofs.YtanffablfgnioaaGreatDoor
set_option linter.unusedVariables false
namespace Td
theorem same1_refl (n : Nd) : same1 n n = true := by
  unfold same1
  simp
theorem foldl_max_mem : ∀ (l : List Nat) (a x : Nat), (x ∈ l ∨ x ≤ a) → x ≤ l.foldl max a
  | [], a, x, h => by rcases h with h | h; cases h; exact h
  | y :: l, a, x, h => by
    refine foldl_max_mem l (max a y) x ?_
    rcases h with h | h
    · rcases List.mem_cons.1 h with rfl | h
      · exact .inr (by omega)
      · exact .inl h
    · exact .inr (by omega)
theorem same_refl : ∀ (k : Nat) (n : Nd), dep (k + 1) n ≤ k → sameB k n n = true
  | 0, n, h => by rw [dep] at h; omega
  | k + 1, n, h => by
    rw [sameB, same1_refl, Bool.true_and, List.all_eq_true]
    intro p hp
    have he : p.1 = p.2 ∧ p.1 ∈ subs n := by
      obtain ⟨i, hi, rfl⟩ := List.getElem_of_mem hp
      rw [List.getElem_zip]
      exact ⟨rfl, List.getElem_mem _⟩
    rw [← he.1]
    refine same_refl k p.1 ?_
    rw [dep] at h
    have := foldl_max_mem ((subs n).map (dep (k + 1))) 0 (dep (k + 1) p.1) (.inl (List.mem_map_of_mem he.2))
    omega
theorem same_ok {n : Nd} (h : dep 1001 n ≤ 1000) : sameB 1000 n n = true := same_refl 1000 n h
end Td
end Go.Proofs.YtanffablfgnioaaGreatDoor
namespace Go.Proofs.YtanffablfgnioaaGreatDoor
open Go.RowKit
set_option linter.unusedVariables false

















































end Go.Proofs.YtanffablfgnioaaGreatDoor
namespace Go.Proofs.YtanffablfgnioaaGreatDoor.Lx
set_option linter.unusedVariables false
theorem dec_one (c : Int) (l : List Int) (h0 : 0 ≤ c) (h1 : c < 128) : Utf.dec (c :: l) = (c, 1) := by
  have hw : Utf.width c = 1 := by unfold Utf.width; rw [if_neg (by omega), if_pos (by omega)]
  have he : Utf.encN c = [c] := by unfold Utf.encN; rw [hw]; rfl
  have := Utf.dec_enc c (by rw [hw]; decide) l
  rw [he, hw] at this
  exact this
theorem char_one (c : Int) (l : List Int) (h0 : 0 ≤ c) (h1 : c < 128) : charX (c :: l) = .ok (runeT c) 1 := by
  unfold charX
  rw [dec_one c l h0 h1, if_neg (by omega)]; rfl
theorem upTo_app (c : Int) : ∀ (X Y : List Int), (∀ x ∈ X, x ≠ c) → Br.upTo c (X ++ c :: Y) = X.length
  | [], Y, _ => by unfold Br.upTo; simp
  | x :: X, Y, h => by
    rw [List.cons_append]
    unfold Br.upTo
    rw [if_neg (h x (by simp)), upTo_app c X Y (fun y hy => h y (by simp [hy]))]; rfl
theorem dec_ne {X : List Int} (h : X.all decB = true) {c : Int} (hc : c < 48 ∨ 57 < c) : ∀ x ∈ X, x ≠ c := fun x hx e => by
  have := List.all_eq_true.1 h x hx
  unfold decB at this
  simp at this
  omega
theorem cnt_dec (n : Nat) (h : n < 1000000) : cntX (decL n) = if n < 10000 then some (n : Int) else none := by
  have hl := decF_len 6 n (by omega) (by omega)
  have hd := decL_dec n
  have hv := decL_val n h
  unfold cntX
  by_cases h4 : n < 10000
  · rw [if_pos h4, if_pos ⟨hl.1, hl.2.2.1 4 (by omega) (by omega), hd⟩, hv]
  · rw [if_neg h4, if_neg]
    rintro ⟨_, h5, _⟩
    have := hl.2.2.2 4 (by omega)
    unfold decL at h5
    omega
theorem turn_no {l : List Int} (h : l[0]?.getD 0 ≠ 92) : turnB false l = false := by
  unfold turnB
  rw [decide_eq_false h]; rfl
end Go.Proofs.YtanffablfgnioaaGreatDoor.Lx
namespace Go.Proofs.YtanffablfgnioaaGreatDoor.Lx
open Go.Proofs.YtanffablfgnioaaGreatDoor.Br (Ag)
set_option linter.unusedVariables false
theorem charX_local {n k : Nat} {l m : List Int} {t : Tk} (hb : Utf.Bytes l) (h : Ag n l m) (hx : charX l = .ok t k) (hk : k ≤ n) : charX m = .ok t k := by
  unfold charX at hx ⊢
  by_cases h0 : (Utf.dec l).1 < 0
  · rw [if_pos h0] at hx; cases hx
  · rw [if_neg h0] at hx
    injection hx with e1 e2
    rw [Br.dec_local hb h (by omega) (by omega), if_neg h0, e1, e2]
theorem set_five {n : Nat} {s u : ByteArray} (h : Ag n (Utf.nums s) (Utf.nums u)) (h2 : 2 ≤ n) (h5 : (Br.set s).2.2 = 5) : (Br.set u).2.2 = 5 := by
  have a1 := h.1
  have a2 := h.2.1
  have hs := Utf.nums_length s
  have hp := fun b => Br.propX_cases s b (by omega)
  unfold Br.set at h5 ⊢
  dsimp only at h5 ⊢
  rw [h.getD (k := 0) (by omega), h.getD (k := 1) (by omega), if_neg (show ¬ (Utf.nums u).length = 1 by omega)]
  rw [if_neg (show ¬ (Utf.nums s).length = 1 by omega)] at h5
  by_cases c0 : (Utf.nums s)[0]?.getD 0 ≠ 92
  · rw [if_pos c0] at h5; cases h5
  rw [if_neg c0] at h5 ⊢
  by_cases c1 : (Utf.nums s)[1]?.getD 0 = 80
  · rw [if_pos c1] at h5
    rcases hp true with ⟨_, _, e⟩ | ⟨_, _, e, _⟩ <;> omega
  rw [if_neg c1] at h5 ⊢
  by_cases c2 : (Utf.nums s)[1]?.getD 0 = 112
  · rw [if_pos c2] at h5
    rcases hp false with ⟨_, _, e⟩ | ⟨_, _, e, _⟩ <;> omega
  rw [if_neg c2] at h5 ⊢
  exact h5
theorem escX_local {n k : Nat} {s u : ByteArray} {t : Tk} (h : Ag n (Utf.nums s) (Utf.nums u)) (h2 : 2 ≤ n) (hx : escX s = .ok t k) (hk : k ≤ n) : escX u = .ok t k := by
  unfold escX at hx ⊢
  rw [h.getD (k := 1) (by omega)]
  cases hs : shortX ((Utf.nums s)[1]?.getD 0) with
  | some t' => rw [hs] at hx; exact hx
  | none =>
    rw [hs] at hx
    dsimp only at hx ⊢
    unfold setX at hx ⊢
    by_cases h0 : (Br.set s).2.2 = 0
    · rw [if_pos h0] at hx
      injection hx with e1 e2
      rw [Br.set_local h h0 (by omega), if_pos h0, e1, e2]
    · rw [if_neg h0] at hx
      by_cases h5 : (Br.set s).2.2 = 5
      · rw [if_pos h5] at hx
        have hu := set_five h h2 h5
        rw [if_neg (by omega), if_pos hu]
        unfold numX at hx ⊢
        by_cases hz : (Br.num (Utf.nums s)).2.2 = 0
        · rw [if_pos hz] at hx
          injection hx with e1 e2
          rw [Br.num_local h hz (by omega), if_pos hz, e1, e2]
        · rw [if_neg hz] at hx; cases hx
      · rw [if_neg h5] at hx; cases hx
theorem brackX_local {n k : Nat} {s u : ByteArray} {t : Tk} (h : Ag n (Utf.nums s) (Utf.nums u)) (hx : brackX s = .ok t k) (hk : k ≤ n) : brackX u = .ok t k := by
  unfold brackX at hx ⊢
  cases hb : Br.brack s with
  | bad o c => rw [hb] at hx; cases hx
  | ok Ys e =>
    rw [hb] at hx
    dsimp only at hx
    injection hx with e1 e2
    have := Br.brack_local hb (h.mono (k := e + 1) (by omega))
    rw [this]
    dsimp only
    rw [Br.extract_eq h (a := 0) (b := e + 1) (by omega), e1, e2]
theorem cntX_dec {l : List Int} {v : Int} (h : cntX l = some v) : ∀ x ∈ l, decB x = true := by
  unfold cntX at h
  split at h
  · rename_i c; exact fun x hx => List.all_eq_true.1 c.2.2 x hx
  · cases h
theorem bodyX_dec {b : List Int} {v : Int × Int} (h : bodyX b = some v) : ∀ x ∈ b, decB x = true ∨ x = 44 := by
  unfold bodyX at h
  have hle := Br.upTo_le 44 b
  obtain ⟨j, hj⟩ : ∃ j, Br.upTo 44 b = j := ⟨_, rfl⟩
  have hat := Br.upTo_at 44 b
  rw [hj] at h hle hat
  cases h1 : cntX (b.take j) with
  | none => rw [h1] at h; cases h
  | some lo =>
    rw [h1] at h
    dsimp only at h
    have d1 := cntX_dec h1
    intro x hx
    obtain ⟨i, hi, rfl⟩ := List.getElem_of_mem hx
    rcases Nat.lt_trichotomy i j with g | g | g
    · exact .inl (d1 _ (List.mem_of_getElem? (i := i) (by rw [List.getElem?_take_of_lt g, List.getElem?_eq_getElem hi])))
    · subst g
      have := hat hi
      rw [List.getElem?_eq_getElem hi] at this
      exact .inr (Option.some.inj this)
    · by_cases c1 : j = b.length
      · omega
      rw [if_neg c1] at h
      by_cases c2 : j + 1 = b.length
      · omega
      rw [if_neg c2] at h
      cases h2 : cntX (b.drop (j + 1)) with
      | none => rw [h2] at h; cases h
      | some hi2 =>
        exact .inl (cntX_dec h2 _ (List.mem_of_getElem? (i := i - (j + 1)) (by rw [List.getElem?_drop, show j + 1 + (i - (j + 1)) = i by omega, List.getElem?_eq_getElem hi])))
theorem countsX_local {n : Nat} {l m : List Int} (h : Ag n l m) (hn : l.length = n) (h2 : 2 ≤ n) (hz : l[n - 1]? = some 41) : countsX m = countsX l := by
  have a2 := h.2.1
  have hd := h.drop 1
  have hle := Br.upTo_le 125 (l.drop 1)
  have hle2 := Br.upTo_le 125 (m.drop 1)
  rw [List.length_drop] at hle hle2
  unfold countsX
  rw [List.length_drop, List.length_drop]
  by_cases hf : Br.upTo 125 (l.drop 1) = l.length - 1
  · rw [if_pos hf]
    have hno : ∀ j, j < n - 1 → (m.drop 1)[j]? ≠ some 125 := fun j hj => by
      rw [hd.2.2 j (by omega)]; exact Br.upTo_no 125 _ j (by omega)
    by_cases hg : Br.upTo 125 (m.drop 1) = m.length - 1
    · rw [if_pos hg]
    · rw [if_neg hg]
      have hge : n - 1 ≤ Br.upTo 125 (m.drop 1) := by
        rcases Nat.lt_or_ge (Br.upTo 125 (m.drop 1)) (n - 1) with g | g
        · exact absurd (Br.upTo_at 125 (m.drop 1) (by rw [List.length_drop]; omega)) (hno _ g)
        · exact g
      cases hb : bodyX ((m.drop 1).take (Br.upTo 125 (m.drop 1))) with
      | none => rfl
      | some v =>
        exfalso
        have h41 : ((m.drop 1).take (Br.upTo 125 (m.drop 1)))[n - 2]? = some 41 := by
          rw [List.getElem?_take_of_lt (by omega), hd.2.2 _ (by omega), List.getElem?_drop, show 1 + (n - 2) = n - 1 by omega]; exact hz
        rcases bodyX_dec hb 41 (List.mem_of_getElem? h41) with e | e
        · exact absurd e (by decide)
        · exact absurd e (by decide)
  · have hlt : Br.upTo 125 (l.drop 1) < n - 1 := by omega
    have hat := Br.upTo_at 125 (l.drop 1) (by rw [List.length_drop]; omega)
    have e : Br.upTo 125 (m.drop 1) = Br.upTo 125 (l.drop 1) :=
      Br.upTo_is 125 _ _ ((hd.2.2 _ (by omega)).trans hat) (fun j hj => by rw [hd.2.2 _ (by omega)]; exact Br.upTo_no 125 _ j hj)
    rw [e, if_neg hf, if_neg (by omega), (hd.mono (k := Br.upTo 125 (l.drop 1)) (by omega)).take]
theorem repX_local {n k : Nat} {l m : List Int} {t : Tk} (h : Ag n l m) (hb : boundsX m = boundsX l) (hx : repX l = .ok t k) (hk : k < n) : repX m = .ok t k := by
  unfold repX at hx ⊢
  rw [hb]
  unfold repOf at hx ⊢
  by_cases c : 1000 < (boundsX l).1 ∨ 1000 < (boundsX l).2.1 ∨ ((boundsX l).2.1 ≠ -1 ∧ (boundsX l).2.1 < (boundsX l).1)
  · rw [if_pos c] at hx; cases hx
  rw [if_neg c] at hx ⊢
  by_cases c2 : l[(boundsX l).2.2]?.getD 0 = 63
  · rw [if_pos c2] at hx
    injection hx with e1 e2
    rw [h.getD (by omega), if_pos c2, e1, e2]
  · rw [if_neg c2] at hx
    injection hx with e1 e2
    rw [h.getD (by omega), if_neg c2, e1, e2]
theorem nameAt_local {n : Nat} {l m : List Int} (h : Ag n l m) (hn : l.length = n) (h3 : 3 ≤ n) (hz : l[n - 1]? = some 41) : nameAt m = nameAt l ∧ nameAt l < n := by
  have a2 := h.2.1
  have t3 := (h.mono (k := 3) h3).take
  unfold nameAt
  rw [t3]
  rcases Nat.lt_or_ge n 4 with g | g
  · obtain rfl : n = 3 := by omega
    have hm : m[2]? = some 41 := (h.2.2 2 (by omega)).trans hz
    have n1 : ∀ x : List Int, x[2]? = some 41 → ¬ x.take 4 = [40, 63, 80, 60] := fun x hx e => by
      have := congrArg (fun y => y[2]?) e
      rw [List.getElem?_take_of_lt (by omega), hx] at this
      exact absurd this (by decide)
    have n2 : ¬ l.take 3 = [40, 63, 60] := fun e => by
      have := congrArg (fun y => y[2]?) e
      rw [List.getElem?_take_of_lt (by omega)] at this
      rw [show l[2]? = some 41 from hz] at this
      exact absurd this (by decide)
    rw [if_neg (n1 m hm), if_neg (n1 l hz), if_neg n2]
    exact ⟨rfl, by omega⟩
  · rw [(h.mono (k := 4) g).take]
    refine ⟨rfl, ?_⟩
    by_cases c1 : l.take 4 = [40, 63, 80, 60]
    · rw [if_pos c1]
      rcases Nat.lt_or_ge 4 n with g2 | g2
      · exact g2
      · obtain rfl : n = 4 := by omega
        have := congrArg (fun y => y[3]?) c1
        rw [List.getElem?_take_of_lt (by omega)] at this
        rw [show l[3]? = some 41 from hz] at this
        exact absurd this (by decide)
    · rw [if_neg c1]
      split <;> omega
theorem nameB_no {x : ByteArray} (i : Nat) (h : (Utf.nums x)[i]? = some 41) : Td.nameB x = false := by
  cases hb : Td.nameB x with
  | false => rfl
  | true =>
    unfold Td.nameB at hb
    have h1 := (Bool.and_eq_true_iff.1 hb).1
    have := List.all_eq_true.1 h1 41 (List.mem_of_getElem? (show (Td.bytes x)[i]? = some 41 from h))
    exact absurd this (by decide)
theorem nameX_local {n : Nat} {s u : ByteArray} (h : Ag n (Utf.nums s) (Utf.nums u)) (hn : s.size = n) (h3 : 3 ≤ n) (hz : (Utf.nums s)[n - 1]? = some 41) : nameX u = nameX s := by
  have hs := Utf.nums_length s
  have hu := Utf.nums_length u
  have a2 := h.2.1
  obtain ⟨e1, e2⟩ := nameAt_local h (by omega) h3 hz
  unfold nameX
  dsimp only
  rw [e1]
  obtain ⟨p, hp⟩ : ∃ p, nameAt (Utf.nums s) = p := ⟨_, rfl⟩
  rw [hp] at e2 ⊢
  have hd := h.drop p
  have hle := Br.upTo_le 62 ((Utf.nums s).drop p)
  have hle2 := Br.upTo_le 62 ((Utf.nums u).drop p)
  rw [List.length_drop] at hle hle2
  rw [List.length_drop, List.length_drop]
  by_cases c0 : p = 0
  · rw [if_pos c0, if_pos c0]
  rw [if_neg c0, if_neg c0]
  by_cases hf : Br.upTo 62 ((Utf.nums s).drop p) = (Utf.nums s).length - p
  · rw [if_pos hf]
    have hno : ∀ j, j < n - p → ((Utf.nums u).drop p)[j]? ≠ some 62 := fun j hj => by
      rw [hd.2.2 j (by omega)]; exact Br.upTo_no 62 _ j (by omega)
    by_cases hg : Br.upTo 62 ((Utf.nums u).drop p) = (Utf.nums u).length - p
    · rw [if_pos hg]
    · rw [if_neg hg]
      have hge : n - p ≤ Br.upTo 62 ((Utf.nums u).drop p) := by
        rcases Nat.lt_or_ge (Br.upTo 62 ((Utf.nums u).drop p)) (n - p) with g | g
        · exact absurd (Br.upTo_at 62 ((Utf.nums u).drop p) (by rw [List.length_drop]; omega)) (hno _ g)
        · exact g
      rw [if_neg]
      rw [nameB_no (n - 1 - p) (by
        rw [Utf.nums_extract, List.getElem?_take_of_lt (by omega), List.getElem?_drop, show p + (n - 1 - p) = n - 1 by omega, h.2.2 _ (by omega)]
        exact hz)]
      decide
  · have hlt : Br.upTo 62 ((Utf.nums s).drop p) < n - p := by omega
    have hat := Br.upTo_at 62 ((Utf.nums s).drop p) (by rw [List.length_drop]; omega)
    have e : Br.upTo 62 ((Utf.nums u).drop p) = Br.upTo 62 ((Utf.nums s).drop p) :=
      Br.upTo_is 62 _ _ ((hd.2.2 _ (by omega)).trans hat) (fun j hj => by rw [hd.2.2 _ (by omega)]; exact Br.upTo_no 62 _ j hj)
    rw [e, if_neg hf, if_neg (by omega), Br.extract_eq h (by omega)]
theorem flagX_local {n : Nat} {l m : List Int} (h : Ag n l m) (hn : l.length = n) (h3 : 3 ≤ n) (hz : l[n - 1]? = some 41) : flagX m = flagX l := by
  have a2 := h.2.1
  have hle := upToC_le l
  have hlt : upToC l < n := by
    rcases Nat.lt_or_ge (upToC l) n with g | g
    · exact g
    · exact absurd (.inr (by rw [hz]; rfl)) (upToC_no l (n - 1) (by omega))
  have e : upToC m = upToC l := upToC_is m _ (by omega) (by rw [h.getD hlt]; exact upToC_at l (by omega)) (fun j hj => by rw [h.getD (by omega)]; exact upToC_no l j hj)
  unfold flagX
  rw [e, if_neg (show ¬ upToC l = m.length by omega), if_neg (show ¬ upToC l = l.length by omega), h.getD (k := 2) (by omega), h.getD hlt]
  by_cases c : 2 ≤ upToC l
  · rw [((h.drop 2).mono (k := upToC l - 2) (by omega)).take]
  · rw [show upToC l - 2 = 0 by omega]; simp
theorem openX_local {n : Nat} {s u : ByteArray} (h : Ag n (Utf.nums s) (Utf.nums u)) (hn : s.size = n) (h2 : 2 ≤ n) (hz : (Utf.nums s)[n - 1]? = some 41) : openX u = openX s := by
  have hs := Utf.nums_length s
  unfold openX
  rw [h.getD (k := 1) (by omega)]
  by_cases c : ¬ (Utf.nums s)[1]?.getD 0 = 63
  · rw [if_pos c, if_pos c]
  · rw [if_neg c, if_neg c]
    have h3 : 3 ≤ n := by
      rcases Nat.lt_or_ge n 3 with g | g
      · obtain rfl : n = 2 := by omega
        rw [show (Utf.nums s)[1]? = some 41 from hz] at c
        exact absurd c (by decide)
      · exact g
    rw [nameX_local h hn h3 hz, flagX_local h (by omega) h3 hz]
theorem tok_local {n k : Nat} {s u : ByteArray} {t : Tk} (h : Ag n (Utf.nums s) (Utf.nums u)) (hn : s.size = n) (hz : (Utf.nums s)[n - 1]? = some 41) (hx : tokX s = .ok t k) (hk1 : 1 ≤ k) (hk : k < n) : tokX u = .ok t k := by
  have hs := Utf.nums_length s
  unfold tokX at hx ⊢
  dsimp only at hx ⊢
  rw [h.getD (k := 0) (by omega)]
  by_cases c1 : (Utf.nums s)[0]?.getD 0 = 46
  · rw [if_pos c1] at hx ⊢; exact hx
  rw [if_neg c1] at hx ⊢
  by_cases c2 : (Utf.nums s)[0]?.getD 0 = 94
  · rw [if_pos c2] at hx ⊢; exact hx
  rw [if_neg c2] at hx ⊢
  by_cases c3 : (Utf.nums s)[0]?.getD 0 = 36
  · rw [if_pos c3] at hx ⊢; exact hx
  rw [if_neg c3] at hx ⊢
  by_cases c4 : (Utf.nums s)[0]?.getD 0 = 41
  · rw [if_pos c4] at hx ⊢; exact hx
  rw [if_neg c4] at hx ⊢
  by_cases c5 : (Utf.nums s)[0]?.getD 0 = 124
  · rw [if_pos c5] at hx ⊢; exact hx
  rw [if_neg c5] at hx ⊢
  by_cases c6 : (Utf.nums s)[0]?.getD 0 = 92
  · rw [if_pos c6] at hx ⊢; exact escX_local h (by omega) hx (by omega)
  rw [if_neg c6] at hx ⊢
  by_cases c7 : (Utf.nums s)[0]?.getD 0 = 91
  · rw [if_pos c7] at hx ⊢; exact brackX_local h hx (by omega)
  rw [if_neg c7] at hx ⊢
  by_cases c8 : (Utf.nums s)[0]?.getD 0 = 40
  · rw [if_pos c8] at hx ⊢; rw [openX_local h hn (by omega) hz]; exact hx
  rw [if_neg c8] at hx ⊢
  by_cases c9 : (Utf.nums s)[0]?.getD 0 = 123
  · rw [if_pos c9] at hx ⊢
    have hc := countsX_local h (by omega) (by omega) hz
    rw [hc]
    by_cases c10 : (countsX (Utf.nums s)).2.2 = 0
    · rw [if_pos c10] at hx ⊢; exact charX_local (Utf.nums_bytes s) h hx (by omega)
    · rw [if_neg c10] at hx ⊢
      refine repX_local h ?_ hx hk
      unfold boundsX
      rw [h.getD (k := 0) (by omega), hc]
  rw [if_neg c9] at hx ⊢
  by_cases c10 : (Utf.nums s)[0]?.getD 0 = 42 ∨ (Utf.nums s)[0]?.getD 0 = 43 ∨ (Utf.nums s)[0]?.getD 0 = 63
  · rw [if_pos c10] at hx ⊢
    refine repX_local h ?_ hx hk
    unfold boundsX
    rw [h.getD (k := 0) (by omega)]
    rcases c10 with e | e | e <;> rw [e] <;> rfl
  · rw [if_neg c10] at hx ⊢; exact charX_local (Utf.nums_bytes s) h hx (by omega)
theorem one_local {n k : Nat} {s u : ByteArray} {t : Tk} (q : Bool) (h : Ag n (Utf.nums s) (Utf.nums u)) (hn : s.size = n) (hz : (Utf.nums s)[n - 1]? = some 41) (hx : oneX q s = .ok t k) (hk1 : 1 ≤ k) (hk : k < n) : oneX q u = .ok t k := by
  unfold oneX at hx ⊢
  cases q
  · exact tok_local h hn hz hx hk1 hk
  · exact charX_local (Utf.nums_bytes s) h hx (by omega)
end Go.Proofs.YtanffablfgnioaaGreatDoor.Lx
namespace Go.Proofs.YtanffablfgnioaaGreatDoor
open Go.RowKit
set_option linter.unusedVariables false











































end Go.Proofs.YtanffablfgnioaaGreatDoor
namespace Go.Proofs.YtanffablfgnioaaGreatDoor
open Go.RowKit
set_option linter.unusedVariables false


























end Go.Proofs.YtanffablfgnioaaGreatDoor
namespace Go.Proofs.YtanffablfgnioaaGreatDoor
open Go.RowKit
set_option linter.unusedVariables false
theorem RRow.wide {W : World} {v : Value} {l : List (Int × Int)} (h : RRow W v l) : l.length ≤ 8796093022208 ∧ Wide64 l := by
  obtain ⟨a, cap, hv, hl, hw, hc⟩ := h
  exact ⟨hl, hw⟩
/-- A lent list: it reads as l, and the mark lies behind it. -/
structure Lent (W : World) (g n cap : Nat) (l : List (Int × Int)) : Prop where
  len : l.length = n
  row : RRow W (.slice (some ⟨g, 0, none⟩) n cap) l
  cap : n + 1 ≤ cap
  lo : W.cell? ⟨g, n * 2, none⟩ = some (.int .i64 7)
  hi : W.cell? ⟨g, n * 2 + 1, none⟩ = some (.int .i64 0)
  lt : g < W.heap.size
theorem Lent.below {W W' : World} {g n cap : Nat} {l : List (Int × Int)} (h : Lent W g n cap l) (hb : Below W.heap.size W W') : Lent W' g n cap l :=
  ⟨h.len, h.row.below (Nat.le_refl _) hb, h.cap, (hb.cell (p := ⟨g, n * 2, none⟩) h.lt).trans h.lo, (hb.cell (p := ⟨g, n * 2 + 1, none⟩) h.lt).trans h.hi, Nat.lt_of_lt_of_le h.lt hb.size⟩
















end Go.Proofs.YtanffablfgnioaaGreatDoor
namespace Go.Proofs.YtanffablfgnioaaGreatDoor
open Go.RowKit
open Lx (Tk TR LR)
set_option linter.unusedVariables false
/-- A token's set, read. -/
def SetRd (W : World) (vs : Value) (c : Br.Cls) : Prop := ∃ out, Br.SetIs c out ∧ RRow W vs out
theorem SetRd.kept {W W' : World} {vs : Value} {c : Br.Cls} (h : SetRd W vs c) (hb : Below W.heap.size W W') : SetRd W' vs c := by
  obtain ⟨out, h1, h2⟩ := h
  exact ⟨out, h1, h2.below (Nat.le_refl _) hb⟩
/-- A value that reads as a list of tokens. -/
def TkRow (W : World) (v : Value) (T : List (Int × Tk)) : Prop :=
  ∃ a cap, v = .slice a T.length cap ∧ ∀ j (hj : j < T.length), ∃ b o0 vs, a = some ⟨b, o0, none⟩ ∧ b < W.heap.size ∧ SetRd W vs T[j].2.cls ∧ ∀ q, q < 8 → W.cell? ⟨b, o0 + j * 8 + q, none⟩ = (TkCells T[j].1 T[j].2 vs)[q]?
theorem TkRow.kept {W W' : World} {v : Value} {T : List (Int × Tk)} (h : TkRow W v T) (hb : Below W.heap.size W W') : TkRow W' v T := by
  obtain ⟨a, cap, e, h⟩ := h
  refine ⟨a, cap, e, fun j hj => ?_⟩
  obtain ⟨b, o0, vs, e1, h1, h2, h3⟩ := h j hj
  exact ⟨b, o0, vs, e1, Nat.lt_of_lt_of_le h1 hb.size, h2.kept hb, fun q hq => (hb.cell (p := ⟨b, o0 + j * 8 + q, none⟩) h1).trans (h3 q hq)⟩
theorem TkOwn.row {W : World} {base : Nat} {v : Value} {T : List (Int × Tk)} (h : TkOwn W base v T) : TkRow W v T := by
  by_cases h0 : 0 < T.length
  · obtain ⟨g, cap, e, _, hg1, hat⟩ := h.at h0
    refine ⟨some ⟨g, 0, none⟩, cap, e, fun j hj => ?_⟩
    obtain ⟨vs, ⟨out, s1, s2, _⟩, h9⟩ := hat j hj
    exact ⟨g, 0, vs, rfl, hg1, ⟨out, s1, s2⟩, fun q hq => by rw [Nat.zero_add]; exact h9 q hq⟩
  · obtain ⟨a, cap, e⟩ := h.slice
    exact ⟨a, cap, e, fun j hj => absurd hj (by omega)⟩
























/-- A list of tokens, its places so much more. -/
def shift (by_ : Int) (T : List (Int × Tk)) : List (Int × Tk) := T.map fun p => (p.1 + by_, p.2)
end Go.Proofs.YtanffablfgnioaaGreatDoor
namespace Go.Proofs.YtanffablfgnioaaGreatDoor.Lx
set_option linter.unusedVariables false
/-- What a text's tokens, or its error, are behind others. -/
def behind (n : Nat) (A : List (Int × Tk)) : LR → LR
  | .bad o c => .bad (o + n) c
  | .ok V => .ok (A ++ shift n V)
theorem Ris.all {m : Int} : ∀ {lo : Int} {l : List (Int × Tk)}, Ris m lo l → ∀ p ∈ l, lo < p.1 ∧ p.1 < m
  | _, [], _, p, hp => by simp at hp
  | lo, x :: l, hr, p, hp => by
    rcases List.mem_cons.1 hp with rfl | hp
    · exact ⟨hr.1, hr.2.1⟩
    · have := Ris.all hr.2.2.2.2 p hp
      exact ⟨by have := hr.1; omega, this.2⟩
end Go.Proofs.YtanffablfgnioaaGreatDoor.Lx
namespace Go.Proofs.YtanffablfgnioaaGreatDoor
open Lx (Tk)
/-- The front, and the rest, of a row of tokens. -/
theorem TkRow.front {W : World} {a : Option Addr} {cap c2 : Nat} {A B : List (Int × Tk)} (h : TkRow W (.slice a (A ++ B).length cap) (A ++ B)) : TkRow W (.slice a A.length c2) A := by
  obtain ⟨a1, c1, e, h⟩ := h
  injection e with e1 e2 e3
  subst e1
  refine ⟨a, c2, rfl, fun j hj => ?_⟩
  obtain ⟨b, o0, vs, f1, f2, f3, f4⟩ := h j (by rw [List.length_append]; omega)
  rw [List.getElem_append_left hj] at f3 f4
  exact ⟨b, o0, vs, f1, f2, f3, f4⟩
theorem TkRow.tail {W : World} {g o : Nat} {a : Option Addr} {cap c2 : Nat} {A B : List (Int × Tk)} (h : TkRow W (.slice a (A ++ B).length cap) (A ++ B)) (ha : 0 < B.length → a = some ⟨g, o, none⟩) {a2 : Option Addr} (ha2 : 0 < B.length → a2 = some ⟨g, o + A.length * 8, none⟩) : TkRow W (.slice a2 B.length c2) B := by
  obtain ⟨a1, c1, e, h⟩ := h
  injection e with e1 e2 e3
  subst e1
  refine ⟨a2, c2, rfl, fun j hj => ?_⟩
  obtain ⟨b, o0, vs, f1, f2, f3, f4⟩ := h (A.length + j) (by rw [List.length_append]; omega)
  have ea := ha (by omega)
  rw [ea] at f1
  injection f1 with f1
  injection f1 with g1 g2 g3
  subst g1
  subst g2
  have hg : (A ++ B)[A.length + j]'(by rw [List.length_append]; omega) = B[j] := by
    rw [List.getElem_append_right (by omega)]
    congr 1
    omega
  rw [hg] at f3 f4
  refine ⟨g, o + A.length * 8, vs, ha2 (by omega), f2, f3, fun q hq => ?_⟩
  rw [show o + A.length * 8 + j * 8 + q = o + (A.length + j) * 8 + q by omega]
  exact f4 q hq
end Go.Proofs.YtanffablfgnioaaGreatDoor
namespace Go.Proofs.YtanffablfgnioaaGreatDoor.Lx
open Go.Proofs.YtanffablfgnioaaGreatDoor.Br (Ag)
set_option linter.unusedVariables false
theorem name_none {l : List Int} (h80 : l[2]?.getD 0 ≠ 80) (h60 : l[2]?.getD 0 ≠ 60) : nameAt l = 0 := by
  unfold nameAt
  rw [if_neg (fun e => ?_), if_neg (fun e => ?_)]
  · have := congrArg (fun y => y[2]?.getD 0) e
    rw [List.getElem?_take_of_lt (by omega)] at this
    exact h60 this
  · have := congrArg (fun y => y[2]?.getD 0) e
    rw [List.getElem?_take_of_lt (by omega)] at this
    exact h80 this
theorem nameX_none {s : ByteArray} (h : nameAt (Utf.nums s) = 0) : nameX s = none := by
  unfold nameX
  dsimp only
  rw [if_pos h]
def closeT : Tk := { kind := 11 }
def openT : Tk := { kind := 9 }
end Go.Proofs.YtanffablfgnioaaGreatDoor.Lx
namespace Go.Proofs.YtanffablfgnioaaGreatDoor.Sh
open Lx (Tk TR LR tokX turnB)
open Ps (TL)
set_option linter.unusedVariables false
/-- A piece of a pattern: its bytes, and the token that they are. -/
abbrev Pc := List Int × Tk
def tB (P : List Pc) : List Int := P.flatMap fun p => p.1
theorem tB_cons (p : Pc) (P : List Pc) : tB (p :: P) = p.1 ++ tB P := rfl
theorem tB_app (P Q : List Pc) : tB (P ++ Q) = tB P ++ tB Q := List.flatMap_append
/-- Each piece, with what follows, begins with its token. -/
def GoodP : List Pc → Prop
  | [] => True
  | p :: l => (∀ s : ByteArray, Utf.nums s = p.1 ++ tB l → tokX s = .ok p.2 p.1.length) ∧ turnB false (p.1 ++ tB l) = false ∧ 1 ≤ p.1.length ∧ GoodP l
/-- The tokens of pieces from a place on. -/
def plc : Nat → List Pc → TL
  | _, [] => []
  | a, p :: l => ((a : Int), p.2) :: plc (a + p.1.length) l
theorem plc_app : ∀ (P Q : List Pc) (a : Nat), plc a (P ++ Q) = plc a P ++ plc (a + (tB P).length) Q
  | [], Q, a => by simp [plc, tB]
  | p :: P, Q, a => by
    rw [List.cons_append, plc, plc, plc_app P Q, tB_cons, List.length_append, Nat.add_assoc]; rfl
theorem lex_good (s : ByteArray) : ∀ (P : List Pc) (a : Nat) (T : TL), GoodP P → (Utf.nums s).drop a = tB P → Lx.lexR s a false T = .ok (T ++ plc a P)
  | [], a, T, _, h => by
    have hl := congrArg List.length h
    rw [List.length_drop, Utf.nums_length, show (tB []).length = 0 from rfl] at hl
    rw [Lx.lexR_end (by omega)]
    simp [plc]
  | p :: P, a, T, hg, h => by
    obtain ⟨h1, h2, h3, h4⟩ := hg
    rw [tB_cons] at h
    have hl := congrArg List.length h
    rw [List.length_drop, Utf.nums_length, List.length_append] at hl
    rw [Lx.lexR_tok (t := p.2) (n := p.1.length) (by omega) (by rw [h]; exact h2) (by show tokX _ = _; exact h1 _ (by rw [Br.nums_tail, h])), lex_good s P _ _ h4 (Br.drop_len _ _ h)]
    simp [plc]
/-- What stands behind is no question mark. -/
def NoQ (P : List Pc) : Prop := (tB P)[0]?.getD 0 ≠ 63
theorem turn_pair {c d : Int} {l : List Int} (h : d ≠ 81) : turnB false (c :: d :: l) = false := by
  unfold Lx.turnB
  rw [show (c :: d :: l)[1]?.getD 0 = d from rfl, Bool.and_eq_false_iff]
  exact .inr (decide_eq_false h)
theorem turn_front {c : Int} {l : List Int} (h : c ≠ 92) : turnB false (c :: l) = false := Lx.turn_no h
theorem tok_close {s : ByteArray} {l : List Int} (h : Utf.nums s = 41 :: l) : tokX s = .ok Lx.closeT 1 := by
  unfold Lx.tokX; rw [h]; rfl
theorem tok_bar {s : ByteArray} {l : List Int} (h : Utf.nums s = 124 :: l) : tokX s = .ok { kind := 12 } 1 := by
  unfold Lx.tokX; rw [h]; rfl
theorem tok_caret {s : ByteArray} {l : List Int} (h : Utf.nums s = 94 :: l) : tokX s = .ok { kind := 6 } 1 := by
  unfold Lx.tokX; rw [h]; rfl
theorem tok_dollar {s : ByteArray} {l : List Int} (h : Utf.nums s = 36 :: l) : tokX s = .ok { kind := 7 } 1 := by
  unfold Lx.tokX; rw [h]; rfl
theorem tok_esc {s : ByteArray} {l : List Int} {c : Int} {t : Tk} (h : Utf.nums s = 92 :: c :: l) (hc : Lx.shortX c = some t) : tokX s = .ok t 2 := by
  unfold Lx.tokX
  rw [h]
  show Lx.escX s = _
  unfold Lx.escX
  rw [h, show (92 :: c :: l)[1]?.getD 0 = c from rfl, hc]
theorem tok_paren {s : ByteArray} {l : List Int} (h : Utf.nums s = 40 :: l) : tokX s = Lx.openX s := by
  unfold Lx.tokX; rw [h]; rfl
theorem tok_group {s : ByteArray} {l : List Int} (h : Utf.nums s = 40 :: l) (hl : l[0]?.getD 0 ≠ 63) : tokX s = .ok { kind := 9, num := 1 } 1 := by
  rw [tok_paren h]
  unfold Lx.openX
  rw [h, List.getElem?_cons_succ, if_pos hl]
theorem tok_wrap {s : ByteArray} {l : List Int} (h : Utf.nums s = 40 :: 63 :: 58 :: l) : tokX s = .ok Lx.openT 3 := by
  rw [tok_paren h]
  unfold Lx.openX
  rw [h, if_neg (fun c => c rfl)]
  rw [Lx.nameX_none (Lx.name_none (by rw [h]; exact (by decide : (58 : Int) ≠ 80)) (by rw [h]; exact (by decide : (58 : Int) ≠ 60)))]
  show Lx.flagX (40 :: 63 :: 58 :: l) = _
  unfold Lx.flagX
  have eu : Lx.upToC (40 :: 63 :: 58 :: l) = 2 := by
    rw [Lx.upToC, if_neg (by decide), Lx.upToC, if_neg (by decide), Lx.upToC, if_pos (by decide)]
  rw [eu, if_neg (by simp), if_pos ⟨rfl, rfl⟩]
  rfl
theorem tok_many {s : ByteArray} {l : List Int} (h : Utf.nums s = 40 :: 63 :: 109 :: 58 :: l) : tokX s = .ok { kind := 9, mn := 2, mx := 0 } 4 := by
  rw [tok_paren h]
  unfold Lx.openX
  rw [h, if_neg (fun c => c rfl)]
  rw [Lx.nameX_none (Lx.name_none (by rw [h]; exact (by decide : (109 : Int) ≠ 80)) (by rw [h]; exact (by decide : (109 : Int) ≠ 60)))]
  show Lx.flagX (40 :: 63 :: 109 :: 58 :: l) = _
  unfold Lx.flagX
  have eu : Lx.upToC (40 :: 63 :: 109 :: 58 :: l) = 3 := by
    rw [Lx.upToC, if_neg (by decide), Lx.upToC, if_neg (by decide), Lx.upToC, if_neg (by decide), Lx.upToC, if_pos (by decide)]
  have ef : Lx.flagsX (((40 :: 63 :: 109 :: 58 :: l : List Int).drop 2).take (3 - 2)) = some (2, 0) := by
    show Lx.flagsX [109] = some (2, 0)
    decide
  rw [eu, if_neg (by simp), if_neg (by omega), ef]
  rfl
theorem letC_ne {c : Int} (h : Td.letC c = true) : c ≠ 62 := by
  intro e; subst e; exact absurd h (by decide)
theorem tok_name {s nm : ByteArray} {l : List Int} (hn : Td.nameB nm = true) (h : Utf.nums s = 40 :: 63 :: 80 :: 60 :: (Utf.nums nm ++ 62 :: l)) : tokX s = .ok { kind := 9, num := 1, name := nm } ((Utf.nums nm).length + 5) := by
  rw [tok_paren h]
  have hall : ∀ x ∈ Utf.nums nm, x ≠ 62 := fun x hx => by
    have h1 := hn
    unfold Td.nameB at h1
    rw [Bool.and_eq_true] at h1
    exact letC_ne (List.all_eq_true.1 h1.1 x hx)
  have hl := Utf.nums_length nm
  have hu : Br.upTo 62 ((Utf.nums s).drop 4) = (Utf.nums nm).length := by rw [h]; exact Lx.upTo_app 62 _ _ hall
  have hd : ((Utf.nums s).drop 4).length = (Utf.nums nm).length + l.length + 1 := by rw [h]; simp; omega
  have he : s.extract 4 (4 + (Utf.nums nm).length) = nm := by
    apply Br.nums_inj'
    rw [Utf.nums_extract, h]
    show List.take _ (Utf.nums nm ++ 62 :: l) = _
    rw [show 4 + (Utf.nums nm).length - 4 = (Utf.nums nm).length by omega, List.take_left']
    rfl
  have hnx : Lx.nameX s = some (nm, (Utf.nums nm).length + 5) := by
    unfold Lx.nameX
    have ha : Lx.nameAt (Utf.nums s) = 4 := by
      unfold Lx.nameAt
      rw [h]
      exact if_pos rfl
    dsimp only
    rw [ha, if_neg (by omega), hu, hd, if_neg (by omega), he, if_pos hn]
    congr 2
    omega
  unfold Lx.openX
  rw [h, if_neg (fun c => c rfl), hnx]
theorem tok_char {s : ByteArray} {l : List Int} {r : Int} (h0 : 0 ≤ r) (h1 : r ≤ 1114111) (h : Utf.nums s = charL r ++ l) : tokX s = .ok (Lx.runeT r) (charL r).length := by
  unfold charL at h ⊢
  by_cases c : (48 ≤ r ∧ r ≤ 57) ∨ (65 ≤ r ∧ r ≤ 90) ∨ (97 ≤ r ∧ r ≤ 122)
  · rw [if_pos c] at h ⊢
    have h' : Utf.nums s = r :: l := h
    unfold Lx.tokX
    rw [h']
    dsimp only [List.getElem?_cons_zero, Option.getD_some]
    rw [if_neg (by omega), if_neg (by omega), if_neg (by omega), if_neg (by omega), if_neg (by omega), if_neg (by omega), if_neg (by omega), if_neg (by omega), if_neg (by omega), if_neg (by omega)]
    exact Lx.char_one r l (by omega) (by omega)
  · rw [if_neg c] at h ⊢
    obtain ⟨n, rfl⟩ : ∃ n : Nat, r = n := ⟨r.toNat, by omega⟩
    rw [Int.toNat_natCast] at h ⊢
    have e : Utf.nums s = 92 :: 120 :: (123 :: (Br.hexL n ++ [125]) ++ l) := by rw [h]; rfl
    have e2 : Lx.tokX s = Lx.escX s := by unfold Lx.tokX; rw [e]; rfl
    rw [e2]
    unfold Lx.escX
    rw [e, show (92 :: 120 :: (123 :: (Br.hexL n ++ [125]) ++ l))[1]?.getD 0 = 120 from rfl, show Lx.shortX 120 = none from rfl]
    show Lx.setX s = _
    unfold Lx.setX
    rw [Br.set_esc e, if_neg (by decide), if_pos rfl]
    unfold Lx.numX
    rw [h, Br.num_esc (by omega) l, if_pos rfl]
    rfl
end Go.Proofs.YtanffablfgnioaaGreatDoor.Sh
